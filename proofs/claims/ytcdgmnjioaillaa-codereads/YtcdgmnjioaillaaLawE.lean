/-
  The walk of the law CodeReads.
-/
import Derived.Test.YtcdgmnjioaillaaAtN
import Derived.Deep.CutBlock
import Derived.Deep.DeepCutAuto
import Derived.Deep.QuietTactic
import Derived.BigQuiet
namespace Go.Proofs.Ytcdgmnjioaillaa
open Go Go.RowKit

/-- the reader and the answer's, each in a block of its own -/
def RS (w : World) (gr ga : Nat) (s : ByteArray) (e : Int) (s' : ByteArray) (e' : Int) (w' : World) : Prop :=
  Below w.heap.size w w' ∧ Rd w' gr s e ∧ Ab w' ga s' e' ∧ w.heap.size ≤ gr ∧ w.heap.size ≤ ga ∧ gr ≠ ga
theorem RS.call {w w1 w2 : World} {gr ga s e s' e'} (h : RS w gr ga s e s' e' w1) (b : Below w1.heap.size w1 w2) : RS w gr ga s e s' e' w2 :=
  ⟨below3 h.1 b, h.2.1.call b, h.2.2.1.call b, h.2.2.2⟩
theorem RS.alloc {w w1 : World} {gr ga s e s' e'} (h : RS w gr ga s e s' e' w1) (o : Obj) : RS w gr ga s e s' e' (w1.alloc o) :=
  ⟨h.1.alloc h.1.size o, h.2.1.alloc o, h.2.2.1.alloc o, h.2.2.2⟩
theorem RS.drew {w w1 : World} {gr ga s e s' e'} (h : RS w gr ga s e s' e' w1) : RS w gr ga s e s' e' w1.drew := ⟨h.1.drew, h.2.1, h.2.2.1, h.2.2.2⟩
theorem RS.drewN {w w1 : World} {gr ga s e s' e'} (h : RS w gr ga s e s' e' w1) (n : Nat) : RS w gr ga s e s' e' (w1.drewN n) := ⟨below_drewN h.1, h.2.1, h.2.2.1, h.2.2.2⟩
theorem Rd.other {w : World} {g s e} (h : Rd w g s e) {a : Addr} (ha : a.block ≠ g) (v : Value) : Rd (w.setCell a v) g s e :=
  (heap_setCell_other w a g v (fun e => ha e.symm)).trans h
theorem RS.store {w w1 : World} {gr ga s e s' e'} (h : RS w gr ga s e s' e' w1) (t : ByteArray) (k : Int) :
    RS w gr ga s e t k ((w1.setCell ⟨ga, 0, none⟩ (.string t)).setCell ⟨ga, 1, none⟩ (.int .i64 k)) := by
  obtain ⟨h1, h2, h3, h4, h5, h6⟩ := h
  exact ⟨(h1.setCell h5 _).setCell h5 _, (h2.other (a := ⟨ga, 0, none⟩) (fun e => h6 e.symm) _).other (a := ⟨ga, 1, none⟩) (fun e => h6 e.symm) _, h3.set t k, h4, h5, h6⟩
theorem RS.read {w w1 w2 : World} {gr ga s e s' e' t k} (h : RS w gr ga s e s' e' w1) (r : Rd w2 gr t k) (g : w1.grownBy w2 (some gr)) : RS w gr ga t k s' e' w2 :=
  ⟨below_grown h.1 g h.1.size h.2.2.2.1, r, h.2.2.1.kept g (fun e => h.2.2.2.2.2 e.symm), h.2.2.2⟩
/-- a row of acts: none, or len of them -/
def Acts (W : World) (v : Value) (len : Nat) (ks ns : Nat → Int) : Prop :=
  (v = .slice none 0 0 ∧ len = 0) ∨ ∃ a cap, v = .slice (some a) len cap ∧ ∀ i, i < len → W.cell? (a.add (i * 2)) = some (.int .i64 (ks i)) ∧ W.cell? (a.add (i * 2 + 1)) = some (.int .i64 (ns i)) ∧ -9223372036854775808 ≤ ns i ∧ ns i ≤ 9223372036854775807

/-- an error is one of three, and nothing is left behind it -/
def Ok (s : ByteArray) (e : Int) : Prop := e = 0 ∨ ((e = 2 ∨ e = 3 ∨ e = 5) ∧ s = ⟨#[]⟩)
theorem rB_inv (s : ByteArray) (e n : Int) (h : Ok s e) : Ok (rB s e n).1 (rB s e n).2.1 := by
  unfold rB
  split
  · exact h
  · split
    · exact .inr ⟨.inl rfl, rfl⟩
    · exact .inl rfl
theorem rF_inv (s : ByteArray) (e n : Int) (h : Ok s e) : Ok (rF s e n).1 (rF s e n).2.1 := rB_inv s e (wid n) h
theorem rN_inv (s : ByteArray) (e most : Int) (h : Ok s e) : Ok (rN s e most).1 (rN s e most).2.1 := by
  unfold rN
  split
  · exact .inr ⟨.inr (.inl rfl), rfl⟩
  · split
    · exact rF_inv _ _ _ (rF_inv s e 1 h)
    · split
      · exact .inr ⟨.inr (.inl rfl), rfl⟩
      · split
        · exact .inr ⟨.inr (.inr rfl), rfl⟩
        · exact rF_inv _ _ _ (rF_inv s e 1 h)
theorem rT_inv (s : ByteArray) (e most : Int) (h : Ok s e) : Ok (rT s e most).1 (rT s e most).2.1 := rB_inv _ _ _ (rN_inv s e _ h)
theorem left_none {w : World} {g e} (h : Rd w g ⟨#[]⟩ e) : Calls Try.prog 25 #[.pointer (some ⟨g, 0, none⟩)] w fun x w' => x = .returned (.int .i64 0) ∧ w' = w := left_any h
theorem rs_rd {w w' : World} {gr ga s e s' e'} {p q : Prop} (h : p ∧ q ∧ RS w gr ga s e s' e' w') : Rd w' gr s e := h.2.2.2.1
theorem ok_imp {s : ByteArray} {e : Int} (h : Ok s e) : e ≠ 0 → s = ⟨#[]⟩ := by
  intro hh
  rcases h with h | h
  · exact absurd h hh
  · exact h.2
theorem rs_keep {w : World} {gr ga : Nat} {s : ByteArray} {e : Int} (w1 w2 : World) (h : w1.cell? ⟨ga, 0, none⟩ = some (.string s) ∧ w1.cell? ⟨ga, 1, none⟩ = some (.int .i64 e) ∧ RS w gr ga s e s e w1) (b : Below w1.heap.size w1 w2) :
    w2.cell? ⟨ga, 0, none⟩ = some (.string s) ∧ w2.cell? ⟨ga, 1, none⟩ = some (.int .i64 e) ∧ RS w gr ga s e s e w2 :=
  ⟨(h.2.2.call b).2.2.1.rest, (h.2.2.call b).2.2.1.err, h.2.2.call b⟩
theorem rs_below {w w' : World} {gr ga s e s' e'} {p q : Prop} (h : p ∧ q ∧ RS w gr ga s e s' e' w') : Below w.heap.size w w' := h.2.2.1
theorem next_cell (a : Addr) (n : Nat) : a.add (n + 1) = ⟨(a.add n).block, (a.add n).off + 1, none⟩ := by
  unfold Addr.add
  rw [if_neg (by omega)]
  by_cases h : n = 0
  · rw [if_pos h, h]
  · rw [if_neg h]
    rfl
set_option maxRecDepth 20000 in
set_option maxHeartbeats 4000000 in
theorem codeReads_aux (s T : ByteArray) (hT : cut s = T) (a : Addr) (len cap : Nat) (ks ns : Nat → Int) (w : World)
    (hc : ∀ i, i < len → w.cell? (a.add (i * 2)) = some (.int .i64 (ks i)) ∧ w.cell? (a.add (i * 2 + 1)) = some (.int .i64 (ns i)) ∧ -9223372036854775808 ≤ ns i ∧ ns i ≤ 9223372036854775807) :
    Calls Try.prog 4 #[.string s, .slice (some a) len cap] w fun e w' => e = .returned (.bool true) ∧ Below w.heap.size w w' := by
  replace hc := Hid.mk hc
  have hb := Hid.mk (Below.refl w.heap.size w)
  go_enter Try.func4, Try.ntmps4
  go_wp2_with (first
    | (go_at_call 17; refine (few_any _ _).mono ?_; rintro e w' ⟨rfl, hw⟩; rw [hw]; clear hw; rw [hT])
    | (go_at_call 8; refine (new_any _ _).mono ?_; rintro e w2 ⟨rfl, r1, b1⟩; have hr := Hid.mk (And.intro r1 b1); clear b1 r1)
    | (go_at_call 13; refine (awake_any _).mono ?_; rintro e w1 ⟨rfl, b1⟩))
  have hz := hr.out.1.lt
  have hs0 : RS w w.heap.size w2.heap.size T 0 T 0 w1 :=
    ⟨below3 (hr.out.2.alloc hr.out.2.size _) b1, (hr.out.1.alloc _).call b1, (Ab.fresh w2 T 0).call b1, Nat.le_refl _, hr.out.2.size, by omega⟩
  clear b1 hr hb
  generalize w2.heap.size = ga at *
  go_loopw [8] (fun i wr => ∃ (k : Nat) (S : ByteArray) (E : Int), k ≤ len ∧ k ≤ 40 ∧ i = .int .i64 k ∧ RS w w.heap.size ga S E S E wr ∧ Ok S E) (fun i _ => 40 - (intOf i).toNat)
  case atStart => exact ⟨0, T, 0, Nat.zero_le _, Nat.zero_le _, rfl, hs0, .inl rfl⟩
  case round =>
    clear hs0
    obtain ⟨k, S, E, hkl, hk40, rfl, hs, hE⟩ := hrel
    by_cases hk : k < len ∧ k < 40
    · obtain ⟨hk1, hk2⟩ := hk
      obtain ⟨x0, x1, x2, x3⟩ := hc.out k hk1
      have l0 := World.block_lt_of_cell? _ _ x0
      have l1 := World.block_lt_of_cell? _ _ x1
      rw [← hs.1.cell (p := a.add (k * 2)) l0] at x0
      rw [← hs.1.cell (p := a.add (k * 2 + 1)) l1] at x1
      clear l0 l1
      rw [next_cell] at x1
      generalize hA : a.add (k * 2) = A at *
      generalize ks k = K at *
      generalize ns k = M at *
      have c0 := hs.2.2.1.rest
      have c1 := hs.2.2.1.err
      have f0 := hs.2.2.1.frozen 0
      have f1 := hs.2.2.1.frozen 1
      replace hs := Hid.mk hs
      replace hE := Hid.mk hE
      go_upto_block 2 with fail
      clear x0 x1 hA
      go_cut [10] (fun _ wx => ∃ (S' : ByteArray) (E' : Int), RS w w.heap.size ga S' E' S' E' wx ∧ Ok S' E')
      case first =>
        by_cases hK2 : K = 2
        · subst hK2
          have hE2 := rT_inv S E M hE.out
          generalize hq : rT S E M = q at *
          obtain ⟨S', E', X⟩ := q
          replace hE := Hid.mk hE2
          clear hE2
          go_wp2_with (first
            | (go_at_call 18; refine (atText_any _ _ _ ⟨x2, x3⟩ _).mono ?_; rintro e w3 ⟨rfl, b1⟩; rw [hq]; clear c0 c1 f0 f1; replace hs := Hid.mk (hs.out.call b1); clear b1; have c0 := hs.out.2.2.1.rest; have c1 := hs.out.2.2.1.err; have f0 := hs.out.2.2.1.frozen 0; have f1 := hs.out.2.2.1.frozen 1; have hga := hs.out.2.2.1.lt)
            | (go_at_call 19; have hs4 := (hs.out.store S' E').alloc (.cells #[.string S', .int .i64 E'] 37); refine (text_any hs4.2.1 _ ⟨x2, x3⟩).mono ?_; rintro e w4 ⟨rfl, r1, g1⟩; rw [hq] at r1 ⊢; replace hs := Hid.mk (hs4.read r1 g1); clear hs4 r1 g1 c0 c1 f0 f1 hga))
          go_meet
          exact ⟨S', E', hs.out, hE.out⟩
        · by_cases hK3 : K = 3
          · subst hK3
            have hE2 := rB_inv S E M hE.out
            generalize hq : rB S E M = q at *
            obtain ⟨S', E', X⟩ := q
            replace hE := Hid.mk hE2
            clear hE2
            go_wp2_with (first
              | (go_at_call 20; refine (atBytes_any _ _ _ _).mono ?_; rintro e w3 ⟨rfl, b1⟩; rw [hq]; clear c0 c1 f0 f1; replace hs := Hid.mk (hs.out.call b1); clear b1; have c0 := hs.out.2.2.1.rest; have c1 := hs.out.2.2.1.err; have f0 := hs.out.2.2.1.frozen 0; have f1 := hs.out.2.2.1.frozen 1; have hga := hs.out.2.2.1.lt)
              | (go_at_call 21; have hs4 := (hs.out.store S' E').alloc (.cells #[.string S', .int .i64 E'] 37); refine (bytes_any hs4.2.1 _).mono ?_; rintro e w4 ⟨rfl, r1, g1⟩; rw [hq] at r1 ⊢; replace hs := Hid.mk (hs4.read r1 g1); clear hs4 r1 g1 c0 c1 f0 f1 hga))
            go_meet
            exact ⟨S', E', hs.out, hE.out⟩
          · by_cases hK4 : K = 4
            · subst hK4
              have hE2 := rF_inv S E M hE.out
              generalize hq : rF S E M = q at *
              obtain ⟨S', E', X⟩ := q
              replace hE := Hid.mk hE2
              clear hE2
              go_wp2_with (first
                | (go_at_call 22; refine (atFixed_any _ _ _ _).mono ?_; rintro e w3 ⟨rfl, b1⟩; rw [hq]; clear c0 c1 f0 f1; replace hs := Hid.mk (hs.out.call b1); clear b1; have c0 := hs.out.2.2.1.rest; have c1 := hs.out.2.2.1.err; have f0 := hs.out.2.2.1.frozen 0; have f1 := hs.out.2.2.1.frozen 1; have hga := hs.out.2.2.1.lt)
                | (go_at_call 12; have hs4 := (hs.out.store S' E').alloc (.cells #[.string S', .int .i64 E'] 37); refine (fixedF_any hs4.2.1 _).mono ?_; rintro e w4 ⟨rfl, r1, g1⟩; rw [hq] at r1 ⊢; replace hs := Hid.mk (hs4.read r1 g1); clear hs4 r1 g1 c0 c1 f0 f1 hga))
              go_meet
              exact ⟨S', E', hs.out, hE.out⟩
            · obtain ⟨Mu, hMu⟩ : ∃ Mu : Int, IntKind.u64.wrap M = Mu := ⟨_, rfl⟩
              have hE2 := rN_inv S E Mu hE.out
              generalize hq : rN S E Mu = q at *
              obtain ⟨S', E', X⟩ := q
              replace hE := Hid.mk hE2
              clear hE2
              go_wp2_with (first
                | (go_at_call 23; refine (atNum_any _ _ _ _).mono ?_; rintro e w3 ⟨rfl, b1⟩; rw [hq]; clear c0 c1 f0 f1; replace hs := Hid.mk (hs.out.call b1); clear b1; have c0 := hs.out.2.2.1.rest; have c1 := hs.out.2.2.1.err; have f0 := hs.out.2.2.1.frozen 0; have f1 := hs.out.2.2.1.frozen 1; have hga := hs.out.2.2.1.lt)
                | (go_at_call 10; have hs4 := (hs.out.store S' E').alloc (.cells #[.string S', .int .i64 E'] 37); refine (num_any hs4.2.1 _).mono ?_; rintro e w4 ⟨rfl, r1, g1⟩; rw [hq] at r1 ⊢; replace hs := Hid.mk (hs4.read r1 g1); clear hs4 r1 g1 c0 c1 f0 f1 hga))
              go_meet
              exact ⟨S', E', hs.out, hE.out⟩
      case rest =>
        obtain ⟨S', E', hs', hE'⟩ := hcut
        clear c0 c1 f0 f1 hs hE
        rcases hE' with rfl | ⟨rfl | rfl | rfl, rfl⟩
        · have c0 := hs'.2.2.1.rest
          have c1 := hs'.2.2.1.err
          have hs := Hid.mk hs'
          clear hs'
          go_upto_region 29 with fail
          go_quiet (first
            | (go_at_call 24; refine Calls.quiet_of_same (err_any (hs.out.2.1.drewN _)))
            | (go_at_call 25; refine Calls.quiet_of_same (left_any (hs.out.2.1.drewN _))))
          go_wp2_with fail
          exact ⟨⟨k + 1, S', 0, by omega, by omega, by go_num, hs.out.drewN _, .inl rfl⟩, by simp [intOf]; omega⟩
        · have c0 := hs'.2.2.1.rest
          have c1 := hs'.2.2.1.err
          have hs := Hid.mk hs'
          clear hs'
          go_upto_region 29 with fail
          go_quiet (first
            | (go_at_call 24; refine Calls.quiet_of_same (err_any (hs.out.2.1.drewN _)))
            | (go_at_call 25; refine Calls.quiet_of_same (left_none (hs.out.2.1.drewN _))))
          go_wp2_with fail
          exact ⟨⟨k + 1, ⟨#[]⟩, 2, by omega, by omega, by go_num, hs.out.drewN _, .inr ⟨.inl rfl, rfl⟩⟩, by simp [intOf]; omega⟩
        · have c0 := hs'.2.2.1.rest
          have c1 := hs'.2.2.1.err
          have hs := Hid.mk hs'
          clear hs'
          go_upto_region 29 with fail
          go_quiet (first
            | (go_at_call 24; refine Calls.quiet_of_same (err_any (hs.out.2.1.drewN _)))
            | (go_at_call 25; refine Calls.quiet_of_same (left_none (hs.out.2.1.drewN _))))
          go_wp2_with fail
          exact ⟨⟨k + 1, ⟨#[]⟩, 3, by omega, by omega, by go_num, hs.out.drewN _, .inr ⟨.inr (.inl rfl), rfl⟩⟩, by simp [intOf]; omega⟩
        · have c0 := hs'.2.2.1.rest
          have c1 := hs'.2.2.1.err
          have hs := Hid.mk hs'
          clear hs'
          go_upto_region 29 with fail
          go_quiet (first
            | (go_at_call 24; refine Calls.quiet_of_same (err_any (hs.out.2.1.drewN _)))
            | (go_at_call 25; refine Calls.quiet_of_same (left_none (hs.out.2.1.drewN _))))
          go_wp2_with fail
          exact ⟨⟨k + 1, ⟨#[]⟩, 5, by omega, by omega, by go_num, hs.out.drewN _, .inr ⟨.inr (.inr rfl), rfl⟩⟩, by simp [intOf]; omega⟩
    · have hok := Hid.mk (ok_imp hE)
      have hs5 : Hid (wr.drew.cell? ⟨ga, 0, none⟩ = some (.string S) ∧ wr.drew.cell? ⟨ga, 1, none⟩ = some (.int .i64 E) ∧ RS w w.heap.size ga S E S E wr.drew) := ⟨hs.2.2.1.rest, hs.2.2.1.err, hs.drew⟩
      clear hs hE
      by_cases hk1 : k < len
      · have hk4 : ¬ (k : Int) < 40 := by omega
        go_upto_region 31 with fail
        go_region_held3 (fun w' => w'.cell? ⟨ga, 0, none⟩ = some (.string S) ∧ w'.cell? ⟨ga, 1, none⟩ = some (.int .i64 E) ∧ RS w w.heap.size ga S E S E w') (first | assumption | exact hs5.out | exact rs_keep _ _ (by assumption) (by assumption))
          (first
            | (go_at_call 16; refine (end_any (rs_rd (by assumption))).mono ?_; rintro e w5 ⟨rfl, rfl⟩)
            | (go_at_call 26; refine (atEnd_any _ _ hok.out _).mono ?_; rintro e w6 ⟨rfl, b6⟩))
        all_goals
          have hb6 : Below w.heap.size w w6 := rs_below (by assumption)
          go_wp2_with fail
          go_ret
          exact ⟨rfl, hb6⟩
      · have hk4 : ¬ (k : Int) < (len : Int) := by omega
        go_upto_region 31 with fail
        go_region_held3 (fun w' => w'.cell? ⟨ga, 0, none⟩ = some (.string S) ∧ w'.cell? ⟨ga, 1, none⟩ = some (.int .i64 E) ∧ RS w w.heap.size ga S E S E w') (first | assumption | exact hs5.out | exact rs_keep _ _ (by assumption) (by assumption))
          (first
            | (go_at_call 16; refine (end_any (rs_rd (by assumption))).mono ?_; rintro e w5 ⟨rfl, rfl⟩)
            | (go_at_call 26; refine (atEnd_any _ _ hok.out _).mono ?_; rintro e w6 ⟨rfl, b6⟩))
        all_goals
          have hb6 : Below w.heap.size w w6 := rs_below (by assumption)
          go_wp2_with fail
          go_ret
          exact ⟨rfl, hb6⟩
set_option maxHeartbeats 4000000 in
theorem codeReads_nil (s T : ByteArray) (hT : cut s = T) (w : World) :
    Calls Try.prog 4 #[.string s, .slice none 0 0] w fun e w' => e = .returned (.bool true) ∧ Below w.heap.size w w' := by
  go_enter Try.func4, Try.ntmps4
  go_wp2_with (first
    | (go_at_call 17; refine (few_any _ _).mono ?_; rintro e w' ⟨rfl, hw⟩; rw [hw]; clear hw; rw [hT])
    | (go_at_call 8; refine (new_any _ _).mono ?_; rintro e w2 ⟨rfl, r1, b1⟩; have hr := Hid.mk (And.intro r1 b1); clear b1 r1)
    | (go_at_call 13; refine (awake_any _).mono ?_; rintro e w1 ⟨rfl, b1⟩))
  have hz := hr.out.1.lt
  have hs0 : RS w w.heap.size w2.heap.size T 0 T 0 w1 :=
    ⟨below3 (hr.out.2.alloc hr.out.2.size _) b1, (hr.out.1.alloc _).call b1, (Ab.fresh w2 T 0).call b1, Nat.le_refl _, hr.out.2.size, by omega⟩
  clear b1 hr
  generalize w2.heap.size = ga at *
  go_loopw [8] (fun i wr => i = .int .i64 0 ∧ RS w w.heap.size ga T 0 T 0 wr) (fun _ _ => 0)
  case atStart => exact ⟨rfl, hs0⟩
  case round =>
    clear hs0
    obtain ⟨rfl, hs⟩ := hrel
    have hok : Hid ((0 : Int) ≠ 0 → T = ⟨#[]⟩) := Hid.mk (fun h => absurd rfl h)
    have hs5 : Hid (wr.drew.cell? ⟨ga, 0, none⟩ = some (.string T) ∧ wr.drew.cell? ⟨ga, 1, none⟩ = some (.int .i64 0) ∧ RS w w.heap.size ga T 0 T 0 wr.drew) := ⟨hs.2.2.1.rest, hs.2.2.1.err, hs.drew⟩
    clear hs
    go_upto_region 31 with fail
    go_region_held3 (fun w' => w'.cell? ⟨ga, 0, none⟩ = some (.string T) ∧ w'.cell? ⟨ga, 1, none⟩ = some (.int .i64 0) ∧ RS w w.heap.size ga T 0 T 0 w') (first | assumption | exact hs5.out | exact rs_keep _ _ (by assumption) (by assumption))
      (first
        | (go_at_call 16; refine (end_any (rs_rd (by assumption))).mono ?_; rintro e w5 ⟨rfl, rfl⟩)
        | (go_at_call 26; refine (atEnd_any _ _ hok.out _).mono ?_; rintro e w6 ⟨rfl, b6⟩))
    all_goals
      have hb6 : Below w.heap.size w w6 := rs_below (by assumption)
      go_wp2_with fail
      go_ret
      exact ⟨rfl, hb6⟩
theorem codeReads_any (s : ByteArray) (v : Value) (len : Nat) (ks ns : Nat → Int) (w : World) (h : Acts w v len ks ns) :
    Calls Try.prog 4 #[.string s, v] w fun e w' => e = .returned (.bool true) ∧ Below w.heap.size w w' := by
  rcases h with ⟨rfl, _⟩ | ⟨a, cap, rfl, hc⟩
  · exact codeReads_nil s _ rfl w
  · exact codeReads_aux s _ rfl a len cap ks ns w hc
end Go.Proofs.Ytcdgmnjioaillaa
