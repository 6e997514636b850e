/-
  The answer's reader: the walks of At's Num, Text and End. No condition.
-/
import Derived.Test.YtdolilgkjknckaaDoorAt
import Derived.Deep.RegionHeld3
import Derived.Deep.Cut
import Derived.Laws.Closers25
namespace Go.Proofs.YtdolilgkjknckaaDoor
open Go Go.RowKit

/-- the blocks that a call on At holds -/
def AtS (w : World) (s : ByteArray) (e : Int) (w' : World) : Prop := Below w.heap.size w w' ∧ Ab w' w.heap.size s e ∧ Ab w' (w.heap.size + 1) ⟨#[]⟩ 0
theorem AtS.call {w w1 w2 : World} {s e} (h : AtS w s e w1) (b : Below w1.heap.size w1 w2) : AtS w s e w2 := ⟨below3 h.1 b, h.2.1.call b, h.2.2.call b⟩
theorem AtS.alloc {w w1 : World} {s e} (h : AtS w s e w1) (o : Obj) : AtS w s e (w1.alloc o) := ⟨h.1.alloc h.1.size o, h.2.1.alloc o, h.2.2.alloc o⟩
theorem AtS.drew {w w1 : World} {s e} (h : AtS w s e w1) : AtS w s e w1.drew := ⟨h.1.drew, h.2.1, h.2.2⟩
theorem AtS.done {w w1 : World} {s e} (h : AtS w s e w1) (t : ByteArray) (k : Int) : Ab ((w1.setCell ⟨w.heap.size + 1, 0, none⟩ (.string t)).setCell ⟨w.heap.size + 1, 1, none⟩ (.int .i64 k)) (w.heap.size + 1) t k ∧
    Below w.heap.size w ((w1.setCell ⟨w.heap.size + 1, 0, none⟩ (.string t)).setCell ⟨w.heap.size + 1, 1, none⟩ (.int .i64 k)) :=
  ⟨h.2.2.set t k, (h.1.setCell (Nat.le_succ _) _).setCell (Nat.le_succ _) _⟩

theorem atS_keep {w : World} {s : ByteArray} {e : Int} {g : Nat} {s2 : ByteArray} (w1 w2 : World) (h : w1.cell? ⟨w.heap.size, 0, none⟩ = some (.string s) ∧ (AtS w s e w1 ∧ Ab w1 g s2 0)) (b : Below w1.heap.size w1 w2) :
    w2.cell? ⟨w.heap.size, 0, none⟩ = some (.string s) ∧ (AtS w s e w2 ∧ Ab w2 g s2 0) :=
  ⟨(h.2.1.call b).2.1.rest, h.2.1.call b, h.2.2.call b⟩
theorem bytes_beq_false (a b : ByteArray) (h : ¬ a = b) : (a.toList == b.toList) = false := by
  rw [beq_eq_false_iff_ne]
  intro e
  rw [ByteArray.toList_eq, ByteArray.toList_eq] at e
  exact h (ByteArray.ext (Array.toList_inj.1 e))
set_option maxHeartbeats 2000000 in
theorem atNum_aux (s : ByteArray) (e most : Int) (s1 : ByteArray) (e1 : Int) (c : Nat) (q1 : rF s e 1 = (s1, e1, c)) (hc : c < 256) (s2 : ByteArray) (e2 : Int) (n : Nat) (q2 : rF s1 e1 c = (s2, e2, n)) (hn : n < 18446744073709551616)
    (B X : ByteArray) (hB : numB n = B) (hX : s.extract 0 (1 + c) = X) (R : ByteArray × Int × Nat)
    (hR : (e1 ≠ 0 ∧ R = (s1, e1, 0)) ∨ (e1 = 0 ∧ 8 < c ∧ R = (⟨#[]⟩, 3, 0)) ∨ (e1 = 0 ∧ c ≤ 8 ∧ e2 ≠ 0 ∧ R = (s2, e2, 0)) ∨ (e1 = 0 ∧ c ≤ 8 ∧ e2 = 0 ∧ 1 + c ≤ s.size ∧ 0 < c ∧ B ≠ X ∧ R = (⟨#[]⟩, 3, 0)) ∨
      (e1 = 0 ∧ c ≤ 8 ∧ e2 = 0 ∧ 1 + c ≤ s.size ∧ (c = 0 ∨ B = X) ∧ most < n ∧ R = (⟨#[]⟩, 5, 0)) ∨ (e1 = 0 ∧ c ≤ 8 ∧ e2 = 0 ∧ 1 + c ≤ s.size ∧ (c = 0 ∨ B = X) ∧ ¬ most < n ∧ R = (s2, 0, n))) (w : World) :
    Calls Tryd.prog 49 #[.agg #[.string s, .int .i64 e], .int .u64 most] w fun x w' =>
    x = .returned (.tuple #[.agg #[.string R.1, .int .i64 R.2.1], .int .u64 R.2.2]) ∧ Below w.heap.size w w' := by
  go_enter Tryd.func49, Tryd.ntmps49
  go_upto_region 2 with (first | (go_at_call 69; refine (atFixed_any _ _ _ _).mono ?_; rintro x w1 ⟨rfl, b1⟩; rw [q1]; have a1 := Hid.mk (ab_kept w s e b1); clear b1))
  have p1 : AtS w s e w1 := a1.out
  replace p1 := p1.alloc (.cells #[.string s1, .int .i64 e1] 42)
  have p2 := Ab.fresh w1 s1 e1
  generalize w1.heap.size = G at *
  generalize (w1.alloc (.cells #[.string s1, .int .i64 e1] 42)) = W at *
  have c0 := p1.2.2.rest
  have c1 := p1.2.2.err
  have f0 := p1.2.2.frozen 0
  have f1 := p1.2.2.frozen 1
  have d0 := p2.rest
  have d1 := p2.err
  replace a1 := Hid.mk p1
  clear p1 p2
  rcases hR with ⟨h1, rfl⟩ | ⟨h1, h2, rfl⟩ | hR
  · go_wp2_with fail
    exact bodyPost_ret (ab_result rfl rfl (a1.out.done s1 e1).1) rfl ⟨rfl, (a1.out.done s1 e1).2⟩
  · subst h1
    go_wp2_with fail
    exact bodyPost_ret (ab_result rfl rfl (a1.out.done ⟨#[]⟩ 3).1) rfl ⟨rfl, (a1.out.done ⟨#[]⟩ 3).2⟩
  · have h10 : e1 = 0 := by rcases hR with h | h | h | h <;> exact h.1
    have hc8 : c ≤ 8 := by rcases hR with h | h | h | h <;> exact h.2.1
    subst h10
    replace hR := Hid.mk hR
    clear c0 c1 f0 f1
    go_upto_region 7 with (first | (go_at_call 69; refine (atFixed_any _ _ _ _).mono ?_; rintro x w2 ⟨rfl, b1⟩; rw [q2]; replace a1 := Hid.mk (a1.out.call b1); clear b1))
    have p1 := a1.out.alloc (.cells #[.string s2, .int .i64 e2] 42)
    have p2 := Ab.fresh w2 s2 e2
    generalize w2.heap.size = G2 at *
    generalize (w2.alloc (.cells #[.string s2, .int .i64 e2] 42)) = W2 at *
    clear d0 d1 a1
    have d0 := p2.rest
    have d1 := p2.err
    rcases hR.out with ⟨_, _, h3, rfl⟩ | hR2
    · have c0 := p1.2.2.rest
      have c1 := p1.2.2.err
      have f0 := p1.2.2.frozen 0
      have f1 := p1.2.2.frozen 1
      replace a1 := Hid.mk p1
      clear p1 p2 hR
      go_wp2_with fail
      exact bodyPost_ret (ab_result rfl rfl (a1.out.done s2 e2).1) rfl ⟨rfl, (a1.out.done s2 e2).2⟩
    · have h20 : e2 = 0 := by rcases hR2 with h | h | h <;> exact h.2.2.1
      have hsz : 1 + c ≤ s.size := by rcases hR2 with h | h | h <;> exact h.2.2.2.1
      subst h20
      replace hR2 := Hid.mk hR2
      clear hR
      have a1 := Hid.mk (And.intro p1 p2)
      clear p1 p2
      go_upto_region 9 with fail
      clear d0 d1
      obtain ⟨kk, hkk⟩ : ∃ kk : Nat, kk = 1 + c := ⟨_, rfl⟩
      have hk1 : (1 : Int) + (c : Int) = (kk : Int) := by omega
      have hk2 : IntKind.i64.wrap ((1 : Int) + (c : Int)) = (kk : Int) := by simp [IntKind.wrap, IntKind.bits, IntKind.signed]; omega
      have hk3 : IntKind.i64.wrap (c : Int) = (c : Int) := by simp [IntKind.wrap, IntKind.bits, IntKind.signed]; omega
      have hk4 : IntKind.i64.wrap (kk : Int) = (kk : Int) := by simp [IntKind.wrap, IntKind.bits, IntKind.signed]; omega
      rw [← hkk] at hX hsz
      clear hkk
      have hkI : (kk : Int) ≤ (s.size : Int) := by omega
      have hkN : (0 : Int) ≤ (kk : Int) := by omega
      have cs := a1.out.1.2.1.rest
      have a2 : Hid (W2.drew.cell? ⟨w.heap.size, 0, none⟩ = some (.string s) ∧ (AtS w s e W2.drew ∧ Ab W2.drew G2 s2 0)) := ⟨cs, a1.out.1.drew, a1.out.2⟩
      by_cases hc0 : 0 < c
      · have tc : decide ((0 : Int) < (c : Int)) = true := decide_eq_true (by omega)
        by_cases hBX : B = X
        · have hR3 : (most < n ∧ R = (⟨#[]⟩, 5, 0)) ∨ ((n : Int) ≤ most ∧ R = (s2, 0, n)) := by
            rcases hR2.out with h | h | h
            · exact absurd hBX h.2.2.2.2.2.1
            · exact .inl h.2.2.2.2.2
            · exact .inr h.2.2.2.2.2
          replace hR3 := Hid.mk hR3
          rw [← hBX] at hX
          clear hBX hR2
          go_region_held3 (fun w' => w'.cell? ⟨w.heap.size, 0, none⟩ = some (.string s) ∧ (AtS w s e w' ∧ Ab w' G2 s2 0)) (first | assumption | exact a2.out | exact atS_keep _ _ (by assumption) (by assumption))
          (first | (go_at_call 51; refine (refNumB_any n hn _).mono ?_; rintro x w3 ⟨rfl, b3⟩; rw [hB]))
          have a3 : Hid (w3.cell? ⟨w.heap.size, 0, none⟩ = some (.string s) ∧ (AtS w s e w3 ∧ Ab w3 G2 s2 0)) := Hid.mk (by assumption)
          clear a2 cs
          have c0 := a3.out.2.1.2.2.rest
          have c1 := a3.out.2.1.2.2.err
          have f0 := a3.out.2.1.2.2.frozen 0
          have f1 := a3.out.2.1.2.2.frozen 1
          have d0 := a3.out.2.2.rest
          have d1 := a3.out.2.2.err
          replace hR3 := hR3.out
          rcases hR3 with ⟨hm, rfl⟩ | ⟨hm, rfl⟩
          · go_wp2_with fail
            exact bodyPost_ret (ab_result rfl rfl (a3.out.2.1.done ⟨#[]⟩ 5).1) rfl ⟨rfl, (a3.out.2.1.done ⟨#[]⟩ 5).2⟩
          · go_wp2_with fail
            exact bodyPost_ret (ab_result rfl rfl (a3.out.2.1.done s2 0).1) rfl ⟨rfl, (a3.out.2.1.done s2 0).2⟩
        · have hR3 : R = (⟨#[]⟩, 3, 0) := by
            rcases hR2.out with h | h | h
            · exact h.2.2.2.2.2.2
            · rcases h.2.2.2.2.1 with h | h
              · omega
              · exact absurd h hBX
            · rcases h.2.2.2.2.1 with h | h
              · omega
              · exact absurd h hBX
          subst hR3
          clear hR2
          have hbx := bytes_beq_false B X hBX
          go_region_held3 (fun w' => w'.cell? ⟨w.heap.size, 0, none⟩ = some (.string s) ∧ (AtS w s e w' ∧ Ab w' G2 s2 0)) (first | assumption | exact a2.out | exact atS_keep _ _ (by assumption) (by assumption))
          (first | (go_at_call 51; refine (refNumB_any n hn _).mono ?_; rintro x w3 ⟨rfl, b3⟩; rw [hB]))
          have a3 : Hid (w3.cell? ⟨w.heap.size, 0, none⟩ = some (.string s) ∧ (AtS w s e w3 ∧ Ab w3 G2 s2 0)) := Hid.mk (by assumption)
          clear a2 cs
          have c0 := a3.out.2.1.2.2.rest
          have c1 := a3.out.2.1.2.2.err
          have f0 := a3.out.2.1.2.2.frozen 0
          have f1 := a3.out.2.1.2.2.frozen 1
          have d0 := a3.out.2.2.rest
          have d1 := a3.out.2.2.err
          go_wp2_with fail
          exact bodyPost_ret (ab_result rfl rfl (a3.out.2.1.done ⟨#[]⟩ 3).1) rfl ⟨rfl, (a3.out.2.1.done ⟨#[]⟩ 3).2⟩
      · have tc : decide ((0 : Int) < (c : Int)) = false := decide_eq_false (by omega)
        · have hR3 : (most < n ∧ R = (⟨#[]⟩, 5, 0)) ∨ ((n : Int) ≤ most ∧ R = (s2, 0, n)) := by
            rcases hR2.out with h | h | h
            · exact absurd h.2.2.2.2.1 hc0
            · exact .inl h.2.2.2.2.2
            · exact .inr h.2.2.2.2.2
          replace hR3 := Hid.mk hR3
          clear hR2
          go_region
          clear cs
          generalize W2.drew = W4 at *
          have a3 := a2
          clear a2
          have c0 := a3.out.2.1.2.2.rest
          have c1 := a3.out.2.1.2.2.err
          have f0 := a3.out.2.1.2.2.frozen 0
          have f1 := a3.out.2.1.2.2.frozen 1
          have d0 := a3.out.2.2.rest
          have d1 := a3.out.2.2.err
          replace hR3 := hR3.out
          rcases hR3 with ⟨hm, rfl⟩ | ⟨hm, rfl⟩
          · go_wp2_with fail
            exact bodyPost_ret (ab_result rfl rfl (a3.out.2.1.done ⟨#[]⟩ 5).1) rfl ⟨rfl, (a3.out.2.1.done ⟨#[]⟩ 5).2⟩
          · go_wp2_with fail
            exact bodyPost_ret (ab_result rfl rfl (a3.out.2.1.done s2 0).1) rfl ⟨rfl, (a3.out.2.1.done s2 0).2⟩
theorem atNum_any (s : ByteArray) (e most : Int) (w : World) : Calls Tryd.prog 49 #[.agg #[.string s, .int .i64 e], .int .u64 most] w fun x w' =>
    x = .returned (.tuple #[.agg #[.string (rN s e most).1, .int .i64 (rN s e most).2.1], .int .u64 (rN s e most).2.2]) ∧ Below w.heap.size w w' := by
  refine atNum_aux s e most (rF s e 1).1 (rF s e 1).2.1 (rF s e 1).2.2 rfl (rF_byte s e) (rF (rF s e 1).1 (rF s e 1).2.1 (rF s e 1).2.2).1 (rF (rF s e 1).1 (rF s e 1).2.1 (rF s e 1).2.2).2.1
    (rF (rF s e 1).1 (rF s e 1).2.1 (rF s e 1).2.2).2.2 rfl (rF_lt _ _ _) _ _ rfl rfl _ ?_ w
  by_cases he : e = 0
  · subst he
    by_cases h0 : s.size = 0
    · have es : s = ⟨#[]⟩ := by
        apply ByteArray.ext
        exact Array.eq_empty_of_size_eq_zero h0
      rw [es, rN_empty]
      have h : rF ⟨#[]⟩ 0 1 = (⟨#[]⟩, 2, 0) := rF_short ⟨#[]⟩ 1 (by omega) (by decide)
      rw [h]
      exact .inl ⟨by decide, rfl⟩
    · obtain ⟨b, T1, rfl⟩ := split1 s (by omega)
      rw [rF_byte_app]
      by_cases h8 : 8 < b.toNat
      · rw [rN_much b T1 most h8]
        exact .inr (.inl ⟨by trivial, h8, rfl⟩)
      · by_cases h1 : T1.size < b.toNat
        · rw [rN_short b T1 most (by omega) h1]
          simp only
          rw [rF_short T1 _ (by omega) h1]
          exact .inr (.inr (.inl ⟨by trivial, by omega, by decide, rfl⟩))
        · obtain ⟨D, T2, rfl, hd⟩ := splitN T1 b.toNat (by omega)
          rw [rN_split b D T2 most (by omega) hd]
          have q2 : rF (D ++ T2) 0 b.toNat = (T2, 0, leL D.data.toList) := by
            rw [← hd]
            exact rF_app D T2 (by omega)
          simp only
          rw [q2]
          simp only
          have hs : ((⟨#[b]⟩ : ByteArray) ++ D).size = 1 + b.toNat := by
            rw [ByteArray.size_append, hd]
            rfl
          have hx : ((⟨#[b]⟩ : ByteArray) ++ (D ++ T2)).extract 0 (1 + b.toNat) = ⟨#[b]⟩ ++ D := by
            rw [← ByteArray.append_assoc, ← hs, extract_left]
          have hsz : 1 + b.toNat ≤ ((⟨#[b]⟩ : ByteArray) ++ (D ++ T2)).size := by
            rw [← ByteArray.append_assoc, ByteArray.size_append, hs]
            omega
          have hf := form_iff b D hd
          rw [hx]
          by_cases hbad : 0 < b.toNat ∧ leL D.data.toList < 256 ^ (b.toNat - 1)
          · rw [if_pos hbad]
            exact .inr (.inr (.inr (.inl ⟨by trivial, by omega, by trivial, hsz, hbad.1, fun h => hf.1 h hbad, rfl⟩)))
          · rw [if_neg hbad]
            by_cases hm : most < (leL D.data.toList : Int)
            · rw [if_pos hm]
              exact .inr (.inr (.inr (.inr (.inl ⟨by trivial, by omega, by trivial, hsz, .inr (hf.2 hbad), hm, rfl⟩))))
            · rw [if_neg hm]
              exact .inr (.inr (.inr (.inr (.inr ⟨by trivial, by omega, by trivial, hsz, .inr (hf.2 hbad), hm, rfl⟩))))
  · rw [rN_err s e most he, rF_err s e 1 he]
    exact .inl ⟨he, rfl⟩
end Go.Proofs.YtdolilgkjknckaaDoor
