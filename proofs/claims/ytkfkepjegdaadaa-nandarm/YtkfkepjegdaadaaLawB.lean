/-
  The walk of the law NandArm. No condition.
-/
import Derived.Test.YtkfkepjegdaadaaGeo
namespace Go.Proofs.Ytkfkepjegdaadaa
open Go Go.RowKit

/-- k erasures were done, and no cut is near -/
structure ArmP (C : Ch) (k : Nat) : Prop where
  off : C.off = false
  did : C.did = k
  cuts : ∀ j, j < 1000 → C.cuts j = none
  fails : ∀ j, C.fails j = false
  dead : ∀ b, C.dead b = false
  worn : ∀ n, 0 ≤ C.worn n ∧ C.worn n ≤ k
  B : 8 ≤ C.B
theorem ArmP.next {C : Ch} {k : Nat} (h : ArmP C k) (hk : k ≤ 7) (b : Nat) (hb : b < C.B) : (eraseC C b).2 = 0 ∧ ArmP (eraseC C b).1 (k + 1) := by
  rw [erase_plain (refB_ok h.off hb) (h.cuts _ (by rw [h.did]; omega)) (h.dead b) (h.fails _)]
  refine ⟨rfl, h.off, by show C.did + 1 = _; rw [h.did]; omega, h.cuts, h.fails, h.dead, ?_, h.B⟩
  refine upd_range (fun n => ?_) ?_
  · have := h.worn n; omega
  · have := h.worn b; omega
/-- k of n erasures were done, the last one cut -/
structure ArmQ (C : Ch) (n k : Nat) : Prop where
  off : C.off = decide (k = n)
  did : C.did = k
  cuts : C.cuts = cutsOf [((n : Int), 0, 0)]
  fails : ∀ j, C.fails j = false
  dead : ∀ b, C.dead b = false
  worn : ∀ n, 0 ≤ C.worn n ∧ C.worn n ≤ 7 + k
  B : 8 ≤ C.B
theorem ArmQ.next {C : Ch} {n k : Nat} (h : ArmQ C n k) (hk : k < n) : (eraseC C 0).2 = (if k + 1 = n then 51 else 0) ∧ ArmQ (eraseC C 0).1 n (k + 1) := by
  have ho : C.off = false := by rw [h.off]; exact decide_eq_false (by omega)
  have h0 : refB C 0 = 0 := refB_ok (b := 0) ho (by have := h.B; omega)
  have hw : ∀ n, 0 ≤ upd C.worn 0 (C.worn 0 + 1) n ∧ upd C.worn 0 (C.worn 0 + 1) n ≤ 7 + (k + 1 : Nat) := by
    refine upd_range (fun n => ?_) ?_
    · have := h.worn n; omega
    · have := h.worn 0; omega
  by_cases hn : k + 1 = n
  · have hc : C.cuts (C.did + 1) = some (0, 0) := by
      rw [h.cuts, h.did]
      unfold cutsOf
      rw [List.find?_cons_of_pos (by rw [decide_eq_true_eq]; show (n : Int) = _; omega)]
      rfl
    have e : eraseC C 0 = ({ C with did := C.did + 1, worn := upd C.worn 0 (C.worn 0 + 1), off := true, pg := upd C.pg 0 (tornB C (C.pg 0) 0 0) }, 51) := by
      unfold eraseC
      rw [if_pos h0, hc]
      rfl
    rw [e, if_pos hn]
    exact ⟨rfl, by show true = _; rw [decide_eq_true hn], by show C.did + 1 = _; rw [h.did]; omega, h.cuts, h.fails, h.dead, hw, h.B⟩
  · have hc : C.cuts (C.did + 1) = none := by
      rw [h.cuts, h.did]
      unfold cutsOf
      rw [List.find?_cons_of_neg (by rw [decide_eq_true_eq]; show ¬ (n : Int) = _; omega)]
      rfl
    have e := erase_plain (C := C) (b := 0) h0 hc (h.dead 0) (h.fails _)
    rw [show ((0 : Nat) : Int) = 0 from rfl] at e
    rw [e, if_neg hn]
    exact ⟨rfl, by show C.off = _; rw [ho]; exact (decide_eq_false hn).symm, by show C.did + 1 = _; rw [h.did]; omega, h.cuts, h.fails, h.dead, hw, h.B⟩
theorem ArmQ.last {C : Ch} {n : Nat} (h : ArmQ C n n) : (eraseC C 0).2 = 51 := by
  have ho : C.off = true := by rw [h.off]; exact decide_eq_true rfl
  have h1 : refB C 0 = 51 := by unfold refB; rw [ho, if_pos rfl]
  unfold eraseC
  rw [h1, if_neg (by decide)]
set_option maxHeartbeats 4000000 in
theorem nandArm_any (B P Z ahead at' : Int) (w : World) : Calls Try.prog 6 #[.agg #[.int .i64 B, .int .i64 P, .int .i64 Z], .int .i64 ahead, .int .i64 at'] w fun e w' => e = .returned (.bool true) ∧ Below w.heap.size w w' := by
  obtain ⟨m, hm, hm7⟩ := low ahead 7 (by omega)
  obtain ⟨n, hn, hn7⟩ := low at' 7 (by omega)
  replace hm : bits .and .i64 ahead 7 = (m : Int) := hm
  replace hn : bits .and .i64 at' 7 = (n : Int) := hn
  go_enter Try.func6, Try.ntmps6
  go_upto_region 2 with (go_at_call 8; refine (geo_any _ _ _ _).mono ?_; rintro e w1 ⟨b, p, z, rfl, hg, b1⟩)
  have hbw : Below w.heap.size w (w1.alloc (.cells #[.int .i64 b, .int .i64 p, .int .i64 z] 23)) := by
    have h1 := below3 ((Below.refl w.heap.size w).alloc (Nat.le_refl _) _) b1
    exact h1.alloc h1.size _
  have hbx := heap_alloc_new w1 (.cells #[.int .i64 b, .int .i64 p, .int .i64 z] 23)
  generalize w1.alloc (.cells #[.int .i64 b, .int .i64 p, .int .i64 z] 23) = W at *
  generalize w1.heap.size = G at *
  have lG : G < W.heap.size := (Array.getElem?_eq_some_iff.1 hbx).1
  have c0 : W.cell? ⟨G, 0, none⟩ = some (.int .i64 b) := cell_of_row _ _ 0 _ 23 _ hbx
  have c1 : W.cell? ⟨G, 1, none⟩ = some (.int .i64 p) := cell_of_row _ _ 1 _ 23 _ hbx
  have c2 : W.cell? ⟨G, 2, none⟩ = some (.int .i64 z) := cell_of_row _ _ 2 _ 23 _ hbx
  have hnew : Calls Try.prog 9 #[.agg #[.int .i64 b, .int .i64 p, .int .i64 z], .agg #[.slice (some ⟨W.heap.size, 0, none⟩) 1 1, .slice none 0 0, .slice none 0 0]] (W.alloc (.cells #[.int .i64 1000, .int .i64 0, .int .u8 0] 57)) fun e w' =>
      ∃ L : Ly, e = .returned (.tuple #[.pointer (some ⟨L.a, 0, none⟩), .int .i64 0]) ∧ Chip w' L (begC b p z [(1000, 0, 0)] [] []) ∧ Below (W.alloc (.cells #[.int .i64 1000, .int .i64 0, .int .u8 0] 57)).heap.size (W.alloc (.cells #[.int .i64 1000, .int .i64 0, .int .u8 0] 57)) w' ∧ ∀ i, L.own b i → (W.alloc (.cells #[.int .i64 1000, .int .i64 0, .int .u8 0] 57)).heap.size < i :=
    new_any b p z (by omega) (some ⟨W.heap.size, 0, none⟩) none none [(1000, 0, 0)] [] [] 1 0 0 _ (one_cut W 1000) (no_ints _ _ _) (no_ints _ _ _) (by simp) (by simp) (by simp) (fun x hx => by
      have : x = (1000, 0, 0) := by simpa using hx
      subst this
      exact ⟨WalkArith.wf_i64 (by decide), by decide, by decide⟩) (fun x hx => by cases hx)
  have HB := Hid.mk (And.intro hbw (And.intro hbx hnew))
  clear hbw hbx hnew b1
  go_upto_region 6 with (first
    | (go_at_call 9; refine HB.out.2.2.mono ?_; rintro e w2 ⟨L, rfl, h2, b2, o2⟩)
    | (go_at_call 11; refine (awake_any _).mono ?_; rintro e w3 ⟨rfl, b3⟩))
  have hz := size_alloc W (.cells #[.int .i64 1000, .int .i64 0, .int .u8 0] 57)
  have hGc : Gc w G L (begC b p z [(1000, 0, 0)] [] []) w3 := by
    have hb2 : Below W.heap.size W w2 := below3 ((Below.refl _ W).alloc (Nat.le_refl _) _) b2
    have h1 : Gc w G L (begC b p z [(1000, 0, 0)] [] []) w2 := ⟨⟨h2, below3 HB.out.1 hb2, fun i hi => by have := o2 i hi; have := HB.out.1.size; omega⟩, (hb2.block G lG).trans HB.out.2.1, fun ho => by have := o2 G ho; omega⟩
    exact h1.call b3
  have hP0 : ArmP (begC b p z [(1000, 0, 0)] [] []) 0 := by
    refine ⟨rfl, rfl, fun j hj => ?_, fun j => rfl, fun d => rfl, fun d => ⟨Int.le_refl _, Int.le_refl _⟩, hg.1⟩
    show cutsOf [(1000, 0, 0)] j = none
    unfold cutsOf
    rw [List.find?_cons_of_neg (by rw [decide_eq_true_eq]; show ¬ (1000 : Int) = j; omega)]
    rfl
  have hB0 : (begC b p z [(1000, 0, 0)] [] []).B = b := rfl
  generalize begC b p z [(1000, 0, 0)] [] [] = C0 at *
  have HS0 := Hid.mk (And.intro hGc (And.intro hP0 hB0))
  clear hGc hP0 hB0 h2 b2 o2 b3 HB c0 c1 c2 lG hz
  go_loopw [10] (fun i wr => ∃ k : Nat, ∃ C, k ≤ m ∧ i = .int .i64 k ∧ Gc w G L C wr ∧ ArmP C k ∧ C.B = b) (fun i _ => m - (intOf i).toNat)
  case atStart => exact ⟨0, C0, Nat.zero_le _, rfl, HS0.out.1, HS0.out.2.1, HS0.out.2.2⟩
  case round =>
    obtain ⟨k, C, hk, rfl, hGc, hP, hB⟩ := hrel
    clear HS0
    by_cases hkm : k < m
    · have hk1 : (k : Int) < m := by omega
      have he := hP.next (by omega) k (by rw [hB]; omega)
      have hd9 : C.did < 999999 := by rw [hP.did]; omega
      have hw9 : ∀ n, 0 ≤ C.worn n ∧ C.worn n < 999999 := fun n => by have := hP.worn n; omega
      have e0 := Hid.mk he.1
      have HS := Hid.mk (And.intro hGc (And.intro he.2 (And.intro hB (And.intro hd9 hw9))))
      clear hGc hP hB he hd9 hw9
      go_wp2_with (go_at_call 19; refine (HS.out.1.hd.erase _ HS.out.2.2.2.1 HS.out.2.2.2.2).mono ?_; rintro e w4 ⟨rfl, h4, k4⟩; rw [e0.out])
      refine ⟨⟨k + 1, _, by omega, by go_num, HS.out.1.act h4 k4 (eraseC_geo C k), HS.out.2.1, by rw [(eraseC_geo C k).1]; exact HS.out.2.2.1⟩, by simp [intOf]; omega⟩
    · have hk1 : ¬ (k : Int) < m := by omega
      have hwr := size_alloc wr (.cells #[.int .i64 (1 + n), .int .i64 0, .int .u8 0] 57)
      have harm : Calls Try.prog 22 #[.pointer (some ⟨L.a, 0, none⟩), .agg #[.slice (some ⟨wr.heap.size, 0, none⟩) 1 1, .slice none 0 0, .slice none 0 0]] (wr.alloc (.cells #[.int .i64 (1 + n), .int .i64 0, .int .u8 0] 57)) fun e w' =>
          e = .returned (.tuple #[]) ∧ Chip w' L { C with did := 0, cuts := cutsOf [(1 + (n : Int), 0, 0)], fails := failsOf [] } ∧ Kp (L.own C.B) (wr.alloc (.cells #[.int .i64 (1 + n), .int .i64 0, .int .u8 0] 57)) w' := by
        obtain ⟨mc, mf, i1, i2, h0, _, _⟩ := (hGc.hd.chip.alloc (.cells #[.int .i64 (1 + n), .int .i64 0, .int .u8 0] 57)).to0
        exact arm_any h0 (some ⟨wr.heap.size, 0, none⟩) none [(1 + (n : Int), 0, 0)] [] 1 0 _ ((one_cut wr (1 + n)).other (fun i hi _ => ⟨_, _, rfl, fun ho => by have := hGc.hd.chip.lt ho; omega⟩)) (no_ints _ _ _) (by simp) (by simp) (fun x hx => by
          have : x = (1 + (n : Int), 0, 0) := by simpa using hx
          subst this
          exact ⟨WalkArith.wf_i64 (by simp only; omega), by simp, by simp⟩) (fun x hx => by cases hx)
      have HS := Hid.mk (And.intro (hGc.call ((Below.refl _ wr).alloc (Nat.le_refl _) (.cells #[.int .i64 (1 + n), .int .i64 0, .int .u8 0] 57))) (And.intro hP (And.intro hB harm)))
      clear hGc hP hB harm hwr
      go_upto_region 13 with (go_at_call 22; refine HS.out.2.2.2.mono ?_; rintro e w4 ⟨rfl, h4, k4⟩)
      have hn1 : (1 + (n : Int)) = ((n + 1 : Nat) : Int) := by omega
      have hQ0 : ArmQ { C with did := 0, cuts := cutsOf [(1 + (n : Int), 0, 0)], fails := failsOf [] } (n + 1) 0 := by
        have hP := HS.out.2.1
        refine ⟨?_, rfl, by rw [← hn1], fun j => rfl, hP.dead, fun d => ?_, hP.B⟩
        · show C.off = _
          rw [hP.off]
          exact (decide_eq_false (by omega)).symm
        · have := hP.worn d
          show 0 ≤ C.worn d ∧ C.worn d ≤ _
          omega
      have hG4 : Gc w G L { C with did := 0, cuts := cutsOf [(1 + (n : Int), 0, 0)], fails := failsOf [] } w4 := HS.out.1.act (HS.out.1.hd.act h4 k4 rfl) k4 ⟨rfl, rfl, rfl⟩
      generalize ({ C with did := 0, cuts := cutsOf [(1 + (n : Int), 0, 0)], fails := failsOf [] } : Ch) = C1 at *
      have HT0 := Hid.mk (And.intro hG4 hQ0)
      clear hG4 hQ0 HS h4 k4 hn1
      go_loopw [12] (fun i wr => ∃ k : Nat, ∃ C, k ≤ n + 1 ∧ i = .int .i64 (1 + k) ∧ Gc w G L C wr ∧ ArmQ C (n + 1) k) (fun i _ => n + 2 - (intOf i).toNat)
      case atStart => exact ⟨0, C1, Nat.zero_le _, rfl, HT0.out.1, HT0.out.2⟩
      case round =>
        obtain ⟨j, C, hj, rfl, hGc, hQ⟩ := hrel
        clear HT0
        have hd9 : C.did < 999999 := by rw [hQ.did]; omega
        have hw9 : ∀ n, 0 ≤ C.worn n ∧ C.worn n < 999999 := fun n => by have := hQ.worn n; omega
        by_cases hjm : j < n + 1
        · have hj1 : (1 + (j : Int)) ≤ 1 + n := by omega
          have he := hQ.next hjm
          by_cases hjn : j = n
          · have hjn2 : (j : Int) = n := by omega
            rw [if_pos (by omega)] at he
            have e0 := Hid.mk he.1
            have HS := Hid.mk (And.intro hGc (And.intro he.2 (And.intro hd9 hw9)))
            clear hGc hQ he hd9 hw9
            go_wp2_with (go_at_call 19; refine (HS.out.1.hd.erase _ HS.out.2.2.1 HS.out.2.2.2).mono ?_; rintro e w5 ⟨rfl, h5, k5⟩; rw [e0.out])
            refine ⟨⟨j + 1, _, by omega, by go_num, HS.out.1.act h5 k5 (eraseC_geo C 0), HS.out.2.1⟩, by simp [intOf]; omega⟩
          · have hjn2 : ¬ (j : Int) = n := by omega
            rw [if_neg (by omega)] at he
            have e0 := Hid.mk he.1
            have HS := Hid.mk (And.intro hGc (And.intro he.2 (And.intro hd9 hw9)))
            clear hGc hQ he hd9 hw9
            go_wp2_with (go_at_call 19; refine (HS.out.1.hd.erase _ HS.out.2.2.1 HS.out.2.2.2).mono ?_; rintro e w5 ⟨rfl, h5, k5⟩; rw [e0.out])
            refine ⟨⟨j + 1, _, by omega, by go_num, HS.out.1.act h5 k5 (eraseC_geo C 0), HS.out.2.1⟩, by simp [intOf]; omega⟩
        · have hj1 : ¬ (1 + (j : Int)) ≤ 1 + n := by omega
          have hjn : j = n + 1 := by omega
          subst hjn
          have e0 := hQ.last
          have e1 : C.off = true := by rw [hQ.off]; exact decide_eq_true rfl
          have e2 : C.did = 1 + (n : Int) := by rw [hQ.did]; omega
          have HS := Hid.mk (And.intro hGc (And.intro hd9 (And.intro hw9 (And.intro e0 (And.intro e1 e2)))))
          clear hGc hQ hd9 hw9 e0 e1 e2
          go_wp2_with (first
            | (go_at_call 14; refine (off_any HS.out.1.hd.chip).mono ?_; rintro e w5 ⟨rfl, hw5⟩; rw [hw5, HS.out.2.2.2.2.1]; clear hw5)
            | (go_at_call 15; refine (did_any HS.out.1.hd.chip).mono ?_; rintro e w5 ⟨rfl, hw5⟩; rw [hw5, HS.out.2.2.2.2.2]; clear hw5)
            | (go_at_call 19; refine (HS.out.1.hd.erase _ HS.out.2.1 HS.out.2.2.1).mono ?_; rintro e w6 ⟨rfl, h6, k6⟩; rw [HS.out.2.2.2.1]))
          go_ret
          exact ⟨rfl, h6.below⟩
end Go.Proofs.Ytkfkepjegdaadaa
