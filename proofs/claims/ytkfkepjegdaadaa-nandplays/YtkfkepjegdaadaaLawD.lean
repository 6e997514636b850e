/-
  The walk of the law NandDead. No condition.
-/
import Derived.Test.YtkfkepjegdaadaaGeo
import Derived.Deep.RegionWith
namespace Go.Proofs.Ytkfkepjegdaadaa
open Go Go.RowKit

/-- from this address on lie so many acts -/
def ActsF (w : World) (a : Option Addr) (n : Nat) (f : Nat → Int × Int × Int × Int) : Prop := ∀ i, i < n → ∃ g o, a = some ⟨g, o, none⟩ ∧ g < w.heap.size ∧
  w.cell? ⟨g, o + i * 4, none⟩ = some (.int .i64 (f i).1) ∧ w.cell? ⟨g, o + i * 4 + 1, none⟩ = some (.int .i64 (f i).2.1) ∧ w.cell? ⟨g, o + i * 4 + 2, none⟩ = some (.int .i64 (f i).2.2.1) ∧ w.cell? ⟨g, o + i * 4 + 3, none⟩ = some (.int .u8 (f i).2.2.2) ∧ 0 ≤ (f i).2.2.2 ∧ (f i).2.2.2 < 256
/-- the law's page -/
def dPg (Z q : Nat) : ByteArray := rep Z (u8 (q + 1)) ++ rep 32 (u8 9)
theorem nine : (u8 9 : UInt8) ≠ 255 := by decide
/-- k pages of block 2 are written, and the action n + 1 will fail -/
structure DeadP (C : Ch) (n k : Nat) : Prop where
  off : C.off = false
  did : C.did = k
  cuts : ∀ j, C.cuts j = none
  fails : C.fails = failsOf [((n + 1 : Nat) : Int)]
  dead : ∀ b, C.dead b = false
  worn : ∀ m, C.worn m = 0
  B : 8 ≤ C.B
  P : 4 ≤ C.P
  under : ∀ q : Nat, q < k → C.pg 2 q = dPg C.Z q
  above : ∀ q : Nat, k ≤ q → C.pg 2 q = ⟨#[]⟩
theorem DeadP.unused {C : Ch} {n k : Nat} (h : DeadP C n k) : usedB C 2 k = false := by
  unfold usedB
  rw [List.any_eq_false]
  intro q hq
  rw [decide_eq_true_eq]
  rintro ⟨h1, h2⟩
  exact h2 (h.above q h1)
theorem DeadP.write {C : Ch} {n k : Nat} (h : DeadP C n k) (hk : k < n) (hn : n ≤ 2) : (progC C (2 : Int) k (rep C.Z (u8 (k + 1))) (rep 32 (u8 9))).2 = 0 ∧ DeadP (progC C (2 : Int) k (rep C.Z (u8 (k + 1))) (rep 32 (u8 9))).1 n (k + 1) := by
  have hB := h.B
  have hP := h.P
  have hf : C.fails (C.did + 1) = false := by
    rw [h.fails, h.did]
    unfold failsOf
    rw [decide_eq_false]
    simp
    omega
  have e := prog_plain (C := C) (b := 2) (p := k) (data := rep C.Z (u8 (k + 1))) (spare := rep 32 (u8 9)) (refP_ok h.off (by omega) (by omega)) (rep_size _ _) (rep_size _ _) h.unused (h.cuts _) (h.dead 2) hf
  rw [show ((2 : Nat) : Int) = 2 from rfl, kp_two _ _ _ nine] at e
  rw [e]
  refine ⟨rfl, h.off, by show C.did + 1 = _; rw [h.did]; omega, h.cuts, h.fails, h.dead, h.worn, h.B, h.P, fun q hq => ?_, fun q hq => ?_⟩
  · unfold putPg
    simp only [upd_same]
    unfold upd
    by_cases e2 : q = k
    · rw [if_pos e2, e2]
      rfl
    · rw [if_neg e2]
      exact h.under q (by omega)
  · unfold putPg
    simp only [upd_same]
    unfold upd
    rw [if_neg (by omega)]
    exact h.above q (by omega)
/-- block 2 failed once: its first n pages are what they were -/
structure DeadQ (C : Ch) (n j : Nat) : Prop where
  off : C.off = false
  did : 0 ≤ C.did ∧ C.did ≤ j
  cuts : ∀ i, C.cuts i = none
  dead : C.dead 2 = true
  worn : ∀ m, 0 ≤ C.worn m ∧ C.worn m ≤ j
  B : 8 ≤ C.B
  P : 4 ≤ C.P
  under : ∀ q : Nat, q < n → C.pg 2 q = dPg C.Z q
theorem DeadP.fail {C : Ch} {n : Nat} (h : DeadP C n n) (hn : n ≤ 2) (x : UInt8) : (progC C (2 : Int) n (rep C.Z x) (rep 32 (u8 9))).2 = 53 ∧ DeadQ (progC C (2 : Int) n (rep C.Z x) (rep 32 (u8 9))).1 n 3 := by
  have hB := h.B
  have hP := h.P
  have hf : C.fails (C.did + 1) = true := by
    rw [h.fails, h.did]
    unfold failsOf
    rw [decide_eq_true]
    simp
  have e : progC C (2 : Int) n (rep C.Z x) (rep 32 (u8 9)) = (putPg { C with did := C.did + 1, dead := upd C.dead 2 true } 2 n (rep (C.Z + 32) 0), 53) := by
    have h0 : refP C (2 : Int) n = 0 := refP_ok (b := 2) h.off (by omega) (by omega)
    unfold progC
    rw [if_pos h0, if_pos ⟨rep_size _ _, rep_size _ _⟩, Int.toNat_natCast, show (2 : Int).toNat = 2 from rfl, h.unused, if_neg (by decide), h.cuts]
    simp only
    rw [hf, Bool.or_true, if_pos rfl]
  rw [e]
  refine ⟨rfl, h.off, ?_, h.cuts, upd_same C.dead 2 true, fun m => ?_, h.B, h.P, fun q hq => ?_⟩
  · show 0 ≤ C.did + 1 ∧ C.did + 1 ≤ _
    rw [h.did]
    omega
  · show 0 ≤ C.worn m ∧ C.worn m ≤ _
    rw [h.worn m]
    omega
  · unfold putPg
    simp only [upd_same]
    unfold upd
    rw [if_neg (by omega)]
    exact h.under q hq
theorem DeadQ.erase {C : Ch} {n j : Nat} (h : DeadQ C n j) : (eraseC C 2).2 = 54 ∧ DeadQ (eraseC C 2).1 n (j + 1) := by
  have hB := h.B
  have hd := h.did
  have e : eraseC C 2 = ({ C with did := C.did + 1, worn := upd C.worn 2 (C.worn 2 + 1), dead := upd C.dead 2 true }, 54) := by
    have h0 : refB C (2 : Int) = 0 := refB_ok (b := 2) h.off (by omega)
    unfold eraseC
    rw [if_pos h0, h.cuts, show (2 : Int).toNat = 2 from rfl]
    simp only
    rw [h.dead, Bool.true_or, if_pos rfl]
  rw [e]
  refine ⟨rfl, h.off, ?_, h.cuts, upd_same C.dead 2 true, upd_range (fun m => ?_) ?_, h.B, h.P, h.under⟩
  · show 0 ≤ C.did + 1 ∧ C.did + 1 ≤ _
    omega
  · have := h.worn m; omega
  · have := h.worn 2; omega
theorem DeadQ.more {C : Ch} {n j : Nat} (h : DeadQ C n j) : DeadQ C n (j + 1) := by
  have hd := h.did
  refine { h with did := by omega, worn := fun m => ?_ }
  have := h.worn m
  omega
theorem DeadQ.write {C : Ch} {n j : Nat} (h : DeadQ C n j) (hn : n ≤ 2) (x y : UInt8) : ¬ (progC C (2 : Int) ((n : Int) + 1) (rep C.Z x) (rep 32 y)).2 = 0 ∧ DeadQ (progC C (2 : Int) ((n : Int) + 1) (rep C.Z x) (rep 32 y)).1 n (j + 1) := by
  have hB := h.B
  have hP := h.P
  have hd := h.did
  have h0 : refP C (2 : Int) ((n : Int) + 1) = 0 := refP_ok (b := 2) (p := n + 1) h.off (by omega) (by omega)
  cases hu : usedB C 2 (n + 1)
  · have e : progC C (2 : Int) ((n : Int) + 1) (rep C.Z x) (rep 32 y) = (putPg { C with did := C.did + 1, dead := upd C.dead 2 true } 2 (n + 1) (rep (C.Z + 32) 0), 53) := by
      unfold progC
      rw [if_pos h0, if_pos ⟨rep_size _ _, rep_size _ _⟩, show ((n : Int) + 1).toNat = n + 1 by omega, show (2 : Int).toNat = 2 from rfl, hu, if_neg (by decide), h.cuts]
      simp only
      rw [h.dead, Bool.true_or, if_pos rfl]
    rw [e]
    refine ⟨by show ¬ (53 : Int) = 0; decide, h.off, ?_, h.cuts, upd_same C.dead 2 true, fun m => ?_, h.B, h.P, fun q hq => ?_⟩
    · show 0 ≤ C.did + 1 ∧ C.did + 1 ≤ _
      omega
    · have := h.worn m
      show 0 ≤ C.worn m ∧ C.worn m ≤ _
      omega
    · unfold putPg
      simp only [upd_same]
      unfold upd
      rw [if_neg (by omega)]
      exact h.under q hq
  · have e : progC C (2 : Int) ((n : Int) + 1) (rep C.Z x) (rep 32 y) = (C, 52) := by
      unfold progC
      rw [if_pos h0, if_pos ⟨rep_size _ _, rep_size _ _⟩, show ((n : Int) + 1).toNat = n + 1 by omega, show (2 : Int).toNat = 2 from rfl, hu, if_pos rfl]
    rw [e]
    exact ⟨by show ¬ (52 : Int) = 0; decide, h.more⟩
theorem DeadQ.read {C : Ch} {n j : Nat} (h : DeadQ C n j) (hn : n ≤ 2) (q : Nat) (hq : q < n) : rdV C (2 : Int) q = .tuple #[.string (rep C.Z (u8 (q + 1))), .string (rep 32 (u8 9)), .int .i64 0] := by
  have hB := h.B
  have hP := h.P
  have h0 : refP C (2 : Int) q = 0 := refP_ok (b := 2) h.off (by omega) (by omega)
  unfold rdV
  have e : seen C (2 : Int).toNat ((q : Nat) : Int).toNat = dPg C.Z q := by
    rw [Int.toNat_natCast, show (2 : Int).toNat = 2 from rfl]
    unfold seen
    rw [h.under q hq, if_neg (show ¬ dPg C.Z q = _ from two_ne _ _ _)]
  rw [if_pos h0, e]
  unfold dPg
  have e1 := extract_left (rep C.Z (u8 (q + 1))) (rep 32 (u8 9))
  have e2 := extract_right (rep C.Z (u8 (q + 1))) (rep 32 (u8 9)) (C.Z + 32) (by rw [rep_size, rep_size])
  rw [rep_size] at e1 e2
  rw [e1, e2]
set_option maxRecDepth 100000 in
set_option maxHeartbeats 4000000 in
theorem nandDead_any (B P Z at' : Int) (a : Option Addr) (len cap : Nat) (f : Nat → Int × Int × Int × Int) (w : World) (hx : ActsF w a len f) : Calls Try.prog 5 #[.agg #[.int .i64 B, .int .i64 P, .int .i64 Z], .int .i64 at', .slice a len cap] w fun e w' => e = .returned (.bool true) ∧ Below w.heap.size w w' := by
  obtain ⟨n0, hn, hn1⟩ := low at' 1 (by omega)
  replace hn : bits .and .i64 at' 1 = (n0 : Int) := hn
  have HX := Hid.mk hx
  clear hx
  go_enter Try.func5, Try.ntmps5
  go_upto_region 3 with (go_at_call 8; refine (geo_any _ _ _ _).mono ?_; rintro e w1 ⟨b, p, z, rfl, hg, b1⟩)
  have hbw : Below w.heap.size w (w1.alloc (.cells #[.int .i64 b, .int .i64 p, .int .i64 z] 23)) := by
    have h1 := below3 ((Below.refl w.heap.size w).alloc (Nat.le_refl _) _) b1
    exact h1.alloc h1.size _
  have hbx := heap_alloc_new w1 (.cells #[.int .i64 b, .int .i64 p, .int .i64 z] 23)
  generalize w1.alloc (.cells #[.int .i64 b, .int .i64 p, .int .i64 z] 23) = W at *
  generalize w1.heap.size = G at *
  have lG : G < W.heap.size := (Array.getElem?_eq_some_iff.1 hbx).1
  have c0 : W.cell? ⟨G, 0, none⟩ = some (.int .i64 b) := cell_of_row _ _ 0 _ 23 _ hbx
  have c1 : W.cell? ⟨G, 1, none⟩ = some (.int .i64 p) := cell_of_row _ _ 1 _ 23 _ hbx
  have c2 : W.cell? ⟨G, 2, none⟩ = some (.int .i64 z) := cell_of_row _ _ 2 _ 23 _ hbx
  obtain ⟨n, hnn⟩ : ∃ n : Nat, (1 + (n0 : Int)) = n := ⟨1 + n0, by omega⟩
  have hn2 : 1 ≤ n ∧ n ≤ 2 := by omega
  rw [hnn]
  have hnew : Calls Try.prog 9 #[.agg #[.int .i64 b, .int .i64 p, .int .i64 z], .agg #[.slice none 0 0, .slice (some ⟨W.heap.size, 0, none⟩) 1 1, .slice none 0 0]] (W.alloc (.cells #[.int .i64 ((n : Int) + 1)] 3)) fun e w' =>
      ∃ L : Ly, e = .returned (.tuple #[.pointer (some ⟨L.a, 0, none⟩), .int .i64 0]) ∧ Chip w' L (begC b p z [] [(n : Int) + 1] []) ∧ Below (W.alloc (.cells #[.int .i64 ((n : Int) + 1)] 3)).heap.size (W.alloc (.cells #[.int .i64 ((n : Int) + 1)] 3)) w' ∧ ∀ i, L.own b i → (W.alloc (.cells #[.int .i64 ((n : Int) + 1)] 3)).heap.size < i :=
    new_any b p z (by omega) none (some ⟨W.heap.size, 0, none⟩) none [] [(n : Int) + 1] [] 0 1 0 _ (no_cuts _ _ _) (one_int W ((n : Int) + 1)) (no_ints _ _ _) (by simp) (by simp) (by simp) (fun x hx => by cases hx) (fun x hx => by
      have : x = (n : Int) + 1 := by simpa using hx
      subst this
      exact WalkArith.wf_i64 (by omega))
  have HB := Hid.mk (And.intro hbw (And.intro hbx hnew))
  clear hbw hbx hnew b1 hn hnn
  go_upto_region 7 with (first
    | (go_at_call 9; refine HB.out.2.2.mono ?_; rintro e w2 ⟨L, rfl, h2, b2, o2⟩)
    | (go_at_call 11; refine (awake_any _).mono ?_; rintro e w3 ⟨rfl, b3⟩))
  have hz := size_alloc W (.cells #[.int .i64 ((n : Int) + 1)] 3)
  have hGc : Gc w G L (begC b p z [] [(n : Int) + 1] []) w3 := by
    have hb2 : Below W.heap.size W w2 := below3 ((Below.refl _ W).alloc (Nat.le_refl _) _) b2
    have h1 : Gc w G L (begC b p z [] [(n : Int) + 1] []) w2 := ⟨⟨h2, below3 HB.out.1 hb2, fun i hi => by have := o2 i hi; have := HB.out.1.size; omega⟩, (hb2.block G lG).trans HB.out.2.1, fun ho => by have := o2 G ho; omega⟩
    exact h1.call b3
  have hP0 : DeadP (begC b p z [] [(n : Int) + 1] []) n 0 := ⟨rfl, rfl, fun _ => rfl, rfl, fun _ => rfl, fun _ => rfl, hg.1, hg.2.2.1, fun q hq => absurd hq (by omega), fun _ _ => rfl⟩
  have hB0 : (begC b p z [] [(n : Int) + 1] []).Z = z := rfl
  generalize begC b p z [] [(n : Int) + 1] [] = C0 at *
  have HS0 := Hid.mk (And.intro hGc (And.intro hP0 hB0))
  clear hGc hP0 hB0 h2 b2 o2 b3 HB c0 c1 c2 lG hz
  go_loopw [11] (fun i wr => ∃ k : Nat, ∃ C, k ≤ n ∧ i = .int .i64 k ∧ Gc w G L C wr ∧ DeadP C n k ∧ C.Z = z) (fun i _ => n - (intOf i).toNat)
  case atStart => exact ⟨0, C0, Nat.zero_le _, rfl, HS0.out.1, HS0.out.2.1, HS0.out.2.2⟩
  case round =>
    obtain ⟨k, C, hk, rfl, hGc, hP, hCZ⟩ := hrel
    clear HS0
    have hd9 : C.did < 999999 := by rw [hP.did]; omega
    obtain ⟨_, _, d2⟩ := hGc.cells
    rw [hCZ] at d2
    by_cases hkn : k < n
    · have hk1 : (k : Int) < n := by omega
      have hw := hP.write hkn hn2.2
      rw [hCZ] at hw
      have HS2 := Hid.mk hGc
      have HW := Hid.mk (And.intro hw (And.intro hd9 hCZ))
      clear hGc hP hCZ hd9 hw
      go_wp2_with (first
        | (go_at_call_of 18 (Value.int .i64 32); refine (text32 _ (by decide) _).mono ?_; rintro e w5 ⟨rfl, b5⟩; replace HS2 := Hid.mk (HS2.out.call b5); clear b5)
        | (go_at_call 18; refine (text_any _ (by omega) _ (by omega) _).mono ?_; rintro e w4 ⟨rfl, b4⟩; replace HS2 := Hid.mk (HS2.out.call b4); clear b4)
        | (go_at_call 17; refine (HS2.out.hd.prog _ _ _ _ HW.out.2.1).mono ?_; rintro e w6 ⟨rfl, h6, k6⟩; rw [HW.out.1.1]))
      have hge := progC_geo C (2 : Int) k (rep z (u8 (k + 1))) (rep 32 (u8 9))
      exact ⟨⟨k + 1, _, by omega, by go_num, HS2.out.act h6 k6 hge, HW.out.1.2, hge.2.2.trans HW.out.2.2⟩, by simp [intOf]; omega⟩
    · have hk1 : ¬ (k : Int) < n := by omega
      have hk2 : k = n := by omega
      subst hk2
      have hw := fun x => hP.fail hn2.2 x
      rw [hCZ] at hw
      have HS2 := Hid.mk hGc
      have HW := Hid.mk (And.intro hw (And.intro hd9 hCZ))
      clear hGc hP hCZ hd9 hw
      go_upto_region 14 with (first
        | (go_at_call_of 18 (Value.int .i64 32); refine (text32 _ (by decide) _).mono ?_; rintro e w5 ⟨rfl, b5⟩; replace HS2 := Hid.mk (HS2.out.call b5); clear b5)
        | (go_at_call 18; refine (text_any _ (by omega) _ (by omega) _).mono ?_; rintro e w4 ⟨rfl, b4⟩; replace HS2 := Hid.mk (HS2.out.call b4); clear b4)
        | (go_at_call 17; refine (HS2.out.hd.prog _ _ _ _ HW.out.2.1).mono ?_; rintro e w6 ⟨rfl, h6, k6⟩; rw [(HW.out.1 _).1]))
      have hge := progC_geo C (2 : Int) k (rep z (u8 77)) (rep 32 (u8 9))
      have hG6 := HS2.out.act h6 k6 hge
      have hZ6 := hge.2.2.trans HW.out.2.2
      have hQ6 := (HW.out.1 (u8 77)).2
      generalize (progC C (2 : Int) k (rep z (u8 77)) (rep 32 (u8 9))).1 = C1 at *
      have HT0 := Hid.mk (And.intro hG6 (And.intro hQ6 hZ6))
      clear h6 k6 HW HS2 d2 hge hG6 hZ6 hQ6
      go_loopw [12] (fun i wr => ∃ j : Nat, ∃ C, j ≤ len ∧ j ≤ 20 ∧ i = .int .i64 j ∧ Gc w G L C wr ∧ DeadQ C k (3 + j) ∧ C.Z = z) (fun i _ => 20 - (intOf i).toNat)
      case atStart => exact ⟨0, C1, Nat.zero_le _, Nat.zero_le _, rfl, HT0.out.1, HT0.out.2.1, HT0.out.2.2⟩
      case round =>
        obtain ⟨j, C, hj, hj20, rfl, hGc, hQ, hCZ⟩ := hrel
        clear HT0
        have hd9 : C.did < 999999 := by have := hQ.did; omega
        have hw9 : ∀ n, 0 ≤ C.worn n ∧ C.worn n < 999999 := fun n => by have := hQ.worn n; omega
        obtain ⟨_, _, d2⟩ := hGc.cells
        rw [hCZ] at d2
        by_cases hjl : j < len ∧ j < 20
        · obtain ⟨hjl, hj2⟩ := hjl
          have hj1 : (j : Int) < len := by omega
          have hj3 : (j : Int) < 20 := by omega
          obtain ⟨g, o, rfl, hgw, x0, x1, x2, x3, hfl⟩ := HX.out j hjl
          have y0 : wr.cell? ⟨g, o + j * 4, none⟩ = some (.int .i64 (f j).1) := (hGc.hd.below.cell (p := ⟨g, o + j * 4, none⟩) hgw).trans x0
          have y3 : wr.cell? ⟨g, o + j * 4 + 3, none⟩ = some (.int .u8 (f j).2.2.2) := (hGc.hd.below.cell (p := ⟨g, o + j * 4 + 3, none⟩) hgw).trans x3
          obtain ⟨m, hm, hm1⟩ := low (f j).1 1 (by omega)
          replace hm : bits .and .i64 (f j).1 1 = (m : Int) := hm
          generalize (f j).1 = kd at *
          generalize (f j).2.2.2 = fi at *
          clear x0 x1 x2 x3
          by_cases hm0 : (m : Int) = 0
          · have he := hQ.erase
            have HS2 := Hid.mk hGc
            have HW := Hid.mk (And.intro he (And.intro hd9 (And.intro hw9 hCZ)))
            clear hGc hQ hCZ hd9 hw9 he
            go_wp2_with (first
              | (go_at_call 19; refine (HS2.out.hd.erase _ HW.out.2.1 HW.out.2.2.1).mono ?_; rintro e w6 ⟨rfl, h6, k6⟩; rw [HW.out.1.1]))
            have hge := eraseC_geo C 2
            exact ⟨⟨j + 1, _, by omega, by omega, by go_num, HS2.out.act h6 k6 hge, HW.out.1.2, hge.2.2.trans HW.out.2.2.2⟩, by simp [intOf]; omega⟩
          · have hw := fun x y => hQ.write hn2.2 x y
            rw [hCZ] at hw
            have HS2 := Hid.mk hGc
            have HW := Hid.mk (And.intro hw (And.intro hd9 hCZ))
            clear hGc hQ hCZ hd9 hw9 hw
            go_upto_region 19 with fail
            go_region_with (first
              | (go_at_call 17; refine (HS2.out.hd.prog _ _ _ _ HW.out.2.1).mono ?_; rintro e w6 ⟨rfl, h6, k6⟩)
              | (go_at_call_of 18 (Value.int .i64 32); refine (text32 _ (by decide) _).mono ?_; rintro e w4 ⟨rfl, b4⟩; (first | replace HS2 := Hid.mk (HS2.out.call b4) | replace HS2 := Hid.mk (HS2.out.drew.call b4)); clear b4)
              | (go_at_call 18; refine (text_any _ (by omega) _ (by omega) _).mono ?_; rintro e w4 ⟨rfl, b4⟩; (first | replace HS2 := Hid.mk (HS2.out.call b4) | replace HS2 := Hid.mk (HS2.out.drew.call b4)); clear b4))
            all_goals
              have hwk : IntKind.i64.wrap ((k : Int) + 1) = (k : Int) + 1 := by rw [IntKind.wrap_i64]; omega
              rw [hwk] at h6
              rw [hwk]
              have hge := progC_geo C (2 : Int) ((k : Int) + 1) (rep z (u8 fi)) (rep 32 (u8 9))
              have hG6 := HS2.out.act h6 k6 hge
              have hZ6 := hge.2.2.trans HW.out.2.2
              have hQ6 := (HW.out.1 (u8 fi) (u8 9)).2
              have hr := (HW.out.1 (u8 fi) (u8 9)).1
              generalize (progC C (2 : Int) ((k : Int) + 1) (rep z (u8 fi)) (rep 32 (u8 9))).1 = C2 at *
              generalize (progC C (2 : Int) ((k : Int) + 1) (rep z (u8 fi)) (rep 32 (u8 9))).2 = r at *
              have HQ := Hid.mk (And.intro hG6 (And.intro hQ6 hZ6))
              clear h6 k6 hwk hge hG6 hZ6 hQ6 HW HS2
              go_wp2_with fail
              exact ⟨⟨j + 1, C2, by omega, by omega, by go_num, HQ.out.1, HQ.out.2.1, HQ.out.2.2⟩, by simp [intOf]; omega⟩
        · have HQ := Hid.mk (And.intro hGc (And.intro hQ hCZ))
          clear hGc hQ hCZ d2 hw9
          by_cases hjl1 : j < len
          · have h1 : (j : Int) < len := by omega
            have h2 : ¬ (j : Int) < 20 := by omega
            go_upto_region 23 with fail
            have hrd := fun q hq => HQ.out.2.1.read hn2.2 q hq
            rw [HQ.out.2.2] at hrd
            have HR := Hid.mk hrd
            clear hrd
            go_loopw [14] (fun i wr => ∃ q : Nat, q ≤ k ∧ i = .int .i64 q ∧ Gc w G L C wr) (fun i _ => k - (intOf i).toNat)
            case atStart => exact ⟨0, Nat.zero_le _, rfl, HQ.out.1⟩
            case round =>
              obtain ⟨q, hq, rfl, hGc⟩ := hrel
              obtain ⟨_, _, d2⟩ := hGc.cells
              rw [HQ.out.2.2] at d2
              by_cases hqk : q < k
              · have hq1 : (q : Int) < k := by omega
                have er := Hid.mk (HR.out q hqk)
                have HS2 := Hid.mk hGc
                clear hGc
                go_wp2_with (first
                  | (go_at_call 20; refine (read_any HS2.out.hd.chip _ _).mono ?_; rintro e w4 ⟨rfl, b4⟩; rw [er.out]; replace HS2 := Hid.mk (HS2.out.call b4); clear b4; obtain ⟨_, _, d3⟩ := HS2.out.cells; rw [HQ.out.2.2] at d3)
                  | (go_at_call 18; refine (text_any _ (by omega) _ (by omega) _).mono ?_; rintro e w5 ⟨rfl, b5⟩; replace HS2 := Hid.mk (HS2.out.call b5); clear b5))
                exact ⟨⟨q + 1, by omega, by go_num, HS2.out⟩, by simp [intOf]; omega⟩
              · have hq1 : ¬ (q : Int) < k := by omega
                have HS2 := Hid.mk hGc
                have hB2 : (2 : Int) < C.B := by have := HQ.out.2.1.B; omega
                have hdd := HQ.out.2.1.dead
                have HDD := Hid.mk hdd
                clear hGc hdd d2
                go_wp2_with (first
                  | (go_at_call 21; refine (dead_any HS2.out.hd.chip).mono ?_; rintro e w4 ⟨rfl, r4, b4⟩; have c4 := r4.cell (i := 2) (by have := HQ.out.2.1.B; omega); rw [HDD.out] at c4; clear r4))
                go_ret
                exact ⟨rfl, below3 HS2.out.hd.below b4⟩
          · have h1 : ¬ (j : Int) < len := by omega
            go_upto_region 23 with fail
            have hrd := fun q hq => HQ.out.2.1.read hn2.2 q hq
            rw [HQ.out.2.2] at hrd
            have HR := Hid.mk hrd
            clear hrd
            go_loopw [14] (fun i wr => ∃ q : Nat, q ≤ k ∧ i = .int .i64 q ∧ Gc w G L C wr) (fun i _ => k - (intOf i).toNat)
            case atStart => exact ⟨0, Nat.zero_le _, rfl, HQ.out.1⟩
            case round =>
              obtain ⟨q, hq, rfl, hGc⟩ := hrel
              obtain ⟨_, _, d2⟩ := hGc.cells
              rw [HQ.out.2.2] at d2
              by_cases hqk : q < k
              · have hq1 : (q : Int) < k := by omega
                have er := Hid.mk (HR.out q hqk)
                have HS2 := Hid.mk hGc
                clear hGc
                go_wp2_with (first
                  | (go_at_call 20; refine (read_any HS2.out.hd.chip _ _).mono ?_; rintro e w4 ⟨rfl, b4⟩; rw [er.out]; replace HS2 := Hid.mk (HS2.out.call b4); clear b4; obtain ⟨_, _, d3⟩ := HS2.out.cells; rw [HQ.out.2.2] at d3)
                  | (go_at_call 18; refine (text_any _ (by omega) _ (by omega) _).mono ?_; rintro e w5 ⟨rfl, b5⟩; replace HS2 := Hid.mk (HS2.out.call b5); clear b5))
                exact ⟨⟨q + 1, by omega, by go_num, HS2.out⟩, by simp [intOf]; omega⟩
              · have hq1 : ¬ (q : Int) < k := by omega
                have HS2 := Hid.mk hGc
                have hB2 : (2 : Int) < C.B := by have := HQ.out.2.1.B; omega
                have hdd := HQ.out.2.1.dead
                have HDD := Hid.mk hdd
                clear hGc hdd d2
                go_wp2_with (first
                  | (go_at_call 21; refine (dead_any HS2.out.hd.chip).mono ?_; rintro e w4 ⟨rfl, r4, b4⟩; have c4 := r4.cell (i := 2) (by have := HQ.out.2.1.B; omega); rw [HDD.out] at c4; clear r4))
                go_ret
                exact ⟨rfl, below3 HS2.out.hd.below b4⟩
end Go.Proofs.Ytkfkepjegdaadaa
