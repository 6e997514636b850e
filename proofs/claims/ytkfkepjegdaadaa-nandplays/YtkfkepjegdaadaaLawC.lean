/-
  The walk of the law NandOrder. No condition.
-/
import Derived.Test.YtkfkepjegdaadaaGeo
namespace Go.Proofs.Ytkfkepjegdaadaa
open Go Go.RowKit

/-- from this address on lie so many numbers -/
def IntsF (w : World) (a : Option Addr) (n : Nat) (xs : Nat → Int) : Prop := ∀ i, i < n → ∃ g o, a = some ⟨g, o, none⟩ ∧ g < w.heap.size ∧ w.cell? ⟨g, o + i, none⟩ = some (.int .i64 (xs i))
/-- pages of block 3 were written up to top -/
structure OrdP (C : Ch) (top d : Int) (k : Nat) : Prop where
  off : C.off = false
  did : C.did = d
  didr : 0 ≤ d ∧ d ≤ k
  cuts : ∀ j, C.cuts j = none
  fails : ∀ j, C.fails j = false
  dead : ∀ b, C.dead b = false
  worn : ∀ n, 0 ≤ C.worn n ∧ C.worn n ≤ k
  B : 8 ≤ C.B
  topr : -1 ≤ top
  above : ∀ q : Nat, top < q → C.pg 3 q = ⟨#[]⟩
  here : 0 ≤ top → ¬ C.pg 3 top.toNat = ⟨#[]⟩
theorem OrdP.used {C : Ch} {top did : Int} {k : Nat} (h : OrdP C top did k) (ht : top < C.P) (p : Nat) : usedB C 3 p = decide ((p : Int) ≤ top) := by
  by_cases hp : (p : Int) ≤ top
  · rw [decide_eq_true hp]
    unfold usedB
    rw [List.any_eq_true]
    refine ⟨top.toNat, List.mem_range.2 (by omega), ?_⟩
    rw [decide_eq_true_eq]
    exact ⟨by omega, h.here (by omega)⟩
  · rw [decide_eq_false hp]
    unfold usedB
    rw [List.any_eq_false]
    intro q hq
    rw [decide_eq_true_eq]
    rintro ⟨h1, h2⟩
    exact h2 (h.above q (by omega))
theorem OrdP.write {C : Ch} {top did : Int} {k : Nat} (h : OrdP C top did k) (ht : top < C.P) (p : Nat) (hp : p < C.P) (hpt : top < p) (x y : UInt8) (hy : y ≠ 255) :
    (progC C (3 : Int) p (rep C.Z x) (rep 32 y)).2 = 0 ∧ OrdP (progC C (3 : Int) p (rep C.Z x) (rep 32 y)).1 p (did + 1) (k + 1) := by
  have hB := h.B
  have hu := h.used ht p
  rw [decide_eq_false (by omega)] at hu
  have e := prog_plain (C := C) (b := 3) (p := p) (data := rep C.Z x) (spare := rep 32 y) (refP_ok h.off (by omega) hp) (rep_size _ _) (rep_size _ _) hu (h.cuts _) (h.dead 3) (h.fails _)
  rw [show ((3 : Nat) : Int) = 3 from rfl, kp_two _ _ _ hy] at e
  rw [e]
  have hdr := h.didr
  refine ⟨rfl, h.off, by show C.did + 1 = _; rw [h.did], by omega, h.cuts, h.fails, h.dead, fun n => ?_, h.B, by omega, fun q hq => ?_, fun _ => ?_⟩
  · have := h.worn n
    show 0 ≤ C.worn n ∧ C.worn n ≤ _
    omega
  · unfold putPg
    simp only [upd_same]
    unfold upd
    rw [if_neg (by omega)]
    exact h.above q (by omega)
  · unfold putPg
    simp only [upd_same, Int.toNat_natCast]
    exact two_ne _ _ _
theorem OrdP.refused {C : Ch} {top did : Int} {k : Nat} (h : OrdP C top did k) (ht : top < C.P) (p : Nat) (hp : p < C.P) (hpt : ¬ top < p) (x y : UInt8) : progC C (3 : Int) p (rep C.Z x) (rep 32 y) = (C, 52) := by
  have hB := h.B
  have hu := h.used ht p
  rw [decide_eq_true (by omega)] at hu
  have h0 : refP C (3 : Int) p = 0 := refP_ok (b := 3) h.off (by omega) hp
  unfold progC
  rw [if_pos h0, if_pos ⟨rep_size _ _, rep_size _ _⟩, Int.toNat_natCast, show (3 : Int).toNat = 3 from rfl, hu, if_pos rfl]
theorem OrdP.clear {C : Ch} {top did : Int} {k : Nat} (h : OrdP C top did k) (ht : top < C.P) : (eraseC C 3).2 = 0 ∧ OrdP (eraseC C 3).1 (-1) (did + 1) (k + 1) := by
  have hB := h.B
  have e := erase_plain (C := C) (b := 3) (refB_ok h.off (by omega)) (h.cuts _) (h.dead 3) (h.fails _)
  rw [show ((3 : Nat) : Int) = 3 from rfl] at e
  rw [e]
  have hdr := h.didr
  refine ⟨rfl, h.off, by show C.did + 1 = _; rw [h.did], by omega, h.cuts, h.fails, h.dead, ?_, h.B, by omega, fun q _ => ?_, fun h0 => by omega⟩
  · refine upd_range (fun n => ?_) ?_
    · have := h.worn n; omega
    · have := h.worn 3; omega
  · have e2 : upd C.pg 3 (fun p => if p < C.P then ⟨#[]⟩ else C.pg 3 p) 3 q = ⟨#[]⟩ := by
      rw [upd_same]
      by_cases hq : q < C.P
      · rw [if_pos hq]
      · rw [if_neg hq]
        exact h.above q (by omega)
    exact e2
theorem OrdP.more {C : Ch} {top did : Int} {k : Nat} (h : OrdP C top did k) : OrdP C top did (k + 1) := by
  have hdr := h.didr
  refine { h with didr := by omega, worn := fun n => ?_ }
  have := h.worn n
  omega
theorem mod_pos (x : Int) (p : Nat) (hp : 4 ≤ p ∧ p ≤ 11) : ∃ q : Nat, (wrap64 (x.tmod p + p)).tmod p = (q : Int) ∧ q < p := by
  have h1 : -(p : Int) < x.tmod p ∧ x.tmod p < p := by
    have h2 := Int.lt_tmod_of_pos x (by omega : (0 : Int) < p)
    have h3 := Int.tmod_lt_of_pos x (by omega : (0 : Int) < p)
    exact ⟨h2, h3⟩
  have e : wrap64 (x.tmod p + p) = x.tmod p + p := by unfold wrap64; omega
  rw [e, Int.tmod_eq_emod_of_nonneg (by omega)]
  have h4 := Int.emod_nonneg (x.tmod p + p) (by omega : (p : Int) ≠ 0)
  have h5 := Int.emod_lt_of_pos (x.tmod p + p) (by omega : (0 : Int) < p)
  exact ⟨((x.tmod p + p) % (p : Int)).toNat, by omega, by omega⟩
set_option maxRecDepth 100000 in
set_option maxHeartbeats 4000000 in
theorem nandOrder_any (B P Z : Int) (a : Option Addr) (len cap : Nat) (xs : Nat → Int) (w : World) (hx : IntsF w a len xs) : Calls Try.prog 4 #[.agg #[.int .i64 B, .int .i64 P, .int .i64 Z], .slice a len cap] w fun e w' => e = .returned (.bool true) ∧ Below w.heap.size w w' := by
  have HX := Hid.mk hx
  clear hx
  go_enter Try.func4, Try.ntmps4
  go_upto_region 2 with (go_at_call 8; refine (geo_any _ _ _ _).mono ?_; rintro e w1 ⟨b, p, z, rfl, hg, b1⟩)
  have hbw : Below w.heap.size w (w1.alloc (.cells #[.int .i64 b, .int .i64 p, .int .i64 z] 23)) := by
    have h1 := below3 ((Below.refl w.heap.size w).alloc (Nat.le_refl _) _) b1
    exact h1.alloc h1.size _
  have hbx := heap_alloc_new w1 (.cells #[.int .i64 b, .int .i64 p, .int .i64 z] 23)
  generalize w1.alloc (.cells #[.int .i64 b, .int .i64 p, .int .i64 z] 23) = W at *
  generalize w1.heap.size = G at *
  have lG : G < W.heap.size := (Array.getElem?_eq_some_iff.1 hbx).1
  have c0 : W.cell? ⟨G, 0, none⟩ = some (.int .i64 b) := cell_of_row _ _ 0 _ 23 _ hbx
  have c1 : W.cell? ⟨G, 1, none⟩ = some (.int .i64 p) := cell_of_row _ _ 1 _ 23 _ hbx
  have c2 : W.cell? ⟨G, 2, none⟩ = some (.int .i64 z) := cell_of_row _ _ 2 _ 23 _ hbx
  have HB := Hid.mk (And.intro hbw hbx)
  clear hbw hbx b1
  go_upto_region 7 with (first
    | (go_at_call 9; refine (new0_any b p z (by omega) _).mono ?_; rintro e w2 ⟨L, rfl, h2, b2, o2⟩)
    | (go_at_call 11; refine (awake_any _).mono ?_; rintro e w3 ⟨rfl, b3⟩))
  have hGc : Gc w G L (begC b p z [] [] []) w3 := by
    have h1 : Gc w G L (begC b p z [] [] []) w2 := ⟨⟨h2, below3 HB.out.1 b2, fun i hi => by have := o2 i hi; have := HB.out.1.size; omega⟩, (b2.block G lG).trans HB.out.2, fun ho => by have := o2 G ho; omega⟩
    exact h1.call b3
  have hP0 : OrdP (begC b p z [] [] []) (-1) 0 0 := ⟨rfl, rfl, by omega, fun _ => rfl, fun _ => rfl, fun _ => rfl, fun _ => ⟨Int.le_refl _, Int.le_refl _⟩, hg.1, by omega, fun _ _ => rfl, fun h => by omega⟩
  have hB0 : (begC b p z [] [] []).P = p ∧ (begC b p z [] [] []).Z = z := ⟨rfl, rfl⟩
  generalize begC b p z [] [] [] = C0 at *
  have HS0 := Hid.mk (And.intro hGc (And.intro hP0 hB0))
  clear hGc hP0 hB0 h2 b2 o2 b3 HB c0 c1 c2 lG
  go_loopw [8, 9, 10] (fun t d i wr => ∃ k : Nat, ∃ top did : Int, ∃ C, k ≤ len ∧ k ≤ 40 ∧ i = .int .i64 k ∧ t = .int .i64 top ∧ d = .int .i64 did ∧ Gc w G L C wr ∧ OrdP C top did (2 * k) ∧ C.P = p ∧ C.Z = z ∧ top < (p : Int) - 1) (fun _ _ i _ => 40 - (intOf i).toNat)
  case atStart => exact ⟨0, -1, 0, C0, Nat.zero_le _, Nat.zero_le _, rfl, rfl, rfl, HS0.out.1, HS0.out.2.1, HS0.out.2.2.1, HS0.out.2.2.2, by omega⟩
  case round =>
    obtain ⟨k, top, did, C, hk, hk40, rfl, rfl, rfl, hGc, hP, hCP, hCZ, htp⟩ := hrel
    clear HS0
    by_cases hkl : k < len ∧ k < 40
    · obtain ⟨hkl, hk4⟩ := hkl
      have hk1 : (k : Int) < len := by omega
      have hk2 : (k : Int) < 40 := by omega
      obtain ⟨g, o, rfl, hgw, hx⟩ := HX.out k hkl
      have hx1 : wr.cell? ⟨g, o + k, none⟩ = some (.int .i64 (xs k)) := (hGc.hd.below.cell (p := ⟨g, o + k, none⟩) hgw).trans hx
      generalize xs k = x at *
      obtain ⟨d0, d1, d2⟩ := hGc.cells
      rw [hCP] at d1
      rw [hCZ] at d2
      have HS := Hid.mk (And.intro hGc (And.intro hP (And.intro hCP (And.intro hCZ htp))))
      clear hGc hP hCP hCZ htp hx hgw
      go_upto_region 9 with fail
      have hp0 : ¬ (p : Int) = 0 := by omega
      obtain ⟨pp, hpp, hppl⟩ := mod_pos x p (by omega)
      go_region
      have HS2 := Hid.mk HS.out.1.drew
      have e1 : ∀ c : Int, progC C (3 : Int) pp (rep z (u8 c)) (rep 32 (u8 1)) = progC C (3 : Int) pp (rep C.Z (u8 c)) (rep 32 (u8 1)) := fun c => by rw [HS.out.2.2.2.1]
      have hCPp : pp < C.P := by rw [HS.out.2.2.1]; exact hppl
      have htC : top < C.P := by rw [HS.out.2.2.1]; have := HS.out.2.2.2.2; omega
      have hd9 : C.did < 999999 := by rw [HS.out.2.1.did]; have := HS.out.2.1.didr; omega
      have h255 : (u8 1 : UInt8) ≠ 255 := by decide
      have d3 : wr.drew.cell? ⟨G, 1, none⟩ = some (.int .i64 p) := d1
      have d4 : wr.drew.cell? ⟨G, 2, none⟩ = some (.int .i64 z) := d2
      generalize wr.drew = wd at *
      clear d0 d1 d2 hx1 hpp hp0
      by_cases hpt : top < pp
      · have hw := fun c => HS.out.2.1.write htC pp hCPp hpt c (u8 1) h255
        have HW := Hid.mk (And.intro hw (And.intro e1 hd9))
        have HT := Hid.mk (And.intro hCPp (And.intro htC h255))
        clear hw e1 hd9 hCPp htC h255
        have hdr := HS.out.2.1.didr
        go_upto_region 11 with (first
          | (go_at_call_of 18 (Value.int .i64 32); refine (text32 _ (by decide) _).mono ?_; rintro e w5 ⟨rfl, b5⟩; replace HS2 := Hid.mk (HS2.out.call b5); clear b5)
          | (go_at_call 18; refine (text_any _ (by omega) _ (by omega) _).mono ?_; rintro e w4 ⟨rfl, b4⟩; replace HS2 := Hid.mk (HS2.out.call b4); clear b4)
          | (go_at_call 17; refine (HS2.out.hd.prog _ _ _ _ HW.out.2.2).mono ?_; rintro e w6 ⟨rfl, h6, k6⟩; rw [HW.out.2.1] at h6; rw [HW.out.2.1, (HW.out.1 _).1]; have HO := Hid.mk (HW.out.1 (u8 k)).2))
        have hge := progC_geo C (3 : Int) pp (rep C.Z (u8 k)) (rep 32 (u8 1))
        have hG6 := HS2.out.act h6 k6 hge
        have hP6 : (progC C (3 : Int) pp (rep C.Z (u8 k)) (rep 32 (u8 1))).1.P = p ∧ (progC C (3 : Int) pp (rep C.Z (u8 k)) (rep 32 (u8 1))).1.Z = z := ⟨hge.2.1.trans HS.out.2.2.1, hge.2.2.trans HS.out.2.2.2.1⟩
        generalize (progC C (3 : Int) pp (rep C.Z (u8 k)) (rep 32 (u8 1))).1 = C2 at *
        have HQ := Hid.mk (And.intro hG6 (And.intro HO.out hP6))
        obtain ⟨_, d5, _⟩ := hG6.cells
        rw [hP6.1] at d5
        clear h6 k6 HO hge hG6 hP6 HS2 HW HT d3 d4 HS
        have hdd : wrap64 (did + 1) = did + 1 := by unfold wrap64; omega
        by_cases hl : (pp : Int) = p - 1
        · have hcl := HQ.out.2.1.clear (by rw [HQ.out.2.2.1]; omega)
          have hd9 : C2.did < 999999 := by rw [HQ.out.2.1.did]; omega
          have hw9 : ∀ n, 0 ≤ C2.worn n ∧ C2.worn n < 999999 := fun n => by have := HQ.out.2.1.worn n; omega
          have HC := Hid.mk (And.intro hcl (And.intro hd9 hw9))
          clear hcl hd9 hw9
          go_wp2_with (first
            | (go_at_call 15; refine (did_any HQ.out.1.hd.chip).mono ?_; rintro e w7 ⟨rfl, hw7⟩; rw [hw7, HQ.out.2.1.did]; clear hw7)
            | (go_at_call 19; refine (HQ.out.1.hd.erase _ HC.out.2.1 HC.out.2.2).mono ?_; rintro e w8 ⟨rfl, h8, k8⟩; rw [HC.out.1.1]))
          have hge := eraseC_geo C2 3
          refine ⟨⟨k + 1, -1, did + 1 + 1, _, by omega, by omega, by go_num, rfl, ?_, HQ.out.1.act h8 k8 hge, ?_, hge.2.1.trans HQ.out.2.2.1, hge.2.2.trans HQ.out.2.2.2, by omega⟩, by simp [intOf]; omega⟩
          · go_num
          · have := HC.out.1.2
            rw [show 2 * (k + 1) = 2 * k + 1 + 1 by omega]
            exact this
        · go_wp2_with (first
            | (go_at_call 15; refine (did_any HQ.out.1.hd.chip).mono ?_; rintro e w7 ⟨rfl, hw7⟩; rw [hw7, HQ.out.2.1.did]; clear hw7))
          refine ⟨⟨k + 1, pp, did + 1, C2, by omega, by omega, by go_num, rfl, ?_, HQ.out.1, ?_, HQ.out.2.2.1, HQ.out.2.2.2, by omega⟩, by simp [intOf]; omega⟩
          · first | rfl | go_num
          · rw [show 2 * (k + 1) = 2 * k + 1 + 1 by omega]
            exact HQ.out.2.1.more
      · have hw := fun c => HS.out.2.1.refused htC pp hCPp hpt c (u8 1)
        have HW := Hid.mk (And.intro hw (And.intro e1 hd9))
        clear hw e1 hd9 hCPp htC h255
        have hdr := HS.out.2.1.didr
        have hpl : ¬ top = (p : Int) - 1 := by have := HS.out.2.2.2.2; omega
        go_upto_region 11 with (first
          | (go_at_call_of 18 (Value.int .i64 32); refine (text32 _ (by decide) _).mono ?_; rintro e w5 ⟨rfl, b5⟩; replace HS2 := Hid.mk (HS2.out.call b5); clear b5)
          | (go_at_call 18; refine (text_any _ (by omega) _ (by omega) _).mono ?_; rintro e w4 ⟨rfl, b4⟩; replace HS2 := Hid.mk (HS2.out.call b4); clear b4)
          | (go_at_call 17; refine (HS2.out.hd.prog _ _ _ _ HW.out.2.2).mono ?_; rintro e w6 ⟨rfl, h6, k6⟩; rw [HW.out.2.1, HW.out.1] at h6; rw [HW.out.2.1, HW.out.1]))
        have hG6 : Gc w G L C w6 := HS2.out.act h6 k6 ⟨rfl, rfl, rfl⟩
        have HQ := Hid.mk hG6
        obtain ⟨_, d5, _⟩ := hG6.cells
        rw [HS.out.2.2.1] at d5
        clear h6 k6 hG6 HS2 HW d3 d4
        go_wp2_with (first
          | (go_at_call 15; refine (did_any HQ.out.hd.chip).mono ?_; rintro e w7 ⟨rfl, hw7⟩; rw [hw7, HS.out.2.1.did]; clear hw7))
        exact ⟨⟨k + 1, top, did, C, by omega, by omega, by go_num, rfl, rfl, HQ.out, HS.out.2.1.more.more, HS.out.2.2.1, HS.out.2.2.2.1, HS.out.2.2.2.2⟩, by simp [intOf]; omega⟩
    · have HS := Hid.mk hGc
      clear hGc hP hCP hCZ
      by_cases hkl1 : k < len
      · have h1 : (k : Int) < len := by omega
        have h2 : ¬ (k : Int) < 40 := by omega
        go_wp2_with fail
        go_ret
        exact ⟨rfl, HS.out.hd.below⟩
      · have h1 : ¬ (k : Int) < len := by omega
        go_wp2_with fail
        go_ret
        exact ⟨rfl, HS.out.hd.below⟩
end Go.Proofs.Ytkfkepjegdaadaa
