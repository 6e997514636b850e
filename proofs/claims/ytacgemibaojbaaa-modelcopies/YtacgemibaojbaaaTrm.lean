/-
  Spaces turned in their own map: trim, double. No condition.
-/
import Derived.Test.YtacgemibaojbaaaChg
namespace Go.Proofs.Ytacgemibaojbaaa
open Go Go.RowKit Go.Maps

def trimA (t : Ab) (S P : Int) : Ab × Int :=
  match gA t.sp S with
  | none => (t, 80)
  | some x => if mget x.ps P = none then (t, 81) else ({ t with sp := sA t.sp { x with ps := mdel x.ps P } }, 0)
def dblA (t : Ab) (S T : Int) : Ab × Int :=
  match gA t.sp S with
  | none => (t, 80)
  | some x => match gA t.sp T with
    | some _ => (t, 80)
    | none => ({ t with sp := iA ⟨T, x.q, false, x.ps⟩ t.sp }, 0)
set_option maxRecDepth 20000 in
theorem trim_any {L n w b l f} (h : SpsAt L w b l f) (hi : InvM n l) {S P : Int} (hS : K64 S) (hP : K64 P) {x : Asp} (hg : gA l S = some x) :
    Calls Try.prog 45 #[.map (some b), .int .i64 S, .int .i64 P] w (ChD L b (trimA (abl l) S P) w) := by
  have q := h.look hi false hS hg
  simp only [Bool.false_eq_true, if_false] at q
  have hx := gA_some hg
  unfold trimA
  simp only [abl, hg]
  have qp := (h.alloc (.cells #[.int .i64 x.q, .bool x.sl, .map (some (f S))] 97)).page hi true hP hg
  simp only [if_true] at qp
  cases hno : mget x.ps P with
  | none =>
    rw [hno] at qp
    simp only [svL, Option.isSome_none] at qp
    rw [if_pos rfl]
    have H := Hid.mk h
    clear h hno
    generalize f S = g at *
    obtain ⟨xi, xq, xs, xp⟩ := x
    simp only at q qp
    go_enter Try.func45, Try.ntmps45
    go_wp2
    go_ret
    exact ChD.same H.out (((Below.refl _ w).alloc (Nat.le_refl _) _).alloc (by rw [size_alloc]; omega) _) 81
  | some v =>
    rw [hno] at qp
    simp only [svL, Option.isSome_some] at qp
    rw [if_neg (by simp)]
    have hM := h.pg x hx.1
    rw [hx.2] at hM
    have hlen : x.ps.length < 1000000 := by have := hi.inv.plen hx.1; omega
    have hlen2 : (spm f l).length < 1000000 := by rw [spm_len]; have := hi.inv.len; simp only at this; omega
    have hq := hi.q hx.1
    have H := Hid.mk (And.intro h (And.intro hi (And.intro hx (And.intro hlen (And.intro hlen2 hq)))))
    have HM := Hid.mk hM
    clear h hi hM hlen hlen2 hx hq hg hno
    generalize f S = g at *
    obtain ⟨xi, xq, xs, xp⟩ := x
    simp only at *
    generalize L v = str at *
    go_enter Try.func45, Try.ntmps45
    go_upto_region 5 with fail
    have B2 : Below w.heap.size w ((w.alloc (.cells #[.int .i64 xq, .bool xs, .map (some g)] 97)).alloc (.cells #[.int .i64 v, .string str] 75)) := ((Below.refl _ w).alloc (Nat.le_refl _) _).alloc (by rw [size_alloc]; omega) _
    have y2 : ((w.alloc (.cells #[.int .i64 xq, .bool xs, .map (some g)] 97)).alloc (.cells #[.int .i64 v, .string str] 75)).heap[w.heap.size]? = some (.cells #[.int .i64 xq, .bool xs, .map (some g)] 97 (0, 0)) := (Below.heap_alloc _ _ w.heap.size (by rw [size_alloc]; omega)).trans (heap_alloc_new w _)
    generalize ((w.alloc (.cells #[.int .i64 xq, .bool xs, .map (some g)] 97)).alloc (.cells #[.int .i64 v, .string str] 75)) = w2 at *
    have HM2 := Hid.mk (HM.out.call B2)
    obtain ⟨u0, u1, u2⟩ := box97 y2
    have l2 : w.heap.size < w2.heap.size := (Array.getElem?_eq_some_iff.1 y2).1
    have fz := frozen_of_row w2 w.heap.size 2 _ 97 y2
    have HY := Hid.mk (And.intro B2 y2)
    clear B2 y2 q qp
    generalize hG : w.heap.size = G at *
    have HGG2 := Hid.mk hG
    clear hG
    have c43 := cloneL_any HM2.out
    have C43 := Hid.mk c43
    clear c43
    go_upto_region 6 with (first | (go_at_call 43; refine C43.out.mono ?_; rintro e w3 ⟨rfl, m3, b3⟩; have e3 := (b3.block G l2).trans HY.out.2; have fz3 := frozen_of_row w3 G 2 _ 97 e3; have l3 := Nat.lt_of_lt_of_le l2 b3.size; have e4 := (box97 e3).2.2; have E3 := Hid.mk (And.intro e3 (And.intro m3 b3)); clear e3 m3 b3))
    have D : Mp (elL L) (w3.setCell ⟨G, 2, none⟩ (.map (some w2.heap.size))) w2.heap.size xp ∧ Below w.heap.size w (w3.setCell ⟨G, 2, none⟩ (.map (some w2.heap.size))) ∧ w.heap.size ≤ w2.heap.size ∧ (w3.setCell ⟨G, 2, none⟩ (.map (some w2.heap.size))).heap[G]? = some (.cells #[.int .i64 xq, .bool xs, .map (some w2.heap.size)] 97 (0, 0)) := by
      have hG := HGG2.out
      subst hG
      refine ⟨E3.out.2.1.other (a := ⟨w.heap.size, 2, none⟩) (not_map' E3.out.2.1 E3.out.1) _, (below3 HY.out.1 E3.out.2.2).setCell' (Nat.le_refl _) _, HY.out.1.size, heap_setCell_same w3 w.heap.size 2 _ 97 _ E3.out.1⟩
    generalize w3.setCell ⟨G, 2, none⟩ (.map (some w2.heap.size)) = w4 at *
    generalize w2.heap.size = g2 at *
    obtain ⟨v0, v1, v2⟩ := box97 D.2.2.2
    have n0 : G < w4.heap.size := (Array.getElem?_eq_some_iff.1 D.2.2.2).1
    have HD := Hid.mk D
    clear D E3 C43 HY HM2 u0 u1 u2 e4 fz fz3 l2 l3 HM
    go_upto_region 7 with (first | (at_delete; refine wp_del _ rfl _ _ 95 75 rfl Try.underlying95 HD.out.1 P rfl rfl hP ?_; intro w5 m5 t5))
    go_frame
    have hne : G ≠ g2 := not_map' HD.out.1 HD.out.2.2.2
    have k5 : w5.heap[G]? = some (.cells #[.int .i64 xq, .bool xs, .map (some g2)] 97 (0, 0)) := (t5.grown.block G n0 (by simpa using hne)).trans HD.out.2.2.2
    have gr5 : w.grownBy w5 none := grown_new (grown_of_below HD.out.2.1 none) t5.grown HD.out.2.2.1
    have b5 : SpsAt L w5 b l f := H.out.1.same (fun i hi _ => gr5.block i hi (by simp))
    obtain ⟨s0, s1, s2⟩ := box97 k5
    have n5 : G < w5.heap.size := (Array.getElem?_eq_some_iff.1 k5).1
    have H5 := Hid.mk (And.intro gr5 (And.intro b5 m5))
    clear k5 b5 gr5 t5 m5 v0 v1 v2 n0 hne
    go_upto_region 8 with (first | (at_mapUpdate; refine wp_put _ rfl _ _ _ 70 97 rfl Try.underlying70 H5.out.2.1.mp H.out.2.2.2.2.1 S (cS (xq, xs, g2)) _ rfl rfl rfl hS (elS_mk H.out.2.2.2.2.2) ?_; intro w6 m6 t6))
    go_frame
    go_wp2_with fail
    go_ret
    have hgb : g2 ≠ b := by have := H.out.1.lt; have := HD.out.2.2.1; omega
    refine ⟨rfl, ⟨_, H5.out.2.1.turn (x := ⟨xi, xq, xs, xp⟩) (x' := ⟨xi, xq, xs, mdel xp P⟩) H.out.2.1.inv.up H.out.2.2.1.1 rfl (g := g2) ?_ (H5.out.2.2.kept t6 hgb) hgb (fun y hy => t6.grown.block _ (H5.out.2.1.pg y hy).lt (by simpa using H5.out.2.1.ne y hy))⟩, ?_⟩
    · rw [show (⟨xi, xq, xs, xp⟩ : Asp).id = S from H.out.2.2.1.2]
      exact m6
    · have g5 := H5.out.1
      exact ⟨t6.grown.os.trans g5.os, t6.grown.tape.trans g5.tape, t6.grown.output.trans g5.output, Nat.le_trans g5.size t6.grown.size, fun i hi hn => (t6.grown.block i (Nat.lt_of_lt_of_le hi g5.size) hn).trans (g5.block i hi (by simp))⟩
set_option maxRecDepth 20000 in
theorem double_any {L n w b l f} (h : SpsAt L w b l f) (hi : InvM n l) {S T : Int} (hT : K64 T) {x : Asp} (hg : gA l S = some x) :
    Calls Try.prog 46 #[.map (some b), .agg #[.int .i64 x.q, .bool x.sl, .map (some (f S))], .int .i64 T] w (ChD L b (dblA (abl l) S T) w) := by
  have hx := gA_some hg
  unfold dblA
  simp only [abl, hg]
  cases hgT : gA l T with
  | some y =>
    have q := (h.alloc (.cells #[.int .i64 x.q, .bool x.sl, .map (some (f S))] 97)).look hi true hT hgT
    simp only [if_true] at q
    have H := Hid.mk h
    clear h
    generalize f S = g at *
    generalize f T = g' at *
    obtain ⟨xi, xq, xs, xp⟩ := x
    obtain ⟨yi, yq, ys, yp⟩ := y
    simp only at q
    go_enter Try.func46, Try.ntmps46
    go_wp2
    go_ret
    exact ChD.same H.out (((Below.refl _ w).alloc (Nat.le_refl _) _).alloc (by rw [size_alloc]; omega) _) 80
  | none =>
    have q := (h.alloc (.cells #[.int .i64 x.q, .bool x.sl, .map (some (f S))] 97)).lookNo true hT hgT
    simp only [if_true] at q
    have hlen2 : (spm f l).length < 1000000 := by rw [spm_len]; have := hi.inv.len; simp only at this; omega
    have hq := hi.q hx.1
    have H := Hid.mk (And.intro h (And.intro hi (And.intro hx (And.intro hgT (And.intro hlen2 hq)))))
    clear h hi hlen2 hx hq hg hgT
    generalize hfS : f S = g at *
    have HF := Hid.mk hfS
    clear hfS
    obtain ⟨xi, xq, xs, xp⟩ := x
    simp only at *
    go_enter Try.func46, Try.ntmps46
    go_upto_region 5 with fail
    have B2 : Below w.heap.size w ((w.alloc (.cells #[.int .i64 xq, .bool false, .map (some g)] 97)).alloc (.cells #[.int .i64 0, .bool false, .map none] 97)) := ((Below.refl _ w).alloc (Nat.le_refl _) _).alloc (by rw [size_alloc]; omega) _
    have y2 : ((w.alloc (.cells #[.int .i64 xq, .bool false, .map (some g)] 97)).alloc (.cells #[.int .i64 0, .bool false, .map none] 97)).heap[w.heap.size]? = some (.cells #[.int .i64 xq, .bool false, .map (some g)] 97 (0, 0)) := (Below.heap_alloc _ _ w.heap.size (by rw [size_alloc]; omega)).trans (heap_alloc_new w _)
    generalize ((w.alloc (.cells #[.int .i64 xq, .bool false, .map (some g)] 97)).alloc (.cells #[.int .i64 0, .bool false, .map none] 97)) = w2 at *
    have l2 : w.heap.size < w2.heap.size := (Array.getElem?_eq_some_iff.1 y2).1
    obtain ⟨u0, u1, u2⟩ := box97 y2
    have b2 := H.out.1.call B2
    have H2 := Hid.mk (And.intro B2 b2)
    clear B2 y2 b2 q
    go_upto_region 6 with (first | (at_mapUpdate; refine wp_put _ rfl _ _ _ 70 97 rfl Try.underlying70 H2.out.2.mp H.out.2.2.2.2.1 T (cS (xq, false, g)) _ rfl rfl rfl hT (elS_mk H.out.2.2.2.2.2) ?_; intro w6 m6 t6))
    go_frame
    go_wp2_with fail
    go_ret
    have hM := H2.out.2.pg _ H.out.2.2.1.1
    have hne := H2.out.2.ne _ H.out.2.2.1.1
    rw [show (⟨xi, xq, xs, xp⟩ : Asp).id = S from H.out.2.2.1.2, HF.out] at hM hne
    exact ⟨rfl, ⟨_, H2.out.2.lay (x := ⟨T, xq, false, xp⟩) H.out.2.2.2.1 (g := g) m6 (hM.kept t6 hne) hne (fun y hy => t6.grown.block _ (H2.out.2.pg y hy).lt (by simpa using H2.out.2.ne y hy))⟩, grown_trans (grown_of_below H2.out.1 _) t6.grown⟩
/-- what a record that may be makes of spaces -/
theorem apA_kind {l : List Asp} {K S P A T N : Int} (hm : mayB K S P A T N = true) :
    (K = 2 → apA (abl l) K S P A T N = trimA (abl l) S P) ∧ (K = 6 → apA (abl l) K S P A T N = dblA (abl l) S T) ∧
    (K = 4 → apA (abl l) K S P A T N = match gA l S with | some _ => (abl l, 80) | none => (abl (iA ⟨S, N, false, []⟩ l), 0)) ∧
    (K = 5 → apA (abl l) K S P A T N = match gA l S with | none => (abl l, 80) | some _ => (abl (dA l S), 0)) ∧
    (K = 7 → apA (abl l) K S P A T N = match gA l S with | none => (abl l, 80) | some x => (abl (sA l { x with sl := true }), 0)) := by
  unfold apA trimA dblA
  rw [if_neg (by rw [hm]; simp)]
  refine ⟨?_, ?_, ?_, ?_, ?_⟩ <;> (rintro rfl; simp only [Int.reduceEq, if_false, if_true]; rfl)
end Go.Proofs.Ytacgemibaojbaaa
