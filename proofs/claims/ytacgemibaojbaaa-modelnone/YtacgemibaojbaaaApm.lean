/-
  What a record makes of spaces: the walks of apply. No condition.
-/
import Derived.Test.YtacgemibaojbaaaTrm
namespace Go.Proofs.Ytacgemibaojbaaa
open Go Go.RowKit Go.Maps

theorem box41 {w : World} {g : Nat} {K S P A T N : Int} (h : w.heap[g]? = some (.cells #[.int .i64 K, .int .i64 S, .int .i64 P, .int .i64 A, .int .i64 T, .int .i64 N] 41 (0, 0))) : w.cell? ⟨g, 0, none⟩ = some (.int .i64 K) ∧ w.cell? ⟨g, 1, none⟩ = some (.int .i64 S) ∧ w.cell? ⟨g, 2, none⟩ = some (.int .i64 P) ∧ w.cell? ⟨g, 4, none⟩ = some (.int .i64 T) ∧ w.cell? ⟨g, 5, none⟩ = some (.int .i64 N) := by
  refine ⟨?_, ?_, ?_, ?_, ?_⟩ <;> rw [cell_of_row w g _ _ 41 _ h] <;> rfl
theorem ChD.pre {L b r a w e c} (h : Below a.heap.size a w) (k : ChD L b r w e c) : ChD L b r a e c := ⟨k.1, k.2.1, grown_trans (grown_of_below h _) k.2.2⟩
/-- two blocks more: a record at G, a space's struct behind it -/
structure TwS (w : World) (K S P A T N q : Int) (s : Bool) (v : Value) (w2 : World) : Prop where
  bel : Below w.heap.size w w2
  rc : w2.heap[w.heap.size]? = some (.cells #[.int .i64 K, .int .i64 S, .int .i64 P, .int .i64 A, .int .i64 T, .int .i64 N] 41 (0, 0))
  sp : w2.heap[w.heap.size + 1]? = some (.cells #[.int .i64 q, .bool s, v] 97 (0, 0))
theorem TwS.mk' (w : World) (K S P A T N q : Int) (s : Bool) (v : Value) : TwS w K S P A T N q s v ((w.alloc (.cells #[.int .i64 K, .int .i64 S, .int .i64 P, .int .i64 A, .int .i64 T, .int .i64 N] 41)).alloc (.cells #[.int .i64 q, .bool s, v] 97)) := by
  refine ⟨((Below.refl _ w).alloc (Nat.le_refl _) _).alloc (by rw [size_alloc]; omega) _, (Below.heap_alloc _ _ w.heap.size (by rw [size_alloc]; omega)).trans (heap_alloc_new w _), ?_⟩
  have z := heap_alloc_new (w.alloc (.cells #[.int .i64 K, .int .i64 S, .int .i64 P, .int .i64 A, .int .i64 T, .int .i64 N] 41)) (.cells #[.int .i64 q, .bool s, v] 97)
  rw [size_alloc] at z
  exact z
theorem TwS.lt {w K S P A T N q s v w2} (h : TwS w K S P A T N q s v w2) : w.heap.size + 1 < w2.heap.size := (Array.getElem?_eq_some_iff.1 h.sp).1
theorem apA_2 {l : List Asp} {S P A T N : Int} (hm : mayB 2 S P A T N = true) : apA (abl l) 2 S P A T N = trimA (abl l) S P := (apA_kind hm).1 rfl
theorem apA_6 {l : List Asp} {S P A T N : Int} (hm : mayB 6 S P A T N = true) : apA (abl l) 6 S P A T N = dblA (abl l) S T := (apA_kind hm).2.1 rfl
theorem apA_4 {l : List Asp} {S P A T N : Int} (hm : mayB 4 S P A T N = true) : apA (abl l) 4 S P A T N = match gA l S with | some _ => (abl l, 80) | none => (abl (iA ⟨S, N, false, []⟩ l), 0) := (apA_kind hm).2.2.1 rfl
theorem apA_5 {l : List Asp} {S P A T N : Int} (hm : mayB 5 S P A T N = true) : apA (abl l) 5 S P A T N = match gA l S with | none => (abl l, 80) | some _ => (abl (dA l S), 0) := (apA_kind hm).2.2.2.1 rfl
theorem apA_7 {l : List Asp} {S P A T N : Int} (hm : mayB 7 S P A T N = true) : apA (abl l) 7 S P A T N = match gA l S with | none => (abl l, 80) | some x => (abl (sA l { x with sl := true }), 0) := (apA_kind hm).2.2.2.2 rfl
set_option maxRecDepth 20000 in
theorem apply_2 {L n w b l f} (h : SpsAt L w b l f) (hi : InvM n l) {S P A T N : Int} (hm : mayB 2 S P A T N = true) :
    Calls Try.prog 30 #[.map (some b), .agg #[.int .i64 2, .int .i64 S, .int .i64 P, .int .i64 A, .int .i64 T, .int .i64 N]] w (ChD L b (apA (abl l) 2 S P A T N) w) := by
  have hmr := mayB_iff.1 hm
  have hS : K64 S := k64 (by unfold mayR at hmr; omega) (by unfold mayR at hmr; omega)
  have hb1 := below_box w (.cells #[.int .i64 2, .int .i64 S, .int .i64 P, .int .i64 A, .int .i64 T, .int .i64 N] 41)
  have h1 := h.call hb1
  have hP : K64 P := k64 (by unfold mayR at hmr; omega) (by unfold mayR at hmr; omega)
  rw [apA_2 hm]
  cases hg : gA l S with
  | none =>
    have q := h1.lookNo true hS hg
    simp only [if_true] at q
    unfold trimA
    simp only [abl, hg]
    have H := Hid.mk h
    clear h h1 hb1 hmr hm
    go_enter Try.func30, Try.ntmps30
    go_wp2
    go_ret
    exact ChD.same H.out (((Below.refl _ w).alloc (Nat.le_refl _) _).alloc (by rw [size_alloc]; omega) _) 80
  | some x =>
    have q := h1.look hi true hS hg
    simp only [if_true] at q
    have hx := gA_some hg
    have hlen2 : (spm f l).length < 1000000 := by rw [spm_len]; have := hi.inv.len; simp only at this; omega
    have hq := hi.q hx.1
    have tw := TwS.mk' w 2 S P A T N x.q x.sl (.map (some (f S)))
    have H := Hid.mk (And.intro h (And.intro hi (And.intro hx (And.intro hg (And.intro hlen2 hq)))))
    clear h h1 hb1 hi hlen2 hx hq hg
    generalize hfS : f S = g at *
    have HF := Hid.mk hfS
    clear hfS
    obtain ⟨xi, xq, xs, xp⟩ := x
    simp only at *
    go_enter Try.func30, Try.ntmps30
    go_upto_region 6 with fail
    generalize ((w.alloc (.cells #[.int .i64 2, .int .i64 S, .int .i64 P, .int .i64 A, .int .i64 T, .int .i64 N] 41)).alloc (.cells #[.int .i64 xq, .bool xs, .map (some g)] 97)) = w2 at *
    obtain ⟨r0, r1, r2, r4, r5⟩ := box41 tw.rc
    obtain ⟨u0, u1, u2⟩ := box97 tw.sp
    have l2 := tw.lt
    have b2 := H.out.1.call tw.bel
    have HT := Hid.mk (And.intro tw b2)
    clear tw b2 q
    have ct := trim_any HT.out.2 H.out.2.1 hS hP H.out.2.2.2.1
    have CT := Hid.mk ct
    clear ct
    go_wp2_with (first | (go_at_call 45; refine CT.out.mono ?_; intro e w3 hd; obtain ⟨rfl, hd2⟩ := hd))
    go_ret
    exact ChD.pre HT.out.1.bel ⟨rfl, hd2⟩
set_option maxRecDepth 20000 in
theorem apply_6 {L n w b l f} (h : SpsAt L w b l f) (hi : InvM n l) {S P A T N : Int} (hm : mayB 6 S P A T N = true) :
    Calls Try.prog 30 #[.map (some b), .agg #[.int .i64 6, .int .i64 S, .int .i64 P, .int .i64 A, .int .i64 T, .int .i64 N]] w (ChD L b (apA (abl l) 6 S P A T N) w) := by
  have hmr := mayB_iff.1 hm
  have hS : K64 S := k64 (by unfold mayR at hmr; omega) (by unfold mayR at hmr; omega)
  have hb1 := below_box w (.cells #[.int .i64 6, .int .i64 S, .int .i64 P, .int .i64 A, .int .i64 T, .int .i64 N] 41)
  have h1 := h.call hb1
  have hT : K64 T := k64 (by unfold mayR at hmr; omega) (by unfold mayR at hmr; omega)
  rw [apA_6 hm]
  cases hg : gA l S with
  | none =>
    have q := h1.lookNo true hS hg
    simp only [if_true] at q
    unfold dblA
    simp only [abl, hg]
    have H := Hid.mk h
    clear h h1 hb1 hmr hm
    go_enter Try.func30, Try.ntmps30
    go_wp2
    go_ret
    exact ChD.same H.out (((Below.refl _ w).alloc (Nat.le_refl _) _).alloc (by rw [size_alloc]; omega) _) 80
  | some x =>
    have q := h1.look hi true hS hg
    simp only [if_true] at q
    have hx := gA_some hg
    have hlen2 : (spm f l).length < 1000000 := by rw [spm_len]; have := hi.inv.len; simp only at this; omega
    have hq := hi.q hx.1
    have tw := TwS.mk' w 6 S P A T N x.q x.sl (.map (some (f S)))
    have H := Hid.mk (And.intro h (And.intro hi (And.intro hx (And.intro hg (And.intro hlen2 hq)))))
    clear h h1 hb1 hi hlen2 hx hq hg
    generalize hfS : f S = g at *
    have HF := Hid.mk hfS
    clear hfS
    obtain ⟨xi, xq, xs, xp⟩ := x
    simp only at *
    go_enter Try.func30, Try.ntmps30
    go_upto_region 12 with fail
    generalize ((w.alloc (.cells #[.int .i64 6, .int .i64 S, .int .i64 P, .int .i64 A, .int .i64 T, .int .i64 N] 41)).alloc (.cells #[.int .i64 xq, .bool xs, .map (some g)] 97)) = w2 at *
    obtain ⟨r0, r1, r2, r4, r5⟩ := box41 tw.rc
    obtain ⟨u0, u1, u2⟩ := box97 tw.sp
    have l2 := tw.lt
    have b2 := H.out.1.call tw.bel
    have HT := Hid.mk (And.intro tw b2)
    clear tw b2 q
    have ct := double_any HT.out.2 H.out.2.1 hT H.out.2.2.2.1
    rw [HF.out] at ct
    simp only at ct
    have CT := Hid.mk ct
    clear ct
    go_wp2_with (first | (go_at_call 46; refine CT.out.mono ?_; intro e w3 hd; obtain ⟨rfl, hd2⟩ := hd))
    go_ret
    exact ChD.pre HT.out.1.bel ⟨rfl, hd2⟩
set_option maxRecDepth 20000 in
theorem apply_4 {L n w b l f} (h : SpsAt L w b l f) (hi : InvM n l) {S P A T N : Int} (hm : mayB 4 S P A T N = true) :
    Calls Try.prog 30 #[.map (some b), .agg #[.int .i64 4, .int .i64 S, .int .i64 P, .int .i64 A, .int .i64 T, .int .i64 N]] w (ChD L b (apA (abl l) 4 S P A T N) w) := by
  have hmr := mayB_iff.1 hm
  have hS : K64 S := k64 (by unfold mayR at hmr; omega) (by unfold mayR at hmr; omega)
  have hb1 := below_box w (.cells #[.int .i64 4, .int .i64 S, .int .i64 P, .int .i64 A, .int .i64 T, .int .i64 N] 41)
  have h1 := h.call hb1
  rw [apA_4 hm]
  cases hg : gA l S with
  | some x =>
    have q := h1.look hi true hS hg
    simp only [if_true] at q
    have H := Hid.mk h
    clear h h1 hb1 hmr hm
    generalize f S = g at *
    obtain ⟨xi, xq, xs, xp⟩ := x
    simp only at q
    go_enter Try.func30, Try.ntmps30
    go_wp2
    go_ret
    exact ChD.same H.out (((Below.refl _ w).alloc (Nat.le_refl _) _).alloc (by rw [size_alloc]; omega) _) 80
  | none =>
    have q := h1.lookNo true hS hg
    simp only [if_true] at q
    have hmm := @run_makeMap Try.prog
    have hlen2 : (spm f l).length < 1000000 := by rw [spm_len]; have := hi.inv.len; simp only at this; omega
    have hN : 0 ≤ N ∧ N < 2048 := by unfold mayR at hmr; omega
    have tw := TwS.mk' w 4 S P A T N 0 false (.map none)
    have H := Hid.mk (And.intro h (And.intro hi (And.intro hg (And.intro hlen2 hN))))
    clear h h1 hb1 hi hlen2 hg hN
    go_enter Try.func30, Try.ntmps30
    go_upto_region 8 with fail
    generalize ((w.alloc (.cells #[.int .i64 4, .int .i64 S, .int .i64 P, .int .i64 A, .int .i64 T, .int .i64 N] 41)).alloc (.cells #[.int .i64 0, .bool false, .map none] 97)) = w2 at *
    obtain ⟨r0, r1, r2, r4, r5⟩ := box41 tw.rc
    have l2 := tw.lt
    have b2 := (H.out.1.call tw.bel).alloc (.map #[] 0)
    have m2 := Mp.made w2 (elL L)
    have HT := Hid.mk (And.intro tw.bel (And.intro b2 m2))
    clear tw b2 q m2
    go_upto_region 16 with (first | (at_mapUpdate; refine wp_put _ rfl _ _ _ 70 97 rfl Try.underlying70 HT.out.2.1.mp H.out.2.2.2.1 S (cS (N, false, w2.heap.size)) _ rfl rfl rfl hS (elS_mk H.out.2.2.2.2) ?_; intro w6 m6 t6))
    go_frame
    go_wp2_with fail
    go_ret
    have hne : w2.heap.size ≠ b := by have := H.out.1.lt; have := HT.out.1.size; omega
    have bb := HT.out.1.alloc HT.out.1.size (.map #[] 0)
    exact ⟨rfl, ⟨_, HT.out.2.1.lay (x := ⟨S, N, false, []⟩) H.out.2.2.1 (g := w2.heap.size) m6 (HT.out.2.2.kept t6 hne) hne (fun y hy => t6.grown.block _ (HT.out.2.1.pg y hy).lt (by simpa using HT.out.2.1.ne y hy))⟩, grown_trans (grown_of_below bb _) t6.grown⟩
set_option maxRecDepth 20000 in
theorem apply_5 {L n w b l f} (h : SpsAt L w b l f) (hi : InvM n l) {S P A T N : Int} (hm : mayB 5 S P A T N = true) :
    Calls Try.prog 30 #[.map (some b), .agg #[.int .i64 5, .int .i64 S, .int .i64 P, .int .i64 A, .int .i64 T, .int .i64 N]] w (ChD L b (apA (abl l) 5 S P A T N) w) := by
  have hmr := mayB_iff.1 hm
  have hS : K64 S := k64 (by unfold mayR at hmr; omega) (by unfold mayR at hmr; omega)
  have hb1 := below_box w (.cells #[.int .i64 5, .int .i64 S, .int .i64 P, .int .i64 A, .int .i64 T, .int .i64 N] 41)
  have h1 := h.call hb1
  rw [apA_5 hm]
  cases hg : gA l S with
  | none =>
    have q := h1.lookNo true hS hg
    simp only [if_true] at q
    have H := Hid.mk h
    clear h h1 hb1 hmr hm
    go_enter Try.func30, Try.ntmps30
    go_wp2
    go_ret
    exact ChD.same H.out (((Below.refl _ w).alloc (Nat.le_refl _) _).alloc (by rw [size_alloc]; omega) _) 80
  | some x =>
    have q := h1.look hi true hS hg
    simp only [if_true] at q
    have hx := gA_some hg
    have hlen2 : (spm f l).length < 1000000 := by rw [spm_len]; have := hi.inv.len; simp only at this; omega
    have hq := hi.q hx.1
    have tw := TwS.mk' w 5 S P A T N x.q x.sl (.map (some (f S)))
    have H := Hid.mk (And.intro h (And.intro hi (And.intro hx (And.intro hg (And.intro hlen2 hq)))))
    clear h h1 hb1 hi hlen2 hx hq hg
    generalize hfS : f S = g at *
    have HF := Hid.mk hfS
    clear hfS
    obtain ⟨xi, xq, xs, xp⟩ := x
    simp only at *
    go_enter Try.func30, Try.ntmps30
    go_upto_region 10 with fail
    generalize ((w.alloc (.cells #[.int .i64 5, .int .i64 S, .int .i64 P, .int .i64 A, .int .i64 T, .int .i64 N] 41)).alloc (.cells #[.int .i64 xq, .bool xs, .map (some g)] 97)) = w2 at *
    obtain ⟨r0, r1, r2, r4, r5⟩ := box41 tw.rc
    obtain ⟨u0, u1, u2⟩ := box97 tw.sp
    have l2 := tw.lt
    have b2 := H.out.1.call tw.bel
    have HT := Hid.mk (And.intro tw b2)
    clear tw b2 q
    go_upto_region 16 with (first | (at_delete; refine wp_del _ rfl _ _ 70 97 rfl Try.underlying70 HT.out.2.mp S rfl rfl hS ?_; intro w6 m6 t6))
    go_frame
    go_wp2_with fail
    go_ret
    exact ⟨rfl, ⟨_, HT.out.2.drop S m6 (fun y hy => t6.grown.block _ (HT.out.2.pg y hy).lt (by simpa using HT.out.2.ne y hy))⟩, grown_trans (grown_of_below HT.out.1.bel _) t6.grown⟩
set_option maxRecDepth 20000 in
theorem apply_7 {L n w b l f} (h : SpsAt L w b l f) (hi : InvM n l) {S P A T N : Int} (hm : mayB 7 S P A T N = true) :
    Calls Try.prog 30 #[.map (some b), .agg #[.int .i64 7, .int .i64 S, .int .i64 P, .int .i64 A, .int .i64 T, .int .i64 N]] w (ChD L b (apA (abl l) 7 S P A T N) w) := by
  have hmr := mayB_iff.1 hm
  have hS : K64 S := k64 (by unfold mayR at hmr; omega) (by unfold mayR at hmr; omega)
  have hb1 := below_box w (.cells #[.int .i64 7, .int .i64 S, .int .i64 P, .int .i64 A, .int .i64 T, .int .i64 N] 41)
  have h1 := h.call hb1
  rw [apA_7 hm]
  cases hg : gA l S with
  | none =>
    have q := h1.lookNo true hS hg
    simp only [if_true] at q
    have H := Hid.mk h
    clear h h1 hb1 hmr hm
    go_enter Try.func30, Try.ntmps30
    go_wp2
    go_ret
    exact ChD.same H.out (((Below.refl _ w).alloc (Nat.le_refl _) _).alloc (by rw [size_alloc]; omega) _) 80
  | some x =>
    have q := h1.look hi true hS hg
    simp only [if_true] at q
    have hx := gA_some hg
    have hlen2 : (spm f l).length < 1000000 := by rw [spm_len]; have := hi.inv.len; simp only at this; omega
    have hq := hi.q hx.1
    have tw := TwS.mk' w 7 S P A T N x.q x.sl (.map (some (f S)))
    have H := Hid.mk (And.intro h (And.intro hi (And.intro hx (And.intro hg (And.intro hlen2 hq)))))
    clear h h1 hb1 hi hlen2 hx hq hg
    generalize hfS : f S = g at *
    have HF := Hid.mk hfS
    clear hfS
    obtain ⟨xi, xq, xs, xp⟩ := x
    simp only at *
    go_enter Try.func30, Try.ntmps30
    go_upto_region 14 with fail
    generalize ((w.alloc (.cells #[.int .i64 7, .int .i64 S, .int .i64 P, .int .i64 A, .int .i64 T, .int .i64 N] 41)).alloc (.cells #[.int .i64 xq, .bool xs, .map (some g)] 97)) = w2 at *
    obtain ⟨r0, r1, r2, r4, r5⟩ := box41 tw.rc
    obtain ⟨u0, u1, u2⟩ := box97 tw.sp
    have l2 := tw.lt
    have b2 := H.out.1.call tw.bel
    have HT := Hid.mk (And.intro tw b2)
    have fz := frozen_of_row w2 (w.heap.size + 1) 1 _ 97 tw.sp
    clear tw b2 q
    go_upto_region 15 with fail
    have D : Below w.heap.size w (w2.setCell ⟨w.heap.size + 1, 1, none⟩ (.bool true)) ∧ (w2.setCell ⟨w.heap.size + 1, 1, none⟩ (.bool true)).heap[w.heap.size + 1]? = some (.cells #[.int .i64 xq, .bool true, .map (some g)] 97 (0, 0)) ∧ (w2.setCell ⟨w.heap.size + 1, 1, none⟩ (.bool true)).heap[w.heap.size]? = w2.heap[w.heap.size]? :=
      ⟨HT.out.1.bel.setCell' (by show w.heap.size ≤ w.heap.size + 1; omega) _, heap_setCell_same w2 (w.heap.size + 1) 1 _ 97 _ HT.out.1.sp, heap_setCell_other w2 ⟨w.heap.size + 1, 1, none⟩ w.heap.size _ (by show w.heap.size ≠ w.heap.size + 1; omega)⟩
    generalize w2.setCell ⟨w.heap.size + 1, 1, none⟩ (.bool true) = w4 at *
    have e4 := D.2.2.trans HT.out.1.rc
    clear r0 r1 r2 r4 r5 u0 u1 u2 l2 fz
    obtain ⟨r0, r1, r2, r4, r5⟩ := box41 e4
    obtain ⟨u0, u1, u2⟩ := box97 D.2.1
    have l2 : w.heap.size + 1 < w4.heap.size := (Array.getElem?_eq_some_iff.1 D.2.1).1
    have b4 := H.out.1.call D.1
    have HD := Hid.mk (And.intro D.1 b4)
    clear D e4 b4
    go_upto_region 16 with (first | (at_mapUpdate; refine wp_put _ rfl _ _ _ 70 97 rfl Try.underlying70 HD.out.2.mp H.out.2.2.2.2.1 S (cS (xq, true, g)) _ rfl rfl rfl hS (elS_mk H.out.2.2.2.2.2) ?_; intro w6 m6 t6))
    go_frame
    go_wp2_with fail
    go_ret
    have hM := HD.out.2.pg _ H.out.2.2.1.1
    have hne := HD.out.2.ne _ H.out.2.2.1.1
    rw [show (⟨xi, xq, xs, xp⟩ : Asp).id = S from H.out.2.2.1.2, HF.out] at hM hne
    refine ⟨rfl, ⟨_, HD.out.2.turn (x := ⟨xi, xq, xs, xp⟩) (x' := ⟨xi, xq, true, xp⟩) H.out.2.1.inv.up H.out.2.2.1.1 rfl (g := g) ?_ (hM.kept t6 hne) hne (fun y hy => t6.grown.block _ (HD.out.2.pg y hy).lt (by simpa using HD.out.2.ne y hy))⟩, grown_trans (grown_of_below HD.out.1 _) t6.grown⟩
    rw [show (⟨xi, xq, xs, xp⟩ : Asp).id = S from H.out.2.2.1.2]
    exact m6
theorem apply_any {L n w b l f} (h : SpsAt L w b l f) (hi : InvM n l) {K S P A T N : Int} (hm : mayB K S P A T N = true) (hK : K = 2 ∨ K = 4 ∨ K = 5 ∨ K = 6 ∨ K = 7) :
    Calls Try.prog 30 #[.map (some b), rv K S P A T N] w (ChD L b (apA (abl l) K S P A T N) w) := by
  unfold rv
  rcases hK with rfl | rfl | rfl | rfl | rfl
  · exact apply_2 h hi hm
  · exact apply_4 h hi hm
  · exact apply_5 h hi hm
  · exact apply_6 h hi hm
  · exact apply_7 h hi hm
end Go.Proofs.Ytacgemibaojbaaa
