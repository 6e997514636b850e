/-
  An action of the model: the walk of act. No condition.
-/
import Derived.Test.YtkfkepjegdaadaaMd
namespace Go.Proofs.Ytkfkepjegdaadaa
open Go Go.RowKit

theorem results_c2t2 {fn : Func} {p q u v : Tmp} (h : fn.results = #[.cell p 39, .cell q 57, .tmp u, .tmp v]) {tmps : Array Value} {w : World} {g k : Nat} {A B : Array Value} (hp : tmps.getD p undef = .pointer (some ⟨g, 0, none⟩)) (hq : tmps.getD q undef = .pointer (some ⟨k, 0, none⟩))
    (hA : w.heap[g]? = some (.cells A 39 (0, 0))) (hsA : A.size = 12) (hB : w.heap[k]? = some (.cells B 57 (0, 0))) (hsB : B.size = 3) :
    (results fn tmps).run Try.prog w = .ok (.tuple #[.agg A, .agg B, tmps.getD u undef, tmps.getD v undef]) w := by
  have hp' : tmps[p]?.getD undef = .pointer (some ⟨g, 0, none⟩) := by simpa using hp
  have hq' : tmps[q]?.getD undef = .pointer (some ⟨k, 0, none⟩) := by simpa using hq
  simp [results, h, hp', hq', asAddr, lv39 hA hsA, lv57 hB hsB]
/-- what act answers -/
def actC (C : Ch) : Ch := { C with did := C.did + 1, off := C.off || (C.cuts (C.did + 1)).isSome }
def actV (X : Mx) (C : Ch) : Value := .tuple #[.agg (mdA X (actC C)), (cutF C.cuts (C.did + 1)).getD cut0, .bool (C.cuts (C.did + 1)).isSome, .bool (C.fails (C.did + 1))]
/-- the blocks of the call -/
structure AcW (w0 : World) (X : Mx) (C : Ch) (w : World) : Prop where
  below : Below w0.heap.size w0 w
  own : MdAt w w0.heap.size X C
  res : w.heap[w0.heap.size + 1]? = some (.cells #[.int .i64 0, .int .i64 0, .int .i64 0, .slice none 0 0, .slice none 0 0, .slice none 0 0, .slice none 0 0, .slice none 0 0, .slice none 0 0, .slice none 0 0, .int .i64 0, .bool false] 39 (0, 0))
  cut : w.heap[w0.heap.size + 1 + 1]? = some (.cells #[.int .i64 0, .int .i64 0, .int .u8 0] 57 (0, 0))
theorem AcW.drew {w0 : World} {X C} {w : World} (h : AcW w0 X C w) : AcW w0 X C w.drew := ⟨h.below.drew, h.own, h.res, h.cut⟩
theorem AcW.start (w : World) (X : Mx) (C : Ch) : AcW w X C (((w.alloc (.cells (mdA X C) 39)).alloc (.cells #[.int .i64 0, .int .i64 0, .int .i64 0, .slice none 0 0, .slice none 0 0, .slice none 0 0, .slice none 0 0, .slice none 0 0, .slice none 0 0, .slice none 0 0, .int .i64 0, .bool false] 39)).alloc (.cells #[.int .i64 0, .int .i64 0, .int .u8 0] 57)) := by
  have h1 := heap_alloc_new w (.cells (mdA X C) 39)
  have h2 := heap_alloc_new (w.alloc (.cells (mdA X C) 39)) (.cells #[.int .i64 0, .int .i64 0, .int .i64 0, .slice none 0 0, .slice none 0 0, .slice none 0 0, .slice none 0 0, .slice none 0 0, .slice none 0 0, .slice none 0 0, .int .i64 0, .bool false] 39)
  have h3 := heap_alloc_new ((w.alloc (.cells (mdA X C) 39)).alloc (.cells #[.int .i64 0, .int .i64 0, .int .i64 0, .slice none 0 0, .slice none 0 0, .slice none 0 0, .slice none 0 0, .slice none 0 0, .slice none 0 0, .slice none 0 0, .int .i64 0, .bool false] 39)) (.cells #[.int .i64 0, .int .i64 0, .int .u8 0] 57)
  rw [size_alloc] at h2
  rw [size_alloc, size_alloc] at h3
  exact ⟨(below_two w _ _).alloc (by rw [size_alloc, size_alloc]; omega) _, (Below.heap_alloc _ _ _ (by rw [size_alloc, size_alloc]; omega)).trans ((Below.heap_alloc _ _ _ (by rw [size_alloc]; omega)).trans h1), (Below.heap_alloc _ _ _ (by rw [size_alloc, size_alloc]; omega)).trans h2, h3⟩
theorem AcW.did {w0 : World} {X C} {w : World} (h : AcW w0 X C w) : AcW w0 X { C with did := C.did + 1 } (w.setCell ⟨w0.heap.size, 10, none⟩ (.int .i64 (C.did + 1))) :=
  ⟨h.below.setCell (Nat.le_refl _) _, heap_setCell_same w w0.heap.size 10 _ 39 _ h.own, (Below.heap_setCell w _ _ _ (by show w0.heap.size + 1 ≠ w0.heap.size; omega)).trans h.res, (Below.heap_setCell w _ _ _ (by show w0.heap.size + 1 + 1 ≠ w0.heap.size; omega)).trans h.cut⟩
theorem AcW.offs {w0 : World} {X C} {w : World} (h : AcW w0 X C w) : AcW w0 X { C with off := true } (w.setCell ⟨w0.heap.size, 11, none⟩ (.bool true)) :=
  ⟨h.below.setCell (Nat.le_refl _) _, heap_setCell_same w w0.heap.size 11 _ 39 _ h.own, (Below.heap_setCell w _ _ _ (by show w0.heap.size + 1 ≠ w0.heap.size; omega)).trans h.res, (Below.heap_setCell w _ _ _ (by show w0.heap.size + 1 + 1 ≠ w0.heap.size; omega)).trans h.cut⟩
theorem failsOf_step {l : List Int} {k : Nat} (hk : k < l.length) (i : Int) : failsOf (l.take (k + 1)) i = (failsOf (l.take k) i || decide (l.getD k 0 = i)) := by
  have e1 : l.take (k + 1) = l.take k ++ [l.getD k 0] := by
    rw [List.take_add_one, List.getElem?_eq_getElem hk]
    simp [List.getD_eq_getElem?_getD, hk]
  rw [e1]
  generalize l.getD k 0 = x at *
  unfold failsOf
  by_cases hj : i = x
  · simp [hj]
  · have h2 : ¬ x = i := fun e => hj e.symm
    simp [hj, h2]
theorem cutsOf_step {l : List (Int × Int × Int)} {k : Nat} (hk : k < l.length) (i : Int) (h : cutsOf (l.take k) i = none) : if (l.getD k (0, 0, 0)).1 = i then cutsOf l i = some (l.getD k (0, 0, 0)).2 else cutsOf (l.take (k + 1)) i = none ∧ True := by
  have e1 : l.take (k + 1) = l.take k ++ [l.getD k (0, 0, 0)] := by
    rw [List.take_add_one, List.getElem?_eq_getElem hk]
    simp [List.getD_eq_getElem?_getD, hk]
  have e2 : l = l.take k ++ l.getD k (0, 0, 0) :: l.drop (k + 1) := by
    have h1 : l.getD k (0, 0, 0) = l[k] := by simp [List.getD_eq_getElem?_getD, hk]
    rw [h1, ← List.drop_eq_getElem_cons hk, List.take_append_drop]
  have hn : (l.take k).find? (fun x => decide (x.1 = i)) = none := by
    unfold cutsOf at h
    simpa using h
  generalize l.getD k (0, 0, 0) = x at *
  split
  · rename_i hx
    unfold cutsOf
    rw [e2, List.find?_append, hn]
    simp [hx]
  · rename_i hx
    unfold cutsOf
    rw [e1, List.find?_append, hn]
    simp [hx]
set_option maxHeartbeats 1000000 in
theorem act_any {w : World} {S X C} (h : Md w S X C) : Calls Try.prog 31 #[.agg (mdA X C)] w fun e w' => e = .returned (actV X C) ∧ Below w.heap.size w w' := by
  have hd := h.didr
  have HM := Hid.mk h
  have hn8 := h.len.1
  have hm8 := h.len.2
  generalize hV : actV X C = V
  have HV := Hid.mk hV
  clear hV h
  go_enter Try.func31, Try.ntmps31
  go_upto_region 1 with fail
  have hA0 := AcW.start w X C
  generalize ((w.alloc (.cells (mdA X C) 39)).alloc (.cells #[.int .i64 0, .int .i64 0, .int .i64 0, .slice none 0 0, .slice none 0 0, .slice none 0 0, .slice none 0 0, .slice none 0 0, .slice none 0 0, .slice none 0 0, .int .i64 0, .bool false] 39)).alloc (.cells #[.int .i64 0, .int .i64 0, .int .u8 0] 57) = W0 at *
  have hl : w.heap.size < W0.heap.size := hA0.own.lt
  have HA0 := Hid.mk hA0
  obtain ⟨_, _, _, c3, c4, _, _, _, _, _, c10, c11⟩ := hA0.own.cells
  have f10 := hA0.own.frozen 10
  clear hA0
  go_upto_region 4 with fail
  have hA1 := HA0.out.did
  generalize W0.setCell ⟨w.heap.size, 10, none⟩ (.int .i64 (C.did + 1)) = W1 at *
  have HA1 := Hid.mk hA1
  clear hA1 HA0 c3 c4 c10 c11 f10 hl
  obtain ⟨C1, hC1⟩ : ∃ C1 : Ch, C1 = { C with did := C.did + 1 } := ⟨_, rfl⟩
  rw [← hC1] at HA1
  have HC1 := Hid.mk hC1
  have hd1 : C1.did = C.did + 1 := by rw [hC1]
  clear hC1
  go_loopw [6, 7] (fun f i wr => ∃ k : Nat, k ≤ X.fl.length ∧ i = .int .i64 k ∧ f = .bool (failsOf (X.fl.take k) (C.did + 1)) ∧ AcW w X C1 wr) (fun _ i _ => X.fl.length - (intOf i).toNat)
  case atStart => exact ⟨0, Nat.zero_le _, rfl, rfl, HA1.out⟩
  case round =>
    obtain ⟨k, hk, rfl, rfl, hA⟩ := hrel
    clear HA1
    obtain ⟨_, _, _, c3, c4, _, _, _, _, _, c10, c11⟩ := hA.own.cells
    rw [hd1] at c10
    have HA := Hid.mk hA
    clear hA
    by_cases hkm : k < X.fl.length
    · have hk1 : (k : Int) < X.fl.length := by omega
      obtain ⟨g, o, ha, hg, hgs, d0⟩ := HM.out.fail k hkm
      have d1 : wr.cell? ⟨g, o + k, none⟩ = some (.int .i64 (X.fl.getD k 0)) := (HA.out.below.cell (p := ⟨g, o + k, none⟩) hg).trans d0
      rw [ha] at c4
      have et : failsOf (X.fl.take (k + 1)) (C.did + 1) = (failsOf (X.fl.take k) (C.did + 1) || decide (X.fl.getD k 0 = C.did + 1)) := failsOf_step hkm _
      generalize X.fl.getD k 0 = x at *
      have HT := Hid.mk et
      clear et d0 hg hgs ha
      cases hb : failsOf (X.fl.take k) (C.did + 1)
      · by_cases hx : x = C.did + 1
        · go_upto_region 6 with fail
          go_region
          go_wp2_with fail
          refine ⟨⟨k + 1, by omega, by go_num, ?_, HA.out.drew⟩, by simp [intOf]; omega⟩
          rw [HT.out, hb]
          simp [hx]
        · go_upto_region 6 with fail
          go_region
          go_wp2_with fail
          refine ⟨⟨k + 1, by omega, by go_num, ?_, HA.out.drew⟩, by simp [intOf]; omega⟩
          rw [HT.out, hb]
          simp [hx]
      · go_upto_region 6 with fail
        go_region
        go_wp2_with fail
        refine ⟨⟨k + 1, by omega, by go_num, ?_, HA.out.drew⟩, by simp [intOf]; omega⟩
        rw [HT.out, hb]
        rfl
    · have hk1 : ¬ (k : Int) < X.fl.length := by omega
      have hk2 : k = X.fl.length := by omega
      have ef : failsOf (X.fl.take k) (C.did + 1) = C.fails (C.did + 1) := by rw [hk2, List.take_length, HM.out.efail]
      rw [ef]
      generalize hF : C.fails (C.did + 1) = F
      have HF := Hid.mk hF
      clear ef hF
      go_upto_region 8 with fail
      clear c3 c4 c10 c11
      go_loopw [8] (fun i wr => ∃ j : Nat, j ≤ X.cl.length ∧ i = .int .i64 j ∧ cutsOf (X.cl.take j) (C.did + 1) = none ∧ AcW w X C1 wr) (fun i _ => X.cl.length - (intOf i).toNat)
      case atStart => exact ⟨0, Nat.zero_le _, rfl, rfl, HA.out⟩
      case round =>
        obtain ⟨j, hj, rfl, hno, hA⟩ := hrel
        clear HA
        obtain ⟨_, _, _, c3, c4, _, _, _, _, _, c10, c11⟩ := hA.own.cells
        rw [hd1] at c10
        have HA := Hid.mk hA
        have HO := Hid.mk hno
        clear hA hno
        by_cases hjn : j < X.cl.length
        · have hj1 : (j : Int) < X.cl.length := by omega
          obtain ⟨g, o, ha, hg, hgs, e0, e1, e2⟩ := HM.out.cut j hjn
          have d0 := (HA.out.below.cell (p := ⟨g, o + j * 3, none⟩) hg).trans e0
          have d1 := (HA.out.below.cell (p := ⟨g, o + j * 3 + 1, none⟩) hg).trans e1
          have d2 := (HA.out.below.cell (p := ⟨g, o + j * 3 + 2, none⟩) hg).trans e2
          rw [ha] at c3
          have est := cutsOf_step hjn (C.did + 1) HO.out
          obtain ⟨x0, hx0⟩ : ∃ x, (X.cl.getD j (0, 0, 0)).1 = x := ⟨_, rfl⟩
          obtain ⟨x1, hx1⟩ : ∃ x, (X.cl.getD j (0, 0, 0)).2.1 = x := ⟨_, rfl⟩
          obtain ⟨x2, hx2⟩ : ∃ x, (X.cl.getD j (0, 0, 0)).2.2 = x := ⟨_, rfl⟩
          rw [hx0] at d0 est
          rw [hx1] at d1
          rw [hx2] at d2
          have HX := Hid.mk (And.intro hx0 (And.intro hx1 (And.intro hx2 (And.intro est ha))))
          have lg : g < wr.heap.size := Nat.lt_of_lt_of_le hg HA.out.below.size
          have hgT : ¬ g = w.heap.size := by omega
          clear e0 e1 e2 hgs hx0 hx1 hx2 est ha
          by_cases hx : x0 = C.did + 1
          · have f11 := HA.out.own.frozen 11
            go_upto_region 10 with fail
            go_region
            go_upto_region 12 with fail
            have hB := (HA.out.offs).drew
            have k0 : (wr.setCell ⟨w.heap.size, 11, none⟩ (.bool true)).drew.cell? ⟨g, o + j * 3, none⟩ = some (.int .i64 x0) := (World.cell?_setCell_other _ _ _ _ (by intro e; exact hgT (congrArg Addr.block e).symm)).trans d0
            have k1 : (wr.setCell ⟨w.heap.size, 11, none⟩ (.bool true)).drew.cell? ⟨g, o + j * 3 + 1, none⟩ = some (.int .i64 x1) := (World.cell?_setCell_other _ _ _ _ (by intro e; exact hgT (congrArg Addr.block e).symm)).trans d1
            have k2 : (wr.setCell ⟨w.heap.size, 11, none⟩ (.bool true)).drew.cell? ⟨g, o + j * 3 + 2, none⟩ = some (.int .u8 x2) := (World.cell?_setCell_other _ _ _ _ (by intro e; exact hgT (congrArg Addr.block e).symm)).trans d2
            generalize (wr.setCell ⟨w.heap.size, 11, none⟩ (.bool true)).drew = W at *
            obtain ⟨C2, hC2⟩ : ∃ C2 : Ch, C2 = { C1 with off := true } := ⟨_, rfl⟩
            rw [← hC2] at hB
            have h3 : W.drew.cell? ⟨w.heap.size, 3, none⟩ = some (.slice (some ⟨g, o, none⟩) X.cl.length X.cc) := by
              have := hB.own.cells.2.2.2.1
              rw [HX.out.2.2.2.2] at this
              exact this
            obtain ⟨p0, p1, p2, p3, p4, p5, p6, p7, p8, p9, p10, p11⟩ := hB.own.cells
            obtain ⟨q0, q1, q2, q3, q4, q5, q6, q7, q8, q9, q10, q11, qf⟩ := z39_cells hB.res
            obtain ⟨s0, s1, s2, sf⟩ := z57_cells hB.cut
            have HB := Hid.mk hB
            have HC2 := Hid.mk hC2
            have eca := HX.out.2.2.2.2
            rw [eca] at p3
            clear hB hC2 d0 d1 d2 c3 c4 c10 c11 f11 h3
            go_region
            rw [← eca]
            have P1 := putMd HB.out.res X C2
            have P2 := putCut ((P1.other _ (by omega)).trans HB.out.cut) (.int .i64 (C.did + 1)) (.int .i64 x1) (.int .u8 x2)
            have hbl := P2.below (P1.below HB.out.below (by omega)) (by omega)
            have hh1 := (P2.other (w.heap.size + 1) (by omega)).trans P1.here
            have hcu : C.cuts (C.did + 1) = some (x1, x2) := by
              have := HX.out.2.2.2.1
              rw [if_pos hx] at this
              rw [HM.out.ecut, this, ← HX.out.2.1, ← HX.out.2.2.1]
            have hv : V = .tuple #[.agg (mdA X C2), .agg #[.int .i64 (C.did + 1), .int .i64 x1, .int .u8 x2], .bool true, .bool F] := by
              rw [← HV.out]
              unfold actV actC cutF
              rw [hcu, HC2.out, HC1.out, HF.out]
              simp only [Option.isSome_some, Bool.or_true]
              rfl
            have HP := Hid.mk (And.intro hbl (And.intro hh1 (And.intro P2.here hv)))
            clear hbl hh1 P1 P2 hv hcu
            have eW : (((((((((((((((W.setCell ⟨w.heap.size + 1, 0, none⟩ (.int .i64 C2.B)).setCell ⟨w.heap.size + 1, 1, none⟩ (.int .i64 C2.P)).setCell ⟨w.heap.size + 1, 2, none⟩ (.int .i64 C2.Z)).setCell ⟨w.heap.size + 1, 3, none⟩ (.slice X.ca X.cl.length X.cc)).setCell ⟨w.heap.size + 1, 4, none⟩ (.slice X.fa X.fl.length X.fc)).setCell ⟨w.heap.size + 1, 5, none⟩ (.slice X.ba X.bn X.bc)).setCell ⟨w.heap.size + 1, 6, none⟩ (.slice (some ⟨X.gp, 0, none⟩) (C2.B * C2.P) X.cp)).setCell ⟨w.heap.size + 1, 7, none⟩ (.slice (some ⟨X.gw, 0, none⟩) C2.B X.cw)).setCell ⟨w.heap.size + 1, 8, none⟩ (.slice (some ⟨X.gd, 0, none⟩) C2.B X.cd)).setCell ⟨w.heap.size + 1, 9, none⟩ (.slice (some ⟨X.gm, 0, none⟩) C2.B X.cm)).setCell ⟨w.heap.size + 1, 10, none⟩ (.int .i64 C2.did)).setCell ⟨w.heap.size + 1, 11, none⟩ (.bool C2.off)).setCell ⟨w.heap.size + 1 + 1, 0, none⟩ (.int .i64 (C.did + 1))).setCell ⟨w.heap.size + 1 + 1, 1, none⟩ (.int .i64 x1)).setCell ⟨w.heap.size + 1 + 1, 2, none⟩ (.int .u8 x2)) = set3 (setMd W (w.heap.size + 1) X C2) (w.heap.size + 1 + 1) (.int .i64 (C.did + 1)) (.int .i64 x1) (.int .u8 x2) := rfl
            rw [eW]
            clear eW
            generalize set3 (setMd W (w.heap.size + 1) X C2) (w.heap.size + 1 + 1) (.int .i64 (C.did + 1)) (.int .i64 x1) (.int .u8 x2) = W9 at *
            go_wp2_with fail
            exact bodyPost_ret (results_c2t2 rfl rfl rfl HP.out.2.1 rfl HP.out.2.2.1 rfl) rfl ⟨by rw [HP.out.2.2.2]; rfl, HP.out.1.drew⟩
          · go_upto_region 10 with fail
            go_region
            go_wp2_with fail
            refine ⟨⟨j + 1, by omega, by go_num, ?_, HA.out.drew⟩, by simp [intOf]; omega⟩
            have := HX.out.2.2.2.1
            rw [if_neg hx] at this
            exact this.1
        · have hj1 : ¬ (j : Int) < X.cl.length := by omega
          have hj2 : j = X.cl.length := by omega
          have hcu : C.cuts (C.did + 1) = none := by
            have := HO.out
            rw [hj2, List.take_length] at this
            rw [HM.out.ecut, this]
          obtain ⟨p0, p1, p2, p3, p4, p5, p6, p7, p8, p9, p10, p11⟩ := HA.out.own.cells
          obtain ⟨q0, q1, q2, q3, q4, q5, q6, q7, q8, q9, q10, q11, qf⟩ := z39_cells HA.out.res
          obtain ⟨s0, s1, s2, sf⟩ := z57_cells HA.out.cut
          have P1 := putMd HA.out.res X C1
          have P2 := putCut ((P1.other _ (by omega)).trans HA.out.cut) (.int .i64 0) (.int .i64 0) (.int .u8 0)
          have hbl := P2.below (P1.below HA.out.below (by omega)) (by omega)
          have hh1 := (P2.other (w.heap.size + 1) (by omega)).trans P1.here
          have hv : V = .tuple #[.agg (mdA X C1), .agg #[.int .i64 0, .int .i64 0, .int .u8 0], .bool false, .bool F] := by
            rw [← HV.out]
            unfold actV actC cutF
            rw [hcu, HC1.out, HF.out]
            simp only [Option.isSome_none, Bool.or_false]
            rfl
          have HP := Hid.mk (And.intro hbl (And.intro hh1 (And.intro P2.here hv)))
          clear hbl hh1 P1 P2 hv hcu c3 c4 c10 c11
          go_wp2_with fail
          rw [← hd1]
          have eW : (((((((((((((((wr.setCell ⟨w.heap.size + 1, 0, none⟩ (.int .i64 C1.B)).setCell ⟨w.heap.size + 1, 1, none⟩ (.int .i64 C1.P)).setCell ⟨w.heap.size + 1, 2, none⟩ (.int .i64 C1.Z)).setCell ⟨w.heap.size + 1, 3, none⟩ (.slice X.ca X.cl.length X.cc)).setCell ⟨w.heap.size + 1, 4, none⟩ (.slice X.fa X.fl.length X.fc)).setCell ⟨w.heap.size + 1, 5, none⟩ (.slice X.ba X.bn X.bc)).setCell ⟨w.heap.size + 1, 6, none⟩ (.slice (some ⟨X.gp, 0, none⟩) (C1.B * C1.P) X.cp)).setCell ⟨w.heap.size + 1, 7, none⟩ (.slice (some ⟨X.gw, 0, none⟩) C1.B X.cw)).setCell ⟨w.heap.size + 1, 8, none⟩ (.slice (some ⟨X.gd, 0, none⟩) C1.B X.cd)).setCell ⟨w.heap.size + 1, 9, none⟩ (.slice (some ⟨X.gm, 0, none⟩) C1.B X.cm)).setCell ⟨w.heap.size + 1, 10, none⟩ (.int .i64 C1.did)).setCell ⟨w.heap.size + 1, 11, none⟩ (.bool C1.off)).setCell ⟨w.heap.size + 1 + 1, 0, none⟩ (.int .i64 0)).setCell ⟨w.heap.size + 1 + 1, 1, none⟩ (.int .i64 0)).setCell ⟨w.heap.size + 1 + 1, 2, none⟩ (.int .u8 0)) = set3 (setMd wr (w.heap.size + 1) X C1) (w.heap.size + 1 + 1) (.int .i64 0) (.int .i64 0) (.int .u8 0) := rfl
          rw [eW]
          clear eW
          generalize set3 (setMd wr (w.heap.size + 1) X C1) (w.heap.size + 1 + 1) (.int .i64 0) (.int .i64 0) (.int .u8 0) = W9 at *
          exact bodyPost_ret (results_c2t2 rfl rfl rfl HP.out.2.1 rfl HP.out.2.2.1 rfl) rfl ⟨by rw [HP.out.2.2.2]; rfl, HP.out.1⟩
end Go.Proofs.Ytkfkepjegdaadaa
