/-
  A block of the model, erased: the walk of erase where power fails, and all of it. No condition.
-/
import Derived.Test.YtkfkepjegdaadaaMe2
import Derived.Test.YtkfkepjegdaadaaMp5
import Derived.Deep.RegionHeld3
namespace Go.Proofs.Ytkfkepjegdaadaa
open Go Go.RowKit

theorem er_of {w w' : World} {N : Nat} {X C} {i0 k0 x0 : Int} (h1 : MdAt w' w.heap.size X C) (h2 : w'.heap[N + 1]? = some (.cells #[.int .i64 i0, .int .i64 k0, .int .u8 x0] 57 (0, 0))) : w'.cell? ⟨w.heap.size, 1, none⟩ = some (.int .i64 C.P) ∧ w'.cell? ⟨N + 1, 1, none⟩ = some (.int .i64 k0) ∧ w'.cell? ⟨N + 1, 2, none⟩ = some (.int .u8 x0) ∧ (MdAt w' w.heap.size X C ∧ w'.heap[N + 1]? = some (.cells #[.int .i64 i0, .int .i64 k0, .int .u8 x0] 57 (0, 0))) :=
  ⟨h1.cells.2.1, (z57_cells h2).2.1, (z57_cells h2).2.2.1, h1, h2⟩
theorem er_keep {w wx w2 : World} {N : Nat} {X C} {i0 k0 x0 : Int} (h : wx.cell? ⟨w.heap.size, 1, none⟩ = some (.int .i64 C.P) ∧ wx.cell? ⟨N + 1, 1, none⟩ = some (.int .i64 k0) ∧ wx.cell? ⟨N + 1, 2, none⟩ = some (.int .u8 x0) ∧ (MdAt wx w.heap.size X C ∧ wx.heap[N + 1]? = some (.cells #[.int .i64 i0, .int .i64 k0, .int .u8 x0] 57 (0, 0)))) (b : Below wx.heap.size wx w2) : w2.cell? ⟨w.heap.size, 1, none⟩ = some (.int .i64 C.P) ∧ w2.cell? ⟨N + 1, 1, none⟩ = some (.int .i64 k0) ∧ w2.cell? ⟨N + 1, 2, none⟩ = some (.int .u8 x0) ∧ (MdAt w2 w.heap.size X C ∧ w2.heap[N + 1]? = some (.cells #[.int .i64 i0, .int .i64 k0, .int .u8 x0] 57 (0, 0))) :=
  er_of (h.2.2.2.1.call b) ((b.block _ (Array.getElem?_eq_some_iff.1 h.2.2.2.2).1).trans h.2.2.2.2)
theorem er_store {w wx : World} {N : Nat} {X C} {i0 k0 x0 : Int} (hN : w.heap.size + 1 < N) (v0 v1 v2 v3 v4 v5 v6 v7 v8 v9 v10 v11 : Value) (h : wx.cell? ⟨w.heap.size, 1, none⟩ = some (.int .i64 C.P) ∧ wx.cell? ⟨N + 1, 1, none⟩ = some (.int .i64 k0) ∧ wx.cell? ⟨N + 1, 2, none⟩ = some (.int .u8 x0) ∧ (MdAt wx w.heap.size X C ∧ wx.heap[N + 1]? = some (.cells #[.int .i64 i0, .int .i64 k0, .int .u8 x0] 57 (0, 0)))) : ((((((((((((wx.setCell ⟨N, 0, none⟩ v0).setCell ⟨N, 1, none⟩ v1).setCell ⟨N, 2, none⟩ v2).setCell ⟨N, 3, none⟩ v3).setCell ⟨N, 4, none⟩ v4).setCell ⟨N, 5, none⟩ v5).setCell ⟨N, 6, none⟩ v6).setCell ⟨N, 7, none⟩ v7).setCell ⟨N, 8, none⟩ v8).setCell ⟨N, 9, none⟩ v9).setCell ⟨N, 10, none⟩ v10).setCell ⟨N, 11, none⟩ v11).cell? ⟨w.heap.size, 1, none⟩ = some (.int .i64 C.P) ∧ ((((((((((((wx.setCell ⟨N, 0, none⟩ v0).setCell ⟨N, 1, none⟩ v1).setCell ⟨N, 2, none⟩ v2).setCell ⟨N, 3, none⟩ v3).setCell ⟨N, 4, none⟩ v4).setCell ⟨N, 5, none⟩ v5).setCell ⟨N, 6, none⟩ v6).setCell ⟨N, 7, none⟩ v7).setCell ⟨N, 8, none⟩ v8).setCell ⟨N, 9, none⟩ v9).setCell ⟨N, 10, none⟩ v10).setCell ⟨N, 11, none⟩ v11).cell? ⟨N + 1, 1, none⟩ = some (.int .i64 k0) ∧ ((((((((((((wx.setCell ⟨N, 0, none⟩ v0).setCell ⟨N, 1, none⟩ v1).setCell ⟨N, 2, none⟩ v2).setCell ⟨N, 3, none⟩ v3).setCell ⟨N, 4, none⟩ v4).setCell ⟨N, 5, none⟩ v5).setCell ⟨N, 6, none⟩ v6).setCell ⟨N, 7, none⟩ v7).setCell ⟨N, 8, none⟩ v8).setCell ⟨N, 9, none⟩ v9).setCell ⟨N, 10, none⟩ v10).setCell ⟨N, 11, none⟩ v11).cell? ⟨N + 1, 2, none⟩ = some (.int .u8 x0) ∧ (MdAt ((((((((((((wx.setCell ⟨N, 0, none⟩ v0).setCell ⟨N, 1, none⟩ v1).setCell ⟨N, 2, none⟩ v2).setCell ⟨N, 3, none⟩ v3).setCell ⟨N, 4, none⟩ v4).setCell ⟨N, 5, none⟩ v5).setCell ⟨N, 6, none⟩ v6).setCell ⟨N, 7, none⟩ v7).setCell ⟨N, 8, none⟩ v8).setCell ⟨N, 9, none⟩ v9).setCell ⟨N, 10, none⟩ v10).setCell ⟨N, 11, none⟩ v11) w.heap.size X C ∧ ((((((((((((wx.setCell ⟨N, 0, none⟩ v0).setCell ⟨N, 1, none⟩ v1).setCell ⟨N, 2, none⟩ v2).setCell ⟨N, 3, none⟩ v3).setCell ⟨N, 4, none⟩ v4).setCell ⟨N, 5, none⟩ v5).setCell ⟨N, 6, none⟩ v6).setCell ⟨N, 7, none⟩ v7).setCell ⟨N, 8, none⟩ v8).setCell ⟨N, 9, none⟩ v9).setCell ⟨N, 10, none⟩ v10).setCell ⟨N, 11, none⟩ v11).heap[N + 1]? = some (.cells #[.int .i64 i0, .int .i64 k0, .int .u8 x0] 57 (0, 0))) := by
  refine er_of ?_ ?_
  · unfold MdAt
    iterate 12 rw [Below.heap_setCell _ _ _ _ (by show w.heap.size ≠ N; omega)]
    exact h.2.2.2.1
  · iterate 12 rw [Below.heap_setCell _ _ _ _ (by show N + 1 ≠ N; omega)]
    exact h.2.2.2.2
set_option maxRecDepth 100000 in
set_option maxHeartbeats 4000000 in
theorem erasem_cut {w : World} {S X C} (h : Md w S X C) (hS : ∀ i, S i → i < w.heap.size) (b : Nat) (hb : b < C.B) (hd9 : C.did < 999) (hw9 : ∀ i, C.worn i < 999) (k0 x0 : Int) (hc : C.cuts (C.did + 1) = some (k0, x0)) : Calls Try.prog 30 #[.agg (mdA X C), .int .i64 b] w fun e w' =>
    ∃ X', e = .returned (.tuple #[.agg (mdA X' { C with did := C.did + 1, worn := upd C.worn b (C.worn b + 1), off := true, pg := upd C.pg b (tornB C (C.pg b) k0 x0) }), .int .i64 51]) ∧ Md w' S X' { C with did := C.did + 1, worn := upd C.worn b (C.worn b + 1), off := true, pg := upd C.pg b (tornB C (C.pg b) k0 x0) } ∧ Below w.heap.size w w' ∧ Xn w X X' := by
  have HX0 := Hid.mk (h.cutRng hc)
  obtain ⟨CF, hCF⟩ : ∃ CF : Ch, CF = { C with did := C.did + 1, worn := upd C.worn b (C.worn b + 1), off := true, pg := upd C.pg b (tornB C (C.pg b) k0 x0) } := ⟨_, rfl⟩
  rw [← hCF]
  have HCF := Hid.mk hCF
  clear hCF
  obtain ⟨i0, IS, hcut, hIS⟩ : ∃ i0 : Int, ∃ IS : Bool, actV X C = .tuple #[.agg (mdA X (actC C)), .agg #[.int .i64 i0, .int .i64 k0, .int .u8 x0], .bool IS, .bool (C.fails (C.did + 1))] ∧ IS = true := by
    refine ⟨C.did + 1, true, ?_, rfl⟩
    unfold actV cutF
    rw [hc]
    rfl
  have hgeo := h.geo
  obtain ⟨bp, hbp, hbi, hbl, hb5⟩ := bp_of C b hb ⟨hgeo.2.1, hgeo.2.2.2.1⟩
  have hbl1 : (bp : Int) + C.P ≤ ((C.B * C.P : Nat) : Int) := by omega
  have hb51 : (bp : Int) + C.P ≤ 512 := by omega
  have hwr := h.wornr b
  have HM := Hid.mk h
  have HBP := Hid.mk hbp
  have hb1 : (b : Int) < C.B := by omega
  clear h hbp
  have hwb := hw9 b
  have HW9 := Hid.mk hw9
  clear hw9
  obtain ⟨C1, hC1⟩ : ∃ C1 : Ch, C1 = actC C := ⟨_, rfl⟩
  have hact : actV X C = .tuple #[.agg (mdA X C1), .agg #[.int .i64 i0, .int .i64 k0, .int .u8 x0], .bool IS, .bool (C.fails (C.did + 1))] := by
    rw [hC1]
    exact hcut
  have hCs : C1.B = C.B ∧ C1.P = C.P ∧ C1.Z = C.Z ∧ C1.worn = C.worn ∧ C1.dead = C.dead := by rw [hC1]; exact ⟨rfl, rfl, rfl, rfl, rfl⟩
  generalize hFF : C.fails (C.did + 1) = F at *
  have HC1 := Hid.mk (And.intro hC1 (And.intro hact (And.intro hCs hFF)))
  clear hC1 hact hCs hFF hcut
  go_enter Try.func30, Try.ntmps30
  go_upto_region 1 with fail
  have hM0 := Mw.start HM.out
  generalize (w.alloc (.cells (mdA X C) 39)).alloc (.cells #[.int .i64 0, .int .i64 0, .int .i64 0, .slice none 0 0, .slice none 0 0, .slice none 0 0, .slice none 0 0, .slice none 0 0, .slice none 0 0, .slice none 0 0, .int .i64 0, .bool false] 39) = W0 at *
  obtain ⟨p0, p1, p2, p3, p4, p5, p6, p7, p8, p9, p10, p11⟩ := hM0.own.cells
  have HM0 := Hid.mk hM0
  clear hM0
  go_upto_region 2 with (go_at_call 31; refine (act_any HM0.out.md).mono ?_; rintro e w1 ⟨rfl, b1⟩; rw [HC1.out.2.1]; unfold mdA)
  have hM1 := HM0.out.call b1
  have hN := heap_alloc_new w1 (.cells #[.int .i64 C1.B, .int .i64 C1.P, .int .i64 C1.Z, .slice X.ca X.cl.length X.cc, .slice X.fa X.fl.length X.fc, .slice X.ba X.bn X.bc, .slice (some ⟨X.gp, 0, none⟩) (C1.B * C1.P) X.cp, .slice (some ⟨X.gw, 0, none⟩) C1.B X.cw, .slice (some ⟨X.gd, 0, none⟩) C1.B X.cd, .slice (some ⟨X.gm, 0, none⟩) C1.B X.cm, .int .i64 C1.did, .bool C1.off] 39)
  have hK := heap_alloc_new (w1.alloc (.cells #[.int .i64 C1.B, .int .i64 C1.P, .int .i64 C1.Z, .slice X.ca X.cl.length X.cc, .slice X.fa X.fl.length X.fc, .slice X.ba X.bn X.bc, .slice (some ⟨X.gp, 0, none⟩) (C1.B * C1.P) X.cp, .slice (some ⟨X.gw, 0, none⟩) C1.B X.cw, .slice (some ⟨X.gd, 0, none⟩) C1.B X.cd, .slice (some ⟨X.gm, 0, none⟩) C1.B X.cm, .int .i64 C1.did, .bool C1.off] 39)) (.cells #[.int .i64 i0, .int .i64 k0, .int .u8 x0] 57)
  rw [size_alloc] at hK
  have hbN := below_two w1 (.cells #[.int .i64 C1.B, .int .i64 C1.P, .int .i64 C1.Z, .slice X.ca X.cl.length X.cc, .slice X.fa X.fl.length X.fc, .slice X.ba X.bn X.bc, .slice (some ⟨X.gp, 0, none⟩) (C1.B * C1.P) X.cp, .slice (some ⟨X.gw, 0, none⟩) C1.B X.cw, .slice (some ⟨X.gd, 0, none⟩) C1.B X.cd, .slice (some ⟨X.gm, 0, none⟩) C1.B X.cm, .int .i64 C1.did, .bool C1.off] 39) (.cells #[.int .i64 i0, .int .i64 k0, .int .u8 x0] 57)
  have hN2 : MdAt ((w1.alloc (.cells #[.int .i64 C1.B, .int .i64 C1.P, .int .i64 C1.Z, .slice X.ca X.cl.length X.cc, .slice X.fa X.fl.length X.fc, .slice X.ba X.bn X.bc, .slice (some ⟨X.gp, 0, none⟩) (C1.B * C1.P) X.cp, .slice (some ⟨X.gw, 0, none⟩) C1.B X.cw, .slice (some ⟨X.gd, 0, none⟩) C1.B X.cd, .slice (some ⟨X.gm, 0, none⟩) C1.B X.cm, .int .i64 C1.did, .bool C1.off] 39)).alloc (.cells #[.int .i64 i0, .int .i64 k0, .int .u8 x0] 57)) w1.heap.size X C1 := (Below.heap_alloc _ _ _ (by rw [size_alloc]; omega)).trans hN
  have hM2 := hM1.call hbN
  have hmd2 : Md ((w1.alloc (.cells #[.int .i64 C1.B, .int .i64 C1.P, .int .i64 C1.Z, .slice X.ca X.cl.length X.cc, .slice X.fa X.fl.length X.fc, .slice X.ba X.bn X.bc, .slice (some ⟨X.gp, 0, none⟩) (C1.B * C1.P) X.cp, .slice (some ⟨X.gw, 0, none⟩) C1.B X.cw, .slice (some ⟨X.gd, 0, none⟩) C1.B X.cd, .slice (some ⟨X.gm, 0, none⟩) C1.B X.cm, .int .i64 C1.did, .bool C1.off] 39)).alloc (.cells #[.int .i64 i0, .int .i64 k0, .int .u8 x0] 57)) S X C1 := by
    have h1 := hM2.md.act1 hd9
    rw [← HC1.out.1] at h1
    exact h1
  have hlw := hM1.lt
  generalize (w1.alloc (.cells #[.int .i64 C1.B, .int .i64 C1.P, .int .i64 C1.Z, .slice X.ca X.cl.length X.cc, .slice X.fa X.fl.length X.fc, .slice X.ba X.bn X.bc, .slice (some ⟨X.gp, 0, none⟩) (C1.B * C1.P) X.cp, .slice (some ⟨X.gw, 0, none⟩) C1.B X.cw, .slice (some ⟨X.gd, 0, none⟩) C1.B X.cd, .slice (some ⟨X.gm, 0, none⟩) C1.B X.cm, .int .i64 C1.did, .bool C1.off] 39)).alloc (.cells #[.int .i64 i0, .int .i64 k0, .int .u8 x0] 57) = W at *
  have HE0 : Hid (Er w S X C W w1.heap.size X C1 i0 k0 x0 W) := ⟨hM2, hN2, hmd2, Xn.refl W X, hK, Nat.le_refl _⟩
  have lN : w1.heap.size < W.heap.size := hN2.lt
  have n7 := hN2.cells.2.2.2.2.2.2.2.1
  generalize w1.heap.size = N at *
  have hb2 : (b : Int) < C1.B := by rw [HC1.out.2.2.1.1]; exact hb1
  have hwW : w.heap.size ≤ W.heap.size := hM2.below.size
  clear hM1 hN hK hbN hN2 hM2 hmd2 b1 p0 p1 p2 p3 p4 p5 p6 p7 p8 p9 p10 p11
  obtain ⟨cap, hcap, W1, hrun, hb3, hs3, hc3, hf3⟩ := append0 (W.alloc (.cells #[] 3)) 25 3 (.int .i64 0) 8 Try.underlying25 Try.info3' (by decide) W.heap.size X.gw C1.B X.cw (fun i => .int .i64 (C1.worn i)) (fun j hj => (HE0.out.md.alloc _).worn j hj) (by rw [HC1.out.2.2.1.1]; omega) (by rw [HC1.out.2.2.1.1]; omega)
  rw [size_alloc] at hrun hs3 hc3 hf3
  have hb4 : Below W.heap.size W W1 := below3 ((Below.refl _ W).alloc (Nat.le_refl _) _) hb3
  have hL1 : Lr W (W.heap.size + 1) C1.B (fun i => .int .i64 (C1.worn i)) W1 := ⟨hb4, hs3, by omega, hc3, hf3⟩
  have ci := hc3 b (by rw [HC1.out.2.2.1.1]; exact hb)
  have fi := hf3 b
  have HRun := Hid.mk hrun
  have hL2 := hL1.set b (.int .i64 (C1.worn b + 1))
  have hE2 := HE0.out.call hL2.below
  have HL2 := Hid.mk (And.intro hL2 hE2)
  have hwr1 : 0 ≤ C1.worn b ∧ C1.worn b < 999 := by rw [HC1.out.2.2.1.2.2.2.1]; omega
  clear hrun hL1 hL2 hE2 hb3 hb4 hs3 hc3 hf3
  go_upto_region 3 with (first | (at_builtin; refine wpList_append0 rfl (.tmp 22) (.tmp 24) 25 rfl HRun.out rfl rfl ?_))
  go_upto_region 4 with fail
  generalize W1.setCell ⟨W.heap.size + 1, b, none⟩ (.int .i64 (C1.worn b + 1)) = W2 at *
  clear ci fi HRun n7
  have n7 := HL2.out.2.at'.cells.2.2.2.2.2.2.2.1
  have f7 := HL2.out.2.at'.frozen 7
  have hM6 : MdAt (W2.setCell ⟨N, 7, none⟩ (.slice (some ⟨W.heap.size + 1, 0, none⟩) C1.B cap)) N { X with gw := W.heap.size + 1, cw := cap } { C1 with worn := upd C1.worn b (C1.worn b + 1) } := heap_setCell_same W2 N 7 _ 39 _ HL2.out.2.at'
  have hw6 := HL2.out.2.mw.set HM.out (g := N) (k := 7) (.slice (some ⟨W.heap.size + 1, 0, none⟩) C1.B cap) (by omega)
  have hm6 : Md (W2.setCell ⟨N, 7, none⟩ (.slice (some ⟨W.heap.size + 1, 0, none⟩) C1.B cap)) S { X with gw := W.heap.size + 1, cw := cap } { C1 with worn := upd C1.worn b (C1.worn b + 1) } := by
    have h1 : Md (W2.setCell ⟨N, 7, none⟩ (.slice (some ⟨W.heap.size + 1, 0, none⟩) C1.B cap)) S X C1 := by
      have h2 := hw6.md.act1 hd9
      rw [← HC1.out.1] at h2
      exact h2
    refine h1.newWorn (by rw [sc_size]; exact HL2.out.1.lt) (fun hs => by have := hS _ hs; omega) (by rw [HC1.out.2.2.1.2.2.2.1]; exact HW9.out) (fun i hi => ?_)
    rw [World.cell?_setCell_other _ _ _ _ (by intro x; have := congrArg Addr.block x; simp only at this; omega), HL2.out.1.cell i hi]
  have hc6 : (W2.setCell ⟨N, 7, none⟩ (.slice (some ⟨W.heap.size + 1, 0, none⟩) C1.B cap)).heap[N + 1]? = some (.cells #[.int .i64 i0, .int .i64 k0, .int .u8 x0] 57 (0, 0)) := (Below.heap_setCell W2 _ _ _ (by show N + 1 ≠ N; omega)).trans HL2.out.2.cut
  obtain ⟨X1, hX1⟩ : ∃ X1 : Mx, X1 = { X with gw := W.heap.size + 1, cw := cap } := ⟨_, rfl⟩
  obtain ⟨C2, hC2⟩ : ∃ C2 : Ch, C2 = { C1 with worn := upd C1.worn b (C1.worn b + 1) } := ⟨_, rfl⟩
  have hXn : Xn W X X1 := by
    rw [hX1]
    exact ⟨rfl, rfl, rfl, rfl, Or.inl rfl, Or.inr (by show W.heap.size ≤ W.heap.size + 1; omega), Or.inl rfl, Or.inl rfl⟩
  have hsW : W.heap.size ≤ (W2.setCell ⟨N, 7, none⟩ (.slice (some ⟨W.heap.size + 1, 0, none⟩) C1.B cap)).heap.size := by
    rw [sc_size]
    exact HL2.out.1.below.size
  rw [← hX1, ← hC2] at hM6 hm6
  have hCs : C2.B = C.B ∧ C2.P = C.P ∧ C2.Z = C.Z ∧ C2.dead = C.dead := by rw [hC2]; exact ⟨HC1.out.2.2.1.1, HC1.out.2.2.1.2.1, HC1.out.2.2.1.2.2.1, HC1.out.2.2.1.2.2.2.2⟩
  have HC2 := Hid.mk (And.intro hC2 hCs)
  have HF : Hid (Er w S X C W N X1 C2 i0 k0 x0 (W2.setCell ⟨N, 7, none⟩ (.slice (some ⟨W.heap.size + 1, 0, none⟩) C1.B cap))) := ⟨hw6, hM6, hm6, hXn, hc6, hsW⟩
  clear hM6 hw6 hm6 hX1 hXn hC2 hCs hc6 hsW
  go_upto_region 5 with fail
  generalize W2.setCell ⟨N, 7, none⟩ (.slice (some ⟨W.heap.size + 1, 0, none⟩) C1.B cap) = W6 at *
  clear n7 f7 HE0 HL2 hwr1 hb2 hcap
  have o2 := HF.out.mw.own.cells.2.2.1
  obtain ⟨R, hR⟩ : ∃ R, R = rep (C.Z + 32) 255 := ⟨_, rfl⟩
  have htx : ∀ W, Calls Try.prog 18 #[.int .i64 ((C.Z : Int) + 32), .int .u8 255] W fun e w' => e = .returned (.string R) ∧ Below W.heap.size W w' := fun W => by
    rw [hR]
    exact text_any (C.Z + 32) (by omega) 255 (by decide) W
  have HTx := Hid.mk htx
  have HR := Hid.mk hR
  have hz1 : (C.Z : Int) ≤ 256 := by omega
  clear htx hR
  go_upto_region 6 with (go_at_call 18; refine (HTx.out _).mono ?_; rintro e W7 ⟨rfl, b7⟩)
  have HE := Hid.mk (HF.out.call b7)
  clear HF b7 o2
  subst hIS
  obtain ⟨kk, hkk, hmm⟩ : ∃ kk : Nat, kk ≤ C.P ∧ min (max k0 0) (C.P : Int) = kk := ⟨(min (max k0 0) (C.P : Int)).toNat, by omega, by omega⟩
  go_upto_region 8 with fail
  have hEr : Er w S X C W N X1 (clr C2 b 0) i0 k0 x0 W7 := by rw [clr_zero]; exact HE.out
  have HEr := Hid.mk hEr
  clear HE hEr
  go_loopw [12] (fun i wr => ∃ k : Nat, k ≤ kk ∧ i = .int .i64 k ∧ ∃ Xi, Er w S X C W N Xi (clr C2 b k) i0 k0 x0 wr) (fun i _ => kk - (intOf i).toNat)
  case atStart => exact ⟨0, by omega, rfl, X1, HEr.out⟩
  case round =>
    obtain ⟨k, hk, rfl, Xi, hEi⟩ := hrel
    clear HEr
    obtain ⟨Ck, hCk⟩ : ∃ Ck : Ch, Ck = clr C2 b k := ⟨_, rfl⟩
    rw [← hCk] at hEi
    have hCs : Ck.B = C.B ∧ Ck.P = C.P ∧ Ck.Z = C.Z := by rw [hCk]; exact ⟨HC2.out.2.1, HC2.out.2.2.1, HC2.out.2.2.2.1⟩
    have HCk := Hid.mk (And.intro hCk hCs)
    clear hCk hCs
    have m1 := hEi.mw.own.cells.2.1
    obtain ⟨n0, n1, n2, n3, n4, n5, n6, n7, n8, n9, n10, n11⟩ := hEi.at'.cells
    obtain ⟨_, j1, j2, _⟩ := z57_cells hEi.cut
    have HEi := Hid.mk hEi
    clear hEi
    by_cases hkP : k < kk
    · have hk1 : (k : Int) < C.P := by omega
      have hk2 : (k : Int) < k0 := by omega
      obtain ⟨Cn, hCn⟩ : ∃ Cn : Ch, Cn = clr C2 b (k + 1) := ⟨_, rfl⟩
      have hlay : Calls Try.prog 41 #[.agg (mdA Xi Ck), .int .i64 ((bp : Int) + k), .string R] wr fun e w' => ∃ X', e = .returned (.agg (mdA X' Cn)) ∧ Md w' S X' Cn ∧ Below wr.heap.size wr w' ∧ Xn wr Xi X' := by
        have h3 := lay_bp HEi.out.md (fun i hi => Nat.lt_of_lt_of_le (hS i hi) HEi.out.mw.below.size) (b := b) (p := k) (bp := bp) (by rw [HCk.out.2.1]; exact hb) (by rw [HCk.out.2.2.1]; omega) (by rw [HCk.out.2.2.1]; exact HBP.out) R
        rw [HCk.out.2.2.2, HR.out, kp_full, ← HR.out] at h3
        have e3 : putPg Ck b k ⟨#[]⟩ = Cn := by rw [HCk.out.1, clr_step, hCn]
        rw [e3] at h3
        exact h3
      have HL := Hid.mk hlay
      have HCn := Hid.mk hCn
      clear hlay hCn
      go_wp2_with (go_at_call 41; refine HL.out.mono ?_; rintro e w3 ⟨X2, rfl, md3, bL, xL⟩; unfold mdA; have hE3 := HEi.out.call bL; obtain ⟨q0, q1, q2, q3, q4, q5, q6, q7, q8, q9, q10, q11⟩ := hE3.at'.cells; have qf := hE3.at'.frozen; have HG := Hid.mk (HEi.out.put bL md3 xL HM.out (by omega) (by omega)); clear hE3 md3 bL xL)
      have eW : ((((((((((((w3.setCell ⟨N, 0, none⟩ (.int .i64 Cn.B)).setCell ⟨N, 1, none⟩ (.int .i64 Cn.P)).setCell ⟨N, 2, none⟩ (.int .i64 Cn.Z)).setCell ⟨N, 3, none⟩ (.slice X2.ca X2.cl.length X2.cc)).setCell ⟨N, 4, none⟩ (.slice X2.fa X2.fl.length X2.fc)).setCell ⟨N, 5, none⟩ (.slice X2.ba X2.bn X2.bc)).setCell ⟨N, 6, none⟩ (.slice (some ⟨X2.gp, 0, none⟩) (Cn.B * Cn.P) X2.cp)).setCell ⟨N, 7, none⟩ (.slice (some ⟨X2.gw, 0, none⟩) Cn.B X2.cw)).setCell ⟨N, 8, none⟩ (.slice (some ⟨X2.gd, 0, none⟩) Cn.B X2.cd)).setCell ⟨N, 9, none⟩ (.slice (some ⟨X2.gm, 0, none⟩) Cn.B X2.cm)).setCell ⟨N, 10, none⟩ (.int .i64 Cn.did)).setCell ⟨N, 11, none⟩ (.bool Cn.off)) = setMd w3 (N) X2 Cn := rfl
      rw [eW]
      clear eW
      generalize setMd w3 (N) X2 Cn = W9 at *
      refine ⟨⟨k + 1, by omega, by go_num, X2, ?_⟩, by simp [intOf]; omega⟩
      rw [← HCn.out]
      exact HG.out
    · have hkk2 : k = kk := by omega
      subst hkk2
      have eC : Ck = { C with did := C.did + 1, worn := upd C.worn b (C.worn b + 1), off := true, pg := upd C.pg b (fun p => if p < k then ⟨#[]⟩ else C.pg b p) } := by
        rw [HCk.out.1, HC2.out.1, HC1.out.1]
        unfold clr actC
        rw [hc]
        simp
      have HeC := Hid.mk eC
      clear eC
      by_cases hA : 0 ≤ k0 ∧ k0 < C.P
      · have hk0 : k0 = (k : Int) := by omega
        subst hk0
        have hk1 : (k : Int) < C.P := hA.2
        clear hA
        go_upto_region 12 with fail
        obtain ⟨Y, hY⟩ : ∃ Y, Y = rep (C.Z + 32) (u8 x0) := ⟨_, rfl⟩
        have htx : ∀ W, Calls Try.prog 18 #[.int .i64 R.size, .int .u8 x0] W fun e w' => e = .returned (.string Y) ∧ Below W.heap.size W w' := fun W => by
          rw [hY, HR.out, rep_size]
          exact text_any (C.Z + 32) (by omega) x0 HX0.out W
        have HTy := Hid.mk htx
        obtain ⟨Cn, hCn⟩ : ∃ Cn : Ch, Cn = putPg Ck b k (kp C.Z Y) := ⟨_, rfl⟩
        have hlay : ∀ w5, Md w5 S Xi Ck → (∀ i, S i → i < w5.heap.size) → Calls Try.prog 41 #[.agg (mdA Xi Ck), .int .i64 (IntKind.i64.wrap (IntKind.i64.wrap bp + k)), .string Y] w5 fun e w' => ∃ X', e = .returned (.agg (mdA X' Cn)) ∧ Md w' S X' Cn ∧ Below w5.heap.size w5 w' ∧ Xn w5 Xi X' := fun w5 h1 h2 => by
          have h3 := lay_bp h1 h2 (b := b) (p := k) (bp := bp) (by rw [HCk.out.2.1]; exact hb) (by rw [HCk.out.2.2.1]; omega) (by rw [HCk.out.2.2.1]; exact HBP.out) Y
          rw [HCk.out.2.2.2, ← hCn] at h3
          rw [wrap2 bp k (by omega)]
          exact h3
        have eN : Cn = CF := by
          have h4 := torn_in (x := x0) HeC.out rfl (by omega : k < C.P)
          have h5 : putPg Ck b k (kp Ck.Z (rep (Ck.Z + 32) (u8 x0))) = CF := by
            rw [HCF.out]
            exact h4
          rw [HCk.out.2.2.2, ← hY, ← hCn] at h5
          exact h5
        have HL := Hid.mk hlay
        have HCn := Hid.mk eN
        have HY := Hid.mk hY
        clear htx hlay hCn eN hY
        go_cut [75] (fun _ wx => ∃ Xz, Er w S X C W N Xz CF i0 k x0 wx)
        case first =>
          have hS1 : Hid (wr.drew.cell? ⟨w.heap.size, 1, none⟩ = some (.int .i64 C.P) ∧ wr.drew.cell? ⟨N + 1, 1, none⟩ = some (.int .i64 k) ∧ wr.drew.cell? ⟨N + 1, 2, none⟩ = some (.int .u8 x0) ∧ (MdAt wr.drew w.heap.size X C ∧ wr.drew.heap[N + 1]? = some (.cells #[.int .i64 i0, .int .i64 k, .int .u8 x0] 57 (0, 0)))) := er_of (HEi.out.mw.own) (HEi.out.cut)
          refine wp_region_held_drew (S := fun w' => w'.cell? ⟨w.heap.size, 1, none⟩ = some (.int .i64 C.P) ∧ w'.cell? ⟨N + 1, 1, none⟩ = some (.int .i64 k) ∧ w'.cell? ⟨N + 1, 2, none⟩ = some (.int .u8 x0) ∧ (MdAt w' w.heap.size X C ∧ w'.heap[N + 1]? = some (.cells #[.int .i64 i0, .int .i64 k, .int .u8 x0] 57 (0, 0)))) (by kernel_rfl) hS1.out (fun hHeld => ?_)
          refine wpAnyH_take (i := 1) (oi := { dst := some 76, op := Op.move (Operand.tmp 1), type := 3, pos := "law.go:131", after := #[], guard := none }) (v := ?vv1) rfl (by kernel_rfl) (by kernel_rfl) (by kernel_rfl) (fun _ _ _ h => h) (Or.inl ⟨by rfl, ?yy1⟩) hHeld ?rr1
          case yy1 => (intro w0 hSw; (try dsimp only at hSw); go_simp; try with_reducible rfl)
          try simp only [Act.put, List.setIfInBounds_toArray, List.set_cons_zero, List.set_cons_succ]
          refine wpAnyH_take (i := 2) (oi := { dst := some 77, op := Op.fieldAddr 39 (Operand.tmp 2) 0, type := 0, pos := "law.go:131", after := #[], guard := none }) (v := ?vv2) rfl (by kernel_rfl) (by kernel_rfl) (by kernel_rfl) (fun _ _ _ h => h) (Or.inl ⟨by rfl, ?yy2⟩) hHeld ?rr2
          case yy2 => (intro w0 hSw; (try dsimp only at hSw); go_simp; try with_reducible rfl)
          try simp only [Act.put, List.setIfInBounds_toArray, List.set_cons_zero, List.set_cons_succ]
          refine wpAnyH_take (i := 3) (oi := { dst := some 78, op := Op.fieldAddr 23 (Operand.tmp 77) 1, type := 0, pos := "law.go:131", after := #[{ on := 2, ground := Ground.data }], guard := none }) (v := ?vv3) rfl (by kernel_rfl) (by kernel_rfl) (by kernel_rfl) (fun _ _ _ h => h) (Or.inl ⟨by rfl, ?yy3⟩) hHeld ?rr3
          case yy3 => (intro w0 hSw; (try dsimp only at hSw); go_simp; try with_reducible rfl)
          try simp only [Act.put, List.setIfInBounds_toArray, List.set_cons_zero, List.set_cons_succ]
          refine wpAnyH_take (i := 4) (oi := { dst := some 79, op := Op.load 3 (Operand.tmp 78), type := 3, pos := "law.go:131", after := #[{ on := 3, ground := Ground.data }], guard := none }) (v := ?vv4) rfl (by kernel_rfl) (by kernel_rfl) (by kernel_rfl) (fun _ _ _ h => h) (Or.inl ⟨by rfl, ?yy4⟩) hHeld ?rr4
          case yy4 => (intro w0 hSw; (try dsimp only at hSw); go_simp; try with_reducible rfl)
          try simp only [Act.put, List.setIfInBounds_toArray, List.set_cons_zero, List.set_cons_succ]
          refine wpAnyH_take (i := 5) (oi := { dst := some 80, op := Op.binOp BinOp.mul 3 (Operand.tmp 76) (Operand.tmp 79) 3, type := 3, pos := "law.go:131", after := #[{ on := 1, ground := Ground.data }, { on := 4, ground := Ground.data }], guard := none }) (v := ?vv5) rfl (by kernel_rfl) (by kernel_rfl) (by kernel_rfl) (fun _ _ _ h => h) (Or.inl ⟨by rfl, ?yy5⟩) hHeld ?rr5
          case yy5 => (intro w0 hSw; (try dsimp only at hSw); go_simp; try with_reducible rfl)
          try simp only [Act.put, List.setIfInBounds_toArray, List.set_cons_zero, List.set_cons_succ]
          refine wpAnyH_take (i := 6) (oi := { dst := some 81, op := Op.fieldAddr 57 (Operand.tmp 7) 1, type := 0, pos := "law.go:131", after := #[], guard := none }) (v := ?vv6) rfl (by kernel_rfl) (by kernel_rfl) (by kernel_rfl) (fun _ _ _ h => h) (Or.inl ⟨by rfl, ?yy6⟩) hHeld ?rr6
          case yy6 => (intro w0 hSw; (try dsimp only at hSw); go_simp; try with_reducible rfl)
          try simp only [Act.put, List.setIfInBounds_toArray, List.set_cons_zero, List.set_cons_succ]
          refine wpAnyH_take (i := 7) (oi := { dst := some 82, op := Op.load 3 (Operand.tmp 81), type := 3, pos := "law.go:131", after := #[{ on := 6, ground := Ground.data }], guard := none }) (v := ?vv7) rfl (by kernel_rfl) (by kernel_rfl) (by kernel_rfl) (fun _ _ _ h => h) (Or.inl ⟨by rfl, ?yy7⟩) hHeld ?rr7
          case yy7 => (intro w0 hSw; (try dsimp only at hSw); go_simp; try with_reducible rfl)
          try simp only [Act.put, List.setIfInBounds_toArray, List.set_cons_zero, List.set_cons_succ]
          refine wpAnyH_take (i := 8) (oi := { dst := some 83, op := Op.binOp BinOp.add 3 (Operand.tmp 80) (Operand.tmp 82) 3, type := 3, pos := "law.go:131", after := #[{ on := 5, ground := Ground.data }, { on := 7, ground := Ground.data }], guard := none }) (v := ?vv8) rfl (by kernel_rfl) (by kernel_rfl) (by kernel_rfl) (fun _ _ _ h => h) (Or.inl ⟨by rfl, ?yy8⟩) hHeld ?rr8
          case yy8 => (intro w0 hSw; (try dsimp only at hSw); go_simp; try with_reducible rfl)
          try simp only [Act.put, List.setIfInBounds_toArray, List.set_cons_zero, List.set_cons_succ]
          refine wpAnyH_take (i := 9) (oi := { dst := some 84, op := Op.move (Operand.tmp 11), type := 9, pos := "law.go:131", after := #[], guard := none }) (v := ?vv9) rfl (by kernel_rfl) (by kernel_rfl) (by kernel_rfl) (fun _ _ _ h => h) (Or.inl ⟨by rfl, ?yy9⟩) hHeld ?rr9
          case yy9 => (intro w0 hSw; (try dsimp only at hSw); go_simp; try with_reducible rfl)
          try simp only [Act.put, List.setIfInBounds_toArray, List.set_cons_zero, List.set_cons_succ]
          refine wpAnyH_take (i := 10) (oi := { dst := some 85, op := Op.call { callee := Callee.builtin Builtin.len, args := #[Operand.tmp 84], argTypes := #[9] }, type := 3, pos := "law.go:131", after := #[{ on := 9, ground := Ground.data }], guard := none }) (v := ?vv10) rfl (by kernel_rfl) (by kernel_rfl) (by kernel_rfl) (fun _ _ _ h => h) (Or.inl ⟨by rfl, ?yy10⟩) hHeld ?rr10
          case yy10 => (intro w0 hSw; (try dsimp only at hSw); go_simp; try with_reducible rfl)
          try simp only [Act.put, List.setIfInBounds_toArray, List.set_cons_zero, List.set_cons_succ]
          refine wpAnyH_take (i := 11) (oi := { dst := some 86, op := Op.fieldAddr 57 (Operand.tmp 7) 2, type := 0, pos := "law.go:131", after := #[], guard := none }) (v := ?vv11) rfl (by kernel_rfl) (by kernel_rfl) (by kernel_rfl) (fun _ _ _ h => h) (Or.inl ⟨by rfl, ?yy11⟩) hHeld ?rr11
          case yy11 => (intro w0 hSw; (try dsimp only at hSw); go_simp; try with_reducible rfl)
          try simp only [Act.put, List.setIfInBounds_toArray, List.set_cons_zero, List.set_cons_succ]
          refine wpAnyH_take (i := 12) (oi := { dst := some 87, op := Op.load 5 (Operand.tmp 86), type := 5, pos := "law.go:131", after := #[{ on := 11, ground := Ground.data }], guard := none }) (v := ?vv12) rfl (by kernel_rfl) (by kernel_rfl) (by kernel_rfl) (fun _ _ _ h => h) (Or.inl ⟨by rfl, ?yy12⟩) hHeld ?rr12
          case yy12 => (intro w0 hSw; (try dsimp only at hSw); go_simp; try with_reducible rfl)
          try simp only [Act.put, List.setIfInBounds_toArray, List.set_cons_zero, List.set_cons_succ]
          clear m1 j1 j2
          refine wpAnyH_ready (rs := [0, 13]) (by kernel_rfl) (by simp) ?_
          refine AllReadyH.cons (o := { dst := some 75, op := Op.load 39 (Operand.tmp 6), type := 39, pos := "law.go:131", after := #[], guard := none }) rfl (fun K hK => ?_) ?_
          · go_simp
            refine hK.out _ _ hHeld (fun hHeld => ?_)
            clear hK K
            try simp only [Act.put, List.setIfInBounds_toArray, List.set_cons_zero, List.set_cons_succ]
            refine wpAnyH_ready (rs := [13]) (by kernel_rfl) (by simp) ?_
            refine AllReadyH.cons (o := { dst := some 88, op := Op.call { callee := Callee.value (Operand.func 18), args := #[Operand.tmp 85, Operand.tmp 87], argTypes := #[3, 5] }, type := 9, pos := "law.go:131", after := #[{ on := 10, ground := Ground.data }, { on := 12, ground := Ground.data }], guard := none }) rfl (fun K hK => ?_) AllReadyH.nil
            go_simp
            go_wp2_with (go_at_call 18; refine (HTy.out _).mono ?_; rintro e w5 ⟨rfl, b5⟩; have hE5 := (HEi.out.call (Below.refl _ wr).drew).call b5; obtain ⟨n0, n1, n2, n3, n4, n5, n6, n7, n8, n9, n10, n11⟩ := hE5.at'.cells; have H5 := Hid.mk hE5; clear hE5)
            refine hK.out _ _ (er_keep hHeld b5) (fun hHeld => ?_)
            clear hK K
            try simp only [Act.put, List.setIfInBounds_toArray, List.set_cons_zero, List.set_cons_succ]
            refine wpAnyH_ready (rs := [14]) (by kernel_rfl) (by simp) ?_
            refine AllReadyH.cons (o := { dst := some 89, op := Op.call { callee := Callee.value (Operand.func 41), args := #[Operand.tmp 75, Operand.tmp 83, Operand.tmp 88], argTypes := #[39, 3, 9] }, type := 39, pos := "law.go:131", after := #[{ on := 0, ground := Ground.data }, { on := 8, ground := Ground.data }, { on := 13, ground := Ground.data }, { on := 13, ground := Ground.chain }], guard := none }) rfl (fun K hK => ?_) AllReadyH.nil
            go_simp
            go_wp2_with (go_at_call 41; refine (HL.out _ H5.out.md (fun i hi => Nat.lt_of_lt_of_le (hS i hi) H5.out.mw.below.size)).mono ?_; rintro e w7 ⟨X2, rfl, md7, b7, x7⟩; unfold mdA; have hE7 := H5.out.call b7; obtain ⟨q0, q1, q2, q3, q4, q5, q6, q7, q8, q9, q10, q11⟩ := hE7.at'.cells; have qf := hE7.at'.frozen; have HG := Hid.mk (H5.out.put b7 md7 x7 HM.out (by omega) (by omega)); clear hE7 md7 x7)
            refine hK.out _ _ (er_keep hHeld b7) (fun hHeld => ?_)
            clear hK K
            try simp only [Act.put, List.setIfInBounds_toArray, List.set_cons_zero, List.set_cons_succ]
            refine wpAnyH_ready (rs := [15]) (by kernel_rfl) (by simp) ?_
            refine AllReadyH.cons (o := { dst := none, op := Op.store 39 (Operand.tmp 6) (Operand.tmp 89), type := 0, pos := "law.go:131", after := #[{ on := 14, ground := Ground.data }, { on := 14, ground := Ground.chain }, { on := 0, ground := Ground.phase }, { on := 1, ground := Ground.phase }, { on := 2, ground := Ground.phase }, { on := 3, ground := Ground.phase }, { on := 4, ground := Ground.phase }, { on := 5, ground := Ground.phase }, { on := 6, ground := Ground.phase }, { on := 7, ground := Ground.phase }, { on := 8, ground := Ground.phase }, { on := 9, ground := Ground.phase }, { on := 10, ground := Ground.phase }, { on := 11, ground := Ground.phase }, { on := 12, ground := Ground.phase }, { on := 13, ground := Ground.phase }, { on := 14, ground := Ground.phase }], guard := none }) rfl (fun K hK => ?_) AllReadyH.nil
            go_simp
            refine hK.out _ _ (er_store (by omega) _ _ _ _ _ _ _ _ _ _ _ _ hHeld) (fun hHeld => ?_)
            clear hK K
            try simp only [Act.put, List.setIfInBounds_toArray, List.set_cons_zero, List.set_cons_succ]
            refine wpAnyH_done (by kernel_rfl) ?_ _
            go_wp2_with fail
            have eW : ((((((((((((w7.setCell ⟨N, 0, none⟩ (.int .i64 Cn.B)).setCell ⟨N, 1, none⟩ (.int .i64 Cn.P)).setCell ⟨N, 2, none⟩ (.int .i64 Cn.Z)).setCell ⟨N, 3, none⟩ (.slice X2.ca X2.cl.length X2.cc)).setCell ⟨N, 4, none⟩ (.slice X2.fa X2.fl.length X2.fc)).setCell ⟨N, 5, none⟩ (.slice X2.ba X2.bn X2.bc)).setCell ⟨N, 6, none⟩ (.slice (some ⟨X2.gp, 0, none⟩) (Cn.B * Cn.P) X2.cp)).setCell ⟨N, 7, none⟩ (.slice (some ⟨X2.gw, 0, none⟩) Cn.B X2.cw)).setCell ⟨N, 8, none⟩ (.slice (some ⟨X2.gd, 0, none⟩) Cn.B X2.cd)).setCell ⟨N, 9, none⟩ (.slice (some ⟨X2.gm, 0, none⟩) Cn.B X2.cm)).setCell ⟨N, 10, none⟩ (.int .i64 Cn.did)).setCell ⟨N, 11, none⟩ (.bool Cn.off)) = setMd w7 (N) X2 Cn := rfl
            rw [eW]
            clear eW hHeld
            generalize setMd w7 (N) X2 Cn = W9 at *
            go_meet
            exact ⟨X2, by rw [← HCn.out]; exact HG.out⟩
          refine AllReadyH.cons (o := { dst := some 88, op := Op.call { callee := Callee.value (Operand.func 18), args := #[Operand.tmp 85, Operand.tmp 87], argTypes := #[3, 5] }, type := 9, pos := "law.go:131", after := #[{ on := 10, ground := Ground.data }, { on := 12, ground := Ground.data }], guard := none }) rfl (fun K hK => ?_) AllReadyH.nil
          go_simp
          go_wp2_with (go_at_call 18; refine (HTy.out _).mono ?_; rintro e w5 ⟨rfl, b5⟩; have hE5 := (HEi.out.call (Below.refl _ wr).drew).call b5; obtain ⟨n0, n1, n2, n3, n4, n5, n6, n7, n8, n9, n10, n11⟩ := hE5.at'.cells; have H5 := Hid.mk hE5; clear hE5)
          refine hK.out _ _ (er_keep hHeld b5) (fun hHeld => ?_)
          clear hK K
          try simp only [Act.put, List.setIfInBounds_toArray, List.set_cons_zero, List.set_cons_succ]
          refine wpAnyH_ready (rs := [0]) (by kernel_rfl) (by simp) ?_
          refine AllReadyH.cons (o := { dst := some 75, op := Op.load 39 (Operand.tmp 6), type := 39, pos := "law.go:131", after := #[], guard := none }) rfl (fun K hK => ?_) AllReadyH.nil
          go_simp
          refine hK.out _ _ hHeld (fun hHeld => ?_)
          clear hK K
          try simp only [Act.put, List.setIfInBounds_toArray, List.set_cons_zero, List.set_cons_succ]
          refine wpAnyH_ready (rs := [14]) (by kernel_rfl) (by simp) ?_
          refine AllReadyH.cons (o := { dst := some 89, op := Op.call { callee := Callee.value (Operand.func 41), args := #[Operand.tmp 75, Operand.tmp 83, Operand.tmp 88], argTypes := #[39, 3, 9] }, type := 39, pos := "law.go:131", after := #[{ on := 0, ground := Ground.data }, { on := 8, ground := Ground.data }, { on := 13, ground := Ground.data }, { on := 13, ground := Ground.chain }], guard := none }) rfl (fun K hK => ?_) AllReadyH.nil
          go_simp
          go_wp2_with (go_at_call 41; refine (HL.out _ H5.out.md (fun i hi => Nat.lt_of_lt_of_le (hS i hi) H5.out.mw.below.size)).mono ?_; rintro e w7 ⟨X2, rfl, md7, b7, x7⟩; unfold mdA; have hE7 := H5.out.call b7; obtain ⟨q0, q1, q2, q3, q4, q5, q6, q7, q8, q9, q10, q11⟩ := hE7.at'.cells; have qf := hE7.at'.frozen; have HG := Hid.mk (H5.out.put b7 md7 x7 HM.out (by omega) (by omega)); clear hE7 md7 x7)
          refine hK.out _ _ (er_keep hHeld b7) (fun hHeld => ?_)
          clear hK K
          try simp only [Act.put, List.setIfInBounds_toArray, List.set_cons_zero, List.set_cons_succ]
          refine wpAnyH_ready (rs := [15]) (by kernel_rfl) (by simp) ?_
          refine AllReadyH.cons (o := { dst := none, op := Op.store 39 (Operand.tmp 6) (Operand.tmp 89), type := 0, pos := "law.go:131", after := #[{ on := 14, ground := Ground.data }, { on := 14, ground := Ground.chain }, { on := 0, ground := Ground.phase }, { on := 1, ground := Ground.phase }, { on := 2, ground := Ground.phase }, { on := 3, ground := Ground.phase }, { on := 4, ground := Ground.phase }, { on := 5, ground := Ground.phase }, { on := 6, ground := Ground.phase }, { on := 7, ground := Ground.phase }, { on := 8, ground := Ground.phase }, { on := 9, ground := Ground.phase }, { on := 10, ground := Ground.phase }, { on := 11, ground := Ground.phase }, { on := 12, ground := Ground.phase }, { on := 13, ground := Ground.phase }, { on := 14, ground := Ground.phase }], guard := none }) rfl (fun K hK => ?_) AllReadyH.nil
          go_simp
          refine hK.out _ _ (er_store (by omega) _ _ _ _ _ _ _ _ _ _ _ _ hHeld) (fun hHeld => ?_)
          clear hK K
          try simp only [Act.put, List.setIfInBounds_toArray, List.set_cons_zero, List.set_cons_succ]
          refine wpAnyH_done (by kernel_rfl) ?_ _
          go_wp2_with fail
          have eW : ((((((((((((w7.setCell ⟨N, 0, none⟩ (.int .i64 Cn.B)).setCell ⟨N, 1, none⟩ (.int .i64 Cn.P)).setCell ⟨N, 2, none⟩ (.int .i64 Cn.Z)).setCell ⟨N, 3, none⟩ (.slice X2.ca X2.cl.length X2.cc)).setCell ⟨N, 4, none⟩ (.slice X2.fa X2.fl.length X2.fc)).setCell ⟨N, 5, none⟩ (.slice X2.ba X2.bn X2.bc)).setCell ⟨N, 6, none⟩ (.slice (some ⟨X2.gp, 0, none⟩) (Cn.B * Cn.P) X2.cp)).setCell ⟨N, 7, none⟩ (.slice (some ⟨X2.gw, 0, none⟩) Cn.B X2.cw)).setCell ⟨N, 8, none⟩ (.slice (some ⟨X2.gd, 0, none⟩) Cn.B X2.cd)).setCell ⟨N, 9, none⟩ (.slice (some ⟨X2.gm, 0, none⟩) Cn.B X2.cm)).setCell ⟨N, 10, none⟩ (.int .i64 Cn.did)).setCell ⟨N, 11, none⟩ (.bool Cn.off)) = setMd w7 (N) X2 Cn := rfl
          rw [eW]
          clear eW hHeld
          generalize setMd w7 (N) X2 Cn = W9 at *
          go_meet
          exact ⟨X2, by rw [← HCn.out]; exact HG.out⟩
        case rest =>
          obtain ⟨Xz, hZ⟩ := hcut
          clear n0 n1 n2 n3 n4 n5 n6 n7 n8 n9 n10 n11 m1 j1 j2
          have HZ := Hid.mk hZ
          obtain ⟨n0, n1, n2, n3, n4, n5, n6, n7, n8, n9, n10, n11⟩ := hZ.at'.cells
          clear hZ
          obtain ⟨q0, q1, q2, q3, q4, q5, q6, q7, q8, q9, q10, q11, qf⟩ := z39_cells HZ.out.mw.res
          have P1 := putMd HZ.out.mw.res Xz CF
          have hb7 := P1.below HZ.out.mw.below (by omega)
          have hm7 := P1.mdX HZ.out.md HM.out HZ.out.xn (by omega) (by omega)
          have HG := Hid.mk (And.intro P1.here (And.intro hb7 hm7))
          clear P1 hb7 hm7
          go_wp2_with fail
          have eW : ((((((((((((wc.setCell ⟨w.heap.size + 1, 0, none⟩ (.int .i64 CF.B)).setCell ⟨w.heap.size + 1, 1, none⟩ (.int .i64 CF.P)).setCell ⟨w.heap.size + 1, 2, none⟩ (.int .i64 CF.Z)).setCell ⟨w.heap.size + 1, 3, none⟩ (.slice Xz.ca Xz.cl.length Xz.cc)).setCell ⟨w.heap.size + 1, 4, none⟩ (.slice Xz.fa Xz.fl.length Xz.fc)).setCell ⟨w.heap.size + 1, 5, none⟩ (.slice Xz.ba Xz.bn Xz.bc)).setCell ⟨w.heap.size + 1, 6, none⟩ (.slice (some ⟨Xz.gp, 0, none⟩) (CF.B * CF.P) Xz.cp)).setCell ⟨w.heap.size + 1, 7, none⟩ (.slice (some ⟨Xz.gw, 0, none⟩) CF.B Xz.cw)).setCell ⟨w.heap.size + 1, 8, none⟩ (.slice (some ⟨Xz.gd, 0, none⟩) CF.B Xz.cd)).setCell ⟨w.heap.size + 1, 9, none⟩ (.slice (some ⟨Xz.gm, 0, none⟩) CF.B Xz.cm)).setCell ⟨w.heap.size + 1, 10, none⟩ (.int .i64 CF.did)).setCell ⟨w.heap.size + 1, 11, none⟩ (.bool CF.off)) = setMd wc (w.heap.size + 1) Xz CF := rfl
          rw [eW]
          clear eW
          generalize setMd wc (w.heap.size + 1) Xz CF = Wz at *
          exact bodyPost_ret (results_mt rfl rfl HG.out.1 rfl) rfl ⟨Xz, rfl, HG.out.2.2, HG.out.2.1, HZ.out.xn.mono hwW⟩
      · have eN : Ck = CF := by
          rw [HCF.out]
          exact torn_out HeC.out hA hmm hkk
        clear HCk HeC
        subst eN
        by_cases hB : (k : Int) < k0
        · have hk1 : ¬ (k : Int) < C.P := by omega
          have hk3 : 0 ≤ k0 := by omega
          have hk4 : ¬ k0 < C.P := by omega
          have HZ := HEi
          obtain ⟨q0, q1, q2, q3, q4, q5, q6, q7, q8, q9, q10, q11, qf⟩ := z39_cells HZ.out.mw.res
          have P1 := putMd HZ.out.mw.res Xi Ck
          have hb7 := P1.below HZ.out.mw.below (by omega)
          have hm7 := P1.mdX HZ.out.md HM.out HZ.out.xn (by omega) (by omega)
          have HG := Hid.mk (And.intro P1.here (And.intro hb7 hm7))
          clear P1 hb7 hm7
          go_wp2_with fail
          have eW : ((((((((((((wr.setCell ⟨w.heap.size + 1, 0, none⟩ (.int .i64 Ck.B)).setCell ⟨w.heap.size + 1, 1, none⟩ (.int .i64 Ck.P)).setCell ⟨w.heap.size + 1, 2, none⟩ (.int .i64 Ck.Z)).setCell ⟨w.heap.size + 1, 3, none⟩ (.slice Xi.ca Xi.cl.length Xi.cc)).setCell ⟨w.heap.size + 1, 4, none⟩ (.slice Xi.fa Xi.fl.length Xi.fc)).setCell ⟨w.heap.size + 1, 5, none⟩ (.slice Xi.ba Xi.bn Xi.bc)).setCell ⟨w.heap.size + 1, 6, none⟩ (.slice (some ⟨Xi.gp, 0, none⟩) (Ck.B * Ck.P) Xi.cp)).setCell ⟨w.heap.size + 1, 7, none⟩ (.slice (some ⟨Xi.gw, 0, none⟩) Ck.B Xi.cw)).setCell ⟨w.heap.size + 1, 8, none⟩ (.slice (some ⟨Xi.gd, 0, none⟩) Ck.B Xi.cd)).setCell ⟨w.heap.size + 1, 9, none⟩ (.slice (some ⟨Xi.gm, 0, none⟩) Ck.B Xi.cm)).setCell ⟨w.heap.size + 1, 10, none⟩ (.int .i64 Ck.did)).setCell ⟨w.heap.size + 1, 11, none⟩ (.bool Ck.off)) = setMd wr (w.heap.size + 1) Xi Ck := rfl
          rw [eW]
          clear eW
          generalize setMd wr (w.heap.size + 1) Xi Ck = Wz at *
          exact bodyPost_ret (results_mt rfl rfl HG.out.1 rfl) rfl ⟨Xi, rfl, HG.out.2.2, HG.out.2.1, HZ.out.xn.mono hwW⟩
        · by_cases hD : 0 ≤ k0
          · have hk4 : ¬ k0 < C.P := by omega
            have HZ := HEi
            obtain ⟨q0, q1, q2, q3, q4, q5, q6, q7, q8, q9, q10, q11, qf⟩ := z39_cells HZ.out.mw.res
            have P1 := putMd HZ.out.mw.res Xi Ck
            have hb7 := P1.below HZ.out.mw.below (by omega)
            have hm7 := P1.mdX HZ.out.md HM.out HZ.out.xn (by omega) (by omega)
            have HG := Hid.mk (And.intro P1.here (And.intro hb7 hm7))
            clear P1 hb7 hm7
            go_wp2_with fail
            have eW : ((((((((((((wr.setCell ⟨w.heap.size + 1, 0, none⟩ (.int .i64 Ck.B)).setCell ⟨w.heap.size + 1, 1, none⟩ (.int .i64 Ck.P)).setCell ⟨w.heap.size + 1, 2, none⟩ (.int .i64 Ck.Z)).setCell ⟨w.heap.size + 1, 3, none⟩ (.slice Xi.ca Xi.cl.length Xi.cc)).setCell ⟨w.heap.size + 1, 4, none⟩ (.slice Xi.fa Xi.fl.length Xi.fc)).setCell ⟨w.heap.size + 1, 5, none⟩ (.slice Xi.ba Xi.bn Xi.bc)).setCell ⟨w.heap.size + 1, 6, none⟩ (.slice (some ⟨Xi.gp, 0, none⟩) (Ck.B * Ck.P) Xi.cp)).setCell ⟨w.heap.size + 1, 7, none⟩ (.slice (some ⟨Xi.gw, 0, none⟩) Ck.B Xi.cw)).setCell ⟨w.heap.size + 1, 8, none⟩ (.slice (some ⟨Xi.gd, 0, none⟩) Ck.B Xi.cd)).setCell ⟨w.heap.size + 1, 9, none⟩ (.slice (some ⟨Xi.gm, 0, none⟩) Ck.B Xi.cm)).setCell ⟨w.heap.size + 1, 10, none⟩ (.int .i64 Ck.did)).setCell ⟨w.heap.size + 1, 11, none⟩ (.bool Ck.off)) = setMd wr (w.heap.size + 1) Xi Ck := rfl
            rw [eW]
            clear eW
            generalize setMd wr (w.heap.size + 1) Xi Ck = Wz at *
            exact bodyPost_ret (results_mt rfl rfl HG.out.1 rfl) rfl ⟨Xi, rfl, HG.out.2.2, HG.out.2.1, HZ.out.xn.mono hwW⟩
          · have HZ := HEi
            obtain ⟨q0, q1, q2, q3, q4, q5, q6, q7, q8, q9, q10, q11, qf⟩ := z39_cells HZ.out.mw.res
            have P1 := putMd HZ.out.mw.res Xi Ck
            have hb7 := P1.below HZ.out.mw.below (by omega)
            have hm7 := P1.mdX HZ.out.md HM.out HZ.out.xn (by omega) (by omega)
            have HG := Hid.mk (And.intro P1.here (And.intro hb7 hm7))
            clear P1 hb7 hm7
            go_wp2_with fail
            have eW : ((((((((((((wr.setCell ⟨w.heap.size + 1, 0, none⟩ (.int .i64 Ck.B)).setCell ⟨w.heap.size + 1, 1, none⟩ (.int .i64 Ck.P)).setCell ⟨w.heap.size + 1, 2, none⟩ (.int .i64 Ck.Z)).setCell ⟨w.heap.size + 1, 3, none⟩ (.slice Xi.ca Xi.cl.length Xi.cc)).setCell ⟨w.heap.size + 1, 4, none⟩ (.slice Xi.fa Xi.fl.length Xi.fc)).setCell ⟨w.heap.size + 1, 5, none⟩ (.slice Xi.ba Xi.bn Xi.bc)).setCell ⟨w.heap.size + 1, 6, none⟩ (.slice (some ⟨Xi.gp, 0, none⟩) (Ck.B * Ck.P) Xi.cp)).setCell ⟨w.heap.size + 1, 7, none⟩ (.slice (some ⟨Xi.gw, 0, none⟩) Ck.B Xi.cw)).setCell ⟨w.heap.size + 1, 8, none⟩ (.slice (some ⟨Xi.gd, 0, none⟩) Ck.B Xi.cd)).setCell ⟨w.heap.size + 1, 9, none⟩ (.slice (some ⟨Xi.gm, 0, none⟩) Ck.B Xi.cm)).setCell ⟨w.heap.size + 1, 10, none⟩ (.int .i64 Ck.did)).setCell ⟨w.heap.size + 1, 11, none⟩ (.bool Ck.off)) = setMd wr (w.heap.size + 1) Xi Ck := rfl
            rw [eW]
            clear eW
            generalize setMd wr (w.heap.size + 1) Xi Ck = Wz at *
            exact bodyPost_ret (results_mt rfl rfl HG.out.1 rfl) rfl ⟨Xi, rfl, HG.out.2.2, HG.out.2.1, HZ.out.xn.mono hwW⟩
end Go.Proofs.Ytkfkepjegdaadaa
