/-
  A block of the model, erased: the walk of erase where the block is dead, or fails. No condition.
-/
import Derived.Test.YtkfkepjegdaadaaMe1
import Derived.Deep.DeepCutAuto
namespace Go.Proofs.Ytkfkepjegdaadaa
open Go Go.RowKit

theorem Md.outOf {w w0 w1 : World} {S S0 : Nat → Prop} {X X0 C C0} (h : Md w S X C) (h0 : Md w0 S0 X0 C0) (hx : Xn w1 X0 X) {g k : Nat} (h1 : w0.heap.size ≤ g) (h2 : g < w1.heap.size) (v : Value) : Md (w.setCell ⟨g, k, none⟩ v) S X C := by
  have hl := h0.lt
  have a1 : g ≠ X.gp := by
    rcases hx.gp with e | e <;> omega
  have a2 : g ≠ X.gw := by
    rcases hx.gw with e | e <;> omega
  have a3 : g ≠ X.gd := by
    rcases hx.gd with e | e <;> omega
  have a4 : g ≠ X.gm := by
    rcases hx.gm with e | e <;> omega
  have e : ∀ j, j ≠ g → ∀ i, (w.setCell ⟨g, k, none⟩ v).cell? ⟨j, i, none⟩ = w.cell? ⟨j, i, none⟩ := fun j hj i => World.cell?_setCell_other _ _ _ _ (fun x => hj (congrArg Addr.block x).symm)
  have b1 : ∀ i, i < X.cl.length → ∀ g' f, X.ca = some ⟨g', f, none⟩ → g' ≠ g := fun i hi g' f ha => by
    rw [hx.cl] at hi
    obtain ⟨g2, f2, ha2, hl2, _⟩ := h0.cut i hi
    rw [← hx.ca, ha] at ha2
    cases ha2
    omega
  have b2 : ∀ i, i < X.fl.length → ∀ g' f, X.fa = some ⟨g', f, none⟩ → g' ≠ g := fun i hi g' f ha => by
    rw [hx.fl] at hi
    obtain ⟨g2, f2, ha2, hl2, _⟩ := h0.fail i hi
    rw [← hx.fa, ha] at ha2
    cases ha2
    omega
  exact { h with
    cut := fun i hi => by
      obtain ⟨g', f, ha, hg, hs, hc⟩ := h.cut i hi
      exact ⟨g', f, ha, by rw [sc_size]; exact hg, hs, by rw [e g' (b1 i hi g' f ha), e g' (b1 i hi g' f ha), e g' (b1 i hi g' f ha)]; exact hc⟩
    fail := fun i hi => by
      obtain ⟨g', f, ha, hg, hs, hc⟩ := h.fail i hi
      exact ⟨g', f, ha, by rw [sc_size]; exact hg, hs, by rw [e g' (b2 i hi g' f ha)]; exact hc⟩
    pg := fun i hi => by rw [e _ (fun x => a1 x.symm)]; exact h.pg i hi
    worn := fun i hi => by rw [e _ (fun x => a2 x.symm)]; exact h.worn i hi
    dead := fun i hi => by rw [e _ (fun x => a3 x.symm)]; exact h.dead i hi
    mark := fun i hi => by rw [e _ (fun x => a4 x.symm)]; exact h.mark i hi
    lt := by rw [sc_size]; exact h.lt }
set_option maxRecDepth 100000 in
set_option maxHeartbeats 2000000 in
theorem erasem_dead {w : World} {S X C} (h : Md w S X C) (hS : ∀ i, S i → i < w.heap.size) (b : Nat) (hb : b < C.B) (hd9 : C.did < 999) (hw9 : ∀ i, C.worn i < 999) (hc : C.cuts (C.did + 1) = none) (hfa : (C.dead b || C.fails (C.did + 1)) = true) : Calls Try.prog 30 #[.agg (mdA X C), .int .i64 b] w fun e w' =>
    ∃ X', e = .returned (.tuple #[.agg (mdA X' { actC C with worn := upd C.worn b (C.worn b + 1), dead := upd C.dead b true }), .int .i64 54]) ∧ Md w' S X' { actC C with worn := upd C.worn b (C.worn b + 1), dead := upd C.dead b true } ∧ Below w.heap.size w w' ∧ Xn w X X' := by
  obtain ⟨i0, k0, x0, IS, hcut, hIS⟩ : ∃ i0 k0 x0 : Int, ∃ IS : Bool, actV X C = .tuple #[.agg (mdA X (actC C)), .agg #[.int .i64 i0, .int .i64 k0, .int .u8 x0], .bool IS, .bool (C.fails (C.did + 1))] ∧ IS = false := by
    refine ⟨0, 0, 0, false, ?_, rfl⟩
    unfold actV cutF
    rw [hc]
    rfl
  have hgeo := h.geo
  obtain ⟨bp, hbp, hbi, hbl, hb5⟩ := bp_of C b hb ⟨hgeo.2.1, hgeo.2.2.2.1⟩
  have hbl1 : (bp : Int) + C.P ≤ ((C.B * C.P : Nat) : Int) := by omega
  have hb51 : (bp : Int) + C.P ≤ 512 := by omega
  have hwr := h.wornr b
  have HM := Hid.mk h
  have HBP := Hid.mk hbp
  have hb1 : (b : Int) < C.B := by omega
  clear h hbp
  have hwb := hw9 b
  have HW9 := Hid.mk hw9
  clear hw9
  obtain ⟨C1, hC1⟩ : ∃ C1 : Ch, C1 = actC C := ⟨_, rfl⟩
  have hact : actV X C = .tuple #[.agg (mdA X C1), .agg #[.int .i64 i0, .int .i64 k0, .int .u8 x0], .bool IS, .bool (C.fails (C.did + 1))] := by
    rw [hC1]
    exact hcut
  have hCs : C1.B = C.B ∧ C1.P = C.P ∧ C1.Z = C.Z ∧ C1.worn = C.worn ∧ C1.dead = C.dead := by rw [hC1]; exact ⟨rfl, rfl, rfl, rfl, rfl⟩
  generalize hFF : C.fails (C.did + 1) = F at *
  have HC1 := Hid.mk (And.intro hC1 (And.intro hact (And.intro hCs hFF)))
  clear hC1 hact hCs hFF hcut
  go_enter Try.func30, Try.ntmps30
  go_upto_region 1 with fail
  have hM0 := Mw.start HM.out
  generalize (w.alloc (.cells (mdA X C) 39)).alloc (.cells #[.int .i64 0, .int .i64 0, .int .i64 0, .slice none 0 0, .slice none 0 0, .slice none 0 0, .slice none 0 0, .slice none 0 0, .slice none 0 0, .slice none 0 0, .int .i64 0, .bool false] 39) = W0 at *
  obtain ⟨p0, p1, p2, p3, p4, p5, p6, p7, p8, p9, p10, p11⟩ := hM0.own.cells
  have HM0 := Hid.mk hM0
  clear hM0
  go_upto_region 2 with (go_at_call 31; refine (act_any HM0.out.md).mono ?_; rintro e w1 ⟨rfl, b1⟩; rw [HC1.out.2.1]; unfold mdA)
  have hM1 := HM0.out.call b1
  have hN := heap_alloc_new w1 (.cells #[.int .i64 C1.B, .int .i64 C1.P, .int .i64 C1.Z, .slice X.ca X.cl.length X.cc, .slice X.fa X.fl.length X.fc, .slice X.ba X.bn X.bc, .slice (some ⟨X.gp, 0, none⟩) (C1.B * C1.P) X.cp, .slice (some ⟨X.gw, 0, none⟩) C1.B X.cw, .slice (some ⟨X.gd, 0, none⟩) C1.B X.cd, .slice (some ⟨X.gm, 0, none⟩) C1.B X.cm, .int .i64 C1.did, .bool C1.off] 39)
  have hK := heap_alloc_new (w1.alloc (.cells #[.int .i64 C1.B, .int .i64 C1.P, .int .i64 C1.Z, .slice X.ca X.cl.length X.cc, .slice X.fa X.fl.length X.fc, .slice X.ba X.bn X.bc, .slice (some ⟨X.gp, 0, none⟩) (C1.B * C1.P) X.cp, .slice (some ⟨X.gw, 0, none⟩) C1.B X.cw, .slice (some ⟨X.gd, 0, none⟩) C1.B X.cd, .slice (some ⟨X.gm, 0, none⟩) C1.B X.cm, .int .i64 C1.did, .bool C1.off] 39)) (.cells #[.int .i64 i0, .int .i64 k0, .int .u8 x0] 57)
  rw [size_alloc] at hK
  have hbN := below_two w1 (.cells #[.int .i64 C1.B, .int .i64 C1.P, .int .i64 C1.Z, .slice X.ca X.cl.length X.cc, .slice X.fa X.fl.length X.fc, .slice X.ba X.bn X.bc, .slice (some ⟨X.gp, 0, none⟩) (C1.B * C1.P) X.cp, .slice (some ⟨X.gw, 0, none⟩) C1.B X.cw, .slice (some ⟨X.gd, 0, none⟩) C1.B X.cd, .slice (some ⟨X.gm, 0, none⟩) C1.B X.cm, .int .i64 C1.did, .bool C1.off] 39) (.cells #[.int .i64 i0, .int .i64 k0, .int .u8 x0] 57)
  have hN2 : MdAt ((w1.alloc (.cells #[.int .i64 C1.B, .int .i64 C1.P, .int .i64 C1.Z, .slice X.ca X.cl.length X.cc, .slice X.fa X.fl.length X.fc, .slice X.ba X.bn X.bc, .slice (some ⟨X.gp, 0, none⟩) (C1.B * C1.P) X.cp, .slice (some ⟨X.gw, 0, none⟩) C1.B X.cw, .slice (some ⟨X.gd, 0, none⟩) C1.B X.cd, .slice (some ⟨X.gm, 0, none⟩) C1.B X.cm, .int .i64 C1.did, .bool C1.off] 39)).alloc (.cells #[.int .i64 i0, .int .i64 k0, .int .u8 x0] 57)) w1.heap.size X C1 := (Below.heap_alloc _ _ _ (by rw [size_alloc]; omega)).trans hN
  have hM2 := hM1.call hbN
  have hmd2 : Md ((w1.alloc (.cells #[.int .i64 C1.B, .int .i64 C1.P, .int .i64 C1.Z, .slice X.ca X.cl.length X.cc, .slice X.fa X.fl.length X.fc, .slice X.ba X.bn X.bc, .slice (some ⟨X.gp, 0, none⟩) (C1.B * C1.P) X.cp, .slice (some ⟨X.gw, 0, none⟩) C1.B X.cw, .slice (some ⟨X.gd, 0, none⟩) C1.B X.cd, .slice (some ⟨X.gm, 0, none⟩) C1.B X.cm, .int .i64 C1.did, .bool C1.off] 39)).alloc (.cells #[.int .i64 i0, .int .i64 k0, .int .u8 x0] 57)) S X C1 := by
    have h1 := hM2.md.act1 hd9
    rw [← HC1.out.1] at h1
    exact h1
  have hlw := hM1.lt
  generalize (w1.alloc (.cells #[.int .i64 C1.B, .int .i64 C1.P, .int .i64 C1.Z, .slice X.ca X.cl.length X.cc, .slice X.fa X.fl.length X.fc, .slice X.ba X.bn X.bc, .slice (some ⟨X.gp, 0, none⟩) (C1.B * C1.P) X.cp, .slice (some ⟨X.gw, 0, none⟩) C1.B X.cw, .slice (some ⟨X.gd, 0, none⟩) C1.B X.cd, .slice (some ⟨X.gm, 0, none⟩) C1.B X.cm, .int .i64 C1.did, .bool C1.off] 39)).alloc (.cells #[.int .i64 i0, .int .i64 k0, .int .u8 x0] 57) = W at *
  have HE0 : Hid (Er w S X C W w1.heap.size X C1 i0 k0 x0 W) := ⟨hM2, hN2, hmd2, Xn.refl W X, hK, Nat.le_refl _⟩
  have lN : w1.heap.size < W.heap.size := hN2.lt
  have n7 := hN2.cells.2.2.2.2.2.2.2.1
  generalize w1.heap.size = N at *
  have hb2 : (b : Int) < C1.B := by rw [HC1.out.2.2.1.1]; exact hb1
  have hwW : w.heap.size ≤ W.heap.size := hM2.below.size
  clear hM1 hN hK hbN hN2 hM2 hmd2 b1 p0 p1 p2 p3 p4 p5 p6 p7 p8 p9 p10 p11
  obtain ⟨cap, hcap, W1, hrun, hb3, hs3, hc3, hf3⟩ := append0 (W.alloc (.cells #[] 3)) 25 3 (.int .i64 0) 8 Try.underlying25 Try.info3' (by decide) W.heap.size X.gw C1.B X.cw (fun i => .int .i64 (C1.worn i)) (fun j hj => (HE0.out.md.alloc _).worn j hj) (by rw [HC1.out.2.2.1.1]; omega) (by rw [HC1.out.2.2.1.1]; omega)
  rw [size_alloc] at hrun hs3 hc3 hf3
  have hb4 : Below W.heap.size W W1 := below3 ((Below.refl _ W).alloc (Nat.le_refl _) _) hb3
  have hL1 : Lr W (W.heap.size + 1) C1.B (fun i => .int .i64 (C1.worn i)) W1 := ⟨hb4, hs3, by omega, hc3, hf3⟩
  have ci := hc3 b (by rw [HC1.out.2.2.1.1]; exact hb)
  have fi := hf3 b
  have HRun := Hid.mk hrun
  have hL2 := hL1.set b (.int .i64 (C1.worn b + 1))
  have hE2 := HE0.out.call hL2.below
  have HL2 := Hid.mk (And.intro hL2 hE2)
  have hwr1 : 0 ≤ C1.worn b ∧ C1.worn b < 999 := by rw [HC1.out.2.2.1.2.2.2.1]; omega
  clear hrun hL1 hL2 hE2 hb3 hb4 hs3 hc3 hf3
  go_upto_region 3 with (first | (at_builtin; refine wpList_append0 rfl (.tmp 22) (.tmp 24) 25 rfl HRun.out rfl rfl ?_))
  go_upto_region 4 with fail
  generalize W1.setCell ⟨W.heap.size + 1, b, none⟩ (.int .i64 (C1.worn b + 1)) = W2 at *
  clear ci fi HRun n7
  have n7 := HL2.out.2.at'.cells.2.2.2.2.2.2.2.1
  have f7 := HL2.out.2.at'.frozen 7
  have hM6 : MdAt (W2.setCell ⟨N, 7, none⟩ (.slice (some ⟨W.heap.size + 1, 0, none⟩) C1.B cap)) N { X with gw := W.heap.size + 1, cw := cap } { C1 with worn := upd C1.worn b (C1.worn b + 1) } := heap_setCell_same W2 N 7 _ 39 _ HL2.out.2.at'
  have hw6 := HL2.out.2.mw.set HM.out (g := N) (k := 7) (.slice (some ⟨W.heap.size + 1, 0, none⟩) C1.B cap) (by omega)
  have hm6 : Md (W2.setCell ⟨N, 7, none⟩ (.slice (some ⟨W.heap.size + 1, 0, none⟩) C1.B cap)) S { X with gw := W.heap.size + 1, cw := cap } { C1 with worn := upd C1.worn b (C1.worn b + 1) } := by
    have h1 : Md (W2.setCell ⟨N, 7, none⟩ (.slice (some ⟨W.heap.size + 1, 0, none⟩) C1.B cap)) S X C1 := by
      have h2 := hw6.md.act1 hd9
      rw [← HC1.out.1] at h2
      exact h2
    refine h1.newWorn (by rw [sc_size]; exact HL2.out.1.lt) (fun hs => by have := hS _ hs; omega) (by rw [HC1.out.2.2.1.2.2.2.1]; exact HW9.out) (fun i hi => ?_)
    rw [World.cell?_setCell_other _ _ _ _ (by intro x; have := congrArg Addr.block x; simp only at this; omega), HL2.out.1.cell i hi]
  have hc6 : (W2.setCell ⟨N, 7, none⟩ (.slice (some ⟨W.heap.size + 1, 0, none⟩) C1.B cap)).heap[N + 1]? = some (.cells #[.int .i64 i0, .int .i64 k0, .int .u8 x0] 57 (0, 0)) := (Below.heap_setCell W2 _ _ _ (by show N + 1 ≠ N; omega)).trans HL2.out.2.cut
  obtain ⟨X1, hX1⟩ : ∃ X1 : Mx, X1 = { X with gw := W.heap.size + 1, cw := cap } := ⟨_, rfl⟩
  obtain ⟨C2, hC2⟩ : ∃ C2 : Ch, C2 = { C1 with worn := upd C1.worn b (C1.worn b + 1) } := ⟨_, rfl⟩
  have hXn : Xn W X X1 := by
    rw [hX1]
    exact ⟨rfl, rfl, rfl, rfl, Or.inl rfl, Or.inr (by show W.heap.size ≤ W.heap.size + 1; omega), Or.inl rfl, Or.inl rfl⟩
  have hsW : W.heap.size ≤ (W2.setCell ⟨N, 7, none⟩ (.slice (some ⟨W.heap.size + 1, 0, none⟩) C1.B cap)).heap.size := by
    rw [sc_size]
    exact HL2.out.1.below.size
  rw [← hX1, ← hC2] at hM6 hm6
  have hCs : C2.B = C.B ∧ C2.P = C.P ∧ C2.Z = C.Z ∧ C2.dead = C.dead := by rw [hC2]; exact ⟨HC1.out.2.2.1.1, HC1.out.2.2.1.2.1, HC1.out.2.2.1.2.2.1, HC1.out.2.2.1.2.2.2.2⟩
  have HC2 := Hid.mk (And.intro hC2 hCs)
  have HF : Hid (Er w S X C W N X1 C2 i0 k0 x0 (W2.setCell ⟨N, 7, none⟩ (.slice (some ⟨W.heap.size + 1, 0, none⟩) C1.B cap))) := ⟨hw6, hM6, hm6, hXn, hc6, hsW⟩
  clear hM6 hw6 hm6 hX1 hXn hC2 hCs hc6 hsW
  go_upto_region 5 with fail
  generalize W2.setCell ⟨N, 7, none⟩ (.slice (some ⟨W.heap.size + 1, 0, none⟩) C1.B cap) = W6 at *
  clear n7 f7 HE0 HL2 hwr1 hb2 hcap
  have o2 := HF.out.mw.own.cells.2.2.1
  obtain ⟨R, hR⟩ : ∃ R, R = rep (C.Z + 32) 255 := ⟨_, rfl⟩
  have htx : ∀ W, Calls Try.prog 18 #[.int .i64 ((C.Z : Int) + 32), .int .u8 255] W fun e w' => e = .returned (.string R) ∧ Below W.heap.size W w' := fun W => by
    rw [hR]
    exact text_any (C.Z + 32) (by omega) 255 (by decide) W
  have HTx := Hid.mk htx
  have HR := Hid.mk hR
  have hz1 : (C.Z : Int) ≤ 256 := by omega
  clear htx hR
  go_upto_region 6 with (go_at_call 18; refine (HTx.out _).mono ?_; rintro e W7 ⟨rfl, b7⟩)
  have HE := Hid.mk (HF.out.call b7)
  clear HF b7 o2
  subst hIS
  have hfa2 : C2.dead b = true ∨ (C2.dead b = false ∧ F = true) := by
    rw [HC2.out.2.2.2.2]
    revert hfa
    show (C.dead b || F) = true → C.dead b = true ∨ (C.dead b = false ∧ F = true)
    cases C.dead b <;> simp
  have hdd := HE.out.md.dead b (by rw [HC2.out.2.1]; exact hb)
  have n8 := HE.out.at'.cells.2.2.2.2.2.2.2.2.1
  have hb2 : (b : Int) < C2.B := by rw [HC2.out.2.1]; exact hb1
  go_upto_region 14 with fail
  go_cut [91] (fun v wx => v = .bool true ∧ W7 = wx)
  case first =>
    rcases hfa2 with h9 | ⟨h9, h8⟩
    · rw [h9] at hdd
      go_wp2_with fail
      go_meet
      exact ⟨rfl, rfl⟩
    · rw [h9] at hdd
      subst h8
      go_wp2_with fail
      go_meet
      exact ⟨rfl, rfl⟩
  case rest =>
    obtain ⟨rfl, rfl⟩ := hcut
    clear hdd
    have lN7 : N < W7.heap.size := HE.out.at'.lt
    obtain ⟨cap, hcap, V1, hrun, hb3, hs3, hc3, hf3⟩ := append0 (W7.alloc (.cells #[] 4)) 37 4 (.bool false) 1 Try.underlying37 Try.info4' (by decide) W7.heap.size X1.gd C2.B X1.cd (fun i => .bool (C2.dead i)) (fun j hj => (HE.out.md.alloc _).dead j hj) (by rw [HC2.out.2.1]; omega) (by rw [HC2.out.2.1]; omega)
    rw [size_alloc] at hrun hs3 hc3 hf3
    have hb4 : Below W7.heap.size W7 V1 := below3 ((Below.refl _ W7).alloc (Nat.le_refl _) _) hb3
    have hL1 : Lr W7 (W7.heap.size + 1) C2.B (fun i => .bool (C2.dead i)) V1 := ⟨hb4, hs3, by omega, hc3, hf3⟩
    have ci := hc3 b (by rw [HC2.out.2.1]; exact hb)
    have fi := hf3 b
    have HRun := Hid.mk hrun
    have hL2 := hL1.set b (.bool true)
    have hE2 := HE.out.call hL2.below
    have HL2 := Hid.mk (And.intro hL2 hE2)
    clear hrun hL1 hL2 hE2 hb3 hb4 hs3 hc3 hf3
    go_upto_region 16 with (first | (at_builtin; refine wpList_append0 rfl (.tmp 100) (.tmp 102) 37 rfl HRun.out rfl rfl ?_))
    go_upto_region 17 with fail
    generalize V1.setCell ⟨W7.heap.size + 1, b, none⟩ (.bool true) = V2 at *
    clear ci fi HRun n8
    have n8 := HL2.out.2.at'.cells.2.2.2.2.2.2.2.2.1
    have f8 := HL2.out.2.at'.frozen 8
    have hsz := HE.out.size
    have hM6 : MdAt (V2.setCell ⟨N, 8, none⟩ (.slice (some ⟨W7.heap.size + 1, 0, none⟩) C2.B cap)) N { X1 with gd := W7.heap.size + 1, cd := cap } { C2 with dead := upd C2.dead b true } := heap_setCell_same V2 N 8 _ 39 _ HL2.out.2.at'
    have hw6 := HL2.out.2.mw.set HM.out (g := N) (k := 8) (.slice (some ⟨W7.heap.size + 1, 0, none⟩) C2.B cap) (by omega)
    have hm6 : Md (V2.setCell ⟨N, 8, none⟩ (.slice (some ⟨W7.heap.size + 1, 0, none⟩) C2.B cap)) S { X1 with gd := W7.heap.size + 1, cd := cap } { C2 with dead := upd C2.dead b true } := by
      have h1 : Md (V2.setCell ⟨N, 8, none⟩ (.slice (some ⟨W7.heap.size + 1, 0, none⟩) C2.B cap)) S X1 C2 := HL2.out.2.md.outOf HM.out HE.out.xn (by omega) (by omega) _
      refine h1.newDead (by rw [sc_size]; exact HL2.out.1.lt) (fun hs => by have := hS _ hs; omega) (fun i hi => ?_)
      rw [World.cell?_setCell_other _ _ _ _ (by intro x; have := congrArg Addr.block x; simp only at this; omega), HL2.out.1.cell i hi]
    obtain ⟨X3, hX3⟩ : ∃ X3 : Mx, X3 = { X1 with gd := W7.heap.size + 1, cd := cap } := ⟨_, rfl⟩
    obtain ⟨C3, hC3⟩ : ∃ C3 : Ch, C3 = { C2 with dead := upd C2.dead b true } := ⟨_, rfl⟩
    have hXn : Xn W X X3 := by
      rw [hX3]
      exact ⟨HE.out.xn.ca, HE.out.xn.cl, HE.out.xn.fa, HE.out.xn.fl, HE.out.xn.gp, HE.out.xn.gw, Or.inr (by show W.heap.size ≤ W7.heap.size + 1; omega), HE.out.xn.gm⟩
    rw [← hX3, ← hC3] at hM6 hm6
    have HC3 := Hid.mk hC3
    have HF := Hid.mk (And.intro hM6 (And.intro hw6 (And.intro hm6 hXn)))
    clear hM6 hw6 hm6 hX3 hXn hC3
    go_upto_region 18 with fail
    generalize V2.setCell ⟨N, 8, none⟩ (.slice (some ⟨W7.heap.size + 1, 0, none⟩) C2.B cap) = W9 at *
    clear n8 f8
    obtain ⟨n0, n1, n2, n3, n4, n5, n6, n7, n8, n9, n10, n11⟩ := HF.out.1.cells
    obtain ⟨q0, q1, q2, q3, q4, q5, q6, q7, q8, q9, q10, q11, qf⟩ := z39_cells HF.out.2.1.res
    have P1 := putMd HF.out.2.1.res X3 C3
    have hb7 := P1.below HF.out.2.1.below (by omega)
    have hm7 := P1.mdX HF.out.2.2.1 HM.out HF.out.2.2.2 (by omega) (by omega)
    have HG := Hid.mk (And.intro P1.here (And.intro hb7 hm7))
    clear P1 hb7 hm7
    go_wp2_with fail
    have eW : ((((((((((((W9.setCell ⟨w.heap.size + 1, 0, none⟩ (.int .i64 C3.B)).setCell ⟨w.heap.size + 1, 1, none⟩ (.int .i64 C3.P)).setCell ⟨w.heap.size + 1, 2, none⟩ (.int .i64 C3.Z)).setCell ⟨w.heap.size + 1, 3, none⟩ (.slice X3.ca X3.cl.length X3.cc)).setCell ⟨w.heap.size + 1, 4, none⟩ (.slice X3.fa X3.fl.length X3.fc)).setCell ⟨w.heap.size + 1, 5, none⟩ (.slice X3.ba X3.bn X3.bc)).setCell ⟨w.heap.size + 1, 6, none⟩ (.slice (some ⟨X3.gp, 0, none⟩) (C3.B * C3.P) X3.cp)).setCell ⟨w.heap.size + 1, 7, none⟩ (.slice (some ⟨X3.gw, 0, none⟩) C3.B X3.cw)).setCell ⟨w.heap.size + 1, 8, none⟩ (.slice (some ⟨X3.gd, 0, none⟩) C3.B X3.cd)).setCell ⟨w.heap.size + 1, 9, none⟩ (.slice (some ⟨X3.gm, 0, none⟩) C3.B X3.cm)).setCell ⟨w.heap.size + 1, 10, none⟩ (.int .i64 C3.did)).setCell ⟨w.heap.size + 1, 11, none⟩ (.bool C3.off)) = setMd W9 (w.heap.size + 1) X3 C3 := rfl
    rw [eW]
    clear eW
    generalize setMd W9 (w.heap.size + 1) X3 C3 = Wz at *
    have e2 : C3 = { actC C with worn := upd C.worn b (C.worn b + 1), dead := upd C.dead b true } := by
      rw [HC3.out, HC2.out.1, HC1.out.1]
      rfl
    rw [← e2]
    exact bodyPost_ret (results_mt rfl rfl HG.out.1 rfl) rfl ⟨X3, rfl, HG.out.2.2, HG.out.2.1, HF.out.2.2.2.mono hwW⟩
end Go.Proofs.Ytkfkepjegdaadaa
