/-
  A block of the model, erased: the walk of erase where nothing fails. No condition.
-/
import Derived.Test.YtkfkepjegdaadaaMp4
namespace Go.Proofs.Ytkfkepjegdaadaa
open Go Go.RowKit

theorem Try.info3' : (Try.prog.info? 3).map (fun i => (i.zero, i.size, i.bytes)) = some (some (.int .i64 0), 1, 8) := by kernel_rfl
/-- a model whose row of counts is another -/
theorem Md.newWorn {w : World} {S X C} (h : Md w S X C) {g cap b : Nat} (hg : g < w.heap.size) (hs : ¬ S g) (hw : ∀ i, C.worn i < 999) (hc : ∀ i, i < C.B → w.cell? ⟨g, i, none⟩ = some (if i = b then .int .i64 (C.worn b + 1) else .int .i64 (C.worn i))) :
    Md w S { X with gw := g, cw := cap } { C with worn := upd C.worn b (C.worn b + 1) } :=
  ⟨h.cut, h.fail, h.ecut, h.efail, h.len, h.rng, h.pg, fun i hi => by
    rw [hc i hi]
    unfold upd
    by_cases e : i = b
    · simp [e]
    · simp [e], h.dead, h.mark, ⟨h.lt.1, hg, h.lt.2.2⟩, ⟨h.out.1, hs, h.out.2.2⟩, h.geo, h.didr, fun i => by
    have h1 := h.wornr
    show 0 ≤ upd C.worn b (C.worn b + 1) i ∧ upd C.worn b (C.worn b + 1) i < 1000
    unfold upd
    split
    · have := h1 b
      have := hw b
      omega
    · exact h1 i⟩
theorem Md.act1 {w : World} {S X C} (h : Md w S X C) (hd : C.did < 999) : Md w S X (actC C) := (h.did1 hd).off1 _
/-- the first pages of a block hold nothing -/
def clr (C : Ch) (b k : Nat) : Ch := { C with pg := upd C.pg b (fun p => if p < k then ⟨#[]⟩ else C.pg b p) }
theorem clr_zero (C : Ch) (b : Nat) : clr C b 0 = C := by
  have e : upd C.pg b (fun p => if p < 0 then ⟨#[]⟩ else C.pg b p) = C.pg := by
    funext i
    unfold upd
    split
    · rename_i h
      subst h
      funext p
      simp
    · rfl
  unfold clr
  rw [e]
theorem kp_full (Z : Nat) : kp Z (rep (Z + 32) 255) = ⟨#[]⟩ := by
  unfold kp
  rw [if_pos rfl]
theorem clr_step (C : Ch) (b k : Nat) : putPg (clr C b k) b k ⟨#[]⟩ = clr C b (k + 1) := by
  have e : upd (upd C.pg b (fun p => if p < k then ⟨#[]⟩ else C.pg b p)) b (upd (upd C.pg b (fun p => if p < k then ⟨#[]⟩ else C.pg b p) b) k ⟨#[]⟩) = upd C.pg b (fun p => if p < k + 1 then ⟨#[]⟩ else C.pg b p) := by
    rw [upd_upd, upd_same]
    congr 1
    funext p
    unfold upd
    by_cases h1 : p = k
    · rw [if_pos h1, if_pos (by omega)]
    · rw [if_neg h1]
      show (if p < k then (⟨#[]⟩ : ByteArray) else C.pg b p) = _
      by_cases h2 : p < k
      · rw [if_pos h2, if_pos (by omega)]
      · rw [if_neg h2, if_neg (by omega)]
  unfold putPg clr
  simp only
  rw [e]
/-- what erase holds: its call's blocks, its own model in block N, the cut behind it -/
structure Er (w : World) (S : Nat → Prop) (X : Mx) (C : Ch) (W0 : World) (N : Nat) (X1 : Mx) (C2 : Ch) (i0 k0 x0 : Int) (W : World) : Prop where
  mw : Mw w S X C W
  at' : MdAt W N X1 C2
  md : Md W S X1 C2
  xn : Xn W0 X X1
  cut : W.heap[N + 1]? = some (.cells #[.int .i64 i0, .int .i64 k0, .int .u8 x0] 57 (0, 0))
  size : W0.heap.size ≤ W.heap.size
theorem Er.call {w : World} {S X C W0 N X1 C2 i0 k0 x0} {W W' : World} (h : Er w S X C W0 N X1 C2 i0 k0 x0 W) (b : Below W.heap.size W W') : Er w S X C W0 N X1 C2 i0 k0 x0 W' :=
  ⟨h.mw.call b, h.at'.call b, h.md.call b, h.xn, (b.block _ (Array.getElem?_eq_some_iff.1 h.cut).1).trans h.cut, Nat.le_trans h.size b.size⟩
/-- another model is stored there -/
theorem Er.put {w : World} {S X C W0 N X1 C2 i0 k0 x0} {W : World} (h : Er w S X C W0 N X1 C2 i0 k0 x0 W) {W1 : World} (b : Below W.heap.size W W1) {X2 : Mx} {C3 : Ch} (hm : Md W1 S X2 C3) (hx : Xn W X1 X2) (h0 : Md w S X C) (hN : w.heap.size + 1 < N) (hN0 : N < W0.heap.size) : Er w S X C W0 N X2 C3 i0 k0 x0 (setMd W1 N X2 C3) := by
  have h1 := h.call b
  have P1 := h1.at'.put X2 C3
  have hb : Below w.heap.size w (setMd W1 N X2 C3) := P1.below h1.mw.below (by omega)
  have x2 : Xn W0 X X2 := h.xn.trans hx h.size
  refine ⟨⟨hb, (P1.other _ (by omega)).trans h1.mw.own, (P1.other _ (by omega)).trans h1.mw.res, h0.call hb⟩, P1.here, P1.mdX hm h0 x2 (by omega) hN0, x2, (P1.other _ (by omega)).trans h1.cut, ?_⟩
  rw [P1.size]
  exact h1.size
set_option maxRecDepth 100000 in
set_option maxHeartbeats 2000000 in
theorem erasem_ok {w : World} {S X C} (h : Md w S X C) (hS : ∀ i, S i → i < w.heap.size) (b : Nat) (hb : b < C.B) (hd9 : C.did < 999) (hw9 : ∀ i, C.worn i < 999) (hc : C.cuts (C.did + 1) = none) (hfa : (C.dead b || C.fails (C.did + 1)) = false) : Calls Try.prog 30 #[.agg (mdA X C), .int .i64 b] w fun e w' =>
    ∃ X', e = .returned (.tuple #[.agg (mdA X' (clr { actC C with worn := upd C.worn b (C.worn b + 1) } b C.P)), .int .i64 0]) ∧ Md w' S X' (clr { actC C with worn := upd C.worn b (C.worn b + 1) } b C.P) ∧ Below w.heap.size w w' ∧ Xn w X X' := by
  obtain ⟨i0, k0, x0, IS, hcut, hIS⟩ : ∃ i0 k0 x0 : Int, ∃ IS : Bool, actV X C = .tuple #[.agg (mdA X (actC C)), .agg #[.int .i64 i0, .int .i64 k0, .int .u8 x0], .bool IS, .bool (C.fails (C.did + 1))] ∧ IS = false := by
    refine ⟨0, 0, 0, false, ?_, rfl⟩
    unfold actV cutF
    rw [hc]
    rfl
  have hgeo := h.geo
  obtain ⟨bp, hbp, hbi, hbl, hb5⟩ := bp_of C b hb ⟨hgeo.2.1, hgeo.2.2.2.1⟩
  have hbl1 : (bp : Int) + C.P ≤ ((C.B * C.P : Nat) : Int) := by omega
  have hb51 : (bp : Int) + C.P ≤ 512 := by omega
  have hwr := h.wornr b
  have HM := Hid.mk h
  have HBP := Hid.mk hbp
  have hb1 : (b : Int) < C.B := by omega
  clear h hbp
  have hwb := hw9 b
  have HW9 := Hid.mk hw9
  clear hw9
  obtain ⟨C1, hC1⟩ : ∃ C1 : Ch, C1 = actC C := ⟨_, rfl⟩
  have hact : actV X C = .tuple #[.agg (mdA X C1), .agg #[.int .i64 i0, .int .i64 k0, .int .u8 x0], .bool IS, .bool (C.fails (C.did + 1))] := by
    rw [hC1]
    exact hcut
  have hCs : C1.B = C.B ∧ C1.P = C.P ∧ C1.Z = C.Z ∧ C1.worn = C.worn ∧ C1.dead = C.dead := by rw [hC1]; exact ⟨rfl, rfl, rfl, rfl, rfl⟩
  generalize hFF : C.fails (C.did + 1) = F at *
  have HC1 := Hid.mk (And.intro hC1 (And.intro hact (And.intro hCs hFF)))
  clear hC1 hact hCs hFF hcut
  go_enter Try.func30, Try.ntmps30
  go_upto_region 1 with fail
  have hM0 := Mw.start HM.out
  generalize (w.alloc (.cells (mdA X C) 39)).alloc (.cells #[.int .i64 0, .int .i64 0, .int .i64 0, .slice none 0 0, .slice none 0 0, .slice none 0 0, .slice none 0 0, .slice none 0 0, .slice none 0 0, .slice none 0 0, .int .i64 0, .bool false] 39) = W0 at *
  obtain ⟨p0, p1, p2, p3, p4, p5, p6, p7, p8, p9, p10, p11⟩ := hM0.own.cells
  have HM0 := Hid.mk hM0
  clear hM0
  go_upto_region 2 with (go_at_call 31; refine (act_any HM0.out.md).mono ?_; rintro e w1 ⟨rfl, b1⟩; rw [HC1.out.2.1]; unfold mdA)
  have hM1 := HM0.out.call b1
  have hN := heap_alloc_new w1 (.cells #[.int .i64 C1.B, .int .i64 C1.P, .int .i64 C1.Z, .slice X.ca X.cl.length X.cc, .slice X.fa X.fl.length X.fc, .slice X.ba X.bn X.bc, .slice (some ⟨X.gp, 0, none⟩) (C1.B * C1.P) X.cp, .slice (some ⟨X.gw, 0, none⟩) C1.B X.cw, .slice (some ⟨X.gd, 0, none⟩) C1.B X.cd, .slice (some ⟨X.gm, 0, none⟩) C1.B X.cm, .int .i64 C1.did, .bool C1.off] 39)
  have hK := heap_alloc_new (w1.alloc (.cells #[.int .i64 C1.B, .int .i64 C1.P, .int .i64 C1.Z, .slice X.ca X.cl.length X.cc, .slice X.fa X.fl.length X.fc, .slice X.ba X.bn X.bc, .slice (some ⟨X.gp, 0, none⟩) (C1.B * C1.P) X.cp, .slice (some ⟨X.gw, 0, none⟩) C1.B X.cw, .slice (some ⟨X.gd, 0, none⟩) C1.B X.cd, .slice (some ⟨X.gm, 0, none⟩) C1.B X.cm, .int .i64 C1.did, .bool C1.off] 39)) (.cells #[.int .i64 i0, .int .i64 k0, .int .u8 x0] 57)
  rw [size_alloc] at hK
  have hbN := below_two w1 (.cells #[.int .i64 C1.B, .int .i64 C1.P, .int .i64 C1.Z, .slice X.ca X.cl.length X.cc, .slice X.fa X.fl.length X.fc, .slice X.ba X.bn X.bc, .slice (some ⟨X.gp, 0, none⟩) (C1.B * C1.P) X.cp, .slice (some ⟨X.gw, 0, none⟩) C1.B X.cw, .slice (some ⟨X.gd, 0, none⟩) C1.B X.cd, .slice (some ⟨X.gm, 0, none⟩) C1.B X.cm, .int .i64 C1.did, .bool C1.off] 39) (.cells #[.int .i64 i0, .int .i64 k0, .int .u8 x0] 57)
  have hN2 : MdAt ((w1.alloc (.cells #[.int .i64 C1.B, .int .i64 C1.P, .int .i64 C1.Z, .slice X.ca X.cl.length X.cc, .slice X.fa X.fl.length X.fc, .slice X.ba X.bn X.bc, .slice (some ⟨X.gp, 0, none⟩) (C1.B * C1.P) X.cp, .slice (some ⟨X.gw, 0, none⟩) C1.B X.cw, .slice (some ⟨X.gd, 0, none⟩) C1.B X.cd, .slice (some ⟨X.gm, 0, none⟩) C1.B X.cm, .int .i64 C1.did, .bool C1.off] 39)).alloc (.cells #[.int .i64 i0, .int .i64 k0, .int .u8 x0] 57)) w1.heap.size X C1 := (Below.heap_alloc _ _ _ (by rw [size_alloc]; omega)).trans hN
  have hM2 := hM1.call hbN
  have hmd2 : Md ((w1.alloc (.cells #[.int .i64 C1.B, .int .i64 C1.P, .int .i64 C1.Z, .slice X.ca X.cl.length X.cc, .slice X.fa X.fl.length X.fc, .slice X.ba X.bn X.bc, .slice (some ⟨X.gp, 0, none⟩) (C1.B * C1.P) X.cp, .slice (some ⟨X.gw, 0, none⟩) C1.B X.cw, .slice (some ⟨X.gd, 0, none⟩) C1.B X.cd, .slice (some ⟨X.gm, 0, none⟩) C1.B X.cm, .int .i64 C1.did, .bool C1.off] 39)).alloc (.cells #[.int .i64 i0, .int .i64 k0, .int .u8 x0] 57)) S X C1 := by
    have h1 := hM2.md.act1 hd9
    rw [← HC1.out.1] at h1
    exact h1
  have hlw := hM1.lt
  generalize (w1.alloc (.cells #[.int .i64 C1.B, .int .i64 C1.P, .int .i64 C1.Z, .slice X.ca X.cl.length X.cc, .slice X.fa X.fl.length X.fc, .slice X.ba X.bn X.bc, .slice (some ⟨X.gp, 0, none⟩) (C1.B * C1.P) X.cp, .slice (some ⟨X.gw, 0, none⟩) C1.B X.cw, .slice (some ⟨X.gd, 0, none⟩) C1.B X.cd, .slice (some ⟨X.gm, 0, none⟩) C1.B X.cm, .int .i64 C1.did, .bool C1.off] 39)).alloc (.cells #[.int .i64 i0, .int .i64 k0, .int .u8 x0] 57) = W at *
  have HE0 : Hid (Er w S X C W w1.heap.size X C1 i0 k0 x0 W) := ⟨hM2, hN2, hmd2, Xn.refl W X, hK, Nat.le_refl _⟩
  have lN : w1.heap.size < W.heap.size := hN2.lt
  have n7 := hN2.cells.2.2.2.2.2.2.2.1
  generalize w1.heap.size = N at *
  have hb2 : (b : Int) < C1.B := by rw [HC1.out.2.2.1.1]; exact hb1
  have hwW : w.heap.size ≤ W.heap.size := hM2.below.size
  clear hM1 hN hK hbN hN2 hM2 hmd2 b1 p0 p1 p2 p3 p4 p5 p6 p7 p8 p9 p10 p11
  obtain ⟨cap, hcap, W1, hrun, hb3, hs3, hc3, hf3⟩ := append0 (W.alloc (.cells #[] 3)) 25 3 (.int .i64 0) 8 Try.underlying25 Try.info3' (by decide) W.heap.size X.gw C1.B X.cw (fun i => .int .i64 (C1.worn i)) (fun j hj => (HE0.out.md.alloc _).worn j hj) (by rw [HC1.out.2.2.1.1]; omega) (by rw [HC1.out.2.2.1.1]; omega)
  rw [size_alloc] at hrun hs3 hc3 hf3
  have hb4 : Below W.heap.size W W1 := below3 ((Below.refl _ W).alloc (Nat.le_refl _) _) hb3
  have hL1 : Lr W (W.heap.size + 1) C1.B (fun i => .int .i64 (C1.worn i)) W1 := ⟨hb4, hs3, by omega, hc3, hf3⟩
  have ci := hc3 b (by rw [HC1.out.2.2.1.1]; exact hb)
  have fi := hf3 b
  have HRun := Hid.mk hrun
  have hL2 := hL1.set b (.int .i64 (C1.worn b + 1))
  have hE2 := HE0.out.call hL2.below
  have HL2 := Hid.mk (And.intro hL2 hE2)
  have hwr1 : 0 ≤ C1.worn b ∧ C1.worn b < 999 := by rw [HC1.out.2.2.1.2.2.2.1]; omega
  clear hrun hL1 hL2 hE2 hb3 hb4 hs3 hc3 hf3
  go_upto_region 3 with (first | (at_builtin; refine wpList_append0 rfl (.tmp 22) (.tmp 24) 25 rfl HRun.out rfl rfl ?_))
  go_upto_region 4 with fail
  generalize W1.setCell ⟨W.heap.size + 1, b, none⟩ (.int .i64 (C1.worn b + 1)) = W2 at *
  clear ci fi HRun n7
  have n7 := HL2.out.2.at'.cells.2.2.2.2.2.2.2.1
  have f7 := HL2.out.2.at'.frozen 7
  have hM6 : MdAt (W2.setCell ⟨N, 7, none⟩ (.slice (some ⟨W.heap.size + 1, 0, none⟩) C1.B cap)) N { X with gw := W.heap.size + 1, cw := cap } { C1 with worn := upd C1.worn b (C1.worn b + 1) } := heap_setCell_same W2 N 7 _ 39 _ HL2.out.2.at'
  have hw6 := HL2.out.2.mw.set HM.out (g := N) (k := 7) (.slice (some ⟨W.heap.size + 1, 0, none⟩) C1.B cap) (by omega)
  have hm6 : Md (W2.setCell ⟨N, 7, none⟩ (.slice (some ⟨W.heap.size + 1, 0, none⟩) C1.B cap)) S { X with gw := W.heap.size + 1, cw := cap } { C1 with worn := upd C1.worn b (C1.worn b + 1) } := by
    have h1 : Md (W2.setCell ⟨N, 7, none⟩ (.slice (some ⟨W.heap.size + 1, 0, none⟩) C1.B cap)) S X C1 := by
      have h2 := hw6.md.act1 hd9
      rw [← HC1.out.1] at h2
      exact h2
    refine h1.newWorn (by rw [sc_size]; exact HL2.out.1.lt) (fun hs => by have := hS _ hs; omega) (by rw [HC1.out.2.2.1.2.2.2.1]; exact HW9.out) (fun i hi => ?_)
    rw [World.cell?_setCell_other _ _ _ _ (by intro x; have := congrArg Addr.block x; simp only at this; omega), HL2.out.1.cell i hi]
  have hc6 : (W2.setCell ⟨N, 7, none⟩ (.slice (some ⟨W.heap.size + 1, 0, none⟩) C1.B cap)).heap[N + 1]? = some (.cells #[.int .i64 i0, .int .i64 k0, .int .u8 x0] 57 (0, 0)) := (Below.heap_setCell W2 _ _ _ (by show N + 1 ≠ N; omega)).trans HL2.out.2.cut
  obtain ⟨X1, hX1⟩ : ∃ X1 : Mx, X1 = { X with gw := W.heap.size + 1, cw := cap } := ⟨_, rfl⟩
  obtain ⟨C2, hC2⟩ : ∃ C2 : Ch, C2 = { C1 with worn := upd C1.worn b (C1.worn b + 1) } := ⟨_, rfl⟩
  have hXn : Xn W X X1 := by
    rw [hX1]
    exact ⟨rfl, rfl, rfl, rfl, Or.inl rfl, Or.inr (by show W.heap.size ≤ W.heap.size + 1; omega), Or.inl rfl, Or.inl rfl⟩
  have hsW : W.heap.size ≤ (W2.setCell ⟨N, 7, none⟩ (.slice (some ⟨W.heap.size + 1, 0, none⟩) C1.B cap)).heap.size := by
    rw [sc_size]
    exact HL2.out.1.below.size
  rw [← hX1, ← hC2] at hM6 hm6
  have hCs : C2.B = C.B ∧ C2.P = C.P ∧ C2.Z = C.Z ∧ C2.dead = C.dead := by rw [hC2]; exact ⟨HC1.out.2.2.1.1, HC1.out.2.2.1.2.1, HC1.out.2.2.1.2.2.1, HC1.out.2.2.1.2.2.2.2⟩
  have HC2 := Hid.mk (And.intro hC2 hCs)
  have HF : Hid (Er w S X C W N X1 C2 i0 k0 x0 (W2.setCell ⟨N, 7, none⟩ (.slice (some ⟨W.heap.size + 1, 0, none⟩) C1.B cap))) := ⟨hw6, hM6, hm6, hXn, hc6, hsW⟩
  clear hM6 hw6 hm6 hX1 hXn hC2 hCs hc6 hsW
  go_upto_region 5 with fail
  generalize W2.setCell ⟨N, 7, none⟩ (.slice (some ⟨W.heap.size + 1, 0, none⟩) C1.B cap) = W6 at *
  clear n7 f7 HE0 HL2 hwr1 hb2 hcap
  have o2 := HF.out.mw.own.cells.2.2.1
  obtain ⟨R, hR⟩ : ∃ R, R = rep (C.Z + 32) 255 := ⟨_, rfl⟩
  have htx : ∀ W, Calls Try.prog 18 #[.int .i64 ((C.Z : Int) + 32), .int .u8 255] W fun e w' => e = .returned (.string R) ∧ Below W.heap.size W w' := fun W => by
    rw [hR]
    exact text_any (C.Z + 32) (by omega) 255 (by decide) W
  have HTx := Hid.mk htx
  have HR := Hid.mk hR
  have hz1 : (C.Z : Int) ≤ 256 := by omega
  clear htx hR
  go_upto_region 6 with (go_at_call 18; refine (HTx.out _).mono ?_; rintro e W7 ⟨rfl, b7⟩)
  have HE := Hid.mk (HF.out.call b7)
  clear HF b7 o2
  have hfa1 : C2.dead b = false ∧ F = false := by
    rw [HC2.out.2.2.2.2]
    simpa using hfa
  have hdd := HE.out.md.dead b (by rw [HC2.out.2.1]; exact hb)
  rw [hfa1.1] at hdd
  have hF := hfa1.2
  clear hfa1
  subst hF
  subst hIS
  have n8 := HE.out.at'.cells.2.2.2.2.2.2.2.2.1
  have hb2 : (b : Int) < C2.B := by rw [HC2.out.2.1]; exact hb1
  go_upto_region 20 with fail
  have hEr : Er w S X C W N X1 (clr C2 b 0) i0 k0 x0 W7 := by rw [clr_zero]; exact HE.out
  have HEr := Hid.mk hEr
  clear hdd n8 HE hEr
  go_loopw [14] (fun i wr => ∃ k : Nat, k ≤ C.P ∧ i = .int .i64 k ∧ ∃ Xi, Er w S X C W N Xi (clr C2 b k) i0 k0 x0 wr) (fun i _ => C.P - (intOf i).toNat)
  case atStart => exact ⟨0, by omega, rfl, X1, HEr.out⟩
  case round =>
    obtain ⟨k, hk, rfl, Xi, hEi⟩ := hrel
    clear HEr
    obtain ⟨Ck, hCk⟩ : ∃ Ck : Ch, Ck = clr C2 b k := ⟨_, rfl⟩
    rw [← hCk] at hEi
    have hCs : Ck.B = C.B ∧ Ck.P = C.P ∧ Ck.Z = C.Z := by rw [hCk]; exact ⟨HC2.out.2.1, HC2.out.2.2.1, HC2.out.2.2.2.1⟩
    have HCk := Hid.mk (And.intro hCk hCs)
    clear hCk hCs
    have m1 := hEi.mw.own.cells.2.1
    obtain ⟨n0, n1, n2, n3, n4, n5, n6, n7, n8, n9, n10, n11⟩ := hEi.at'.cells
    have HEi := Hid.mk hEi
    clear hEi
    by_cases hkP : k < C.P
    · have hk1 : (k : Int) < C.P := by omega
      obtain ⟨Cn, hCn⟩ : ∃ Cn : Ch, Cn = clr C2 b (k + 1) := ⟨_, rfl⟩
      have hlay : Calls Try.prog 41 #[.agg (mdA Xi Ck), .int .i64 ((bp : Int) + k), .string R] wr fun e w' => ∃ X', e = .returned (.agg (mdA X' Cn)) ∧ Md w' S X' Cn ∧ Below wr.heap.size wr w' ∧ Xn wr Xi X' := by
        have h3 := lay_bp HEi.out.md (fun i hi => Nat.lt_of_lt_of_le (hS i hi) HEi.out.mw.below.size) (b := b) (p := k) (bp := bp) (by rw [HCk.out.2.1]; exact hb) (by rw [HCk.out.2.2.1]; exact hkP) (by rw [HCk.out.2.2.1]; exact HBP.out) R
        rw [HCk.out.2.2.2, HR.out, kp_full, ← HR.out] at h3
        have e3 : putPg Ck b k ⟨#[]⟩ = Cn := by rw [HCk.out.1, clr_step, hCn]
        rw [e3] at h3
        exact h3
      have HL := Hid.mk hlay
      have HCn := Hid.mk hCn
      clear hlay hCn
      go_wp2_with (go_at_call 41; refine HL.out.mono ?_; rintro e w3 ⟨X2, rfl, md3, bL, xL⟩; unfold mdA; have hE3 := HEi.out.call bL; obtain ⟨q0, q1, q2, q3, q4, q5, q6, q7, q8, q9, q10, q11⟩ := hE3.at'.cells; have qf := hE3.at'.frozen; have HG := Hid.mk (HEi.out.put bL md3 xL HM.out (by omega) (by omega)); clear hE3 md3 bL xL)
      have eW : ((((((((((((w3.setCell ⟨N, 0, none⟩ (.int .i64 Cn.B)).setCell ⟨N, 1, none⟩ (.int .i64 Cn.P)).setCell ⟨N, 2, none⟩ (.int .i64 Cn.Z)).setCell ⟨N, 3, none⟩ (.slice X2.ca X2.cl.length X2.cc)).setCell ⟨N, 4, none⟩ (.slice X2.fa X2.fl.length X2.fc)).setCell ⟨N, 5, none⟩ (.slice X2.ba X2.bn X2.bc)).setCell ⟨N, 6, none⟩ (.slice (some ⟨X2.gp, 0, none⟩) (Cn.B * Cn.P) X2.cp)).setCell ⟨N, 7, none⟩ (.slice (some ⟨X2.gw, 0, none⟩) Cn.B X2.cw)).setCell ⟨N, 8, none⟩ (.slice (some ⟨X2.gd, 0, none⟩) Cn.B X2.cd)).setCell ⟨N, 9, none⟩ (.slice (some ⟨X2.gm, 0, none⟩) Cn.B X2.cm)).setCell ⟨N, 10, none⟩ (.int .i64 Cn.did)).setCell ⟨N, 11, none⟩ (.bool Cn.off)) = setMd w3 (N) X2 Cn := rfl
      rw [eW]
      clear eW
      generalize setMd w3 (N) X2 Cn = W9 at *
      refine ⟨⟨k + 1, by omega, by go_num, X2, ?_⟩, by simp [intOf]; omega⟩
      rw [← HCn.out]
      exact HG.out
    · have hk1 : ¬ (k : Int) < C.P := by omega
      have hkk : k = C.P := by omega
      obtain ⟨q0, q1, q2, q3, q4, q5, q6, q7, q8, q9, q10, q11, qf⟩ := z39_cells HEi.out.mw.res
      have P1 := putMd HEi.out.mw.res Xi Ck
      have hb7 := P1.below HEi.out.mw.below (by omega)
      have hm7 := P1.mdX HEi.out.md HM.out HEi.out.xn (by omega) (by omega)
      have HG := Hid.mk (And.intro P1.here (And.intro hb7 hm7))
      clear P1 hb7 hm7
      go_wp2_with fail
      have eW : ((((((((((((wr.setCell ⟨w.heap.size + 1, 0, none⟩ (.int .i64 Ck.B)).setCell ⟨w.heap.size + 1, 1, none⟩ (.int .i64 Ck.P)).setCell ⟨w.heap.size + 1, 2, none⟩ (.int .i64 Ck.Z)).setCell ⟨w.heap.size + 1, 3, none⟩ (.slice Xi.ca Xi.cl.length Xi.cc)).setCell ⟨w.heap.size + 1, 4, none⟩ (.slice Xi.fa Xi.fl.length Xi.fc)).setCell ⟨w.heap.size + 1, 5, none⟩ (.slice Xi.ba Xi.bn Xi.bc)).setCell ⟨w.heap.size + 1, 6, none⟩ (.slice (some ⟨Xi.gp, 0, none⟩) (Ck.B * Ck.P) Xi.cp)).setCell ⟨w.heap.size + 1, 7, none⟩ (.slice (some ⟨Xi.gw, 0, none⟩) Ck.B Xi.cw)).setCell ⟨w.heap.size + 1, 8, none⟩ (.slice (some ⟨Xi.gd, 0, none⟩) Ck.B Xi.cd)).setCell ⟨w.heap.size + 1, 9, none⟩ (.slice (some ⟨Xi.gm, 0, none⟩) Ck.B Xi.cm)).setCell ⟨w.heap.size + 1, 10, none⟩ (.int .i64 Ck.did)).setCell ⟨w.heap.size + 1, 11, none⟩ (.bool Ck.off)) = setMd wr (w.heap.size + 1) Xi Ck := rfl
      rw [eW]
      clear eW
      generalize setMd wr (w.heap.size + 1) Xi Ck = W9 at *
      have e2 : Ck = clr { actC C with worn := upd C.worn b (C.worn b + 1) } b C.P := by
        rw [HCk.out.1, HC2.out.1, HC1.out.1, hkk]
        rfl
      rw [← e2]
      exact bodyPost_ret (results_mt rfl rfl HG.out.1 rfl) rfl ⟨Xi, rfl, HG.out.2.2, HG.out.2.1, HEi.out.xn.mono hwW⟩
end Go.Proofs.Ytkfkepjegdaadaa
