/-
  What the model's do holds where it asks the chip. No condition.
-/
import Derived.Test.YtkfkepjegdaadaaMd2
namespace Go.Proofs.Ytkfkepjegdaadaa
open Go Go.RowKit

theorem dw_of {w : World} {L X C K b p f} {wx : World} (h : Dw w L X C K b p f wx) : wx.cell? ⟨w.heap.size, 2, none⟩ = some (.int .i64 C.Z) ∧ wx.cell? ⟨w.heap.size + 1, 3, none⟩ = some (.int .u8 f) ∧ Dw w L X C K b p f wx := ⟨h.own.cells.2.2.1, (act_cells h.act).2.2.2, h⟩
theorem dw_keep {w : World} {L X C K b p f} {wx w2 : World} (h : wx.cell? ⟨w.heap.size, 2, none⟩ = some (.int .i64 C.Z) ∧ wx.cell? ⟨w.heap.size + 1, 3, none⟩ = some (.int .u8 f) ∧ Dw w L X C K b p f wx) (k : Below wx.heap.size wx w2) : w2.cell? ⟨w.heap.size, 2, none⟩ = some (.int .i64 C.Z) ∧ w2.cell? ⟨w.heap.size + 1, 3, none⟩ = some (.int .u8 f) ∧ Dw w L X C K b p f w2 := dw_of (h.2.2.call k)
theorem blkB_false1 {C : Ch} {b : Int} (h : ¬ 0 ≤ b) : blkB C b = false := decide_eq_false (fun x => h x.1)
theorem blkB_false2 {C : Ch} {b : Int} (h : ¬ b < C.B) : blkB C b = false := decide_eq_false (fun x => h x.2)
theorem blkB_true {C : Ch} {b : Int} (h1 : 0 ≤ b) (h2 : b < C.B) : blkB C b = true := decide_eq_true ⟨h1, h2⟩
theorem blkB_iff {C : Ch} {b : Int} : blkB C b = true ↔ 0 ≤ b ∧ b < C.B := decide_eq_true_iff
theorem pgB_iff {C : Ch} {b p : Int} : pgB C b p = true ↔ ((0 ≤ b ∧ b < C.B) ∧ 0 ≤ p ∧ p < C.P) := decide_eq_true_iff
theorem refB_off {C : Ch} {b : Int} (h : C.off = true) : refB C b = 51 := by unfold refB; rw [if_pos h]
theorem refB_no {C : Ch} {b : Int} (h : C.off = false) (hb : blkB C b = false) : refB C b = 50 := by
  unfold refB
  rw [if_neg (by rw [h]; decide), if_neg]
  intro x
  rw [blkB_iff.2 x] at hb
  cases hb
theorem refB_yes {C : Ch} {b : Int} (h : C.off = false) (hb : blkB C b = true) : refB C b = 0 := by
  unfold refB
  rw [if_neg (by rw [h]; decide), if_pos (blkB_iff.1 hb)]
theorem refP_off {C : Ch} {b p : Int} (h : C.off = true) : refP C b p = 51 := by
  unfold refP
  rw [refB_off h, if_neg (by decide)]
theorem refP_no {C : Ch} {b p : Int} (h : C.off = false) (hb : blkB C b = false) : refP C b p = 50 := by
  unfold refP
  rw [refB_no h hb, if_neg (by decide)]
theorem refP_no2 {C : Ch} {b p : Int} (h : C.off = false) (hb : blkB C b = true) (hp : pgB C b p = false) : refP C b p = 50 := by
  unfold refP
  rw [refB_yes h hb, if_pos rfl, if_neg]
  intro x
  rw [pgB_iff.2 ⟨blkB_iff.1 hb, x⟩] at hp
  cases hp
theorem refP_yes {C : Ch} {b p : Int} (h : C.off = false) (hb : blkB C b = true) (hp : pgB C b p = true) : refP C b p = 0 := by
  unfold refP
  rw [refB_yes h hb, if_pos rfl, if_pos (pgB_iff.1 hp).2]
/-- what a cell holds -/
def vAt (w : World) (a : Addr) : Value := (w.cell? a).getD undef
/-- the blocks that do's regions hold: a model's, the act's, the answer's -/
structure Dq (w : World) (T : Nat) (X : Mx) (C : Ch) (K b p f : Int) (wx : World) : Prop where
  src : MdAt wx T X C
  act : wx.heap[w.heap.size + 1]? = some (.cells #[.int .i64 K, .int .i64 b, .int .i64 p, .int .u8 f] 44 (0, 0))
  res : ∃ u0 u1 u2 u3 u4 u5 u6 u7 u8 u9 u10 u11, wx.heap[w.heap.size + 1 + 1]? = some (.cells #[u0, u1, u2, u3, u4, u5, u6, u7, u8, u9, u10, u11] 39 (0, 0))
/-- what those blocks' cells hold -/
def DqS (w : World) (T : Nat) (X : Mx) (C : Ch) (K b p f : Int) (wx : World) : Prop :=
  (wx.cell? ⟨T, 0, none⟩ = some (.int .i64 C.B) ∧ wx.cell? ⟨T, 1, none⟩ = some (.int .i64 C.P) ∧ wx.cell? ⟨T, 2, none⟩ = some (.int .i64 C.Z) ∧ wx.cell? ⟨T, 3, none⟩ = some (.slice X.ca X.cl.length X.cc) ∧
    wx.cell? ⟨T, 4, none⟩ = some (.slice X.fa X.fl.length X.fc) ∧ wx.cell? ⟨T, 5, none⟩ = some (.slice X.ba X.bn X.bc) ∧ wx.cell? ⟨T, 6, none⟩ = some (.slice (some ⟨X.gp, 0, none⟩) (C.B * C.P) X.cp) ∧ wx.cell? ⟨T, 7, none⟩ = some (.slice (some ⟨X.gw, 0, none⟩) C.B X.cw) ∧
    wx.cell? ⟨T, 8, none⟩ = some (.slice (some ⟨X.gd, 0, none⟩) C.B X.cd) ∧ wx.cell? ⟨T, 9, none⟩ = some (.slice (some ⟨X.gm, 0, none⟩) C.B X.cm) ∧ wx.cell? ⟨T, 10, none⟩ = some (.int .i64 C.did) ∧ wx.cell? ⟨T, 11, none⟩ = some (.bool C.off)) ∧
  (wx.cell? ⟨w.heap.size + 1, 0, none⟩ = some (.int .i64 K) ∧ wx.cell? ⟨w.heap.size + 1, 1, none⟩ = some (.int .i64 b) ∧ wx.cell? ⟨w.heap.size + 1, 2, none⟩ = some (.int .i64 p)) ∧
  (wx.cell? ⟨w.heap.size + 1 + 1, 0, none⟩ = some (vAt wx ⟨w.heap.size + 1 + 1, 0, none⟩) ∧ wx.cell? ⟨w.heap.size + 1 + 1, 1, none⟩ = some (vAt wx ⟨w.heap.size + 1 + 1, 1, none⟩) ∧ wx.cell? ⟨w.heap.size + 1 + 1, 2, none⟩ = some (vAt wx ⟨w.heap.size + 1 + 1, 2, none⟩) ∧ wx.cell? ⟨w.heap.size + 1 + 1, 3, none⟩ = some (vAt wx ⟨w.heap.size + 1 + 1, 3, none⟩) ∧
    wx.cell? ⟨w.heap.size + 1 + 1, 4, none⟩ = some (vAt wx ⟨w.heap.size + 1 + 1, 4, none⟩) ∧ wx.cell? ⟨w.heap.size + 1 + 1, 5, none⟩ = some (vAt wx ⟨w.heap.size + 1 + 1, 5, none⟩) ∧ wx.cell? ⟨w.heap.size + 1 + 1, 6, none⟩ = some (vAt wx ⟨w.heap.size + 1 + 1, 6, none⟩) ∧ wx.cell? ⟨w.heap.size + 1 + 1, 7, none⟩ = some (vAt wx ⟨w.heap.size + 1 + 1, 7, none⟩) ∧
    wx.cell? ⟨w.heap.size + 1 + 1, 8, none⟩ = some (vAt wx ⟨w.heap.size + 1 + 1, 8, none⟩) ∧ wx.cell? ⟨w.heap.size + 1 + 1, 9, none⟩ = some (vAt wx ⟨w.heap.size + 1 + 1, 9, none⟩) ∧ wx.cell? ⟨w.heap.size + 1 + 1, 10, none⟩ = some (vAt wx ⟨w.heap.size + 1 + 1, 10, none⟩) ∧ wx.cell? ⟨w.heap.size + 1 + 1, 11, none⟩ = some (vAt wx ⟨w.heap.size + 1 + 1, 11, none⟩)) ∧
  (∀ j, wx.frozen? ⟨w.heap.size + 1 + 1, j, none⟩ = false) ∧ Dq w T X C K b p f wx
theorem dq_of {w : World} {T : Nat} {X C} {K b p f : Int} {wx : World} (h : Dq w T X C K b p f wx) : DqS w T X C K b p f wx := by
  obtain ⟨q0, q1, q2, _⟩ := act_cells h.act
  obtain ⟨u0, u1, u2, u3, u4, u5, u6, u7, u8, u9, u10, u11, hr⟩ := h.res
  have e : ∀ j, j < 12 → wx.cell? ⟨w.heap.size + 1 + 1, j, none⟩ = some (vAt wx ⟨w.heap.size + 1 + 1, j, none⟩) := by
    intro j hj
    unfold vAt
    rw [cell_of_row wx _ j _ 39 _ hr]
    have : j = 0 ∨ j = 1 ∨ j = 2 ∨ j = 3 ∨ j = 4 ∨ j = 5 ∨ j = 6 ∨ j = 7 ∨ j = 8 ∨ j = 9 ∨ j = 10 ∨ j = 11 := by omega
    rcases this with rfl | rfl | rfl | rfl | rfl | rfl | rfl | rfl | rfl | rfl | rfl | rfl <;> rfl
  exact ⟨h.src.cells, ⟨q0, q1, q2⟩, ⟨e 0 (by omega), e 1 (by omega), e 2 (by omega), e 3 (by omega), e 4 (by omega), e 5 (by omega), e 6 (by omega), e 7 (by omega), e 8 (by omega), e 9 (by omega), e 10 (by omega), e 11 (by omega)⟩, fun j => frozen_of_row wx _ j _ 39 hr, h⟩
theorem DqS.dq {w : World} {T : Nat} {X C} {K b p f : Int} {wx : World} (h : DqS w T X C K b p f wx) : Dq w T X C K b p f wx := h.2.2.2.2
theorem Dq.kept {w : World} {T : Nat} {X C} {K b p f : Int} {S : Nat → Prop} {wx w2 : World} (h : Dq w T X C K b p f wx) (k : Kp S wx w2) (hs : ∀ i, S i → i < w.heap.size) (hT : w.heap.size ≤ T) : Dq w T X C K b p f w2 := by
  have n1 : ¬ S T := fun x => by have := hs _ x; omega
  have n2 : ¬ S (w.heap.size + 1) := fun x => by have := hs _ x; omega
  have n3 : ¬ S (w.heap.size + 1 + 1) := fun x => by have := hs _ x; omega
  obtain ⟨u0, u1, u2, u3, u4, u5, u6, u7, u8, u9, u10, u11, hr⟩ := h.res
  exact ⟨h.src.kept k n1, (k.block _ (Array.getElem?_eq_some_iff.1 h.act).1 n2).trans h.act, u0, u1, u2, u3, u4, u5, u6, u7, u8, u9, u10, u11, (k.block _ (Array.getElem?_eq_some_iff.1 hr).1 n3).trans hr⟩
theorem dq_keep {w : World} {T : Nat} {X C} {K b p f : Int} {S : Nat → Prop} {wx w2 : World} (h : DqS w T X C K b p f wx) (k : Kp S wx w2) (hs : ∀ i, S i → i < w.heap.size) (hT : w.heap.size ≤ T) : DqS w T X C K b p f w2 := dq_of (h.dq.kept k hs hT)
theorem dq_store {w : World} {T : Nat} {X C} {K b p f : Int} {wx : World} (hT : T ≠ w.heap.size + 1 + 1) (v0 v1 v2 v3 v4 v5 v6 v7 v8 v9 v10 v11 : Value) (h : DqS w T X C K b p f wx) :
    DqS w T X C K b p f ((((((((((((wx.setCell ⟨w.heap.size + 1 + 1, 0, none⟩ v0).setCell ⟨w.heap.size + 1 + 1, 1, none⟩ v1).setCell ⟨w.heap.size + 1 + 1, 2, none⟩ v2).setCell ⟨w.heap.size + 1 + 1, 3, none⟩ v3).setCell ⟨w.heap.size + 1 + 1, 4, none⟩ v4).setCell ⟨w.heap.size + 1 + 1, 5, none⟩ v5).setCell ⟨w.heap.size + 1 + 1, 6, none⟩ v6).setCell ⟨w.heap.size + 1 + 1, 7, none⟩ v7).setCell ⟨w.heap.size + 1 + 1, 8, none⟩ v8).setCell ⟨w.heap.size + 1 + 1, 9, none⟩ v9).setCell ⟨w.heap.size + 1 + 1, 10, none⟩ v10).setCell ⟨w.heap.size + 1 + 1, 11, none⟩ v11) := by
  obtain ⟨u0, u1, u2, u3, u4, u5, u6, u7, u8, u9, u10, u11, hr⟩ := h.dq.res
  have P1 := put12 hr v0 v1 v2 v3 v4 v5 v6 v7 v8 v9 v10 v11
  exact dq_of ⟨(P1.other _ hT).trans h.dq.src, (P1.other _ (by omega)).trans h.dq.act, v0, v1, v2, v3, v4, v5, v6, v7, v8, v9, v10, v11, P1.here⟩
/-- another block's cells leave the chip alone -/
theorem chip_put {W W' : World} {L C} {T : Nat} {o : Obj} (p : Put W W' T o) (h : Chip W L C) (hT : ¬ L.own C.B T) {cs : Array Value} {t : TypeId} {m : Nat × Nat} (hc : W.heap[T]? = some (.cells cs t m)) : Chip W' L C := by
  obtain ⟨mc, mf, n, k, ht, h1, h2⟩ := h.top
  have e : ∀ i, L.own C.B i → W'.heap[i]? = W.heap[i]? := fun i hi => p.other i (fun x => hT (x ▸ hi))
  exact { h with
    top := ⟨mc, mf, n, k, (e L.a (.inl rfl)).trans ht, h1.of_block (p.other _ (h1.notCells hc)), h2.of_block (p.other _ (h2.notCells hc))⟩
    row := h.row.of_block (e _ (.inr (.inl rfl)))
    pgs := fun b hb => (h.pgs b hb).of_block (e _ (.inr (.inr ⟨b, hb, rfl⟩))) }
/-- the same, without what the answer's cells hold -/
def DqM (w : World) (T : Nat) (X : Mx) (C : Ch) (K b p f : Int) (wx : World) : Prop :=
  (wx.cell? ⟨T, 0, none⟩ = some (.int .i64 C.B) ∧ wx.cell? ⟨T, 1, none⟩ = some (.int .i64 C.P) ∧ wx.cell? ⟨T, 2, none⟩ = some (.int .i64 C.Z) ∧ wx.cell? ⟨T, 3, none⟩ = some (.slice X.ca X.cl.length X.cc) ∧
    wx.cell? ⟨T, 4, none⟩ = some (.slice X.fa X.fl.length X.fc) ∧ wx.cell? ⟨T, 5, none⟩ = some (.slice X.ba X.bn X.bc) ∧ wx.cell? ⟨T, 6, none⟩ = some (.slice (some ⟨X.gp, 0, none⟩) (C.B * C.P) X.cp) ∧ wx.cell? ⟨T, 7, none⟩ = some (.slice (some ⟨X.gw, 0, none⟩) C.B X.cw) ∧
    wx.cell? ⟨T, 8, none⟩ = some (.slice (some ⟨X.gd, 0, none⟩) C.B X.cd) ∧ wx.cell? ⟨T, 9, none⟩ = some (.slice (some ⟨X.gm, 0, none⟩) C.B X.cm) ∧ wx.cell? ⟨T, 10, none⟩ = some (.int .i64 C.did) ∧ wx.cell? ⟨T, 11, none⟩ = some (.bool C.off)) ∧
  (wx.cell? ⟨w.heap.size + 1, 0, none⟩ = some (.int .i64 K) ∧ wx.cell? ⟨w.heap.size + 1, 1, none⟩ = some (.int .i64 b) ∧ wx.cell? ⟨w.heap.size + 1, 2, none⟩ = some (.int .i64 p)) ∧ Dq w T X C K b p f wx
theorem dqm_of {w : World} {T : Nat} {X C} {K b p f : Int} {wx : World} (h : Dq w T X C K b p f wx) : DqM w T X C K b p f wx := ⟨(dq_of h).1, (dq_of h).2.1, h⟩
theorem dqm_keep {w : World} {T : Nat} {X C} {K b p f : Int} {S : Nat → Prop} {wx w2 : World} (h : Dq w T X C K b p f wx) (k : Kp S wx w2) (hs : ∀ i, S i → i < w.heap.size) (hT : w.heap.size ≤ T) : DqM w T X C K b p f w2 := dqm_of (h.kept k hs hT)
theorem dqm_store {w : World} {T : Nat} {X C} {K b p f : Int} {wx : World} (hT : T ≠ w.heap.size + 1 + 1) (v0 v1 v2 v3 v4 v5 v6 v7 v8 v9 v10 v11 : Value) (h : Dq w T X C K b p f wx) :
    DqM w T X C K b p f ((((((((((((wx.setCell ⟨w.heap.size + 1 + 1, 0, none⟩ v0).setCell ⟨w.heap.size + 1 + 1, 1, none⟩ v1).setCell ⟨w.heap.size + 1 + 1, 2, none⟩ v2).setCell ⟨w.heap.size + 1 + 1, 3, none⟩ v3).setCell ⟨w.heap.size + 1 + 1, 4, none⟩ v4).setCell ⟨w.heap.size + 1 + 1, 5, none⟩ v5).setCell ⟨w.heap.size + 1 + 1, 6, none⟩ v6).setCell ⟨w.heap.size + 1 + 1, 7, none⟩ v7).setCell ⟨w.heap.size + 1 + 1, 8, none⟩ v8).setCell ⟨w.heap.size + 1 + 1, 9, none⟩ v9).setCell ⟨w.heap.size + 1 + 1, 10, none⟩ v10).setCell ⟨w.heap.size + 1 + 1, 11, none⟩ v11) :=
  dqm_of (dq_store hT v0 v1 v2 v3 v4 v5 v6 v7 v8 v9 v10 v11 (dq_of h)).dq
/-- the same cuts, the same failures, in the same place -/
def Xf (X X' : Mx) : Prop := X'.ca = X.ca ∧ X'.cl = X.cl ∧ X'.fa = X.fa ∧ X'.fl = X.fl
/-- the answer's own model, stored: all that do promises -/
theorem done_of {w wx w1 : World} {L : Ly} {X0 X' : Mx} {C C' : Ch} (hc0 : Chip w L C) (hm0 : Md w (L.own C.B) X0 C) (hres : wx.heap[w.heap.size + 1 + 1]? = some (.cells #[.int .i64 0, .int .i64 0, .int .i64 0, .slice none 0 0, .slice none 0 0, .slice none 0 0, .slice none 0 0, .slice none 0 0, .slice none 0 0, .slice none 0 0, .int .i64 0, .bool false] 39 (0, 0)))
    (hk : Kp (L.own C.B) w wx) (hch : Chip wx L C') (hB : C'.B = C.B) (hmd : Md wx (L.own C.B) X' C') (hxn : Xn w1 X0 X') (hw1 : w.heap.size + 1 + 1 < w1.heap.size) :
    (setMd wx (w.heap.size + 1 + 1) X' C').heap[w.heap.size + 1 + 1]? = some (.cells (mdA X' C') 39 (0, 0)) ∧ Chip (setMd wx (w.heap.size + 1 + 1) X' C') L C' ∧ Md (setMd wx (w.heap.size + 1 + 1) X' C') (L.own C.B) X' C' ∧ Kp (L.own C.B) w (setMd wx (w.heap.size + 1 + 1) X' C') ∧ Xf X0 X' := by
  have P1 := putMd hres X' C'
  refine ⟨P1.here, chip_put P1 hch (fun x => ?_) hres, P1.mdX hmd hm0 hxn (by omega) hw1, P1.kp hk (by omega), ⟨hxn.ca, hxn.cl, hxn.fa, hxn.fl⟩⟩
  rw [hB] at x
  have := hc0.lt x
  omega
theorem eraseC_B (C : Ch) (b : Int) : (eraseC C b).1.B = C.B := by
  unfold eraseC
  split
  · split
    · rfl
    · split <;> rfl
  · rfl
theorem progM_B (C : Ch) (b p : Nat) (s : ByteArray) : (progM C b p s).1.B = C.B := by
  unfold progM
  split
  · rfl
  · split
    · rfl
    · split <;> rfl
theorem markC_B (C : Ch) (b : Int) : (markC C b).1.B = C.B := by
  unfold markC
  split
  · split <;> rfl
  · rfl
end Go.Proofs.Ytkfkepjegdaadaa
