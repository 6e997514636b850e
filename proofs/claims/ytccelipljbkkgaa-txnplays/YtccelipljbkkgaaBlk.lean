/-
  A state beside blocks of the call's own; which blocks are bad and how often each was erased, told by records. No condition.
-/
import Derived.Test.YtccelipljbkkgaaRecs
namespace Go.Proofs.Ytccelipljbkkgaa
open Go Go.RowKit Go.Maps

/-- at P stands a state that has t; the blocks Z are not its own -/
def HoldZ (B : Nat) (w0 : World) (P : Nat) (t : Ab) (Z : List Nat) (w : World) : Prop :=
  ∃ s, s.p = P ∧ Whole w s ∧ ab s = t ∧ Below B w0 w ∧ B ≤ w0.heap.size ∧ (∀ i ∈ foot s, B ≤ i) ∧ ∀ z ∈ Z, (B ≤ z ∧ z < w.heap.size) ∧ z ∉ foot s
theorem HoldZ.hold {B : Nat} {w0 w : World} {P t Z} (h : HoldZ B w0 P t Z w) : Hold B w0 P t w := by
  obtain ⟨s, h1, h2, h3, h4, h5, h6, h7⟩ := h
  exact ⟨s, h1, h2, h3, h4, h5, h6⟩
theorem HoldZ.call {B : Nat} {w0 w w' : World} {P t Z} (h : HoldZ B w0 P t Z w) (q : Below w.heap.size w w') : HoldZ B w0 P t Z w' := by
  obtain ⟨s, h1, h2, h3, h4, h5, h6, h7⟩ := h
  exact ⟨s, h1, h2.call q, h3, h4.trans (q.mono (Nat.le_trans h5 h4.size)), h5, h6, fun z hz => ⟨⟨(h7 z hz).1.1, Nat.lt_of_lt_of_le (h7 z hz).1.2 q.size⟩, (h7 z hz).2⟩⟩
theorem HoldZ.drew {B : Nat} {w0 w : World} {P t Z} (h : HoldZ B w0 P t Z w) : HoldZ B w0 P t Z w.drew := h.call (Below.refl _ w).drew
theorem HoldZ.alloc {B : Nat} {w0 w : World} {P t Z} (h : HoldZ B w0 P t Z w) (o : Obj) : HoldZ B w0 P t Z (w.alloc o) := h.call ((Below.refl _ w).alloc (Nat.le_refl _) o)
theorem HoldZ.set {B : Nat} {w0 w : World} {P t Z} (h : HoldZ B w0 P t Z w) {a : Addr} (ha : a.block ∈ Z) (v : Value) : HoldZ B w0 P t Z (w.setCell a v) := by
  obtain ⟨s, h1, h2, h3, h4, h5, h6, h7⟩ := h
  refine ⟨s, h1, h2.frame fun i hi => heap_setCell_other w a i v (fun e => (h7 _ ha).2 (e ▸ hi)), h3, h4.setCell (h7 _ ha).1.1 v, h5, h6, fun z hz => ⟨⟨(h7 z hz).1.1, ?_⟩, (h7 z hz).2⟩⟩
  have := (h7 z hz).1.2
  simpa [World.setCell] using this
theorem HoldZ.more {B : Nat} {w0 w : World} {P t Z} (h : HoldZ B w0 P t Z w) (o : Obj) : HoldZ B w0 P t (w.heap.size :: Z) (w.alloc o) := by
  obtain ⟨s, h1, h2, h3, h4, h5, h6, h7⟩ := h
  refine ⟨s, h1, h2.call ((Below.refl _ w).alloc (Nat.le_refl _) o), h3, h4.alloc (Nat.le_trans h5 h4.size) o, h5, h6, fun z hz => ?_⟩
  rcases List.mem_cons.1 hz with rfl | hz
  · exact ⟨⟨Nat.le_trans h5 h4.size, by rw [size_alloc]; omega⟩, fun hm => Nat.lt_irrefl _ (h2.at'.foot_lt _ hm)⟩
  · exact ⟨⟨(h7 z hz).1.1, by rw [size_alloc]; have := (h7 z hz).1.2; omega⟩, (h7 z hz).2⟩
theorem HoldZ.low {B : Nat} {w0 w : World} {P t Z} (h : HoldZ B w0 P t Z w) : ∀ z ∈ Z, B ≤ z ∧ z < w.heap.size := by
  obtain ⟨s, h1, h2, h3, h4, h5, h6, h7⟩ := h
  exact fun z hz => (h7 z hz).1
theorem HoldZ.sub {B : Nat} {w0 w : World} {P t Z Z'} (h : HoldZ B w0 P t Z w) (hz : ∀ z ∈ Z', z ∈ Z) : HoldZ B w0 P t Z' w := by
  obtain ⟨s, h1, h2, h3, h4, h5, h6, h7⟩ := h
  exact ⟨s, h1, h2, h3, h4, h5, h6, fun z hz' => h7 z (hz z hz')⟩
theorem newZ {B : Nat} {w0 w : World} {Z : List Nat} (b : Below B w0 w) (hB : B ≤ w0.heap.size) (hZ : ∀ z ∈ Z, B ≤ z ∧ z < w.heap.size) : Calls Try.prog 6 #[] w fun e w' => e = .returned (.pointer (some ⟨w.heap.size + 4, 0, none⟩)) ∧ HoldZ B w0 (w.heap.size + 4) noAb Z w' ∧ Below w.heap.size w w' := by
  refine (newW_any w).mono ?_
  rintro e w' ⟨rfl, h1, h2⟩
  exact ⟨rfl, ⟨newSt w.heap.size, rfl, h1, rfl, b.trans (h2.mono (Nat.le_trans hB b.size)), hB, fun i hi => Nat.le_trans (Nat.le_trans hB b.size) (foot_new _ i hi), fun z hz => ⟨⟨(hZ z hz).1, Nat.lt_of_lt_of_le (hZ z hz).2 h2.size⟩, fun hm => by have := foot_new _ _ hm; have := (hZ z hz).2; omega⟩⟩, h2⟩
theorem applyZ {B : Nat} {w0 w : World} {P t Z} (h : HoldZ B w0 P t Z w) (r : R6) : Calls Try.prog 7 #[.pointer (some ⟨P, 0, none⟩), rv r.1 r.2.1 r.2.2.1 r.2.2.2.1 r.2.2.2.2.1 r.2.2.2.2.2] w fun e w' => e = .returned (.int .i64 (apR t r).2) ∧ HoldZ B w0 P (apR t r).1 Z w' ∧ (∀ z ∈ Z, w'.heap[z]? = w.heap[z]?) ∧ Below B w w' := by
  obtain ⟨s, rfl, h2, rfl, h4, h5, h6, h7⟩ := h
  refine (apply_any h2 _ _ _ _ _ _).mono ?_
  rintro e w' ⟨rfl, s', g1, g2, g3⟩
  refine ⟨rfl, ⟨s', g3.home, g1, g2, g3.below h4 (Nat.le_trans h5 h4.size) h6, h5, g3.high (Nat.le_trans h5 h4.size) h6, fun z hz => ⟨⟨(h7 z hz).1.1, Nat.lt_of_lt_of_le (h7 z hz).1.2 g3.size⟩, fun hm => ?_⟩⟩, fun z hz => g3.block z (h7 z hz).1.2 (h7 z hz).2, g3.below (Below.refl _ w) (Nat.le_trans h5 h4.size) h6⟩
  rcases g3.own z hm with q | q
  · exact (h7 z hz).2 q
  · have := (h7 z hz).1.2
    omega
/-- block g is a row of truths -/
def RowB (w : World) (g : Nat) (l : List Bool) : Prop := w.heap[g]? = some (.cells (l.map Value.bool).toArray 4 (0, 0))
theorem RowB.same {w w' : World} {g l} (h : RowB w g l) (e : w'.heap[g]? = w.heap[g]?) : RowB w' g l := e.trans h
theorem RowB.lt {w : World} {g l} (h : RowB w g l) : g < w.heap.size := (Array.getElem?_eq_some_iff.1 h).1
theorem RowB.cell {w : World} {g l} (h : RowB w g l) (j : Nat) (hj : j < l.length) : w.cell? ⟨g, j, none⟩ = some (.bool (l.getD j false)) := by
  rw [cell_of_row w g j _ 4 _ h]
  simp [List.getD_eq_getElem?_getD, hj]
theorem RowB.frozen {w : World} {g l} (h : RowB w g l) (j : Nat) : w.frozen? ⟨g, j, none⟩ = false := frozen_of_row w g j _ 4 h
theorem RowB.stored {w : World} {g l} (h : RowB w g l) (j : Nat) (v : Bool) : RowB (w.setCell ⟨g, j, none⟩ (.bool v)) g (l.set j v) := by
  unfold RowB
  rw [heap_setCell_same w g j _ 4 _ h]
  simp [List.map_set]
/-- the two rows say just what the state has -/
structure BlkOk (t : Ab) (bl : List Bool) (wl : List Int) : Prop where
  lb : bl.length = 32
  lw : wl.length = 32
  bad : ∀ j : Nat, j < 32 → bl.getD j false = (mget t.bad j).isSome
  worn : ∀ j : Nat, j < 32 → wl.getD j 0 = (mget t.worn j).getD 0
theorem apR_err {t : Ab} {r : R6} (h : (apR t r).2 ≠ 0) : (apR t r).1 = t := by
  unfold apR apA at *
  repeat' split at h
  all_goals first
    | exact absurd rfl h
    | (repeat' split) <;> first | rfl | (exfalso; simp_all)
end Go.Proofs.Ytccelipljbkkgaa
