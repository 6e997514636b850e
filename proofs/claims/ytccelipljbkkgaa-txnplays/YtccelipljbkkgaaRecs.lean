/-
  Rows of records that are handed in. No condition.
-/
import Derived.Test.YtccelipljbkkgaaHold
namespace Go.Proofs.Ytccelipljbkkgaa
open Go Go.RowKit

/-- six numbers -/
abbrev R6 := Int × Int × Int × Int × Int × Int
def R6.wf (r : R6) : Prop := (Lit.int .i64 r.1).wf = true ∧ (Lit.int .i64 r.2.1).wf = true ∧ (Lit.int .i64 r.2.2.1).wf = true ∧ (Lit.int .i64 r.2.2.2.1).wf = true ∧ (Lit.int .i64 r.2.2.2.2.1).wf = true ∧ (Lit.int .i64 r.2.2.2.2.2).wf = true
def R6.at (w : World) (g o : Nat) (r : R6) : Prop := w.cell? ⟨g, o, none⟩ = some (.int .i64 r.1) ∧ w.cell? ⟨g, o + 1, none⟩ = some (.int .i64 r.2.1) ∧ w.cell? ⟨g, o + 2, none⟩ = some (.int .i64 r.2.2.1) ∧
  w.cell? ⟨g, o + 3, none⟩ = some (.int .i64 r.2.2.2.1) ∧ w.cell? ⟨g, o + 4, none⟩ = some (.int .i64 r.2.2.2.2.1) ∧ w.cell? ⟨g, o + 5, none⟩ = some (.int .i64 r.2.2.2.2.2)
/-- a row of records that is handed in -/
def RecsF (w : World) (a : Option Addr) (n : Nat) (f : Nat → R6) : Prop := ∀ i, i < n → ∃ g o, a = some ⟨g, o, none⟩ ∧ g < w.heap.size ∧ (f i).at w g (o + i * 6) ∧ (f i).wf
theorem RecsF.below {w w' : World} {a n f} (h : RecsF w a n f) (b : Below w.heap.size w w') : RecsF w' a n f := by
  intro i hi
  obtain ⟨g, o, ha, hg, ⟨c0, c1, c2, c3, c4, c5⟩, hw⟩ := h i hi
  have e : ∀ j, w'.cell? ⟨g, j, none⟩ = w.cell? ⟨g, j, none⟩ := fun j => b.cell (p := ⟨g, j, none⟩) hg
  exact ⟨g, o, ha, Nat.lt_of_lt_of_le hg b.size, ⟨by rw [e]; exact c0, by rw [e]; exact c1, by rw [e]; exact c2, by rw [e]; exact c3, by rw [e]; exact c4, by rw [e]; exact c5⟩, hw⟩
/-- a state behind the first records -/
def apR (t : Ab) (r : R6) : Ab × Int := apA t r.1 r.2.1 r.2.2.1 r.2.2.2.1 r.2.2.2.2.1 r.2.2.2.2.2
def runA (f : Nat → R6) : Nat → Ab
  | 0 => noAb
  | k + 1 => (apR (runA f k) (f k)).1
end Go.Proofs.Ytccelipljbkkgaa
