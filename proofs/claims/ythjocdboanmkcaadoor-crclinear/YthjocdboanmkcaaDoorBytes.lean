/-
  A row of bytes that a call made: what its cells hold behind a conversion, a store, and back to a text. No condition.
-/
import Derived.WalkKit
import Derived.Laws.IdiomStrings
namespace Go.Proofs.YthjocdboanmkcaaDoor
open Go Go.RowKit

/-- block g holds these bytes from its head on, none of them frozen -/
def HasBytes (w : World) (g : Nat) (l : List UInt8) : Prop :=
  ∀ j, j < l.length → w.cell? ⟨g, j, none⟩ = some (.int .u8 ((l.getD j 0).toNat : Int)) ∧ w.frozen? ⟨g, j, none⟩ = false

theorem HasBytes.drew {w : World} {g : Nat} {l : List UInt8} (h : HasBytes w g l) : HasBytes w.drew g l := h
theorem HasBytes.below {B g : Nat} {w w' : World} {l : List UInt8} (h : HasBytes w g l) (b : Below B w w') (hg : g < B) : HasBytes w' g l := by
  intro j hj
  rw [b.cell (p := ⟨g, j, none⟩) hg, b.frozen (p := ⟨g, j, none⟩) hg]
  exact h j hj
theorem HasBytes.alloc {w : World} {g : Nat} {l : List UInt8} (h : HasBytes w g l) (hg : g < w.heap.size) (o : Obj) : HasBytes (w.alloc o) g l :=
  h.below ((Below.refl w.heap.size w).alloc (Nat.le_refl _) o) hg
theorem HasBytes.other {w : World} {g : Nat} {l : List UInt8} (h : HasBytes w g l) {a : Addr} (ha : a.block ≠ g) (v : Value) : HasBytes (w.setCell a v) g l := by
  intro j hj
  have hne : a ≠ ⟨g, j, none⟩ := by
    intro e
    rw [e] at ha
    exact ha rfl
  rw [World.cell?_setCell_other _ _ _ _ hne, World.frozen?_setCell]
  exact h j hj
theorem HasBytes.stored {w : World} {g : Nat} {l : List UInt8} (h : HasBytes w g l) (j : Nat) (hj : j < l.length) (b : UInt8) :
    HasBytes (w.setCell ⟨g, j, none⟩ (.int .u8 (b.toNat : Int))) g (l.set j b) := by
  intro i hi
  rw [List.length_set] at hi
  rw [World.frozen?_setCell]
  refine ⟨?_, (h i hi).2⟩
  by_cases e : i = j
  · subst e
    rw [World.cell?_setCell_same _ _ _ (h i hi).1]
    simp [List.getD_eq_getElem?_getD, hi]
  · have hne : (⟨g, j, none⟩ : Addr) ≠ ⟨g, i, none⟩ := by
      intro e2
      have e3 : j = i := congrArg Addr.off e2
      exact e e3.symm
    rw [World.cell?_setCell_other _ _ _ _ hne, (h i hi).1]
    have : ¬ j = i := fun e2 => e e2.symm
    simp [List.getD_eq_getElem?_getD, this]

/-- '[]byte(s)' -/
theorem HasBytes.converted (w : World) (s : ByteArray) (cap e : Nat) :
    HasBytes (w.alloc (.cells (bytesRow s cap) e ((bytesRow s cap).size, (bytesRow s cap).size + 1))) w.heap.size s.data.toList := by
  intro j hj
  have hj' : j < s.data.size := by simpa using hj
  rw [World.cell?_alloc_mark, World.frozen?_alloc_mark, bytesRow_at s cap j hj']
  have hsz : s.data.size ≤ (bytesRow s cap).size := by simp [bytesRow]
  refine ⟨?_, ?_⟩
  · rw [List.getD_eq_getElem?_getD, Array.getElem?_toList, Array.getElem?_eq_getElem hj']
    rfl
  · have : ¬ (bytesRow s cap).size ≤ j := by omega
    simp [this]

/-- 'string(b)' -/
theorem HasBytes.back {P : Program} {w : World} {g : Nat} {l : List UInt8} (h : HasBytes w g l) (src dst e : TypeId) (n cap : Nat) (hn : n = l.length)
    (hs : P.underlying src = some (.slice e)) (he : P.underlying e = some (.int .u8)) (hd : P.underlying dst = some .string) :
    (convert src dst (.slice (some ⟨g, 0, none⟩) n cap)).run P w = .ok (.string ⟨l.toArray⟩) w := by
  subst hn
  refine run_convert_bytes_back w src dst e ⟨g, 0, none⟩ cap l hs he hd ?_
  intro j hj
  have := (h j hj).1
  rw [List.getD_eq_getElem?_getD, List.getElem?_eq_getElem hj] at this
  have ea : (⟨g, 0, none⟩ : Addr).add j = ⟨g, j, none⟩ := by unfold Addr.add; split <;> simp_all
  rw [ea]
  simpa using this

theorem size_of_cell {w : World} {a : Addr} {v : Value} (h : w.cell? a = some v) : a.block < w.heap.size := by
  unfold World.cell? at h
  split at h
  · rename_i c e f hb
    rcases Array.getElem?_eq_some_iff.1 hb with ⟨hlt, _⟩
    exact hlt
  · cases h
end Go.Proofs.YthjocdboanmkcaaDoor
