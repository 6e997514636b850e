/-
  What the model's do holds on its way. No condition.
-/
import Derived.Test.YtkfkepjegdaadaaMe4
import Derived.Deep.RegionHeld3
import Derived.Deep.CutRange
import Derived.Deep.CutBlock
namespace Go.Proofs.Ytkfkepjegdaadaa
open Go Go.RowKit

/-- what do holds: its model, its act, its answer, the chip -/
structure Dw (w : World) (L : Ly) (X : Mx) (C : Ch) (K b p f : Int) (wx : World) : Prop where
  kp : Kp (L.own C.B) w wx
  own : MdAt wx w.heap.size X C
  act : wx.heap[w.heap.size + 1]? = some (.cells #[.int .i64 K, .int .i64 b, .int .i64 p, .int .u8 f] 44 (0, 0))
  res : wx.heap[w.heap.size + 1 + 1]? = some (.cells #[.int .i64 0, .int .i64 0, .int .i64 0, .slice none 0 0, .slice none 0 0, .slice none 0 0, .slice none 0 0, .slice none 0 0, .slice none 0 0, .slice none 0 0, .int .i64 0, .bool false] 39 (0, 0))
  chip : Chip wx L C
  md : Md wx (L.own C.B) X C
theorem Dw.call {w : World} {L X C K b p f} {wx w2 : World} (h : Dw w L X C K b p f wx) (k : Below wx.heap.size wx w2) : Dw w L X C K b p f w2 :=
  ⟨h.kp.call k, h.own.call k, (k.block _ (Array.getElem?_eq_some_iff.1 h.act).1).trans h.act, (k.block _ (Array.getElem?_eq_some_iff.1 h.res).1).trans h.res, h.chip.call k, h.md.call k⟩
theorem Dw.drew {w : World} {L X C K b p f} {wx : World} (h : Dw w L X C K b p f wx) : Dw w L X C K b p f wx.drew := h.call (Below.refl _ wx).drew
theorem Dw.start {w : World} {L X C} (K b p f : Int) (hc : Chip w L C) (hm : Md w (L.own C.B) X C) :
    Dw w L X C K b p f (((w.alloc (.cells (mdA X C) 39)).alloc (.cells #[.int .i64 K, .int .i64 b, .int .i64 p, .int .u8 f] 44)).alloc (.cells #[.int .i64 0, .int .i64 0, .int .i64 0, .slice none 0 0, .slice none 0 0, .slice none 0 0, .slice none 0 0, .slice none 0 0, .slice none 0 0, .slice none 0 0, .int .i64 0, .bool false] 39)) := by
  have h1 := heap_alloc_new w (.cells (mdA X C) 39)
  have h2 := heap_alloc_new (w.alloc (.cells (mdA X C) 39)) (.cells #[.int .i64 K, .int .i64 b, .int .i64 p, .int .u8 f] 44)
  have h3 := heap_alloc_new ((w.alloc (.cells (mdA X C) 39)).alloc (.cells #[.int .i64 K, .int .i64 b, .int .i64 p, .int .u8 f] 44)) (.cells #[.int .i64 0, .int .i64 0, .int .i64 0, .slice none 0 0, .slice none 0 0, .slice none 0 0, .slice none 0 0, .slice none 0 0, .slice none 0 0, .slice none 0 0, .int .i64 0, .bool false] 39)
  rw [size_alloc] at h2
  rw [size_alloc, size_alloc] at h3
  have hb : Below w.heap.size w (((w.alloc (.cells (mdA X C) 39)).alloc (.cells #[.int .i64 K, .int .i64 b, .int .i64 p, .int .u8 f] 44)).alloc (.cells #[.int .i64 0, .int .i64 0, .int .i64 0, .slice none 0 0, .slice none 0 0, .slice none 0 0, .slice none 0 0, .slice none 0 0, .slice none 0 0, .slice none 0 0, .int .i64 0, .bool false] 39)) :=
    (below_two w _ _).alloc (by rw [size_alloc, size_alloc]; omega) _
  exact ⟨Kp.ofBelow hb, (Below.heap_alloc _ _ _ (by rw [size_alloc, size_alloc]; omega)).trans ((Below.heap_alloc _ _ _ (by rw [size_alloc]; omega)).trans h1), (Below.heap_alloc _ _ _ (by rw [size_alloc, size_alloc]; omega)).trans h2, h3, hc.call hb, hm.call hb⟩
theorem act_cells {w : World} {T : Nat} {a b c d : Value} (h : w.heap[T]? = some (.cells #[a, b, c, d] 44 (0, 0))) : w.cell? ⟨T, 0, none⟩ = some a ∧ w.cell? ⟨T, 1, none⟩ = some b ∧ w.cell? ⟨T, 2, none⟩ = some c ∧ w.cell? ⟨T, 3, none⟩ = some d := by
  refine ⟨?_, ?_, ?_, ?_⟩ <;> (rw [cell_of_row w T _ _ 44 _ h]; rfl)
/-- is there such a block, such a page? -/
def blkB (C : Ch) (b : Int) : Bool := decide (0 ≤ b ∧ b < C.B)
def pgB (C : Ch) (b p : Int) : Bool := decide ((0 ≤ b ∧ b < C.B) ∧ 0 ≤ p ∧ p < C.P)
end Go.Proofs.Ytkfkepjegdaadaa
