/-
  How a row of records that is handed in is opened. No condition.
-/
import Derived.Test.YtaphpdmfjnhlaaaGreatDoorAFrame
import Derived.Test.YtaphpdmfjnhlaaaGreatDoorAK8
namespace Go.Proofs.YtaphpdmfjnhlaaaGreatDoor.Gp
open Go.ChangeShapes Go.WideShapes Go.ChangeAt Go.RowKit
theorem add_zero' (a : Addr) : a.add 0 = a := by unfold Addr.add; rw [if_pos rfl]
theorem cell_lt {w : World} {a : Addr} {v : Value} (h : w.cell? a = some v) : a.block < w.heap.size := by
 unfold World.cell? at h
 cases hb : w.heap[a.block]? with
 | none => rw [hb] at h; simp at h
 | some o => exact (Array.getElem?_eq_some_iff.1 hb).1
theorem add_plain {w : World} {a : Addr} {v : Value} (h : w.cell? a = some v) (i : Nat) : a.add i = ⟨a.block, a.off + i, none⟩ := by
 have hs := World.cell?_spot h
 cases a with
 | mk b o s =>
  simp only at hs
  subst hs
  unfold Addr.add
  split
  ·rename_i h0
   subst h0
   rfl
  ·rfl
end Go.Proofs.YtaphpdmfjnhlaaaGreatDoor.Gp
