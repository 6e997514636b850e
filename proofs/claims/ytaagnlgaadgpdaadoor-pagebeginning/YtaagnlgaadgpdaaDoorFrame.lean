/-
  What all four proofs of this seat share: the table's cells out of the row's condition, and that the start of the program meets it. No condition.
-/
import Derived.Test.YtaagnlgaadgpdaaDoorAwk
import Derived.Test.YtaagnlgaadgpdaaDoorTie
import Derived.Test.YtaagnlgaadgpdaaDoorCards
import Derived.ProofKit
import Derived.LaidMore
import Derived.OpenShut
import Derived.Stop.Joined
import Derived.ShutString
import Derived.ChangeOld
import Derived.Below
import Derived.Lib.LaidTab
namespace Go.Proofs.YtaagnlgaadgpdaaDoor
open Go.ChangeShapes Go.WideShapes Go.ChangeAt Go.RowKit
open Go.ChangeMaps (open_string shut_string)

theorem own : ownKnob Tryd.prog.godebug = none := by kernel_rfl
theorem laidOut : laidOutB Tryd.prog = true := by kernel_rfl
def laid1 : List (String × DataW Unit) := [("tinderbox/crc.fourBits", Rows.laid_tinderbox_crc_fourBits)]
theorem gTab : Tryd.prog.globalNamed "tinderbox/crc.fourBits" = some 0 := by kernel_rfl
theorem tTab : (Tryd.prog.globals[0]?).map (·.type) = some 53 := by kernel_rfl
theorem c53 : Tryd.prog.cellsOf 53 = 16 := by kernel_rfl
theorem c41 : Tryd.prog.cellsOf 41 = 1 := by kernel_rfl

/-- The door's own heap meets the condition. -/
theorem door_met (os : Os) (args : Array Value) : laidMetH Tryd.prog laid1 ((World.doorLaid Tryd.prog 400 os).forCall (fun _ _ => 0) ⟨#[], args, []⟩).memory :=
  laidMetH_of_parts3 (fuel := 8) (laidMet_of_run' 8 (by kernel_rfl) (by kernel_rfl)) (by kernel_rfl) (by kernel_rfl)

/-- WHAT THE CONDITION GIVES THE WALKS: the table's sixteen cells. -/
theorem of_laid {W : World} (h : laidMetH Tryd.prog laid1 W) (i : Nat) (hi : i < 16) : W.cell? ⟨0, i, none⟩ = some (.int .u32 (tab.getD i 0)) := by
  rw [MakeChecks.laidMetH_plain _ _ _ (by kernel_rfl)] at h
  have hT : Lib.TabIs Tryd.prog W "tinderbox/crc.fourBits" .u32 tab := Lib.tabIs_of_head gTab tTab Tryd.underlying53 Tryd.underlying41 c41 c53 h
  exact hT.cell gTab i hi
theorem size_of_cell {w : World} {a : Addr} {v : Value} (h : w.cell? a = some v) : a.block < w.heap.size := by
  unfold World.cell? at h
  split at h
  · rename_i c e f hb
    rcases Array.getElem?_eq_some_iff.1 hb with ⟨hlt, _⟩
    exact hlt
  · cases h
theorem tab_of {W : World} (h : laidMetH Tryd.prog laid1 W) : Tab W := ⟨size_of_cell (of_laid h 0 (by omega)), of_laid h⟩
end Go.Proofs.YtaagnlgaadgpdaaDoor
