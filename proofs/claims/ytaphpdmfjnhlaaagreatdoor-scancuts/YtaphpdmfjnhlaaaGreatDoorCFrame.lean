/-
  What all four proofs of this seat share: the table's cells out of the row's condition, and that the start of the program meets it. No condition.
-/
import Derived.Test.YtaphpdmfjnhlaaaGreatDoorCAwl
import Derived.Test.YtaphpdmfjnhlaaaGreatDoorTie
import Derived.Test.YtaphpdmfjnhlaaaGreatDoorCards
import Derived.ProofKit
import Derived.LaidMore
import Derived.OpenShut
import Derived.Stop.Joined
import Derived.ShutString
import Derived.Below
import Derived.Lib.LaidTab
import Derived.ChangeOld
import Derived.Carry
import Derived.Laws.Cover2
import Derived.Lib.SmallJoins
import Derived.Deep.Slices
namespace Go.Proofs.YtaphpdmfjnhlaaaGreatDoor
open Go.ChangeShapes Go.WideShapes Go.ChangeAt Go.RowKit
open Go.ChangeMaps (open_string shut_string)
theorem own : ownKnob Tryz.prog.godebug = none:=by kernel_rfl
theorem laidOut : laidOutB Tryz.prog = true:=by kernel_rfl
def laid1 : List (String × DataW Unit) := [("tinderbox/crc.fourBits", Rows.laid_tinderbox_crc_fourBits)]
theorem gTab : Tryz.prog.globalNamed "tinderbox/crc.fourBits" = some 0:=by kernel_rfl
theorem tTab : (Tryz.prog.globals[0]?).map (·.type) = some 250:=by kernel_rfl
theorem c53 : Tryz.prog.cellsOf 250 = 16:=by kernel_rfl
theorem c41 : Tryz.prog.cellsOf 137 = 1:=by kernel_rfl
theorem door_met (os : Os) (args : Array Value) : laidMetH Tryz.prog laid1 ((World.doorLaid Tryz.prog 400 os).forCall (fun _ _ => 0) ⟨#[],args,[]⟩).memory :=
 laidMetH_of_parts3 (fuel:=8) (laidMet_of_run' 8 (by kernel_rfl) (by kernel_rfl)) (by kernel_rfl) (by kernel_rfl)
theorem of_laid {W : World} (h : laidMetH Tryz.prog laid1 W) (i : Nat) (hi : i < 16) : W.cell? ⟨0,i,none⟩ = some (.int .u32 (Pg.tab.getD i 0)):=by
 rw [MakeChecks.laidMetH_plain _ _ _ (by kernel_rfl)] at h
 have hT : Lib.TabIs Tryz.prog W "tinderbox/crc.fourBits" .u32 Pg.tab:=Lib.tabIs_of_head gTab tTab Tryz.underlying250 Tryz.underlying137 c41 c53 h
 exact hT.cell gTab i hi
theorem size_of_cell {w : World} {a : Addr} {v : Value} (h : w.cell? a = some v) : a.block < w.heap.size:=by
 unfold World.cell? at h
 split at h
 ·rename_i c e f hb
  rcases Array.getElem?_eq_some_iff.1 hb with ⟨hlt,_⟩
  exact hlt
 ·cases h
theorem tab_of {W : World} (h : laidMetH Tryz.prog laid1 W) : Pg.Tab W:=⟨size_of_cell (of_laid h 0 (by omega)),of_laid h⟩
end Go.Proofs.YtaphpdmfjnhlaaaGreatDoor
