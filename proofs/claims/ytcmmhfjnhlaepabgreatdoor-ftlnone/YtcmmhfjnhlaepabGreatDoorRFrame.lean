/-
  What all four proofs of this seat share: the table's cells out of the row's condition, and that the start of the program meets it. No condition.
-/
import Derived.Test.YtcmmhfjnhlaepabGreatDoorRK6
import Derived.Test.YtcmmhfjnhlaepabGreatDoorTie
import Derived.Test.YtcmmhfjnhlaepabGreatDoorCards
import Derived.ProofKit
import Derived.LaidMore
import Derived.OpenShut
import Derived.Stop.Joined
import Derived.ShutString
import Derived.Below
import Derived.Lib.LaidTab
import Derived.ChangeOld
import Derived.Carry
import Derived.Laws.Cover2
import Derived.Lib.SmallJoins
import Derived.Deep.Slices
namespace Go.Proofs.YtcmmhfjnhlaepabGreatDoor
open Go.ChangeShapes Go.WideShapes Go.ChangeAt Go.RowKit
open Go.ChangeMaps (open_string shut_string)
theorem own : ownKnob Tryz.prog.godebug = none := by kernel_rfl
theorem laidOut : laidOutB Tryz.prog = true := by kernel_rfl
def laid1 : List (String × DataW Unit) := [("tinderbox/crc.fourBits", Rows.laid_tinderbox_crc_fourBits)]
theorem gTab : Tryz.prog.globalNamed "tinderbox/crc.fourBits" = some 0 := by kernel_rfl
theorem tTab : (Tryz.prog.globals[0]?).map (·.type) = some 280 := by kernel_rfl
theorem c53 : Tryz.prog.cellsOf 280 = 16 := by kernel_rfl
theorem c41 : Tryz.prog.cellsOf 244 = 1 := by kernel_rfl
theorem door_met (os : Os) (args : Array Value) : laidMetH Tryz.prog laid1 ((World.doorLaid Tryz.prog 400 os).forCall (fun _ _ => 0) ⟨#[], args, []⟩).memory :=
 laidMetH_of_parts3 (fuel := 8) (laidMet_of_run' 8 (by kernel_rfl) (by kernel_rfl)) (by kernel_rfl) (by kernel_rfl)
theorem of_laid {W : World} (h : laidMetH Tryz.prog laid1 W) (i : Nat) (hi : i < 16) : W.cell? ⟨0, i, none⟩ = some (.int .u32 (Pg.tab.getD i 0)) := by
 rw [MakeChecks.laidMetH_plain _ _ _ (by kernel_rfl)] at h
 have hT : Lib.TabIs Tryz.prog W "tinderbox/crc.fourBits" .u32 Pg.tab := Lib.tabIs_of_head gTab tTab Tryz.underlying280 Tryz.underlying244 c41 c53 h
 exact hT.cell gTab i hi
theorem size_of_cell {w : World} {a : Addr} {v : Value} (h : w.cell? a = some v) : a.block < w.heap.size := by
 unfold World.cell? at h
 split at h
 ·rename_i c e f hb
  rcases Array.getElem?_eq_some_iff.1 hb with ⟨hlt, _⟩
  exact hlt
 ·cases h
theorem tab_of {W : World} (h : laidMetH Tryz.prog laid1 W) : Pg.Tab W := ⟨size_of_cell (of_laid h 0 (by omega)), of_laid h⟩
theorem cells23 : Tryz.prog.cellsOf 23 = 3 := by kernel_rfl
set_option maxRecDepth 100000 in
theorem open_geo {H : Type} {enc : TypeId × Value -> H} {W : World} {b0 : Nat} {v : Value} {d : DataW H} {p : List MemPlace} (hv : Value.okWide Tryz.prog W .any b0 23 v) (h : DataW.Trod enc Tryz.prog W 0 (fun _ => true) true 23 v d p) :
  ∃ a b c, v = .agg #[.int .i64 a, .int .i64 b, .int .i64 c] := by
 obtain ⟨v0, v1, v2, y0, y1, y2, n, rfl, rfl, rfl, t0, t1, t2⟩ := Go.Joins.open_agg3 Tryz.underlying23 (by kernel_rfl) cells23 hv h
 obtain ⟨a, e0, _, _⟩ := DataW.trod_int Tryz.underlying3 t0
 obtain ⟨b, e1, _, _⟩ := DataW.trod_int Tryz.underlying3 t1
 obtain ⟨c, e2, _, _⟩ := DataW.trod_int Tryz.underlying3 t2
 simp at e0 e1 e2
 subst e0 e1 e2
 exact ⟨a, b, c, rfl⟩
end Go.Proofs.YtcmmhfjnhlaepabGreatDoor
