/-
  No cell of these rows narrows 'for every input' (looked for: loops, veiled, ifaces, maps, wideKeys, modest, calm, conditions, laid).
  DERIVED. THE GIVEN ROWS OF THIS SEAT. 3 by the template 'for every input the law returns true; each argument reads behind the call as it read before'; 0 by the template 'total and deterministic' (their statements: YtfaaoogdmfllbaaTotals.lean).
  GIVEN WITH THE SEED: the statements are not yours to turn. If you find one false, say at which input.
  Laid BY PROGRAM, IN A SANDBOX (cutbox-rows.mjs): the forced cells as the released guide's own fill.sh prints them over the translation ccf8bf109d3d79a9… (all of the seat's roots in one cut). By AI agents, Wed Nov 11 2026. No macro, syntax, notation, axiom, sorry.
-/
import Derived.Test.YtfaaoogdmfllbaaChecked
import GoSem.Claim
import GoSem.ClaimJoined
import GoSem.ClaimMapViews
import Derived.JoinedTies
import Derived.KernelRfl
namespace Go.Proofs.Ytfaaoogdmfllbaa
/- THE CELL 'sum', in the pinned program and in every row, IS THE sha256 OF THE DUMP (.gsa) THAT YtfaaoogdmfllbaaProg.lean LOADS. Nothing in Lean hashes anything: it is a label: what it is worth is what the hold of that sum in a sandbox is worth. -/
noncomputable def Try.pinned : Pinned := { name := "ytfaaoogdmfllbaa", sum := "ccf8bf109d3d79a93020c7af9a076067c469a4f031ad5e20e3dafd680510ec20", checked := Try.checked }
namespace Rows
def none {H : Type} : Left H := { results := [], args := [] }

/-- 'tinderboxlaw12.VictimChooses': WHATEVER THE INPUT: true; the input reads as it did. -/
def victimChoosesSpec : ChangeSpec := { name := "victimChooses", fn := fun _ => fun
  | [d] => { results := [.lit (.bool true)], args := [d] }
  | _ => none }
def victimChoosesRow : OpenClaim := { program := "ytfaaoogdmfllbaa", sum := "ccf8bf109d3d79a93020c7af9a076067c469a4f031ad5e20e3dafd680510ec20", func := "tinderbox/tinderboxlaw12.VictimChooses", spec := "victimChooses", inPlace := ["math.Float64frombits", "math.Float64bits"], apart := false }
def VictimChoosesSaid : Prop := victimChoosesRow.holds Try.pinned (OpenSpec.ofChange victimChoosesSpec)

/-- ITS FALSE NEIGHBOUR: 'it returns false'. Refute it at one input. -/
def victimChoosesWrong : ChangeSpec := { name := "victimChooses", fn := fun _ => fun
  | [d] => { results := [.lit (.bool false)], args := [d] }
  | _ => none }
def VictimChoosesWrongFalsely : Prop := victimChoosesRow.holds Try.pinned (OpenSpec.ofChange victimChoosesWrong)

/-- 'tinderboxlaw12.VictimEmpty': WHATEVER THE INPUT: true; the input reads as it did. -/
def victimEmptySpec : ChangeSpec := { name := "victimEmpty", fn := fun _ => fun
  | [d] => { results := [.lit (.bool true)], args := [d] }
  | _ => none }
def victimEmptyRow : OpenClaim := { program := "ytfaaoogdmfllbaa", sum := "ccf8bf109d3d79a93020c7af9a076067c469a4f031ad5e20e3dafd680510ec20", func := "tinderbox/tinderboxlaw12.VictimEmpty", spec := "victimEmpty", inPlace := ["math.Float64frombits", "math.Float64bits"], apart := false }
def VictimEmptySaid : Prop := victimEmptyRow.holds Try.pinned (OpenSpec.ofChange victimEmptySpec)

/-- ITS FALSE NEIGHBOUR: 'it returns false'. Refute it at one input. -/
def victimEmptyWrong : ChangeSpec := { name := "victimEmpty", fn := fun _ => fun
  | [d] => { results := [.lit (.bool false)], args := [d] }
  | _ => none }
def VictimEmptyWrongFalsely : Prop := victimEmptyRow.holds Try.pinned (OpenSpec.ofChange victimEmptyWrong)

/-- 'tinderboxlaw12.VictimGains': WHATEVER THE INPUT: true; the input reads as it did. -/
def victimGainsSpec : ChangeSpec := { name := "victimGains", fn := fun _ => fun
  | [d] => { results := [.lit (.bool true)], args := [d] }
  | _ => none }
def victimGainsRow : OpenClaim := { program := "ytfaaoogdmfllbaa", sum := "ccf8bf109d3d79a93020c7af9a076067c469a4f031ad5e20e3dafd680510ec20", func := "tinderbox/tinderboxlaw12.VictimGains", spec := "victimGains", inPlace := ["math.Float64frombits", "math.Float64bits"], apart := false }
def VictimGainsSaid : Prop := victimGainsRow.holds Try.pinned (OpenSpec.ofChange victimGainsSpec)

/-- ITS FALSE NEIGHBOUR: 'it returns false'. Refute it at one input. -/
def victimGainsWrong : ChangeSpec := { name := "victimGains", fn := fun _ => fun
  | [d] => { results := [.lit (.bool false)], args := [d] }
  | _ => none }
def VictimGainsWrongFalsely : Prop := victimGainsRow.holds Try.pinned (OpenSpec.ofChange victimGainsWrong)

/- THE SECOND FORM. 'bulk': how many values and letters a reading holds, each counted each time it is reached (what is shared counts as often as it is met; a slice's spare places count too). A statement '..UptoSaid' is the law's where the arguments, and the package variables that the reading takes, are together of bulk at most 1048576: NARROWER than '..Said'. Prove '..Said' where nothing that the law and all that it calls make is longer than what came in: it says more and counts as full. Else prove '..UptoSaid'. A law counts once. -/
mutual
def uptoBulk {H : Type} : DataW H → Nat
  | .lit (.string bytes) => bytes.length + 1
  | .lit _ => 1
  | .nil => 1
  | .ptr d => uptoBulk d + 1
  | .slice elems spare => uptoBulkAll elems + uptoBulkAll spare + 1
  | .agg parts => uptoBulkAll parts + 1
  | .iface _ d => uptoBulk d + 1
  | .map entries => uptoBulkEntries entries + 1
  | .held _ => 1
def uptoBulkAll {H : Type} : List (DataW H) → Nat
  | [] => 0
  | d :: r => uptoBulk d + uptoBulkAll r
def uptoBulkEntries {H : Type} : List (Lit × DataW H) → Nat
  | [] => 0
  | x :: r => uptoBulkEntry x + uptoBulkEntries r
def uptoBulkEntry {H : Type} : Lit × DataW H → Nat
  | (.string bytes, d) => bytes.length + uptoBulk d + 1
  | (_, d) => uptoBulk d + 1
 end
def uptoSmall : (H : Type) → List (DataW H) → Bool := fun _ ds => decide (uptoBulkAll ds ≤ 1048576)
def OpenSpec.upto (s : _root_.Go.ChangeSpec) : _root_.Go.OpenSpec := { _root_.Go.OpenSpec.ofChange s with cond := some uptoSmall }

/-- 'tinderboxlaw12.VictimChooses', WHERE WHAT IT READS IS OF BULK AT MOST 1048576: true; the input reads as it did. -/
def victimChoosesUptoRow : OpenClaim := { program := "ytfaaoogdmfllbaa", sum := "ccf8bf109d3d79a93020c7af9a076067c469a4f031ad5e20e3dafd680510ec20", func := "tinderbox/tinderboxlaw12.VictimChooses", spec := "victimChooses", inPlace := ["math.Float64frombits", "math.Float64bits"], apart := false, narrowed := true }
def VictimChoosesUptoSaid : Prop := victimChoosesUptoRow.holds Try.pinned (OpenSpec.upto victimChoosesSpec)

/-- 'tinderboxlaw12.VictimEmpty', WHERE WHAT IT READS IS OF BULK AT MOST 1048576: true; the input reads as it did. -/
def victimEmptyUptoRow : OpenClaim := { program := "ytfaaoogdmfllbaa", sum := "ccf8bf109d3d79a93020c7af9a076067c469a4f031ad5e20e3dafd680510ec20", func := "tinderbox/tinderboxlaw12.VictimEmpty", spec := "victimEmpty", inPlace := ["math.Float64frombits", "math.Float64bits"], apart := false, narrowed := true }
def VictimEmptyUptoSaid : Prop := victimEmptyUptoRow.holds Try.pinned (OpenSpec.upto victimEmptySpec)

/-- 'tinderboxlaw12.VictimGains', WHERE WHAT IT READS IS OF BULK AT MOST 1048576: true; the input reads as it did. -/
def victimGainsUptoRow : OpenClaim := { program := "ytfaaoogdmfllbaa", sum := "ccf8bf109d3d79a93020c7af9a076067c469a4f031ad5e20e3dafd680510ec20", func := "tinderbox/tinderboxlaw12.VictimGains", spec := "victimGains", inPlace := ["math.Float64frombits", "math.Float64bits"], apart := false, narrowed := true }
def VictimGainsUptoSaid : Prop := victimGainsUptoRow.holds Try.pinned (OpenSpec.upto victimGainsSpec)

end Rows
end Go.Proofs.Ytfaaoogdmfllbaa
