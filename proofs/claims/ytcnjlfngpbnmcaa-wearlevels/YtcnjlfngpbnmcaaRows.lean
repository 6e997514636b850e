/-
  No cell of these rows narrows 'for every input' (looked for: loops, veiled, ifaces, maps, wideKeys, modest, calm, conditions, laid).
  DERIVED. THE GIVEN ROWS OF THIS SEAT. 3 by the template 'for every input the law returns true; each argument reads behind the call as it read before'; 0 by the template 'total and deterministic' (their statements: YtcnjlfngpbnmcaaTotals.lean).
  GIVEN WITH THE SEED: the statements are not yours to turn. If you find one false, say at which input.
  Laid BY PROGRAM, IN A SANDBOX (cutbox-rows.mjs): the forced cells as the released guide's own fill.sh prints them over the translation 05882facc91d4838… (all of the seat's roots in one cut). By AI agents, Wed Nov 11 2026. No macro, syntax, notation, axiom, sorry.
-/
import Derived.Test.YtcnjlfngpbnmcaaChecked
import GoSem.Claim
import GoSem.ClaimJoined
import GoSem.ClaimMapViews
import Derived.JoinedTies
import Derived.KernelRfl
namespace Go.Proofs.Ytcnjlfngpbnmcaa
/- THE CELL 'sum', in the pinned program and in every row, IS THE sha256 OF THE DUMP (.gsa) THAT YtcnjlfngpbnmcaaProg.lean LOADS. Nothing in Lean hashes anything: it is a label: what it is worth is what the hold of that sum in a sandbox is worth. -/
noncomputable def Try.pinned : Pinned := { name := "ytcnjlfngpbnmcaa", sum := "05882facc91d483828ee8fa5af3b39921e1eb9568dd5b5e42147515e85be7cc0", checked := Try.checked }
namespace Rows
def none {H : Type} : Left H := { results := [], args := [] }

/-- 'tinderboxlaw11.WearLeast': WHATEVER THE INPUT: true; the input reads as it did. -/
def wearLeastSpec : ChangeSpec := { name := "wearLeast", fn := fun _ => fun
  | [d] => { results := [.lit (.bool true)], args := [d] }
  | _ => none }
def wearLeastRow : OpenClaim := { program := "ytcnjlfngpbnmcaa", sum := "05882facc91d483828ee8fa5af3b39921e1eb9568dd5b5e42147515e85be7cc0", func := "tinderbox/tinderboxlaw11.WearLeast", spec := "wearLeast", apart := false }
def WearLeastSaid : Prop := wearLeastRow.holds Try.pinned (OpenSpec.ofChange wearLeastSpec)

/-- ITS FALSE NEIGHBOUR: 'it returns false'. Refute it at one input. -/
def wearLeastWrong : ChangeSpec := { name := "wearLeast", fn := fun _ => fun
  | [d] => { results := [.lit (.bool false)], args := [d] }
  | _ => none }
def WearLeastWrongFalsely : Prop := wearLeastRow.holds Try.pinned (OpenSpec.ofChange wearLeastWrong)

/-- 'tinderboxlaw11.WearCold': WHATEVER THE INPUT: true; the input reads as it did. -/
def wearColdSpec : ChangeSpec := { name := "wearCold", fn := fun _ => fun
  | [d1, d2, d3] => { results := [.lit (.bool true)], args := [d1, d2, d3] }
  | _ => none }
def wearColdRow : OpenClaim := { program := "ytcnjlfngpbnmcaa", sum := "05882facc91d483828ee8fa5af3b39921e1eb9568dd5b5e42147515e85be7cc0", func := "tinderbox/tinderboxlaw11.WearCold", spec := "wearCold", apart := false }
def WearColdSaid : Prop := wearColdRow.holds Try.pinned (OpenSpec.ofChange wearColdSpec)

/-- ITS FALSE NEIGHBOUR: 'it returns false'. Refute it at one input. -/
def wearColdWrong : ChangeSpec := { name := "wearCold", fn := fun _ => fun
  | [d1, d2, d3] => { results := [.lit (.bool false)], args := [d1, d2, d3] }
  | _ => none }
def WearColdWrongFalsely : Prop := wearColdRow.holds Try.pinned (OpenSpec.ofChange wearColdWrong)

/-- 'tinderboxlaw11.WearLevels': WHATEVER THE INPUT: true; the input reads as it did. -/
def wearLevelsSpec : ChangeSpec := { name := "wearLevels", fn := fun _ => fun
  | [d1, d2] => { results := [.lit (.bool true)], args := [d1, d2] }
  | _ => none }
def wearLevelsRow : OpenClaim := { program := "ytcnjlfngpbnmcaa", sum := "05882facc91d483828ee8fa5af3b39921e1eb9568dd5b5e42147515e85be7cc0", func := "tinderbox/tinderboxlaw11.WearLevels", spec := "wearLevels", apart := false }
def WearLevelsSaid : Prop := wearLevelsRow.holds Try.pinned (OpenSpec.ofChange wearLevelsSpec)

/-- ITS FALSE NEIGHBOUR: 'it returns false'. Refute it at one input. -/
def wearLevelsWrong : ChangeSpec := { name := "wearLevels", fn := fun _ => fun
  | [d1, d2] => { results := [.lit (.bool false)], args := [d1, d2] }
  | _ => none }
def WearLevelsWrongFalsely : Prop := wearLevelsRow.holds Try.pinned (OpenSpec.ofChange wearLevelsWrong)

/- THE SECOND FORM. 'bulk': how many values and letters a reading holds, each counted each time it is reached (what is shared counts as often as it is met; a slice's spare places count too). A statement '..UptoSaid' is the law's where the arguments, and the package variables that the reading takes, are together of bulk at most 1048576: NARROWER than '..Said'. Prove '..Said' where nothing that the law and all that it calls make is longer than what came in: it says more and counts as full. Else prove '..UptoSaid'. A law counts once. -/
mutual
def uptoBulk {H : Type} : DataW H → Nat
  | .lit (.string bytes) => bytes.length + 1
  | .lit _ => 1
  | .nil => 1
  | .ptr d => uptoBulk d + 1
  | .slice elems spare => uptoBulkAll elems + uptoBulkAll spare + 1
  | .agg parts => uptoBulkAll parts + 1
  | .iface _ d => uptoBulk d + 1
  | .map entries => uptoBulkEntries entries + 1
  | .held _ => 1
def uptoBulkAll {H : Type} : List (DataW H) → Nat
  | [] => 0
  | d :: r => uptoBulk d + uptoBulkAll r
def uptoBulkEntries {H : Type} : List (Lit × DataW H) → Nat
  | [] => 0
  | x :: r => uptoBulkEntry x + uptoBulkEntries r
def uptoBulkEntry {H : Type} : Lit × DataW H → Nat
  | (.string bytes, d) => bytes.length + uptoBulk d + 1
  | (_, d) => uptoBulk d + 1
 end
def uptoSmall : (H : Type) → List (DataW H) → Bool := fun _ ds => decide (uptoBulkAll ds ≤ 1048576)
def OpenSpec.upto (s : _root_.Go.ChangeSpec) : _root_.Go.OpenSpec := { _root_.Go.OpenSpec.ofChange s with cond := some uptoSmall }

/-- 'tinderboxlaw11.WearLeast', WHERE WHAT IT READS IS OF BULK AT MOST 1048576: true; the input reads as it did. -/
def wearLeastUptoRow : OpenClaim := { program := "ytcnjlfngpbnmcaa", sum := "05882facc91d483828ee8fa5af3b39921e1eb9568dd5b5e42147515e85be7cc0", func := "tinderbox/tinderboxlaw11.WearLeast", spec := "wearLeast", apart := false, narrowed := true }
def WearLeastUptoSaid : Prop := wearLeastUptoRow.holds Try.pinned (OpenSpec.upto wearLeastSpec)

/-- 'tinderboxlaw11.WearCold', WHERE WHAT IT READS IS OF BULK AT MOST 1048576: true; the input reads as it did. -/
def wearColdUptoRow : OpenClaim := { program := "ytcnjlfngpbnmcaa", sum := "05882facc91d483828ee8fa5af3b39921e1eb9568dd5b5e42147515e85be7cc0", func := "tinderbox/tinderboxlaw11.WearCold", spec := "wearCold", apart := false, narrowed := true }
def WearColdUptoSaid : Prop := wearColdUptoRow.holds Try.pinned (OpenSpec.upto wearColdSpec)

/-- 'tinderboxlaw11.WearLevels', WHERE WHAT IT READS IS OF BULK AT MOST 1048576: true; the input reads as it did. -/
def wearLevelsUptoRow : OpenClaim := { program := "ytcnjlfngpbnmcaa", sum := "05882facc91d483828ee8fa5af3b39921e1eb9568dd5b5e42147515e85be7cc0", func := "tinderbox/tinderboxlaw11.WearLevels", spec := "wearLevels", apart := false, narrowed := true }
def WearLevelsUptoSaid : Prop := wearLevelsUptoRow.holds Try.pinned (OpenSpec.upto wearLevelsSpec)

end Rows
end Go.Proofs.Ytcnjlfngpbnmcaa
