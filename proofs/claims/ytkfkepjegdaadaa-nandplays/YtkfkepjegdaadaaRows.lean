/-
  No cell of these rows narrows 'for every input' (looked for: loops, veiled, ifaces, maps, wideKeys, modest, calm, conditions, laid).
  DERIVED. THE GIVEN ROWS OF THIS SEAT. 5 by the template 'for every input the law returns true; each argument reads behind the call as it read before'; 0 by the template 'total and deterministic' (their statements: YtkfkepjegdaadaaTotals.lean).
  GIVEN WITH THE SEED: the statements are not yours to turn. If you find one false, say at which input.
  Laid BY PROGRAM, IN A SANDBOX (cutbox-rows.mjs): the forced cells as the released guide's own fill.sh prints them over the translation 0843c03c08ff6f9d… (all of the seat's roots in one cut). By AI agents, Wed Nov 11 2026. No macro, syntax, notation, axiom, sorry.
-/
import Derived.Test.YtkfkepjegdaadaaChecked
import GoSem.Claim
import GoSem.ClaimJoined
import GoSem.ClaimMapViews
import Derived.JoinedTies
import Derived.KernelRfl
namespace Go.Proofs.Ytkfkepjegdaadaa
/- THE CELL 'sum', in the pinned program and in every row, IS THE sha256 OF THE DUMP (.gsa) THAT YtkfkepjegdaadaaProg.lean LOADS. Nothing in Lean hashes anything: it is a label: what it is worth is what the hold of that sum in a sandbox is worth. -/
noncomputable def Try.pinned : Pinned := { name := "ytkfkepjegdaadaa", sum := "0843c03c08ff6f9daa7c335f223b3c0dea057cd6172ca6992a2986b2fb1129db", checked := Try.checked }
namespace Rows
def none {H : Type} : Left H := { results := [], args := [] }

/-- 'tinderboxlaw05.NandPlays': WHATEVER THE INPUT: true; the input reads as it did. -/
def nandPlaysSpec : ChangeSpec := { name := "nandPlays", fn := fun _ => fun
  | [d1, d2, d3] => { results := [.lit (.bool true)], args := [d1, d2, d3] }
  | _ => none }
def nandPlaysRow : OpenClaim := { program := "ytkfkepjegdaadaa", sum := "0843c03c08ff6f9daa7c335f223b3c0dea057cd6172ca6992a2986b2fb1129db", func := "tinderbox/tinderboxlaw05.NandPlays", spec := "nandPlays", inPlace := ["internal/abi.NoEscape", "internal/bytealg.MakeNoZero"], apart := false }
def NandPlaysSaid : Prop := nandPlaysRow.holds Try.pinned (OpenSpec.ofChange nandPlaysSpec)

/-- ITS FALSE NEIGHBOUR: 'it returns false'. Refute it at one input. -/
def nandPlaysWrong : ChangeSpec := { name := "nandPlays", fn := fun _ => fun
  | [d1, d2, d3] => { results := [.lit (.bool false)], args := [d1, d2, d3] }
  | _ => none }
def NandPlaysWrongFalsely : Prop := nandPlaysRow.holds Try.pinned (OpenSpec.ofChange nandPlaysWrong)

/-- 'tinderboxlaw05.NandOrder': WHATEVER THE INPUT: true; the input reads as it did. -/
def nandOrderSpec : ChangeSpec := { name := "nandOrder", fn := fun _ => fun
  | [d1, d2] => { results := [.lit (.bool true)], args := [d1, d2] }
  | _ => none }
def nandOrderRow : OpenClaim := { program := "ytkfkepjegdaadaa", sum := "0843c03c08ff6f9daa7c335f223b3c0dea057cd6172ca6992a2986b2fb1129db", func := "tinderbox/tinderboxlaw05.NandOrder", spec := "nandOrder", inPlace := ["internal/abi.NoEscape", "internal/bytealg.MakeNoZero"], apart := false }
def NandOrderSaid : Prop := nandOrderRow.holds Try.pinned (OpenSpec.ofChange nandOrderSpec)

/-- ITS FALSE NEIGHBOUR: 'it returns false'. Refute it at one input. -/
def nandOrderWrong : ChangeSpec := { name := "nandOrder", fn := fun _ => fun
  | [d1, d2] => { results := [.lit (.bool false)], args := [d1, d2] }
  | _ => none }
def NandOrderWrongFalsely : Prop := nandOrderRow.holds Try.pinned (OpenSpec.ofChange nandOrderWrong)

/-- 'tinderboxlaw05.NandDead': WHATEVER THE INPUT: true; the input reads as it did. -/
def nandDeadSpec : ChangeSpec := { name := "nandDead", fn := fun _ => fun
  | [d1, d2, d3] => { results := [.lit (.bool true)], args := [d1, d2, d3] }
  | _ => none }
def nandDeadRow : OpenClaim := { program := "ytkfkepjegdaadaa", sum := "0843c03c08ff6f9daa7c335f223b3c0dea057cd6172ca6992a2986b2fb1129db", func := "tinderbox/tinderboxlaw05.NandDead", spec := "nandDead", inPlace := ["internal/abi.NoEscape", "internal/bytealg.MakeNoZero"], apart := false }
def NandDeadSaid : Prop := nandDeadRow.holds Try.pinned (OpenSpec.ofChange nandDeadSpec)

/-- ITS FALSE NEIGHBOUR: 'it returns false'. Refute it at one input. -/
def nandDeadWrong : ChangeSpec := { name := "nandDead", fn := fun _ => fun
  | [d1, d2, d3] => { results := [.lit (.bool false)], args := [d1, d2, d3] }
  | _ => none }
def NandDeadWrongFalsely : Prop := nandDeadRow.holds Try.pinned (OpenSpec.ofChange nandDeadWrong)

/-- 'tinderboxlaw05.NandArm': WHATEVER THE INPUT: true; the input reads as it did. -/
def nandArmSpec : ChangeSpec := { name := "nandArm", fn := fun _ => fun
  | [d1, d2, d3] => { results := [.lit (.bool true)], args := [d1, d2, d3] }
  | _ => none }
def nandArmRow : OpenClaim := { program := "ytkfkepjegdaadaa", sum := "0843c03c08ff6f9daa7c335f223b3c0dea057cd6172ca6992a2986b2fb1129db", func := "tinderbox/tinderboxlaw05.NandArm", spec := "nandArm", inPlace := ["internal/abi.NoEscape", "internal/bytealg.MakeNoZero"], apart := false }
def NandArmSaid : Prop := nandArmRow.holds Try.pinned (OpenSpec.ofChange nandArmSpec)

/-- ITS FALSE NEIGHBOUR: 'it returns false'. Refute it at one input. -/
def nandArmWrong : ChangeSpec := { name := "nandArm", fn := fun _ => fun
  | [d1, d2, d3] => { results := [.lit (.bool false)], args := [d1, d2, d3] }
  | _ => none }
def NandArmWrongFalsely : Prop := nandArmRow.holds Try.pinned (OpenSpec.ofChange nandArmWrong)

/-- 'tinderboxlaw05.NandNone': WHATEVER THE INPUT: true; the input reads as it did. -/
def nandNoneSpec : ChangeSpec := { name := "nandNone", fn := fun _ => fun
  | [d1, d2, d3] => { results := [.lit (.bool true)], args := [d1, d2, d3] }
  | _ => none }
def nandNoneRow : OpenClaim := { program := "ytkfkepjegdaadaa", sum := "0843c03c08ff6f9daa7c335f223b3c0dea057cd6172ca6992a2986b2fb1129db", func := "tinderbox/tinderboxlaw05.NandNone", spec := "nandNone", inPlace := ["internal/abi.NoEscape", "internal/bytealg.MakeNoZero"], apart := false }
def NandNoneSaid : Prop := nandNoneRow.holds Try.pinned (OpenSpec.ofChange nandNoneSpec)

/-- ITS FALSE NEIGHBOUR: 'it returns false'. Refute it at one input. -/
def nandNoneWrong : ChangeSpec := { name := "nandNone", fn := fun _ => fun
  | [d1, d2, d3] => { results := [.lit (.bool false)], args := [d1, d2, d3] }
  | _ => none }
def NandNoneWrongFalsely : Prop := nandNoneRow.holds Try.pinned (OpenSpec.ofChange nandNoneWrong)

/- THE SECOND FORM. 'bulk': how many values and letters a reading holds, each counted each time it is reached (what is shared counts as often as it is met; a slice's spare places count too). A statement '..UptoSaid' is the law's where the arguments, and the package variables that the reading takes, are together of bulk at most 1048576: NARROWER than '..Said'. Prove '..Said' where nothing that the law and all that it calls make is longer than what came in: it says more and counts as full. Else prove '..UptoSaid'. A law counts once. -/
mutual
def uptoBulk {H : Type} : DataW H → Nat
  | .lit (.string bytes) => bytes.length + 1
  | .lit _ => 1
  | .nil => 1
  | .ptr d => uptoBulk d + 1
  | .slice elems spare => uptoBulkAll elems + uptoBulkAll spare + 1
  | .agg parts => uptoBulkAll parts + 1
  | .iface _ d => uptoBulk d + 1
  | .map entries => uptoBulkEntries entries + 1
  | .held _ => 1
def uptoBulkAll {H : Type} : List (DataW H) → Nat
  | [] => 0
  | d :: r => uptoBulk d + uptoBulkAll r
def uptoBulkEntries {H : Type} : List (Lit × DataW H) → Nat
  | [] => 0
  | x :: r => uptoBulkEntry x + uptoBulkEntries r
def uptoBulkEntry {H : Type} : Lit × DataW H → Nat
  | (.string bytes, d) => bytes.length + uptoBulk d + 1
  | (_, d) => uptoBulk d + 1
 end
def uptoSmall : (H : Type) → List (DataW H) → Bool := fun _ ds => decide (uptoBulkAll ds ≤ 1048576)
def OpenSpec.upto (s : _root_.Go.ChangeSpec) : _root_.Go.OpenSpec := { _root_.Go.OpenSpec.ofChange s with cond := some uptoSmall }

/-- 'tinderboxlaw05.NandPlays', WHERE WHAT IT READS IS OF BULK AT MOST 1048576: true; the input reads as it did. -/
def nandPlaysUptoRow : OpenClaim := { program := "ytkfkepjegdaadaa", sum := "0843c03c08ff6f9daa7c335f223b3c0dea057cd6172ca6992a2986b2fb1129db", func := "tinderbox/tinderboxlaw05.NandPlays", spec := "nandPlays", inPlace := ["internal/abi.NoEscape", "internal/bytealg.MakeNoZero"], apart := false, narrowed := true }
def NandPlaysUptoSaid : Prop := nandPlaysUptoRow.holds Try.pinned (OpenSpec.upto nandPlaysSpec)

/-- 'tinderboxlaw05.NandOrder', WHERE WHAT IT READS IS OF BULK AT MOST 1048576: true; the input reads as it did. -/
def nandOrderUptoRow : OpenClaim := { program := "ytkfkepjegdaadaa", sum := "0843c03c08ff6f9daa7c335f223b3c0dea057cd6172ca6992a2986b2fb1129db", func := "tinderbox/tinderboxlaw05.NandOrder", spec := "nandOrder", inPlace := ["internal/abi.NoEscape", "internal/bytealg.MakeNoZero"], apart := false, narrowed := true }
def NandOrderUptoSaid : Prop := nandOrderUptoRow.holds Try.pinned (OpenSpec.upto nandOrderSpec)

/-- 'tinderboxlaw05.NandDead', WHERE WHAT IT READS IS OF BULK AT MOST 1048576: true; the input reads as it did. -/
def nandDeadUptoRow : OpenClaim := { program := "ytkfkepjegdaadaa", sum := "0843c03c08ff6f9daa7c335f223b3c0dea057cd6172ca6992a2986b2fb1129db", func := "tinderbox/tinderboxlaw05.NandDead", spec := "nandDead", inPlace := ["internal/abi.NoEscape", "internal/bytealg.MakeNoZero"], apart := false, narrowed := true }
def NandDeadUptoSaid : Prop := nandDeadUptoRow.holds Try.pinned (OpenSpec.upto nandDeadSpec)

/-- 'tinderboxlaw05.NandArm', WHERE WHAT IT READS IS OF BULK AT MOST 1048576: true; the input reads as it did. -/
def nandArmUptoRow : OpenClaim := { program := "ytkfkepjegdaadaa", sum := "0843c03c08ff6f9daa7c335f223b3c0dea057cd6172ca6992a2986b2fb1129db", func := "tinderbox/tinderboxlaw05.NandArm", spec := "nandArm", inPlace := ["internal/abi.NoEscape", "internal/bytealg.MakeNoZero"], apart := false, narrowed := true }
def NandArmUptoSaid : Prop := nandArmUptoRow.holds Try.pinned (OpenSpec.upto nandArmSpec)

/-- 'tinderboxlaw05.NandNone', WHERE WHAT IT READS IS OF BULK AT MOST 1048576: true; the input reads as it did. -/
def nandNoneUptoRow : OpenClaim := { program := "ytkfkepjegdaadaa", sum := "0843c03c08ff6f9daa7c335f223b3c0dea057cd6172ca6992a2986b2fb1129db", func := "tinderbox/tinderboxlaw05.NandNone", spec := "nandNone", inPlace := ["internal/abi.NoEscape", "internal/bytealg.MakeNoZero"], apart := false, narrowed := true }
def NandNoneUptoSaid : Prop := nandNoneUptoRow.holds Try.pinned (OpenSpec.upto nandNoneSpec)

end Rows
end Go.Proofs.Ytkfkepjegdaadaa
