/-
  NARROWER THAN 'FOR EVERY INPUT', by the rows' own cells (each row's printed sentence says how): WriteReads: laid · WriteBad: laid · WriteLevels: laid · WriteFull: laid · WriteCuts: laid · WriteNone: laid.
  DERIVED. THE GIVEN ROWS OF THIS SEAT. 6 by the template 'for every input the law returns true; each argument reads behind the call as it read before'; 0 by the template 'total and deterministic' (their statements: YtbcnocbdifbocaaDoorTotals.lean).
  GIVEN WITH THE SEED: the statements are not yours to turn. If you find one false, say at which input.
  Laid BY PROGRAM, IN A SANDBOX (cutbox-rows.mjs): the forced cells as the released guide's own fill.sh prints them over the translation 958d7ecb56c40d41… (all of the seat's roots in one cut). By AI agents, Wed Nov 11 2026. No macro, syntax, notation, axiom, sorry.
-/
import Derived.Test.YtbcnocbdifbocaaDoorChecked
import GoSem.Claim
import GoSem.ClaimJoined
import GoSem.ClaimMapViews
import Derived.JoinedTies
import Derived.KernelRfl
namespace Go.Proofs.YtbcnocbdifbocaaDoor
/- THE CELL 'sum', in the pinned program and in every row, IS THE sha256 OF THE DUMP (.gsa) THAT YtbcnocbdifbocaaDoorProg.lean LOADS. Nothing in Lean hashes anything: it is a label: what it is worth is what the hold of that sum in a sandbox is worth. -/
noncomputable def Tryd.pinned : Pinned := { name := "ytbcnocbdifbocaadoor", sum := "958d7ecb56c40d41197036d294cbf66222c1873157b76b9f42781b1bd1921818", checked := Tryd.checked }
namespace Rows
def none {H : Type} : Left H := { results := [], args := [] }

/- WHAT THE LISTED PACKAGE-LEVEL VARIABLES READ AS WHEN THE CALL BEGINS. Each datum BY PROGRAM (the guide's laid-datum.mjs) off the statement by which the dump's own 'gosem.cut.vars' lays the variable. In a bare row this is a premise. The card (YtbcnocbdifbocaaDoorCards.lean) ties it to the program's text. -/
def laid_tinderbox_crc_fourBits {H : Type} : DataW H := .agg [.lit (.int .u32 0), .lit (.int .u32 274646895), .lit (.int .u32 549293790), .lit (.int .u32 820201905), .lit (.int .u32 1098587580), .lit (.int .u32 1361435347), .lit (.int .u32 1640403810), .lit (.int .u32 1905808397), .lit (.int .u32 2197175160), .lit (.int .u32 2460548119), .lit (.int .u32 2722870694), .lit (.int .u32 2987750089), .lit (.int .u32 3280807620), .lit (.int .u32 3553878443), .lit (.int .u32 3811616794), .lit (.int .u32 4084100981)]

/-- 'tinderboxlaw13.WriteReads': WHATEVER THE INPUT: true; the input reads as it did. -/
def writeReadsSpec : ChangeSpec := { name := "writeReads", fn := fun _ => fun
  | [d1, d2, d3] => { results := [.lit (.bool true)], args := [d1, d2, d3] }
  | _ => none }
def writeReadsRow : OpenClaim := { program := "ytbcnocbdifbocaadoor", sum := "958d7ecb56c40d41197036d294cbf66222c1873157b76b9f42781b1bd1921818", func := "tinderbox/tinderboxlaw13.WriteReads", spec := "writeReads", inPlace := ["internal/abi.NoEscape", "internal/bytealg.MakeNoZero"], named := ["tinderbox/crc.fourBits"], apart := false, laid := [("tinderbox/crc.fourBits", laid_tinderbox_crc_fourBits)] }
def WriteReadsSaid : Prop := writeReadsRow.holds Tryd.pinned (OpenSpec.ofChange writeReadsSpec)

/-- ITS FALSE NEIGHBOUR: 'it returns false'. Refute it at one input. -/
def writeReadsWrong : ChangeSpec := { name := "writeReads", fn := fun _ => fun
  | [d1, d2, d3] => { results := [.lit (.bool false)], args := [d1, d2, d3] }
  | _ => none }
def WriteReadsWrongFalsely : Prop := writeReadsRow.holds Tryd.pinned (OpenSpec.ofChange writeReadsWrong)

/-- 'tinderboxlaw13.WriteBad': WHATEVER THE INPUT: true; the input reads as it did. -/
def writeBadSpec : ChangeSpec := { name := "writeBad", fn := fun _ => fun
  | [d1, d2, d3] => { results := [.lit (.bool true)], args := [d1, d2, d3] }
  | _ => none }
def writeBadRow : OpenClaim := { program := "ytbcnocbdifbocaadoor", sum := "958d7ecb56c40d41197036d294cbf66222c1873157b76b9f42781b1bd1921818", func := "tinderbox/tinderboxlaw13.WriteBad", spec := "writeBad", inPlace := ["internal/abi.NoEscape", "internal/bytealg.MakeNoZero"], named := ["tinderbox/crc.fourBits"], apart := false, laid := [("tinderbox/crc.fourBits", laid_tinderbox_crc_fourBits)] }
def WriteBadSaid : Prop := writeBadRow.holds Tryd.pinned (OpenSpec.ofChange writeBadSpec)

/-- ITS FALSE NEIGHBOUR: 'it returns false'. Refute it at one input. -/
def writeBadWrong : ChangeSpec := { name := "writeBad", fn := fun _ => fun
  | [d1, d2, d3] => { results := [.lit (.bool false)], args := [d1, d2, d3] }
  | _ => none }
def WriteBadWrongFalsely : Prop := writeBadRow.holds Tryd.pinned (OpenSpec.ofChange writeBadWrong)

/-- 'tinderboxlaw13.WriteLevels': WHATEVER THE INPUT: true; the input reads as it did. -/
def writeLevelsSpec : ChangeSpec := { name := "writeLevels", fn := fun _ => fun
  | [d1, d2] => { results := [.lit (.bool true)], args := [d1, d2] }
  | _ => none }
def writeLevelsRow : OpenClaim := { program := "ytbcnocbdifbocaadoor", sum := "958d7ecb56c40d41197036d294cbf66222c1873157b76b9f42781b1bd1921818", func := "tinderbox/tinderboxlaw13.WriteLevels", spec := "writeLevels", inPlace := ["internal/abi.NoEscape", "internal/bytealg.MakeNoZero"], named := ["tinderbox/crc.fourBits"], apart := false, laid := [("tinderbox/crc.fourBits", laid_tinderbox_crc_fourBits)] }
def WriteLevelsSaid : Prop := writeLevelsRow.holds Tryd.pinned (OpenSpec.ofChange writeLevelsSpec)

/-- ITS FALSE NEIGHBOUR: 'it returns false'. Refute it at one input. -/
def writeLevelsWrong : ChangeSpec := { name := "writeLevels", fn := fun _ => fun
  | [d1, d2] => { results := [.lit (.bool false)], args := [d1, d2] }
  | _ => none }
def WriteLevelsWrongFalsely : Prop := writeLevelsRow.holds Tryd.pinned (OpenSpec.ofChange writeLevelsWrong)

/-- 'tinderboxlaw13.WriteFull': WHATEVER THE INPUT: true; the input reads as it did. -/
def writeFullSpec : ChangeSpec := { name := "writeFull", fn := fun _ => fun
  | [d1, d2] => { results := [.lit (.bool true)], args := [d1, d2] }
  | _ => none }
def writeFullRow : OpenClaim := { program := "ytbcnocbdifbocaadoor", sum := "958d7ecb56c40d41197036d294cbf66222c1873157b76b9f42781b1bd1921818", func := "tinderbox/tinderboxlaw13.WriteFull", spec := "writeFull", inPlace := ["internal/abi.NoEscape", "internal/bytealg.MakeNoZero"], named := ["tinderbox/crc.fourBits"], apart := false, laid := [("tinderbox/crc.fourBits", laid_tinderbox_crc_fourBits)] }
def WriteFullSaid : Prop := writeFullRow.holds Tryd.pinned (OpenSpec.ofChange writeFullSpec)

/-- ITS FALSE NEIGHBOUR: 'it returns false'. Refute it at one input. -/
def writeFullWrong : ChangeSpec := { name := "writeFull", fn := fun _ => fun
  | [d1, d2] => { results := [.lit (.bool false)], args := [d1, d2] }
  | _ => none }
def WriteFullWrongFalsely : Prop := writeFullRow.holds Tryd.pinned (OpenSpec.ofChange writeFullWrong)

/-- 'tinderboxlaw13.WriteCuts': WHATEVER THE INPUT: true; the input reads as it did. -/
def writeCutsSpec : ChangeSpec := { name := "writeCuts", fn := fun _ => fun
  | [d1, d2, d3] => { results := [.lit (.bool true)], args := [d1, d2, d3] }
  | _ => none }
def writeCutsRow : OpenClaim := { program := "ytbcnocbdifbocaadoor", sum := "958d7ecb56c40d41197036d294cbf66222c1873157b76b9f42781b1bd1921818", func := "tinderbox/tinderboxlaw13.WriteCuts", spec := "writeCuts", inPlace := ["internal/abi.NoEscape", "internal/bytealg.MakeNoZero"], named := ["tinderbox/crc.fourBits"], apart := false, laid := [("tinderbox/crc.fourBits", laid_tinderbox_crc_fourBits)] }
def WriteCutsSaid : Prop := writeCutsRow.holds Tryd.pinned (OpenSpec.ofChange writeCutsSpec)

/-- ITS FALSE NEIGHBOUR: 'it returns false'. Refute it at one input. -/
def writeCutsWrong : ChangeSpec := { name := "writeCuts", fn := fun _ => fun
  | [d1, d2, d3] => { results := [.lit (.bool false)], args := [d1, d2, d3] }
  | _ => none }
def WriteCutsWrongFalsely : Prop := writeCutsRow.holds Tryd.pinned (OpenSpec.ofChange writeCutsWrong)

/-- 'tinderboxlaw13.WriteNone': WHATEVER THE INPUT: true; the input reads as it did. -/
def writeNoneSpec : ChangeSpec := { name := "writeNone", fn := fun _ => fun
  | [d1, d2] => { results := [.lit (.bool true)], args := [d1, d2] }
  | _ => none }
def writeNoneRow : OpenClaim := { program := "ytbcnocbdifbocaadoor", sum := "958d7ecb56c40d41197036d294cbf66222c1873157b76b9f42781b1bd1921818", func := "tinderbox/tinderboxlaw13.WriteNone", spec := "writeNone", inPlace := ["internal/abi.NoEscape", "internal/bytealg.MakeNoZero"], named := ["tinderbox/crc.fourBits"], apart := false, laid := [("tinderbox/crc.fourBits", laid_tinderbox_crc_fourBits)] }
def WriteNoneSaid : Prop := writeNoneRow.holds Tryd.pinned (OpenSpec.ofChange writeNoneSpec)

/-- ITS FALSE NEIGHBOUR: 'it returns false'. Refute it at one input. -/
def writeNoneWrong : ChangeSpec := { name := "writeNone", fn := fun _ => fun
  | [d1, d2] => { results := [.lit (.bool false)], args := [d1, d2] }
  | _ => none }
def WriteNoneWrongFalsely : Prop := writeNoneRow.holds Tryd.pinned (OpenSpec.ofChange writeNoneWrong)

/- THE SECOND FORM. 'bulk': how many values and letters a reading holds, each counted each time it is reached (what is shared counts as often as it is met; a slice's spare places count too). A statement '..UptoSaid' is the law's where the arguments, and the package variables that the reading takes, are together of bulk at most 1048576: NARROWER than '..Said'. Prove '..Said' where nothing that the law and all that it calls make is longer than what came in: it says more and counts as full. Else prove '..UptoSaid'. A law counts once. -/
mutual
def uptoBulk {H : Type} : DataW H → Nat
  | .lit (.string bytes) => bytes.length + 1
  | .lit _ => 1
  | .nil => 1
  | .ptr d => uptoBulk d + 1
  | .slice elems spare => uptoBulkAll elems + uptoBulkAll spare + 1
  | .agg parts => uptoBulkAll parts + 1
  | .iface _ d => uptoBulk d + 1
  | .map entries => uptoBulkEntries entries + 1
  | .held _ => 1
def uptoBulkAll {H : Type} : List (DataW H) → Nat
  | [] => 0
  | d :: r => uptoBulk d + uptoBulkAll r
def uptoBulkEntries {H : Type} : List (Lit × DataW H) → Nat
  | [] => 0
  | x :: r => uptoBulkEntry x + uptoBulkEntries r
def uptoBulkEntry {H : Type} : Lit × DataW H → Nat
  | (.string bytes, d) => bytes.length + uptoBulk d + 1
  | (_, d) => uptoBulk d + 1
 end
def uptoSmall : (H : Type) → List (DataW H) → Bool := fun _ ds => decide (uptoBulkAll ds ≤ 1048576)
def OpenSpec.upto (s : _root_.Go.ChangeSpec) : _root_.Go.OpenSpec := { _root_.Go.OpenSpec.ofChange s with cond := some uptoSmall }

/-- 'tinderboxlaw13.WriteReads', WHERE WHAT IT READS IS OF BULK AT MOST 1048576: true; the input reads as it did. -/
def writeReadsUptoRow : OpenClaim := { program := "ytbcnocbdifbocaadoor", sum := "958d7ecb56c40d41197036d294cbf66222c1873157b76b9f42781b1bd1921818", func := "tinderbox/tinderboxlaw13.WriteReads", spec := "writeReads", inPlace := ["internal/abi.NoEscape", "internal/bytealg.MakeNoZero"], named := ["tinderbox/crc.fourBits"], apart := false, laid := [("tinderbox/crc.fourBits", laid_tinderbox_crc_fourBits)], narrowed := true }
def WriteReadsUptoSaid : Prop := writeReadsUptoRow.holds Tryd.pinned (OpenSpec.upto writeReadsSpec)

/-- 'tinderboxlaw13.WriteBad', WHERE WHAT IT READS IS OF BULK AT MOST 1048576: true; the input reads as it did. -/
def writeBadUptoRow : OpenClaim := { program := "ytbcnocbdifbocaadoor", sum := "958d7ecb56c40d41197036d294cbf66222c1873157b76b9f42781b1bd1921818", func := "tinderbox/tinderboxlaw13.WriteBad", spec := "writeBad", inPlace := ["internal/abi.NoEscape", "internal/bytealg.MakeNoZero"], named := ["tinderbox/crc.fourBits"], apart := false, laid := [("tinderbox/crc.fourBits", laid_tinderbox_crc_fourBits)], narrowed := true }
def WriteBadUptoSaid : Prop := writeBadUptoRow.holds Tryd.pinned (OpenSpec.upto writeBadSpec)

/-- 'tinderboxlaw13.WriteLevels', WHERE WHAT IT READS IS OF BULK AT MOST 1048576: true; the input reads as it did. -/
def writeLevelsUptoRow : OpenClaim := { program := "ytbcnocbdifbocaadoor", sum := "958d7ecb56c40d41197036d294cbf66222c1873157b76b9f42781b1bd1921818", func := "tinderbox/tinderboxlaw13.WriteLevels", spec := "writeLevels", inPlace := ["internal/abi.NoEscape", "internal/bytealg.MakeNoZero"], named := ["tinderbox/crc.fourBits"], apart := false, laid := [("tinderbox/crc.fourBits", laid_tinderbox_crc_fourBits)], narrowed := true }
def WriteLevelsUptoSaid : Prop := writeLevelsUptoRow.holds Tryd.pinned (OpenSpec.upto writeLevelsSpec)

/-- 'tinderboxlaw13.WriteFull', WHERE WHAT IT READS IS OF BULK AT MOST 1048576: true; the input reads as it did. -/
def writeFullUptoRow : OpenClaim := { program := "ytbcnocbdifbocaadoor", sum := "958d7ecb56c40d41197036d294cbf66222c1873157b76b9f42781b1bd1921818", func := "tinderbox/tinderboxlaw13.WriteFull", spec := "writeFull", inPlace := ["internal/abi.NoEscape", "internal/bytealg.MakeNoZero"], named := ["tinderbox/crc.fourBits"], apart := false, laid := [("tinderbox/crc.fourBits", laid_tinderbox_crc_fourBits)], narrowed := true }
def WriteFullUptoSaid : Prop := writeFullUptoRow.holds Tryd.pinned (OpenSpec.upto writeFullSpec)

/-- 'tinderboxlaw13.WriteCuts', WHERE WHAT IT READS IS OF BULK AT MOST 1048576: true; the input reads as it did. -/
def writeCutsUptoRow : OpenClaim := { program := "ytbcnocbdifbocaadoor", sum := "958d7ecb56c40d41197036d294cbf66222c1873157b76b9f42781b1bd1921818", func := "tinderbox/tinderboxlaw13.WriteCuts", spec := "writeCuts", inPlace := ["internal/abi.NoEscape", "internal/bytealg.MakeNoZero"], named := ["tinderbox/crc.fourBits"], apart := false, laid := [("tinderbox/crc.fourBits", laid_tinderbox_crc_fourBits)], narrowed := true }
def WriteCutsUptoSaid : Prop := writeCutsUptoRow.holds Tryd.pinned (OpenSpec.upto writeCutsSpec)

/-- 'tinderboxlaw13.WriteNone', WHERE WHAT IT READS IS OF BULK AT MOST 1048576: true; the input reads as it did. -/
def writeNoneUptoRow : OpenClaim := { program := "ytbcnocbdifbocaadoor", sum := "958d7ecb56c40d41197036d294cbf66222c1873157b76b9f42781b1bd1921818", func := "tinderbox/tinderboxlaw13.WriteNone", spec := "writeNone", inPlace := ["internal/abi.NoEscape", "internal/bytealg.MakeNoZero"], named := ["tinderbox/crc.fourBits"], apart := false, laid := [("tinderbox/crc.fourBits", laid_tinderbox_crc_fourBits)], narrowed := true }
def WriteNoneUptoSaid : Prop := writeNoneUptoRow.holds Tryd.pinned (OpenSpec.upto writeNoneSpec)

end Rows
end Go.Proofs.YtbcnocbdifbocaaDoor
