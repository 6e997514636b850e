/-
  NARROWER THAN 'FOR EVERY INPUT', by the rows' own cells (each row's printed sentence says how): PageFrames: laid · PageLooks: laid · PageTorn: laid · PageBeginning: laid.
  DERIVED. THE GIVEN ROWS OF THIS SEAT. 4 by the template 'for every input the law returns true; each argument reads behind the call as it read before'; 0 by the template 'total and deterministic' (their statements: YtaagnlgaadgpdaaDoorTotals.lean).
  GIVEN WITH THE SEED: the statements are not yours to turn. If you find one false, say at which input.
  Laid BY PROGRAM, IN A SANDBOX (cutbox-rows.mjs): the forced cells as the released guide's own fill.sh prints them over the translation ccd31d080754b6e4… (all of the seat's roots in one cut). By AI agents, Wed Nov 11 2026. No macro, syntax, notation, axiom, sorry.
-/
import Derived.Test.YtaagnlgaadgpdaaDoorChecked
import GoSem.Claim
import GoSem.ClaimJoined
import GoSem.ClaimMapViews
import Derived.JoinedTies
import Derived.KernelRfl
namespace Go.Proofs.YtaagnlgaadgpdaaDoor
/- THE CELL 'sum', in the pinned program and in every row, IS THE sha256 OF THE DUMP (.gsa) THAT YtaagnlgaadgpdaaDoorProg.lean LOADS. Nothing in Lean hashes anything: it is a label: what it is worth is what the hold of that sum in a sandbox is worth. -/
noncomputable def Tryd.pinned : Pinned := { name := "ytaagnlgaadgpdaadoor", sum := "ccd31d080754b6e46c0ba60000982e570ea2f13a5878b65b858fb0f505717d43", checked := Tryd.checked }
namespace Rows
def none {H : Type} : Left H := { results := [], args := [] }

/- WHAT THE LISTED PACKAGE-LEVEL VARIABLES READ AS WHEN THE CALL BEGINS. Each datum BY PROGRAM (the guide's laid-datum.mjs) off the statement by which the dump's own 'gosem.cut.vars' lays the variable. In a bare row this is a premise. The card (YtaagnlgaadgpdaaDoorCards.lean) ties it to the program's text. -/
def laid_tinderbox_crc_fourBits {H : Type} : DataW H := .agg [.lit (.int .u32 0), .lit (.int .u32 274646895), .lit (.int .u32 549293790), .lit (.int .u32 820201905), .lit (.int .u32 1098587580), .lit (.int .u32 1361435347), .lit (.int .u32 1640403810), .lit (.int .u32 1905808397), .lit (.int .u32 2197175160), .lit (.int .u32 2460548119), .lit (.int .u32 2722870694), .lit (.int .u32 2987750089), .lit (.int .u32 3280807620), .lit (.int .u32 3553878443), .lit (.int .u32 3811616794), .lit (.int .u32 4084100981)]

/-- 'tinderboxlaw06.PageFrames': WHATEVER THE INPUT: true; the input reads as it did. -/
def pageFramesSpec : ChangeSpec := { name := "pageFrames", fn := fun _ => fun
  | [d1, d2, d3] => { results := [.lit (.bool true)], args := [d1, d2, d3] }
  | _ => none }
def pageFramesRow : OpenClaim := { program := "ytaagnlgaadgpdaadoor", sum := "ccd31d080754b6e46c0ba60000982e570ea2f13a5878b65b858fb0f505717d43", func := "tinderbox/tinderboxlaw06.PageFrames", spec := "pageFrames", inPlace := ["internal/abi.NoEscape", "internal/bytealg.MakeNoZero"], named := ["tinderbox/crc.fourBits"], apart := false, laid := [("tinderbox/crc.fourBits", laid_tinderbox_crc_fourBits)] }
def PageFramesSaid : Prop := pageFramesRow.holds Tryd.pinned (OpenSpec.ofChange pageFramesSpec)

/-- ITS FALSE NEIGHBOUR: 'it returns false'. Refute it at one input. -/
def pageFramesWrong : ChangeSpec := { name := "pageFrames", fn := fun _ => fun
  | [d1, d2, d3] => { results := [.lit (.bool false)], args := [d1, d2, d3] }
  | _ => none }
def PageFramesWrongFalsely : Prop := pageFramesRow.holds Tryd.pinned (OpenSpec.ofChange pageFramesWrong)

/-- 'tinderboxlaw06.PageLooks': WHATEVER THE INPUT: true; the input reads as it did. -/
def pageLooksSpec : ChangeSpec := { name := "pageLooks", fn := fun _ => fun
  | [d1, d2] => { results := [.lit (.bool true)], args := [d1, d2] }
  | _ => none }
def pageLooksRow : OpenClaim := { program := "ytaagnlgaadgpdaadoor", sum := "ccd31d080754b6e46c0ba60000982e570ea2f13a5878b65b858fb0f505717d43", func := "tinderbox/tinderboxlaw06.PageLooks", spec := "pageLooks", inPlace := ["internal/abi.NoEscape", "internal/bytealg.MakeNoZero"], named := ["tinderbox/crc.fourBits"], apart := false, laid := [("tinderbox/crc.fourBits", laid_tinderbox_crc_fourBits)] }
def PageLooksSaid : Prop := pageLooksRow.holds Tryd.pinned (OpenSpec.ofChange pageLooksSpec)

/-- ITS FALSE NEIGHBOUR: 'it returns false'. Refute it at one input. -/
def pageLooksWrong : ChangeSpec := { name := "pageLooks", fn := fun _ => fun
  | [d1, d2] => { results := [.lit (.bool false)], args := [d1, d2] }
  | _ => none }
def PageLooksWrongFalsely : Prop := pageLooksRow.holds Tryd.pinned (OpenSpec.ofChange pageLooksWrong)

/-- 'tinderboxlaw06.PageTorn': WHATEVER THE INPUT: true; the input reads as it did. -/
def pageTornSpec : ChangeSpec := { name := "pageTorn", fn := fun _ => fun
  | [d1, d2, d3] => { results := [.lit (.bool true)], args := [d1, d2, d3] }
  | _ => none }
def pageTornRow : OpenClaim := { program := "ytaagnlgaadgpdaadoor", sum := "ccd31d080754b6e46c0ba60000982e570ea2f13a5878b65b858fb0f505717d43", func := "tinderbox/tinderboxlaw06.PageTorn", spec := "pageTorn", inPlace := ["internal/abi.NoEscape", "internal/bytealg.MakeNoZero"], named := ["tinderbox/crc.fourBits"], apart := false, laid := [("tinderbox/crc.fourBits", laid_tinderbox_crc_fourBits)] }
def PageTornSaid : Prop := pageTornRow.holds Tryd.pinned (OpenSpec.ofChange pageTornSpec)

/-- ITS FALSE NEIGHBOUR: 'it returns false'. Refute it at one input. -/
def pageTornWrong : ChangeSpec := { name := "pageTorn", fn := fun _ => fun
  | [d1, d2, d3] => { results := [.lit (.bool false)], args := [d1, d2, d3] }
  | _ => none }
def PageTornWrongFalsely : Prop := pageTornRow.holds Tryd.pinned (OpenSpec.ofChange pageTornWrong)

/-- 'tinderboxlaw06.PageBeginning': WHATEVER THE INPUT: true; the input reads as it did. -/
def pageBeginningSpec : ChangeSpec := { name := "pageBeginning", fn := fun _ => fun
  | [d1, d2, d3] => { results := [.lit (.bool true)], args := [d1, d2, d3] }
  | _ => none }
def pageBeginningRow : OpenClaim := { program := "ytaagnlgaadgpdaadoor", sum := "ccd31d080754b6e46c0ba60000982e570ea2f13a5878b65b858fb0f505717d43", func := "tinderbox/tinderboxlaw06.PageBeginning", spec := "pageBeginning", inPlace := ["internal/abi.NoEscape", "internal/bytealg.MakeNoZero"], named := ["tinderbox/crc.fourBits"], apart := false, laid := [("tinderbox/crc.fourBits", laid_tinderbox_crc_fourBits)] }
def PageBeginningSaid : Prop := pageBeginningRow.holds Tryd.pinned (OpenSpec.ofChange pageBeginningSpec)

/-- ITS FALSE NEIGHBOUR: 'it returns false'. Refute it at one input. -/
def pageBeginningWrong : ChangeSpec := { name := "pageBeginning", fn := fun _ => fun
  | [d1, d2, d3] => { results := [.lit (.bool false)], args := [d1, d2, d3] }
  | _ => none }
def PageBeginningWrongFalsely : Prop := pageBeginningRow.holds Tryd.pinned (OpenSpec.ofChange pageBeginningWrong)

/- THE SECOND FORM. 'bulk': how many values and letters a reading holds, each counted each time it is reached (what is shared counts as often as it is met; a slice's spare places count too). A statement '..UptoSaid' is the law's where the arguments, and the package variables that the reading takes, are together of bulk at most 1048576: NARROWER than '..Said'. Prove '..Said' where nothing that the law and all that it calls make is longer than what came in: it says more and counts as full. Else prove '..UptoSaid'. A law counts once. -/
mutual
def uptoBulk {H : Type} : DataW H → Nat
  | .lit (.string bytes) => bytes.length + 1
  | .lit _ => 1
  | .nil => 1
  | .ptr d => uptoBulk d + 1
  | .slice elems spare => uptoBulkAll elems + uptoBulkAll spare + 1
  | .agg parts => uptoBulkAll parts + 1
  | .iface _ d => uptoBulk d + 1
  | .map entries => uptoBulkEntries entries + 1
  | .held _ => 1
def uptoBulkAll {H : Type} : List (DataW H) → Nat
  | [] => 0
  | d :: r => uptoBulk d + uptoBulkAll r
def uptoBulkEntries {H : Type} : List (Lit × DataW H) → Nat
  | [] => 0
  | x :: r => uptoBulkEntry x + uptoBulkEntries r
def uptoBulkEntry {H : Type} : Lit × DataW H → Nat
  | (.string bytes, d) => bytes.length + uptoBulk d + 1
  | (_, d) => uptoBulk d + 1
 end
def uptoSmall : (H : Type) → List (DataW H) → Bool := fun _ ds => decide (uptoBulkAll ds ≤ 1048576)
def OpenSpec.upto (s : _root_.Go.ChangeSpec) : _root_.Go.OpenSpec := { _root_.Go.OpenSpec.ofChange s with cond := some uptoSmall }

/-- 'tinderboxlaw06.PageFrames', WHERE WHAT IT READS IS OF BULK AT MOST 1048576: true; the input reads as it did. -/
def pageFramesUptoRow : OpenClaim := { program := "ytaagnlgaadgpdaadoor", sum := "ccd31d080754b6e46c0ba60000982e570ea2f13a5878b65b858fb0f505717d43", func := "tinderbox/tinderboxlaw06.PageFrames", spec := "pageFrames", inPlace := ["internal/abi.NoEscape", "internal/bytealg.MakeNoZero"], named := ["tinderbox/crc.fourBits"], apart := false, laid := [("tinderbox/crc.fourBits", laid_tinderbox_crc_fourBits)], narrowed := true }
def PageFramesUptoSaid : Prop := pageFramesUptoRow.holds Tryd.pinned (OpenSpec.upto pageFramesSpec)

/-- 'tinderboxlaw06.PageLooks', WHERE WHAT IT READS IS OF BULK AT MOST 1048576: true; the input reads as it did. -/
def pageLooksUptoRow : OpenClaim := { program := "ytaagnlgaadgpdaadoor", sum := "ccd31d080754b6e46c0ba60000982e570ea2f13a5878b65b858fb0f505717d43", func := "tinderbox/tinderboxlaw06.PageLooks", spec := "pageLooks", inPlace := ["internal/abi.NoEscape", "internal/bytealg.MakeNoZero"], named := ["tinderbox/crc.fourBits"], apart := false, laid := [("tinderbox/crc.fourBits", laid_tinderbox_crc_fourBits)], narrowed := true }
def PageLooksUptoSaid : Prop := pageLooksUptoRow.holds Tryd.pinned (OpenSpec.upto pageLooksSpec)

/-- 'tinderboxlaw06.PageTorn', WHERE WHAT IT READS IS OF BULK AT MOST 1048576: true; the input reads as it did. -/
def pageTornUptoRow : OpenClaim := { program := "ytaagnlgaadgpdaadoor", sum := "ccd31d080754b6e46c0ba60000982e570ea2f13a5878b65b858fb0f505717d43", func := "tinderbox/tinderboxlaw06.PageTorn", spec := "pageTorn", inPlace := ["internal/abi.NoEscape", "internal/bytealg.MakeNoZero"], named := ["tinderbox/crc.fourBits"], apart := false, laid := [("tinderbox/crc.fourBits", laid_tinderbox_crc_fourBits)], narrowed := true }
def PageTornUptoSaid : Prop := pageTornUptoRow.holds Tryd.pinned (OpenSpec.upto pageTornSpec)

/-- 'tinderboxlaw06.PageBeginning', WHERE WHAT IT READS IS OF BULK AT MOST 1048576: true; the input reads as it did. -/
def pageBeginningUptoRow : OpenClaim := { program := "ytaagnlgaadgpdaadoor", sum := "ccd31d080754b6e46c0ba60000982e570ea2f13a5878b65b858fb0f505717d43", func := "tinderbox/tinderboxlaw06.PageBeginning", spec := "pageBeginning", inPlace := ["internal/abi.NoEscape", "internal/bytealg.MakeNoZero"], named := ["tinderbox/crc.fourBits"], apart := false, laid := [("tinderbox/crc.fourBits", laid_tinderbox_crc_fourBits)], narrowed := true }
def PageBeginningUptoSaid : Prop := pageBeginningUptoRow.holds Tryd.pinned (OpenSpec.upto pageBeginningSpec)

end Rows
end Go.Proofs.YtaagnlgaadgpdaaDoor
