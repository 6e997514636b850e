/-
  NARROWER THAN 'FOR EVERY INPUT', by the rows' own cells (each row's printed sentence says how): CkptWrites: laid · CkptNewest: laid · CkptCut: laid.
  DERIVED. THE GIVEN ROWS OF THIS SEAT. 3 by the template 'for every input the law returns true; each argument reads behind the call as it read before'; 0 by the template 'total and deterministic' (their statements: YtbhggcleijjofaaDoorTotals.lean).
  GIVEN WITH THE SEED: the statements are not yours to turn. If you find one false, say at which input.
  Laid BY PROGRAM, IN A SANDBOX (cutbox-rows.mjs): the forced cells as the released guide's own fill.sh prints them over the translation 5c322797623befd4… (all of the seat's roots in one cut). By AI agents, Wed Nov 11 2026. No macro, syntax, notation, axiom, sorry.
-/
import Derived.Test.YtbhggcleijjofaaDoorChecked
import GoSem.Claim
import GoSem.ClaimJoined
import GoSem.ClaimMapViews
import Derived.JoinedTies
import Derived.KernelRfl
namespace Go.Proofs.YtbhggcleijjofaaDoor
/- THE CELL 'sum', in the pinned program and in every row, IS THE sha256 OF THE DUMP (.gsa) THAT YtbhggcleijjofaaDoorProg.lean LOADS. Nothing in Lean hashes anything: it is a label: what it is worth is what the hold of that sum in a sandbox is worth. -/
noncomputable def Tryd.pinned : Pinned := { name := "ytbhggcleijjofaadoor", sum := "5c322797623befd4567c9c6dc2c277223683d3f3bfbd164d32e731d5f9624400", checked := Tryd.checked }
namespace Rows
def none {H : Type} : Left H := { results := [], args := [] }

/- WHAT THE LISTED PACKAGE-LEVEL VARIABLES READ AS WHEN THE CALL BEGINS. Each datum BY PROGRAM (the guide's laid-datum.mjs) off the statement by which the dump's own 'gosem.cut.vars' lays the variable. In a bare row this is a premise. The card (YtbhggcleijjofaaDoorCards.lean) ties it to the program's text. -/
def laid_tinderbox_crc_fourBits {H : Type} : DataW H := .agg [.lit (.int .u32 0), .lit (.int .u32 274646895), .lit (.int .u32 549293790), .lit (.int .u32 820201905), .lit (.int .u32 1098587580), .lit (.int .u32 1361435347), .lit (.int .u32 1640403810), .lit (.int .u32 1905808397), .lit (.int .u32 2197175160), .lit (.int .u32 2460548119), .lit (.int .u32 2722870694), .lit (.int .u32 2987750089), .lit (.int .u32 3280807620), .lit (.int .u32 3553878443), .lit (.int .u32 3811616794), .lit (.int .u32 4084100981)]

/-- 'tinderboxlaw14.CkptWrites': WHATEVER THE INPUT: true; the input reads as it did. -/
def ckptWritesSpec : ChangeSpec := { name := "ckptWrites", fn := fun _ => fun
  | [d1, d2, d3] => { results := [.lit (.bool true)], args := [d1, d2, d3] }
  | _ => none }
def ckptWritesRow : OpenClaim := { program := "ytbhggcleijjofaadoor", sum := "5c322797623befd4567c9c6dc2c277223683d3f3bfbd164d32e731d5f9624400", func := "tinderbox/tinderboxlaw14.CkptWrites", spec := "ckptWrites", inPlace := ["internal/abi.NoEscape", "internal/bytealg.MakeNoZero"], unfollowed := true, recurses := true, named := ["tinderbox/crc.fourBits"], plainKeys := false, apart := false, laid := [("tinderbox/crc.fourBits", laid_tinderbox_crc_fourBits)] }
def CkptWritesSaid : Prop := ckptWritesRow.holds Tryd.pinned (OpenSpec.ofChange ckptWritesSpec)

/-- ITS FALSE NEIGHBOUR: 'it returns false'. Refute it at one input. -/
def ckptWritesWrong : ChangeSpec := { name := "ckptWrites", fn := fun _ => fun
  | [d1, d2, d3] => { results := [.lit (.bool false)], args := [d1, d2, d3] }
  | _ => none }
def CkptWritesWrongFalsely : Prop := ckptWritesRow.holds Tryd.pinned (OpenSpec.ofChange ckptWritesWrong)

/-- 'tinderboxlaw14.CkptNewest': WHATEVER THE INPUT: true; the input reads as it did. -/
def ckptNewestSpec : ChangeSpec := { name := "ckptNewest", fn := fun _ => fun
  | [d] => { results := [.lit (.bool true)], args := [d] }
  | _ => none }
def ckptNewestRow : OpenClaim := { program := "ytbhggcleijjofaadoor", sum := "5c322797623befd4567c9c6dc2c277223683d3f3bfbd164d32e731d5f9624400", func := "tinderbox/tinderboxlaw14.CkptNewest", spec := "ckptNewest", inPlace := ["internal/abi.NoEscape", "internal/bytealg.MakeNoZero"], unfollowed := true, recurses := true, named := ["tinderbox/crc.fourBits"], plainKeys := false, apart := false, laid := [("tinderbox/crc.fourBits", laid_tinderbox_crc_fourBits)] }
def CkptNewestSaid : Prop := ckptNewestRow.holds Tryd.pinned (OpenSpec.ofChange ckptNewestSpec)

/-- ITS FALSE NEIGHBOUR: 'it returns false'. Refute it at one input. -/
def ckptNewestWrong : ChangeSpec := { name := "ckptNewest", fn := fun _ => fun
  | [d] => { results := [.lit (.bool false)], args := [d] }
  | _ => none }
def CkptNewestWrongFalsely : Prop := ckptNewestRow.holds Tryd.pinned (OpenSpec.ofChange ckptNewestWrong)

/-- 'tinderboxlaw14.CkptCut': WHATEVER THE INPUT: true; the input reads as it did. -/
def ckptCutSpec : ChangeSpec := { name := "ckptCut", fn := fun _ => fun
  | [d1, d2, d3] => { results := [.lit (.bool true)], args := [d1, d2, d3] }
  | _ => none }
def ckptCutRow : OpenClaim := { program := "ytbhggcleijjofaadoor", sum := "5c322797623befd4567c9c6dc2c277223683d3f3bfbd164d32e731d5f9624400", func := "tinderbox/tinderboxlaw14.CkptCut", spec := "ckptCut", inPlace := ["internal/abi.NoEscape", "internal/bytealg.MakeNoZero"], unfollowed := true, recurses := true, named := ["tinderbox/crc.fourBits"], plainKeys := false, apart := false, laid := [("tinderbox/crc.fourBits", laid_tinderbox_crc_fourBits)] }
def CkptCutSaid : Prop := ckptCutRow.holds Tryd.pinned (OpenSpec.ofChange ckptCutSpec)

/-- ITS FALSE NEIGHBOUR: 'it returns false'. Refute it at one input. -/
def ckptCutWrong : ChangeSpec := { name := "ckptCut", fn := fun _ => fun
  | [d1, d2, d3] => { results := [.lit (.bool false)], args := [d1, d2, d3] }
  | _ => none }
def CkptCutWrongFalsely : Prop := ckptCutRow.holds Tryd.pinned (OpenSpec.ofChange ckptCutWrong)

/- THE SECOND FORM. 'bulk': how many values and letters a reading holds, each counted each time it is reached (what is shared counts as often as it is met; a slice's spare places count too). A statement '..UptoSaid' is the law's where the arguments, and the package variables that the reading takes, are together of bulk at most 1048576: NARROWER than '..Said'. Prove '..Said' where nothing that the law and all that it calls make is longer than what came in: it says more and counts as full. Else prove '..UptoSaid'. A law counts once. -/
mutual
def uptoBulk {H : Type} : DataW H → Nat
  | .lit (.string bytes) => bytes.length + 1
  | .lit _ => 1
  | .nil => 1
  | .ptr d => uptoBulk d + 1
  | .slice elems spare => uptoBulkAll elems + uptoBulkAll spare + 1
  | .agg parts => uptoBulkAll parts + 1
  | .iface _ d => uptoBulk d + 1
  | .map entries => uptoBulkEntries entries + 1
  | .held _ => 1
def uptoBulkAll {H : Type} : List (DataW H) → Nat
  | [] => 0
  | d :: r => uptoBulk d + uptoBulkAll r
def uptoBulkEntries {H : Type} : List (Lit × DataW H) → Nat
  | [] => 0
  | x :: r => uptoBulkEntry x + uptoBulkEntries r
def uptoBulkEntry {H : Type} : Lit × DataW H → Nat
  | (.string bytes, d) => bytes.length + uptoBulk d + 1
  | (_, d) => uptoBulk d + 1
 end
def uptoSmall : (H : Type) → List (DataW H) → Bool := fun _ ds => decide (uptoBulkAll ds ≤ 1048576)
def OpenSpec.upto (s : _root_.Go.ChangeSpec) : _root_.Go.OpenSpec := { _root_.Go.OpenSpec.ofChange s with cond := some uptoSmall }

/-- 'tinderboxlaw14.CkptWrites', WHERE WHAT IT READS IS OF BULK AT MOST 1048576: true; the input reads as it did. -/
def ckptWritesUptoRow : OpenClaim := { program := "ytbhggcleijjofaadoor", sum := "5c322797623befd4567c9c6dc2c277223683d3f3bfbd164d32e731d5f9624400", func := "tinderbox/tinderboxlaw14.CkptWrites", spec := "ckptWrites", inPlace := ["internal/abi.NoEscape", "internal/bytealg.MakeNoZero"], unfollowed := true, recurses := true, named := ["tinderbox/crc.fourBits"], plainKeys := false, apart := false, laid := [("tinderbox/crc.fourBits", laid_tinderbox_crc_fourBits)], narrowed := true }
def CkptWritesUptoSaid : Prop := ckptWritesUptoRow.holds Tryd.pinned (OpenSpec.upto ckptWritesSpec)

/-- 'tinderboxlaw14.CkptNewest', WHERE WHAT IT READS IS OF BULK AT MOST 1048576: true; the input reads as it did. -/
def ckptNewestUptoRow : OpenClaim := { program := "ytbhggcleijjofaadoor", sum := "5c322797623befd4567c9c6dc2c277223683d3f3bfbd164d32e731d5f9624400", func := "tinderbox/tinderboxlaw14.CkptNewest", spec := "ckptNewest", inPlace := ["internal/abi.NoEscape", "internal/bytealg.MakeNoZero"], unfollowed := true, recurses := true, named := ["tinderbox/crc.fourBits"], plainKeys := false, apart := false, laid := [("tinderbox/crc.fourBits", laid_tinderbox_crc_fourBits)], narrowed := true }
def CkptNewestUptoSaid : Prop := ckptNewestUptoRow.holds Tryd.pinned (OpenSpec.upto ckptNewestSpec)

/-- 'tinderboxlaw14.CkptCut', WHERE WHAT IT READS IS OF BULK AT MOST 1048576: true; the input reads as it did. -/
def ckptCutUptoRow : OpenClaim := { program := "ytbhggcleijjofaadoor", sum := "5c322797623befd4567c9c6dc2c277223683d3f3bfbd164d32e731d5f9624400", func := "tinderbox/tinderboxlaw14.CkptCut", spec := "ckptCut", inPlace := ["internal/abi.NoEscape", "internal/bytealg.MakeNoZero"], unfollowed := true, recurses := true, named := ["tinderbox/crc.fourBits"], plainKeys := false, apart := false, laid := [("tinderbox/crc.fourBits", laid_tinderbox_crc_fourBits)], narrowed := true }
def CkptCutUptoSaid : Prop := ckptCutUptoRow.holds Tryd.pinned (OpenSpec.upto ckptCutSpec)

end Rows
end Go.Proofs.YtbhggcleijjofaaDoor
