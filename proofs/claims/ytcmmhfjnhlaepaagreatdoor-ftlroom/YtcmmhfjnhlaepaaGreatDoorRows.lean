/-
  NARROWER THAN 'FOR EVERY INPUT', by the rows' own cells (each row's printed sentence says how): FtlRoom: laid · FtlNever: laid · FtlWears: laid.
  DERIVED. THE GIVEN ROWS OF THIS SEAT. 3 by the template 'for every input the law returns true; each argument reads behind the call as it read before'; 0 by the template 'total and deterministic' (their statements: YtcmmhfjnhlaepaaGreatDoorTotals.lean).
  GIVEN WITH THE SEED: the statements are not yours to turn. If you find one false, say at which input.
  Laid BY PROGRAM, IN A SANDBOX (cutbox-rows.mjs): the forced cells as the released guide's own fill.sh prints them over the translation dacafc70d4f5e701… (all of the seat's roots in one cut). By AI agents, Wed Nov 11 2026. No macro, syntax, notation, axiom, sorry.
-/
import Derived.Test.YtcmmhfjnhlaepaaGreatDoorChecked
import GoSem.Claim
import GoSem.ClaimJoined
import GoSem.ClaimMapViews
import Derived.JoinedTies
import Derived.KernelRfl
namespace Go.Proofs.YtcmmhfjnhlaepaaGreatDoor
/- THE CELL 'sum', in the pinned program and in every row, IS THE sha256 OF THE DUMP (.gsa) THAT YtcmmhfjnhlaepaaGreatDoorProg.lean LOADS. Nothing in Lean hashes anything: it is a label: what it is worth is what the hold of that sum in a sandbox is worth. -/
noncomputable def Tryz.pinned : Pinned := { name := "ytcmmhfjnhlaepaagreatdoor", sum := "dacafc70d4f5e701d23f39ae2ba4d707cfe0548a683077f1934b3e2a21dcbe9f", checked := Tryz.checked }
namespace Rows
def none {H : Type} : Left H := { results := [], args := [] }

/- WHAT THE LISTED PACKAGE-LEVEL VARIABLES READ AS WHEN THE CALL BEGINS. Each datum BY PROGRAM (the guide's laid-datum.mjs) off the statement by which the dump's own 'gosem.cut.vars' lays the variable. In a bare row this is a premise. The card (YtcmmhfjnhlaepaaGreatDoorCards.lean) ties it to the program's text. -/
def laid_tinderbox_crc_fourBits {H : Type} : DataW H := .agg [.lit (.int .u32 0), .lit (.int .u32 274646895), .lit (.int .u32 549293790), .lit (.int .u32 820201905), .lit (.int .u32 1098587580), .lit (.int .u32 1361435347), .lit (.int .u32 1640403810), .lit (.int .u32 1905808397), .lit (.int .u32 2197175160), .lit (.int .u32 2460548119), .lit (.int .u32 2722870694), .lit (.int .u32 2987750089), .lit (.int .u32 3280807620), .lit (.int .u32 3553878443), .lit (.int .u32 3811616794), .lit (.int .u32 4084100981)]

/-- 'tinderboxlaw16.FtlRoom': WHATEVER THE INPUT: true; the input reads as it did. -/
def ftlRoomSpec : ChangeSpec := { name := "ftlRoom", fn := fun _ => fun
  | [d] => { results := [.lit (.bool true)], args := [d] }
  | _ => none }
def ftlRoomRow : OpenClaim := { program := "ytcmmhfjnhlaepaagreatdoor", sum := "dacafc70d4f5e701d23f39ae2ba4d707cfe0548a683077f1934b3e2a21dcbe9f", func := "tinderbox/tinderboxlaw16.FtlRoom", spec := "ftlRoom", inPlace := ["internal/abi.NoEscape", "internal/bytealg.MakeNoZero", "maps.clone", "math.Float64frombits", "math.Float64bits"], unfollowed := true, recurses := true, named := ["tinderbox/crc.fourBits"], plainKeys := false, apart := false, laid := [("tinderbox/crc.fourBits", laid_tinderbox_crc_fourBits)] }
def FtlRoomSaid : Prop := ftlRoomRow.holds Tryz.pinned (OpenSpec.ofChange ftlRoomSpec)

/-- ITS FALSE NEIGHBOUR: 'it returns false'. Refute it at one input. -/
def ftlRoomWrong : ChangeSpec := { name := "ftlRoom", fn := fun _ => fun
  | [d] => { results := [.lit (.bool false)], args := [d] }
  | _ => none }
def FtlRoomWrongFalsely : Prop := ftlRoomRow.holds Tryz.pinned (OpenSpec.ofChange ftlRoomWrong)

/-- 'tinderboxlaw16.FtlNever': WHATEVER THE INPUT: true; the input reads as it did. -/
def ftlNeverSpec : ChangeSpec := { name := "ftlNever", fn := fun _ => fun
  | [d1, d2] => { results := [.lit (.bool true)], args := [d1, d2] }
  | _ => none }
def ftlNeverRow : OpenClaim := { program := "ytcmmhfjnhlaepaagreatdoor", sum := "dacafc70d4f5e701d23f39ae2ba4d707cfe0548a683077f1934b3e2a21dcbe9f", func := "tinderbox/tinderboxlaw16.FtlNever", spec := "ftlNever", inPlace := ["internal/abi.NoEscape", "internal/bytealg.MakeNoZero", "maps.clone", "math.Float64frombits", "math.Float64bits"], unfollowed := true, recurses := true, named := ["tinderbox/crc.fourBits"], plainKeys := false, apart := false, laid := [("tinderbox/crc.fourBits", laid_tinderbox_crc_fourBits)] }
def FtlNeverSaid : Prop := ftlNeverRow.holds Tryz.pinned (OpenSpec.ofChange ftlNeverSpec)

/-- ITS FALSE NEIGHBOUR: 'it returns false'. Refute it at one input. -/
def ftlNeverWrong : ChangeSpec := { name := "ftlNever", fn := fun _ => fun
  | [d1, d2] => { results := [.lit (.bool false)], args := [d1, d2] }
  | _ => none }
def FtlNeverWrongFalsely : Prop := ftlNeverRow.holds Tryz.pinned (OpenSpec.ofChange ftlNeverWrong)

/-- 'tinderboxlaw16.FtlWears': WHATEVER THE INPUT: true; the input reads as it did. -/
def ftlWearsSpec : ChangeSpec := { name := "ftlWears", fn := fun _ => fun
  | [d1, d2, d3] => { results := [.lit (.bool true)], args := [d1, d2, d3] }
  | _ => none }
def ftlWearsRow : OpenClaim := { program := "ytcmmhfjnhlaepaagreatdoor", sum := "dacafc70d4f5e701d23f39ae2ba4d707cfe0548a683077f1934b3e2a21dcbe9f", func := "tinderbox/tinderboxlaw16.FtlWears", spec := "ftlWears", inPlace := ["internal/abi.NoEscape", "internal/bytealg.MakeNoZero", "maps.clone", "math.Float64frombits", "math.Float64bits"], unfollowed := true, recurses := true, named := ["tinderbox/crc.fourBits"], plainKeys := false, apart := false, laid := [("tinderbox/crc.fourBits", laid_tinderbox_crc_fourBits)] }
def FtlWearsSaid : Prop := ftlWearsRow.holds Tryz.pinned (OpenSpec.ofChange ftlWearsSpec)

/-- ITS FALSE NEIGHBOUR: 'it returns false'. Refute it at one input. -/
def ftlWearsWrong : ChangeSpec := { name := "ftlWears", fn := fun _ => fun
  | [d1, d2, d3] => { results := [.lit (.bool false)], args := [d1, d2, d3] }
  | _ => none }
def FtlWearsWrongFalsely : Prop := ftlWearsRow.holds Tryz.pinned (OpenSpec.ofChange ftlWearsWrong)

/- THE SECOND FORM. 'bulk': how many values and letters a reading holds, each counted each time it is reached (what is shared counts as often as it is met; a slice's spare places count too). A statement '..UptoSaid' is the law's where the arguments, and the package variables that the reading takes, are together of bulk at most 1048576: NARROWER than '..Said'. Prove '..Said' where nothing that the law and all that it calls make is longer than what came in: it says more and counts as full. Else prove '..UptoSaid'. A law counts once. -/
mutual
def uptoBulk {H : Type} : DataW H → Nat
  | .lit (.string bytes) => bytes.length + 1
  | .lit _ => 1
  | .nil => 1
  | .ptr d => uptoBulk d + 1
  | .slice elems spare => uptoBulkAll elems + uptoBulkAll spare + 1
  | .agg parts => uptoBulkAll parts + 1
  | .iface _ d => uptoBulk d + 1
  | .map entries => uptoBulkEntries entries + 1
  | .held _ => 1
def uptoBulkAll {H : Type} : List (DataW H) → Nat
  | [] => 0
  | d :: r => uptoBulk d + uptoBulkAll r
def uptoBulkEntries {H : Type} : List (Lit × DataW H) → Nat
  | [] => 0
  | x :: r => uptoBulkEntry x + uptoBulkEntries r
def uptoBulkEntry {H : Type} : Lit × DataW H → Nat
  | (.string bytes, d) => bytes.length + uptoBulk d + 1
  | (_, d) => uptoBulk d + 1
 end
def uptoSmall : (H : Type) → List (DataW H) → Bool := fun _ ds => decide (uptoBulkAll ds ≤ 1048576)
def OpenSpec.upto (s : _root_.Go.ChangeSpec) : _root_.Go.OpenSpec := { _root_.Go.OpenSpec.ofChange s with cond := some uptoSmall }

/-- 'tinderboxlaw16.FtlRoom', WHERE WHAT IT READS IS OF BULK AT MOST 1048576: true; the input reads as it did. -/
def ftlRoomUptoRow : OpenClaim := { program := "ytcmmhfjnhlaepaagreatdoor", sum := "dacafc70d4f5e701d23f39ae2ba4d707cfe0548a683077f1934b3e2a21dcbe9f", func := "tinderbox/tinderboxlaw16.FtlRoom", spec := "ftlRoom", inPlace := ["internal/abi.NoEscape", "internal/bytealg.MakeNoZero", "maps.clone", "math.Float64frombits", "math.Float64bits"], unfollowed := true, recurses := true, named := ["tinderbox/crc.fourBits"], plainKeys := false, apart := false, laid := [("tinderbox/crc.fourBits", laid_tinderbox_crc_fourBits)], narrowed := true }
def FtlRoomUptoSaid : Prop := ftlRoomUptoRow.holds Tryz.pinned (OpenSpec.upto ftlRoomSpec)

/-- 'tinderboxlaw16.FtlNever', WHERE WHAT IT READS IS OF BULK AT MOST 1048576: true; the input reads as it did. -/
def ftlNeverUptoRow : OpenClaim := { program := "ytcmmhfjnhlaepaagreatdoor", sum := "dacafc70d4f5e701d23f39ae2ba4d707cfe0548a683077f1934b3e2a21dcbe9f", func := "tinderbox/tinderboxlaw16.FtlNever", spec := "ftlNever", inPlace := ["internal/abi.NoEscape", "internal/bytealg.MakeNoZero", "maps.clone", "math.Float64frombits", "math.Float64bits"], unfollowed := true, recurses := true, named := ["tinderbox/crc.fourBits"], plainKeys := false, apart := false, laid := [("tinderbox/crc.fourBits", laid_tinderbox_crc_fourBits)], narrowed := true }
def FtlNeverUptoSaid : Prop := ftlNeverUptoRow.holds Tryz.pinned (OpenSpec.upto ftlNeverSpec)

/-- 'tinderboxlaw16.FtlWears', WHERE WHAT IT READS IS OF BULK AT MOST 1048576: true; the input reads as it did. -/
def ftlWearsUptoRow : OpenClaim := { program := "ytcmmhfjnhlaepaagreatdoor", sum := "dacafc70d4f5e701d23f39ae2ba4d707cfe0548a683077f1934b3e2a21dcbe9f", func := "tinderbox/tinderboxlaw16.FtlWears", spec := "ftlWears", inPlace := ["internal/abi.NoEscape", "internal/bytealg.MakeNoZero", "maps.clone", "math.Float64frombits", "math.Float64bits"], unfollowed := true, recurses := true, named := ["tinderbox/crc.fourBits"], plainKeys := false, apart := false, laid := [("tinderbox/crc.fourBits", laid_tinderbox_crc_fourBits)], narrowed := true }
def FtlWearsUptoSaid : Prop := ftlWearsUptoRow.holds Tryz.pinned (OpenSpec.upto ftlWearsSpec)

end Rows
end Go.Proofs.YtcmmhfjnhlaepaaGreatDoor
