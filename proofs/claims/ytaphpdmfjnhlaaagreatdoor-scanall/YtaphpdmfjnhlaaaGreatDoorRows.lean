/-
  NARROWER THAN 'FOR EVERY INPUT', by the rows' own cells (each row's printed sentence says how): ScanFinds: laid · ScanCuts: laid · ScanAll: laid · ScanBlank: laid.
  DERIVED. THE GIVEN ROWS OF THIS SEAT. 4 by the template 'for every input the law returns true; each argument reads behind the call as it read before'; 0 by the template 'total and deterministic' (their statements: YtaphpdmfjnhlaaaGreatDoorTotals.lean).
  GIVEN WITH THE SEED: the statements are not yours to turn. If you find one false, say at which input.
  Laid BY PROGRAM, IN A SANDBOX (cutbox-rows.mjs): the forced cells as the released guide's own fill.sh prints them over the translation 4c09c050b7c67a08… (all of the seat's roots in one cut). By AI agents, Wed Nov 11 2026. No macro, syntax, notation, axiom, sorry.
-/
import Derived.Test.YtaphpdmfjnhlaaaGreatDoorChecked
import GoSem.Claim
import GoSem.ClaimJoined
import GoSem.ClaimMapViews
import Derived.JoinedTies
import Derived.KernelRfl
namespace Go.Proofs.YtaphpdmfjnhlaaaGreatDoor
/- THE CELL 'sum', in the pinned program and in every row, IS THE sha256 OF THE DUMP (.gsa) THAT YtaphpdmfjnhlaaaGreatDoorProg.lean LOADS. Nothing in Lean hashes anything: it is a label: what it is worth is what the hold of that sum in a sandbox is worth. -/
noncomputable def Tryz.pinned : Pinned := { name := "ytaphpdmfjnhlaaagreatdoor", sum := "4c09c050b7c67a08e035597adf10a5b70dc958cee02875b2f6e517e36f87729e", checked := Tryz.checked }
namespace Rows
def none {H : Type} : Left H := { results := [], args := [] }

/- WHAT THE LISTED PACKAGE-LEVEL VARIABLES READ AS WHEN THE CALL BEGINS. Each datum BY PROGRAM (the guide's laid-datum.mjs) off the statement by which the dump's own 'gosem.cut.vars' lays the variable. In a bare row this is a premise. The card (YtaphpdmfjnhlaaaGreatDoorCards.lean) ties it to the program's text. -/
def laid_tinderbox_crc_fourBits {H : Type} : DataW H := .agg [.lit (.int .u32 0), .lit (.int .u32 274646895), .lit (.int .u32 549293790), .lit (.int .u32 820201905), .lit (.int .u32 1098587580), .lit (.int .u32 1361435347), .lit (.int .u32 1640403810), .lit (.int .u32 1905808397), .lit (.int .u32 2197175160), .lit (.int .u32 2460548119), .lit (.int .u32 2722870694), .lit (.int .u32 2987750089), .lit (.int .u32 3280807620), .lit (.int .u32 3553878443), .lit (.int .u32 3811616794), .lit (.int .u32 4084100981)]

/-- 'tinderboxlaw15.ScanFinds': WHATEVER THE INPUT: true; the input reads as it did. -/
def scanFindsSpec : ChangeSpec := { name := "scanFinds", fn := fun _ => fun
  | [d] => { results := [.lit (.bool true)], args := [d] }
  | _ => none }
def scanFindsRow : OpenClaim := { program := "ytaphpdmfjnhlaaagreatdoor", sum := "4c09c050b7c67a08e035597adf10a5b70dc958cee02875b2f6e517e36f87729e", func := "tinderbox/tinderboxlaw15.ScanFinds", spec := "scanFinds", inPlace := ["internal/abi.NoEscape", "internal/bytealg.MakeNoZero", "maps.clone"], unfollowed := true, recurses := true, named := ["tinderbox/crc.fourBits"], plainKeys := false, apart := false, laid := [("tinderbox/crc.fourBits", laid_tinderbox_crc_fourBits)] }
def ScanFindsSaid : Prop := scanFindsRow.holds Tryz.pinned (OpenSpec.ofChange scanFindsSpec)

/-- ITS FALSE NEIGHBOUR: 'it returns false'. Refute it at one input. -/
def scanFindsWrong : ChangeSpec := { name := "scanFinds", fn := fun _ => fun
  | [d] => { results := [.lit (.bool false)], args := [d] }
  | _ => none }
def ScanFindsWrongFalsely : Prop := scanFindsRow.holds Tryz.pinned (OpenSpec.ofChange scanFindsWrong)

/-- 'tinderboxlaw15.ScanCuts': WHATEVER THE INPUT: true; the input reads as it did. -/
def scanCutsSpec : ChangeSpec := { name := "scanCuts", fn := fun _ => fun
  | [d1, d2, d3] => { results := [.lit (.bool true)], args := [d1, d2, d3] }
  | _ => none }
def scanCutsRow : OpenClaim := { program := "ytaphpdmfjnhlaaagreatdoor", sum := "4c09c050b7c67a08e035597adf10a5b70dc958cee02875b2f6e517e36f87729e", func := "tinderbox/tinderboxlaw15.ScanCuts", spec := "scanCuts", inPlace := ["internal/abi.NoEscape", "internal/bytealg.MakeNoZero", "maps.clone"], unfollowed := true, recurses := true, named := ["tinderbox/crc.fourBits"], plainKeys := false, apart := false, laid := [("tinderbox/crc.fourBits", laid_tinderbox_crc_fourBits)] }
def ScanCutsSaid : Prop := scanCutsRow.holds Tryz.pinned (OpenSpec.ofChange scanCutsSpec)

/-- ITS FALSE NEIGHBOUR: 'it returns false'. Refute it at one input. -/
def scanCutsWrong : ChangeSpec := { name := "scanCuts", fn := fun _ => fun
  | [d1, d2, d3] => { results := [.lit (.bool false)], args := [d1, d2, d3] }
  | _ => none }
def ScanCutsWrongFalsely : Prop := scanCutsRow.holds Tryz.pinned (OpenSpec.ofChange scanCutsWrong)

/-- 'tinderboxlaw15.ScanAll': WHATEVER THE INPUT: true; the input reads as it did. -/
def scanAllSpec : ChangeSpec := { name := "scanAll", fn := fun _ => fun
  | [d1, d2] => { results := [.lit (.bool true)], args := [d1, d2] }
  | _ => none }
def scanAllRow : OpenClaim := { program := "ytaphpdmfjnhlaaagreatdoor", sum := "4c09c050b7c67a08e035597adf10a5b70dc958cee02875b2f6e517e36f87729e", func := "tinderbox/tinderboxlaw15.ScanAll", spec := "scanAll", inPlace := ["internal/abi.NoEscape", "internal/bytealg.MakeNoZero", "maps.clone"], unfollowed := true, recurses := true, named := ["tinderbox/crc.fourBits"], plainKeys := false, apart := false, laid := [("tinderbox/crc.fourBits", laid_tinderbox_crc_fourBits)] }
def ScanAllSaid : Prop := scanAllRow.holds Tryz.pinned (OpenSpec.ofChange scanAllSpec)

/-- ITS FALSE NEIGHBOUR: 'it returns false'. Refute it at one input. -/
def scanAllWrong : ChangeSpec := { name := "scanAll", fn := fun _ => fun
  | [d1, d2] => { results := [.lit (.bool false)], args := [d1, d2] }
  | _ => none }
def ScanAllWrongFalsely : Prop := scanAllRow.holds Tryz.pinned (OpenSpec.ofChange scanAllWrong)

/-- 'tinderboxlaw15.ScanBlank': WHATEVER THE INPUT: true; the input reads as it did. -/
def scanBlankSpec : ChangeSpec := { name := "scanBlank", fn := fun _ => fun
  | [d] => { results := [.lit (.bool true)], args := [d] }
  | _ => none }
def scanBlankRow : OpenClaim := { program := "ytaphpdmfjnhlaaagreatdoor", sum := "4c09c050b7c67a08e035597adf10a5b70dc958cee02875b2f6e517e36f87729e", func := "tinderbox/tinderboxlaw15.ScanBlank", spec := "scanBlank", inPlace := ["internal/abi.NoEscape", "internal/bytealg.MakeNoZero", "maps.clone"], unfollowed := true, recurses := true, named := ["tinderbox/crc.fourBits"], plainKeys := false, apart := false, laid := [("tinderbox/crc.fourBits", laid_tinderbox_crc_fourBits)] }
def ScanBlankSaid : Prop := scanBlankRow.holds Tryz.pinned (OpenSpec.ofChange scanBlankSpec)

/-- ITS FALSE NEIGHBOUR: 'it returns false'. Refute it at one input. -/
def scanBlankWrong : ChangeSpec := { name := "scanBlank", fn := fun _ => fun
  | [d] => { results := [.lit (.bool false)], args := [d] }
  | _ => none }
def ScanBlankWrongFalsely : Prop := scanBlankRow.holds Tryz.pinned (OpenSpec.ofChange scanBlankWrong)

/- THE SECOND FORM. 'bulk': how many values and letters a reading holds, each counted each time it is reached (what is shared counts as often as it is met; a slice's spare places count too). A statement '..UptoSaid' is the law's where the arguments, and the package variables that the reading takes, are together of bulk at most 1048576: NARROWER than '..Said'. Prove '..Said' where nothing that the law and all that it calls make is longer than what came in: it says more and counts as full. Else prove '..UptoSaid'. A law counts once. -/
mutual
def uptoBulk {H : Type} : DataW H → Nat
  | .lit (.string bytes) => bytes.length + 1
  | .lit _ => 1
  | .nil => 1
  | .ptr d => uptoBulk d + 1
  | .slice elems spare => uptoBulkAll elems + uptoBulkAll spare + 1
  | .agg parts => uptoBulkAll parts + 1
  | .iface _ d => uptoBulk d + 1
  | .map entries => uptoBulkEntries entries + 1
  | .held _ => 1
def uptoBulkAll {H : Type} : List (DataW H) → Nat
  | [] => 0
  | d :: r => uptoBulk d + uptoBulkAll r
def uptoBulkEntries {H : Type} : List (Lit × DataW H) → Nat
  | [] => 0
  | x :: r => uptoBulkEntry x + uptoBulkEntries r
def uptoBulkEntry {H : Type} : Lit × DataW H → Nat
  | (.string bytes, d) => bytes.length + uptoBulk d + 1
  | (_, d) => uptoBulk d + 1
 end
def uptoSmall : (H : Type) → List (DataW H) → Bool := fun _ ds => decide (uptoBulkAll ds ≤ 1048576)
def OpenSpec.upto (s : _root_.Go.ChangeSpec) : _root_.Go.OpenSpec := { _root_.Go.OpenSpec.ofChange s with cond := some uptoSmall }

/-- 'tinderboxlaw15.ScanFinds', WHERE WHAT IT READS IS OF BULK AT MOST 1048576: true; the input reads as it did. -/
def scanFindsUptoRow : OpenClaim := { program := "ytaphpdmfjnhlaaagreatdoor", sum := "4c09c050b7c67a08e035597adf10a5b70dc958cee02875b2f6e517e36f87729e", func := "tinderbox/tinderboxlaw15.ScanFinds", spec := "scanFinds", inPlace := ["internal/abi.NoEscape", "internal/bytealg.MakeNoZero", "maps.clone"], unfollowed := true, recurses := true, named := ["tinderbox/crc.fourBits"], plainKeys := false, apart := false, laid := [("tinderbox/crc.fourBits", laid_tinderbox_crc_fourBits)], narrowed := true }
def ScanFindsUptoSaid : Prop := scanFindsUptoRow.holds Tryz.pinned (OpenSpec.upto scanFindsSpec)

/-- 'tinderboxlaw15.ScanCuts', WHERE WHAT IT READS IS OF BULK AT MOST 1048576: true; the input reads as it did. -/
def scanCutsUptoRow : OpenClaim := { program := "ytaphpdmfjnhlaaagreatdoor", sum := "4c09c050b7c67a08e035597adf10a5b70dc958cee02875b2f6e517e36f87729e", func := "tinderbox/tinderboxlaw15.ScanCuts", spec := "scanCuts", inPlace := ["internal/abi.NoEscape", "internal/bytealg.MakeNoZero", "maps.clone"], unfollowed := true, recurses := true, named := ["tinderbox/crc.fourBits"], plainKeys := false, apart := false, laid := [("tinderbox/crc.fourBits", laid_tinderbox_crc_fourBits)], narrowed := true }
def ScanCutsUptoSaid : Prop := scanCutsUptoRow.holds Tryz.pinned (OpenSpec.upto scanCutsSpec)

/-- 'tinderboxlaw15.ScanAll', WHERE WHAT IT READS IS OF BULK AT MOST 1048576: true; the input reads as it did. -/
def scanAllUptoRow : OpenClaim := { program := "ytaphpdmfjnhlaaagreatdoor", sum := "4c09c050b7c67a08e035597adf10a5b70dc958cee02875b2f6e517e36f87729e", func := "tinderbox/tinderboxlaw15.ScanAll", spec := "scanAll", inPlace := ["internal/abi.NoEscape", "internal/bytealg.MakeNoZero", "maps.clone"], unfollowed := true, recurses := true, named := ["tinderbox/crc.fourBits"], plainKeys := false, apart := false, laid := [("tinderbox/crc.fourBits", laid_tinderbox_crc_fourBits)], narrowed := true }
def ScanAllUptoSaid : Prop := scanAllUptoRow.holds Tryz.pinned (OpenSpec.upto scanAllSpec)

/-- 'tinderboxlaw15.ScanBlank', WHERE WHAT IT READS IS OF BULK AT MOST 1048576: true; the input reads as it did. -/
def scanBlankUptoRow : OpenClaim := { program := "ytaphpdmfjnhlaaagreatdoor", sum := "4c09c050b7c67a08e035597adf10a5b70dc958cee02875b2f6e517e36f87729e", func := "tinderbox/tinderboxlaw15.ScanBlank", spec := "scanBlank", inPlace := ["internal/abi.NoEscape", "internal/bytealg.MakeNoZero", "maps.clone"], unfollowed := true, recurses := true, named := ["tinderbox/crc.fourBits"], plainKeys := false, apart := false, laid := [("tinderbox/crc.fourBits", laid_tinderbox_crc_fourBits)], narrowed := true }
def ScanBlankUptoSaid : Prop := scanBlankUptoRow.holds Tryz.pinned (OpenSpec.upto scanBlankSpec)

end Rows
end Go.Proofs.YtaphpdmfjnhlaaaGreatDoor
