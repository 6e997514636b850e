/-
  No cell of these rows narrows 'for every input' (looked for: loops, veiled, ifaces, maps, wideKeys, modest, calm, conditions, laid).
  DERIVED. THE GIVEN ROWS OF THIS SEAT. 3 by the template 'for every input the law returns true; each argument reads behind the call as it read before'; 0 by the template 'total and deterministic' (their statements: YtclpcodcfcegdaaTotals.lean).
  GIVEN WITH THE SEED: the statements are not yours to turn. If you find one false, say at which input.
  Laid BY PROGRAM, IN A SANDBOX (cutbox-rows.mjs): the forced cells as the released guide's own fill.sh prints them over the translation 635d6f84593813c5… (all of the seat's roots in one cut). By AI agents, Wed Nov 11 2026. No macro, syntax, notation, axiom, sorry.
-/
import Derived.Test.YtclpcodcfcegdaaChecked
import GoSem.Claim
import GoSem.ClaimJoined
import GoSem.ClaimMapViews
import Derived.JoinedTies
import Derived.KernelRfl
namespace Go.Proofs.Ytclpcodcfcegdaa
/- THE CELL 'sum', in the pinned program and in every row, IS THE sha256 OF THE DUMP (.gsa) THAT YtclpcodcfcegdaaProg.lean LOADS. Nothing in Lean hashes anything: it is a label: what it is worth is what the hold of that sum in a sandbox is worth. -/
noncomputable def Try.pinned : Pinned := { name := "ytclpcodcfcegdaa", sum := "635d6f84593813c5bc1d07498cd34147577331bf4f93047b9a6e45df9a9a2e28", checked := Try.checked }
namespace Rows
def none {H : Type} : Left H := { results := [], args := [] }

/-- 'tinderboxlaw10.LifePlays': WHATEVER THE INPUT: true; the input reads as it did. -/
def lifePlaysSpec : ChangeSpec := { name := "lifePlays", fn := fun _ => fun
  | [d1, d2, d3] => { results := [.lit (.bool true)], args := [d1, d2, d3] }
  | _ => none }
def lifePlaysRow : OpenClaim := { program := "ytclpcodcfcegdaa", sum := "635d6f84593813c5bc1d07498cd34147577331bf4f93047b9a6e45df9a9a2e28", func := "tinderbox/tinderboxlaw10.LifePlays", spec := "lifePlays", apart := false }
def LifePlaysSaid : Prop := lifePlaysRow.holds Try.pinned (OpenSpec.ofChange lifePlaysSpec)

/-- ITS FALSE NEIGHBOUR: 'it returns false'. Refute it at one input. -/
def lifePlaysWrong : ChangeSpec := { name := "lifePlays", fn := fun _ => fun
  | [d1, d2, d3] => { results := [.lit (.bool false)], args := [d1, d2, d3] }
  | _ => none }
def LifePlaysWrongFalsely : Prop := lifePlaysRow.holds Try.pinned (OpenSpec.ofChange lifePlaysWrong)

/-- 'tinderboxlaw10.LifeRoom': WHATEVER THE INPUT: true; the input reads as it did. -/
def lifeRoomSpec : ChangeSpec := { name := "lifeRoom", fn := fun _ => fun
  | [d1, d2, d3] => { results := [.lit (.bool true)], args := [d1, d2, d3] }
  | _ => none }
def lifeRoomRow : OpenClaim := { program := "ytclpcodcfcegdaa", sum := "635d6f84593813c5bc1d07498cd34147577331bf4f93047b9a6e45df9a9a2e28", func := "tinderbox/tinderboxlaw10.LifeRoom", spec := "lifeRoom", apart := false }
def LifeRoomSaid : Prop := lifeRoomRow.holds Try.pinned (OpenSpec.ofChange lifeRoomSpec)

/-- ITS FALSE NEIGHBOUR: 'it returns false'. Refute it at one input. -/
def lifeRoomWrong : ChangeSpec := { name := "lifeRoom", fn := fun _ => fun
  | [d1, d2, d3] => { results := [.lit (.bool false)], args := [d1, d2, d3] }
  | _ => none }
def LifeRoomWrongFalsely : Prop := lifeRoomRow.holds Try.pinned (OpenSpec.ofChange lifeRoomWrong)

/-- 'tinderboxlaw10.LifeNone': WHATEVER THE INPUT: true; the input reads as it did. -/
def lifeNoneSpec : ChangeSpec := { name := "lifeNone", fn := fun _ => fun
  | [d1, d2, d3] => { results := [.lit (.bool true)], args := [d1, d2, d3] }
  | _ => none }
def lifeNoneRow : OpenClaim := { program := "ytclpcodcfcegdaa", sum := "635d6f84593813c5bc1d07498cd34147577331bf4f93047b9a6e45df9a9a2e28", func := "tinderbox/tinderboxlaw10.LifeNone", spec := "lifeNone", apart := false }
def LifeNoneSaid : Prop := lifeNoneRow.holds Try.pinned (OpenSpec.ofChange lifeNoneSpec)

/-- ITS FALSE NEIGHBOUR: 'it returns false'. Refute it at one input. -/
def lifeNoneWrong : ChangeSpec := { name := "lifeNone", fn := fun _ => fun
  | [d1, d2, d3] => { results := [.lit (.bool false)], args := [d1, d2, d3] }
  | _ => none }
def LifeNoneWrongFalsely : Prop := lifeNoneRow.holds Try.pinned (OpenSpec.ofChange lifeNoneWrong)

/- THE SECOND FORM. 'bulk': how many values and letters a reading holds, each counted each time it is reached (what is shared counts as often as it is met; a slice's spare places count too). A statement '..UptoSaid' is the law's where the arguments, and the package variables that the reading takes, are together of bulk at most 1048576: NARROWER than '..Said'. Prove '..Said' where nothing that the law and all that it calls make is longer than what came in: it says more and counts as full. Else prove '..UptoSaid'. A law counts once. -/
mutual
def uptoBulk {H : Type} : DataW H → Nat
  | .lit (.string bytes) => bytes.length + 1
  | .lit _ => 1
  | .nil => 1
  | .ptr d => uptoBulk d + 1
  | .slice elems spare => uptoBulkAll elems + uptoBulkAll spare + 1
  | .agg parts => uptoBulkAll parts + 1
  | .iface _ d => uptoBulk d + 1
  | .map entries => uptoBulkEntries entries + 1
  | .held _ => 1
def uptoBulkAll {H : Type} : List (DataW H) → Nat
  | [] => 0
  | d :: r => uptoBulk d + uptoBulkAll r
def uptoBulkEntries {H : Type} : List (Lit × DataW H) → Nat
  | [] => 0
  | x :: r => uptoBulkEntry x + uptoBulkEntries r
def uptoBulkEntry {H : Type} : Lit × DataW H → Nat
  | (.string bytes, d) => bytes.length + uptoBulk d + 1
  | (_, d) => uptoBulk d + 1
 end
def uptoSmall : (H : Type) → List (DataW H) → Bool := fun _ ds => decide (uptoBulkAll ds ≤ 1048576)
def OpenSpec.upto (s : _root_.Go.ChangeSpec) : _root_.Go.OpenSpec := { _root_.Go.OpenSpec.ofChange s with cond := some uptoSmall }

/-- 'tinderboxlaw10.LifePlays', WHERE WHAT IT READS IS OF BULK AT MOST 1048576: true; the input reads as it did. -/
def lifePlaysUptoRow : OpenClaim := { program := "ytclpcodcfcegdaa", sum := "635d6f84593813c5bc1d07498cd34147577331bf4f93047b9a6e45df9a9a2e28", func := "tinderbox/tinderboxlaw10.LifePlays", spec := "lifePlays", apart := false, narrowed := true }
def LifePlaysUptoSaid : Prop := lifePlaysUptoRow.holds Try.pinned (OpenSpec.upto lifePlaysSpec)

/-- 'tinderboxlaw10.LifeRoom', WHERE WHAT IT READS IS OF BULK AT MOST 1048576: true; the input reads as it did. -/
def lifeRoomUptoRow : OpenClaim := { program := "ytclpcodcfcegdaa", sum := "635d6f84593813c5bc1d07498cd34147577331bf4f93047b9a6e45df9a9a2e28", func := "tinderbox/tinderboxlaw10.LifeRoom", spec := "lifeRoom", apart := false, narrowed := true }
def LifeRoomUptoSaid : Prop := lifeRoomUptoRow.holds Try.pinned (OpenSpec.upto lifeRoomSpec)

/-- 'tinderboxlaw10.LifeNone', WHERE WHAT IT READS IS OF BULK AT MOST 1048576: true; the input reads as it did. -/
def lifeNoneUptoRow : OpenClaim := { program := "ytclpcodcfcegdaa", sum := "635d6f84593813c5bc1d07498cd34147577331bf4f93047b9a6e45df9a9a2e28", func := "tinderbox/tinderboxlaw10.LifeNone", spec := "lifeNone", apart := false, narrowed := true }
def LifeNoneUptoSaid : Prop := lifeNoneUptoRow.holds Try.pinned (OpenSpec.upto lifeNoneSpec)

end Rows
end Go.Proofs.Ytclpcodcfcegdaa
