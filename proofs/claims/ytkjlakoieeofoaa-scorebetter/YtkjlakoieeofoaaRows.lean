/-
  No cell of these rows narrows 'for every input' (looked for: loops, veiled, ifaces, maps, wideKeys, modest, calm, conditions, laid).
  DERIVED. THE GIVEN ROWS OF THIS SEAT. 6 by the template 'for every input the law returns true; each argument reads behind the call as it read before'; 0 by the template 'total and deterministic' (their statements: YtkjlakoieeofoaaTotals.lean).
  GIVEN WITH THE SEED: the statements are not yours to turn. If you find one false, say at which input.
  Laid BY PROGRAM, IN A SANDBOX (cutbox-rows.mjs): the forced cells as the released guide's own fill.sh prints them over the translation a741ae7313e23575… (all of the seat's roots in one cut). By AI agents, Wed Nov 11 2026. No macro, syntax, notation, axiom, sorry.
-/
import Derived.Test.YtkjlakoieeofoaaChecked
import GoSem.Claim
import GoSem.ClaimJoined
import GoSem.ClaimMapViews
import Derived.JoinedTies
import Derived.KernelRfl
namespace Go.Proofs.Ytkjlakoieeofoaa
/- THE CELL 'sum', in the pinned program and in every row, IS THE sha256 OF THE DUMP (.gsa) THAT YtkjlakoieeofoaaProg.lean LOADS. Nothing in Lean hashes anything: it is a label: what it is worth is what the hold of that sum in a sandbox is worth. -/
noncomputable def Try.pinned : Pinned := { name := "ytkjlakoieeofoaa", sum := "a741ae7313e23575527e4a79bc720fbb2c25dc2c969b67e9f4efe3ecffd26002", checked := Try.checked }
namespace Rows
def none {H : Type} : Left H := { results := [], args := [] }

/-- 'tinderboxlaw03.ScoreOf': WHATEVER THE INPUT: true; the input reads as it did. -/
def scoreOfSpec : ChangeSpec := { name := "scoreOf", fn := fun _ => fun
  | [d] => { results := [.lit (.bool true)], args := [d] }
  | _ => none }
def scoreOfRow : OpenClaim := { program := "ytkjlakoieeofoaa", sum := "a741ae7313e23575527e4a79bc720fbb2c25dc2c969b67e9f4efe3ecffd26002", func := "tinderbox/tinderboxlaw03.ScoreOf", spec := "scoreOf", inPlace := ["math.Float64frombits", "math.Float64bits"], apart := false }
def ScoreOfSaid : Prop := scoreOfRow.holds Try.pinned (OpenSpec.ofChange scoreOfSpec)

/-- ITS FALSE NEIGHBOUR: 'it returns false'. Refute it at one input. -/
def scoreOfWrong : ChangeSpec := { name := "scoreOf", fn := fun _ => fun
  | [d] => { results := [.lit (.bool false)], args := [d] }
  | _ => none }
def ScoreOfWrongFalsely : Prop := scoreOfRow.holds Try.pinned (OpenSpec.ofChange scoreOfWrong)

/-- 'tinderboxlaw03.ScoreBetter': WHATEVER THE INPUT: true; the input reads as it did. -/
def scoreBetterSpec : ChangeSpec := { name := "scoreBetter", fn := fun _ => fun
  | [d1, d2, d3] => { results := [.lit (.bool true)], args := [d1, d2, d3] }
  | _ => none }
def scoreBetterRow : OpenClaim := { program := "ytkjlakoieeofoaa", sum := "a741ae7313e23575527e4a79bc720fbb2c25dc2c969b67e9f4efe3ecffd26002", func := "tinderbox/tinderboxlaw03.ScoreBetter", spec := "scoreBetter", inPlace := ["math.Float64frombits", "math.Float64bits"], apart := false }
def ScoreBetterSaid : Prop := scoreBetterRow.holds Try.pinned (OpenSpec.ofChange scoreBetterSpec)

/-- ITS FALSE NEIGHBOUR: 'it returns false'. Refute it at one input. -/
def scoreBetterWrong : ChangeSpec := { name := "scoreBetter", fn := fun _ => fun
  | [d1, d2, d3] => { results := [.lit (.bool false)], args := [d1, d2, d3] }
  | _ => none }
def ScoreBetterWrongFalsely : Prop := scoreBetterRow.holds Try.pinned (OpenSpec.ofChange scoreBetterWrong)

/-- 'tinderboxlaw03.ScoreOrder': WHATEVER THE INPUT: true; the input reads as it did. -/
def scoreOrderSpec : ChangeSpec := { name := "scoreOrder", fn := fun _ => fun
  | [d1, d2, d3] => { results := [.lit (.bool true)], args := [d1, d2, d3] }
  | _ => none }
def scoreOrderRow : OpenClaim := { program := "ytkjlakoieeofoaa", sum := "a741ae7313e23575527e4a79bc720fbb2c25dc2c969b67e9f4efe3ecffd26002", func := "tinderbox/tinderboxlaw03.ScoreOrder", spec := "scoreOrder", inPlace := ["math.Float64bits", "math.Float64frombits"], apart := false }
def ScoreOrderSaid : Prop := scoreOrderRow.holds Try.pinned (OpenSpec.ofChange scoreOrderSpec)

/-- ITS FALSE NEIGHBOUR: 'it returns false'. Refute it at one input. -/
def scoreOrderWrong : ChangeSpec := { name := "scoreOrder", fn := fun _ => fun
  | [d1, d2, d3] => { results := [.lit (.bool false)], args := [d1, d2, d3] }
  | _ => none }
def ScoreOrderWrongFalsely : Prop := scoreOrderRow.holds Try.pinned (OpenSpec.ofChange scoreOrderWrong)

/-- 'tinderboxlaw03.ScoreBest': WHATEVER THE INPUT: true; the input reads as it did. -/
def scoreBestSpec : ChangeSpec := { name := "scoreBest", fn := fun _ => fun
  | [d] => { results := [.lit (.bool true)], args := [d] }
  | _ => none }
def scoreBestRow : OpenClaim := { program := "ytkjlakoieeofoaa", sum := "a741ae7313e23575527e4a79bc720fbb2c25dc2c969b67e9f4efe3ecffd26002", func := "tinderbox/tinderboxlaw03.ScoreBest", spec := "scoreBest", inPlace := ["math.Float64bits", "math.Float64frombits"], apart := false }
def ScoreBestSaid : Prop := scoreBestRow.holds Try.pinned (OpenSpec.ofChange scoreBestSpec)

/-- ITS FALSE NEIGHBOUR: 'it returns false'. Refute it at one input. -/
def scoreBestWrong : ChangeSpec := { name := "scoreBest", fn := fun _ => fun
  | [d] => { results := [.lit (.bool false)], args := [d] }
  | _ => none }
def ScoreBestWrongFalsely : Prop := scoreBestRow.holds Try.pinned (OpenSpec.ofChange scoreBestWrong)

/-- 'tinderboxlaw03.ScoreMean': WHATEVER THE INPUT: true; the input reads as it did. -/
def scoreMeanSpec : ChangeSpec := { name := "scoreMean", fn := fun _ => fun
  | [d] => { results := [.lit (.bool true)], args := [d] }
  | _ => none }
def scoreMeanRow : OpenClaim := { program := "ytkjlakoieeofoaa", sum := "a741ae7313e23575527e4a79bc720fbb2c25dc2c969b67e9f4efe3ecffd26002", func := "tinderbox/tinderboxlaw03.ScoreMean", spec := "scoreMean", inPlace := ["math.Float64bits", "math.Float64frombits"], apart := false }
def ScoreMeanSaid : Prop := scoreMeanRow.holds Try.pinned (OpenSpec.ofChange scoreMeanSpec)

/-- ITS FALSE NEIGHBOUR: 'it returns false'. Refute it at one input. -/
def scoreMeanWrong : ChangeSpec := { name := "scoreMean", fn := fun _ => fun
  | [d] => { results := [.lit (.bool false)], args := [d] }
  | _ => none }
def ScoreMeanWrongFalsely : Prop := scoreMeanRow.holds Try.pinned (OpenSpec.ofChange scoreMeanWrong)

/-- 'tinderboxlaw03.ScorePerMille': WHATEVER THE INPUT: true; the input reads as it did. -/
def scorePerMilleSpec : ChangeSpec := { name := "scorePerMille", fn := fun _ => fun
  | [d] => { results := [.lit (.bool true)], args := [d] }
  | _ => none }
def scorePerMilleRow : OpenClaim := { program := "ytkjlakoieeofoaa", sum := "a741ae7313e23575527e4a79bc720fbb2c25dc2c969b67e9f4efe3ecffd26002", func := "tinderbox/tinderboxlaw03.ScorePerMille", spec := "scorePerMille", inPlace := ["math.Float64frombits", "math.Float64bits"], apart := false }
def ScorePerMilleSaid : Prop := scorePerMilleRow.holds Try.pinned (OpenSpec.ofChange scorePerMilleSpec)

/-- ITS FALSE NEIGHBOUR: 'it returns false'. Refute it at one input. -/
def scorePerMilleWrong : ChangeSpec := { name := "scorePerMille", fn := fun _ => fun
  | [d] => { results := [.lit (.bool false)], args := [d] }
  | _ => none }
def ScorePerMilleWrongFalsely : Prop := scorePerMilleRow.holds Try.pinned (OpenSpec.ofChange scorePerMilleWrong)

/- THE SECOND FORM. 'bulk': how many values and letters a reading holds, each counted each time it is reached (what is shared counts as often as it is met; a slice's spare places count too). A statement '..UptoSaid' is the law's where the arguments, and the package variables that the reading takes, are together of bulk at most 1048576: NARROWER than '..Said'. Prove '..Said' where nothing that the law and all that it calls make is longer than what came in: it says more and counts as full. Else prove '..UptoSaid'. A law counts once. -/
mutual
def uptoBulk {H : Type} : DataW H → Nat
  | .lit (.string bytes) => bytes.length + 1
  | .lit _ => 1
  | .nil => 1
  | .ptr d => uptoBulk d + 1
  | .slice elems spare => uptoBulkAll elems + uptoBulkAll spare + 1
  | .agg parts => uptoBulkAll parts + 1
  | .iface _ d => uptoBulk d + 1
  | .map entries => uptoBulkEntries entries + 1
  | .held _ => 1
def uptoBulkAll {H : Type} : List (DataW H) → Nat
  | [] => 0
  | d :: r => uptoBulk d + uptoBulkAll r
def uptoBulkEntries {H : Type} : List (Lit × DataW H) → Nat
  | [] => 0
  | x :: r => uptoBulkEntry x + uptoBulkEntries r
def uptoBulkEntry {H : Type} : Lit × DataW H → Nat
  | (.string bytes, d) => bytes.length + uptoBulk d + 1
  | (_, d) => uptoBulk d + 1
 end
def uptoSmall : (H : Type) → List (DataW H) → Bool := fun _ ds => decide (uptoBulkAll ds ≤ 1048576)
def OpenSpec.upto (s : _root_.Go.ChangeSpec) : _root_.Go.OpenSpec := { _root_.Go.OpenSpec.ofChange s with cond := some uptoSmall }

/-- 'tinderboxlaw03.ScoreOf', WHERE WHAT IT READS IS OF BULK AT MOST 1048576: true; the input reads as it did. -/
def scoreOfUptoRow : OpenClaim := { program := "ytkjlakoieeofoaa", sum := "a741ae7313e23575527e4a79bc720fbb2c25dc2c969b67e9f4efe3ecffd26002", func := "tinderbox/tinderboxlaw03.ScoreOf", spec := "scoreOf", inPlace := ["math.Float64frombits", "math.Float64bits"], apart := false, narrowed := true }
def ScoreOfUptoSaid : Prop := scoreOfUptoRow.holds Try.pinned (OpenSpec.upto scoreOfSpec)

/-- 'tinderboxlaw03.ScoreBetter', WHERE WHAT IT READS IS OF BULK AT MOST 1048576: true; the input reads as it did. -/
def scoreBetterUptoRow : OpenClaim := { program := "ytkjlakoieeofoaa", sum := "a741ae7313e23575527e4a79bc720fbb2c25dc2c969b67e9f4efe3ecffd26002", func := "tinderbox/tinderboxlaw03.ScoreBetter", spec := "scoreBetter", inPlace := ["math.Float64frombits", "math.Float64bits"], apart := false, narrowed := true }
def ScoreBetterUptoSaid : Prop := scoreBetterUptoRow.holds Try.pinned (OpenSpec.upto scoreBetterSpec)

/-- 'tinderboxlaw03.ScoreOrder', WHERE WHAT IT READS IS OF BULK AT MOST 1048576: true; the input reads as it did. -/
def scoreOrderUptoRow : OpenClaim := { program := "ytkjlakoieeofoaa", sum := "a741ae7313e23575527e4a79bc720fbb2c25dc2c969b67e9f4efe3ecffd26002", func := "tinderbox/tinderboxlaw03.ScoreOrder", spec := "scoreOrder", inPlace := ["math.Float64bits", "math.Float64frombits"], apart := false, narrowed := true }
def ScoreOrderUptoSaid : Prop := scoreOrderUptoRow.holds Try.pinned (OpenSpec.upto scoreOrderSpec)

/-- 'tinderboxlaw03.ScoreBest', WHERE WHAT IT READS IS OF BULK AT MOST 1048576: true; the input reads as it did. -/
def scoreBestUptoRow : OpenClaim := { program := "ytkjlakoieeofoaa", sum := "a741ae7313e23575527e4a79bc720fbb2c25dc2c969b67e9f4efe3ecffd26002", func := "tinderbox/tinderboxlaw03.ScoreBest", spec := "scoreBest", inPlace := ["math.Float64bits", "math.Float64frombits"], apart := false, narrowed := true }
def ScoreBestUptoSaid : Prop := scoreBestUptoRow.holds Try.pinned (OpenSpec.upto scoreBestSpec)

/-- 'tinderboxlaw03.ScoreMean', WHERE WHAT IT READS IS OF BULK AT MOST 1048576: true; the input reads as it did. -/
def scoreMeanUptoRow : OpenClaim := { program := "ytkjlakoieeofoaa", sum := "a741ae7313e23575527e4a79bc720fbb2c25dc2c969b67e9f4efe3ecffd26002", func := "tinderbox/tinderboxlaw03.ScoreMean", spec := "scoreMean", inPlace := ["math.Float64bits", "math.Float64frombits"], apart := false, narrowed := true }
def ScoreMeanUptoSaid : Prop := scoreMeanUptoRow.holds Try.pinned (OpenSpec.upto scoreMeanSpec)

/-- 'tinderboxlaw03.ScorePerMille', WHERE WHAT IT READS IS OF BULK AT MOST 1048576: true; the input reads as it did. -/
def scorePerMilleUptoRow : OpenClaim := { program := "ytkjlakoieeofoaa", sum := "a741ae7313e23575527e4a79bc720fbb2c25dc2c969b67e9f4efe3ecffd26002", func := "tinderbox/tinderboxlaw03.ScorePerMille", spec := "scorePerMille", inPlace := ["math.Float64frombits", "math.Float64bits"], apart := false, narrowed := true }
def ScorePerMilleUptoSaid : Prop := scorePerMilleUptoRow.holds Try.pinned (OpenSpec.upto scorePerMilleSpec)

end Rows
end Go.Proofs.Ytkjlakoieeofoaa
