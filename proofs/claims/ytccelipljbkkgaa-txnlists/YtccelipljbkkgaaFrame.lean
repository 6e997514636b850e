/-
  What the proofs of this seat share: the program as it is laid; how a record that is handed in is opened. No condition.
-/
import Derived.Test.YtccelipljbkkgaaMay
import Derived.Test.YtccelipljbkkgaaRows
import Derived.ProofKit
import Derived.OpenShut
import Derived.Stop.Joined
import Derived.ShutString
import Derived.ChangeOld
import Derived.Below
import Derived.Carry
import Derived.Laws.Cover2
import Derived.Lib.SmallJoins
import Derived.Deep.Slices
namespace Go.Proofs.Ytccelipljbkkgaa
open Go.ChangeShapes Go.WideShapes Go.ChangeAt Go.RowKit
theorem own : ownKnob Try.prog.godebug = none := by kernel_rfl
theorem laidOut : laidOutB Try.prog = true := by kernel_rfl
theorem cells35 : Try.prog.cellsOf 35 = 6 := by kernel_rfl
theorem cells3 : Try.prog.cellsOf 3 = 1 := by kernel_rfl
theorem array6 {α : Type} {cs : Array α} (h : cs.size = 6) : ∃ c0 c1 c2 c3 c4 c5, cs = #[c0, c1, c2, c3, c4, c5] := by
  obtain ⟨l⟩ := cs
  match l, h with
  | [c0, c1, c2, c3, c4, c5], _ => exact ⟨c0, c1, c2, c3, c4, c5, rfl⟩
set_option maxRecDepth 100000 in
/-- the six numbers of a record's cells -/
theorem six_ints {H : Type} {enc : TypeId × Value → H} {W : World} {fuel : Nat} {c0 c1 c2 c3 c4 c5 : Value} {x : DataW H × List MemPlace} (h : DataW.trod enc Try.prog W 0 (fun _ => true) true fuel 35 [c0, c1, c2, c3, c4, c5] = some x) :
    ∃ K S P A T N, c0 = .int .i64 K ∧ c1 = .int .i64 S ∧ c2 = .int .i64 P ∧ c3 = .int .i64 A ∧ c4 = .int .i64 T ∧ c5 = .int .i64 N ∧ ((Lit.int .i64 K).wf = true ∧ (Lit.int .i64 S).wf = true ∧ (Lit.int .i64 P).wf = true ∧ (Lit.int .i64 A).wf = true ∧ (Lit.int .i64 T).wf = true ∧ (Lit.int .i64 N).wf = true) := by
  obtain ⟨xs, n, _, rfl, hl, hlen, hf⟩ := DataW.trod_struct Try.underlying35 h
  match xs, hlen with
  | [y0, y1, y2, y3, y4, y5], _ =>
    have g0 := hf 0 _ rfl
    have g1 := hf 1 _ rfl
    have g2 := hf 2 _ rfl
    have g3 := hf 3 _ rfl
    have g4 := hf 4 _ rfl
    have g5 := hf 5 _ rfl
    simp [cells3] at g0 g1 g2 g3 g4 g5
    obtain ⟨q0, e0, _, f0⟩ := DataW.trod_int Try.underlying3 g0
    obtain ⟨q1, e1, _, f1⟩ := DataW.trod_int Try.underlying3 g1
    obtain ⟨q2, e2, _, f2⟩ := DataW.trod_int Try.underlying3 g2
    obtain ⟨q3, e3, _, f3⟩ := DataW.trod_int Try.underlying3 g3
    obtain ⟨q4, e4, _, f4⟩ := DataW.trod_int Try.underlying3 g4
    obtain ⟨q5, e5, _, f5⟩ := DataW.trod_int Try.underlying3 g5
    simp at e0 e1 e2 e3 e4 e5
    exact ⟨q0, q1, q2, q3, q4, q5, e0, e1, e2, e3, e4, e5, f0, f1, f2, f3, f4, f5⟩
set_option maxRecDepth 100000 in
theorem open_rec {H : Type} {enc : TypeId × Value → H} {W : World} {b0 : Nat} {v : Value} {d : DataW H} {p : List MemPlace} (hv : Value.okWide Try.prog W .any b0 35 v) (h : DataW.Trod enc Try.prog W 0 (fun _ => true) true 35 v d p) :
    ∃ K S P A T N, v = rv K S P A T N := by
  obtain ⟨cs, rfl, hsz⟩ := okWide_struct Try.underlying35 hv
  obtain ⟨c0, c1, c2, c3, c4, c5, rfl⟩ := array6 (hsz.trans cells35)
  obtain ⟨fuel, hf⟩ := h
  obtain ⟨K, S, P, A, T, N, rfl, rfl, rfl, rfl, rfl, rfl, _⟩ := six_ints hf
  exact ⟨K, S, P, A, T, N, rfl⟩
end Go.Proofs.Ytccelipljbkkgaa
