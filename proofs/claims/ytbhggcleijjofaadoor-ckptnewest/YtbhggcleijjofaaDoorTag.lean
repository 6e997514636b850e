/-
  Tags: which may be; the walks of both sides' Check. No condition.
-/
import Derived.Test.YtbhggcleijjofaaDoorEnc
namespace Go.Proofs.YtbhggcleijjofaaDoor.Pg
open Go Go.RowKit

/-- a tag as a value -/
def tagV (K S I O W : Int) : Value := .agg #[.int .i64 K, .int .u64 S, .int .i64 I, .int .i64 O, .int .i64 W]
/-- may a tag be? -/
def mayB (K I O W : Int) : Prop := 1 ≤ K ∧ K ≤ 3 ∧ 1 ≤ O ∧ O ≤ 65535 ∧ 0 ≤ I ∧ I < O ∧ 0 ≤ W ∧ W ≤ 4294967295
def chk (K I O W : Int) : Bool := decide (1 ≤ K ∧ K ≤ 3 ∧ 1 ≤ O ∧ O ≤ 65535 ∧ 0 ≤ I ∧ I < O ∧ 0 ≤ W ∧ W ≤ 4294967295)
theorem chk_iff {K I O W : Int} : chk K I O W = true ↔ mayB K I O W := by unfold chk mayB; exact decide_eq_true_iff
theorem below_one (w : World) (o : Obj) : Below w.heap.size w (w.alloc o) := (Below.refl w.heap.size w).alloc (Nat.le_refl _) o
theorem check_any (K S I O W : Int) (hW : W ≤ 9223372036854775807) (w : World) : Calls Tryd.prog 57 #[tagV K S I O W] w fun e w' => e = .returned (.bool (chk K I O W)) ∧ Below w.heap.size w w' := by
  unfold tagV chk
  by_cases h0 : 1 ≤ K
  case neg =>
    rw [decide_eq_false (by omega)]
    go_enter Tryd.func57, Tryd.ntmps57
    go_wp2_with fail
    go_ret
    exact ⟨rfl, below_one w _⟩
  by_cases h1 : K ≤ 3
  case neg =>
    rw [decide_eq_false (by omega)]
    go_enter Tryd.func57, Tryd.ntmps57
    go_wp2_with fail
    go_ret
    exact ⟨rfl, below_one w _⟩
  by_cases h2 : 1 ≤ O
  case neg =>
    rw [decide_eq_false (by omega)]
    go_enter Tryd.func57, Tryd.ntmps57
    go_wp2_with fail
    go_ret
    exact ⟨rfl, below_one w _⟩
  by_cases h3 : O ≤ 65535
  case neg =>
    rw [decide_eq_false (by omega)]
    go_enter Tryd.func57, Tryd.ntmps57
    go_wp2_with fail
    go_ret
    exact ⟨rfl, below_one w _⟩
  by_cases h4 : 0 ≤ I
  case neg =>
    rw [decide_eq_false (by omega)]
    go_enter Tryd.func57, Tryd.ntmps57
    go_wp2_with fail
    go_ret
    exact ⟨rfl, below_one w _⟩
  by_cases h5 : I < O
  case neg =>
    rw [decide_eq_false (by omega)]
    go_enter Tryd.func57, Tryd.ntmps57
    go_wp2_with fail
    go_ret
    exact ⟨rfl, below_one w _⟩
  by_cases h6 : 0 ≤ W
  case neg =>
    rw [decide_eq_false (by omega)]
    go_enter Tryd.func57, Tryd.ntmps57
    go_wp2_with fail
    go_ret
    exact ⟨rfl, below_one w _⟩
  have e1 : IntKind.u64.wrap W = W := by rw [IntKind.wrap_u64]; omega
  by_cases h7 : W ≤ 4294967295
  case neg =>
    rw [decide_eq_false (by omega)]
    have d7 : decide (W ≤ 4294967295) = false := decide_eq_false h7
    clear h7
    go_enter Tryd.func57, Tryd.ntmps57
    go_wp2_with fail
    go_ret
    exact ⟨rfl, below_one w _⟩
  rw [decide_eq_true ⟨h0, h1, h2, h3, h4, h5, h6, h7⟩]
  have d7 : decide (W ≤ 4294967295) = true := decide_eq_true h7
  clear h7
  go_enter Tryd.func57, Tryd.ntmps57
  go_wp2_with fail
  go_ret
  exact ⟨rfl, below_one w _⟩
end Go.Proofs.YtbhggcleijjofaaDoor.Pg
