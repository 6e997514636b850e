/-
  The walk of the law ScoreBest. Condition: the argument is a row of floats.
-/
import Derived.Test.YtkjlakoieeofoaaBest
import Derived.Test.YtkjlakoieeofoaaFrame
namespace Go.Proofs.Ytkjlakoieeofoaa
open Go.RowKit

theorem best_nil (w : World) : Calls Try.prog 14 #[.slice none 0 0] w fun e w' => e = .returned (.int .i64 (-1)) ∧ w' = w := by
  go_enter Try.func14, Try.ntmps14
  go_wp2
  go_loop [3, 8] (fun b i => i = .int .i64 0 ∧ b = .int .i64 (-1)) (fun _ _ => 0)
  case atStart => exact ⟨rfl, rfl⟩
  case round =>
    obtain ⟨rfl, rfl⟩ := hrel
    go_wp2
    go_ret
    exact ⟨rfl, rfl⟩
set_option maxHeartbeats 400000 in
theorem scoreBest_nil (w : World) : Calls Try.prog 6 #[.slice none 0 0] w fun e w' => e = .returned (.bool true) ∧ Below w.heap.size w w' := by
  go_enter Try.func6, Try.ntmps6
  go_wp2
  go_loop [4, 5] (fun b i => i = .int .i64 0 ∧ b = .int .i64 (-1)) (fun _ _ => 0)
  case atStart => exact ⟨rfl, rfl⟩
  case round =>
    obtain ⟨rfl, rfl⟩ := hrel
    go_wp2_with (first
      | (go_at_call 10; refine (awake_any _).mono ?_; rintro e w' ⟨rfl, hbA⟩)
      | (go_at_call 14; refine (best_nil _).mono ?_; rintro e w' ⟨rfl, rfl⟩))
    go_ret
    exact ⟨rfl, hbA⟩
/-- numbers for all places -/
theorem all_fit {w : World} {v : Value} {len : Nat} {xs : Nat → Nat} (h : Floats w v len xs) : (v = .slice none 0 0) ∨ ∃ (a : Addr) (cap : Nat) (ys : Nat → Nat), v = .slice (some a) len cap ∧ len ≤ cap ∧ cap ≤ maxLen ∧ (∀ i : Nat, i < len → w.cell? (a.add i) = some (.float .f64 (ys i))) ∧ ∀ i, ys i < 18446744073709551616 := by
  rcases h with ⟨h, _⟩ | ⟨a, cap, h, hl, hm, hc⟩
  · exact .inl h
  · refine .inr ⟨a, cap, fun i => if i < len then xs i else 0, h, hl, hm, fun i hi => ?_, fun i => ?_⟩
    · simp only [hi, if_true]
      exact (hc i hi).1
    · by_cases hi : i < len
      · simp only [hi, if_true]
        exact (hc i hi).2
      · simp only [hi, if_false]
        decide
theorem scoreBest_any (v : Value) (len : Nat) (xs : Nat → Nat) (w : World) (h : Floats w v len xs) :
    Calls Try.prog 6 #[v] w fun e w' => e = .returned (.bool true) ∧ Below w.heap.size w w' := by
  rcases all_fit h with rfl | ⟨a, cap, ys, rfl, hl, hm, hc, hx⟩
  · exact scoreBest_nil w
  · by_cases hn : len ≤ 100
    · exact scoreBest_few a len cap ys w hl hm hc hx hn
    · exact scoreBest_many a len cap ys w hl hm (fun i hi => hc i (by omega)) hx (by omega)
end Go.Proofs.Ytkjlakoieeofoaa
