/-
  The walks of the laws' few and awake. No condition.
-/
import Derived.Test.YtfaaoogdmfllbaaCho
namespace Go.Proofs.Ytfaaoogdmfllbaa
open Go Go.RowKit

theorem few_any {w : World} {a : Option Addr} {len cap : Nat} {f : Nat → Q4} (h : Ss w a len f) (hl : len ≤ cap) (hc : (cap : Int) ≤ 9223372036854775807) : Calls Try.prog 6 #[.slice a len cap] w fun e w' => ∃ n : Nat, e = .returned (.slice a n cap) ∧ n ≤ 40 ∧ n ≤ len ∧ w' = w := by
  have ha : a = none → len = 0 := fun e => by
    subst e
    rcases Nat.eq_zero_or_pos len with h0 | h0
    · exact h0
    · obtain ⟨g, o, e, _⟩ := h 0 h0
      cases e
  clear h
  cases a with
  | none =>
    obtain rfl := ha rfl
    clear ha
    go_enter Try.func6, Try.ntmps6
    go_wp2
    go_ret
    exact ⟨0, rfl, by omega, by omega, rfl⟩
  | some ad =>
    clear ha
    by_cases h40 : len ≤ 40
    · have h40i : (len : Int) ≤ 40 := by omega
      go_enter Try.func6, Try.ntmps6
      go_wp2
      go_ret
      exact ⟨len, rfl, by omega, by omega, rfl⟩
    · have h40i : ¬ (len : Int) ≤ 40 := by omega
      go_enter Try.func6, Try.ntmps6
      go_wp2
      go_ret
      exact ⟨40, rfl, by omega, by omega, rfl⟩

def f3 (i : Nat) : Q4 := [((0 : Int), (8 : Int), (8 : Int), (0 : Int)), (0, 6, 8, 1), (0, 2, 8, 1)].getD i (0, 0, 0, 0)
theorem f3_row {w : World} {g : Nat} (h : Row w g 27 .i64 [0, 8, 8, 0, 0, 6, 8, 1, 0, 2, 8, 1]) : Ss w (some ⟨g, 0, none⟩) 3 f3 := by
  intro i hi
  refine ⟨g, 0, rfl, h.lt, ?_, ?_, ?_, ?_⟩
  all_goals
    rw [Nat.zero_add, h.cell _ (by simp; omega)]
    match i, hi with
    | 0, _ => rfl
    | 1, _ => rfl
    | 2, _ => rfl
theorem aw_one : bst (fun i => wq (f3 i)) 3 = 2 := by decide +kernel
theorem aw_two : bst (fun i => wq (f3 i)) 1 = -1 := by decide +kernel
theorem aw_emp : emp f3 3 = -1 := by decide
theorem awake_any (w : World) : Calls Try.prog 10 #[] w fun e w' => e = .returned (.bool true) ∧ Below w.heap.size w w' := by
  have hC : ∀ {w : World} {g : Nat}, Row w g 27 .i64 [0, 8, 8, 0, 0, 6, 8, 1, 0, 2, 8, 1] → ∀ (n : Nat) (r : Int), (n, r) = (3, 2) ∨ (n, r) = (1, -1) → Calls Try.prog 11 #[.slice (some ⟨g, 0, none⟩) n 3] w fun e w' => e = .returned (.int .i64 r) ∧ Below w.heap.size w w' := fun h n r e => by
    rcases e with e | e <;> cases e
    · have := choose_any (cap := 3) (f3_row h) (by omega); rwa [aw_one] at this
    · have := choose_any (cap := 3) ((f3_row h).less (m := 1) (by omega)) (by omega); rwa [aw_two] at this
  have hE : ∀ {w : World} {g : Nat}, Row w g 27 .i64 [0, 8, 8, 0, 0, 6, 8, 1, 0, 2, 8, 1] → Calls Try.prog 12 #[.slice (some ⟨g, 0, none⟩) 3 3] w fun e w' => e = .returned (.int .i64 (-1)) ∧ Below w.heap.size w w' := fun h => by
    have := empty_any (cap := 3) (f3_row h) (by omega); rwa [aw_emp] at this
  have HC := Hid.mk (And.intro @hC @hE)
  clear hC hE
  go_enter Try.func10, Try.ntmps10
  go_upto_region 2 with fail
  have r0 : Row (w.alloc (.cells #[.int .i64 0, .int .i64 8, .int .i64 8, .int .i64 0, .int .i64 0, .int .i64 6, .int .i64 8, .int .i64 1, .int .i64 0, .int .i64 2, .int .i64 8, .int .i64 1] 27)) w.heap.size 27 .i64 [0, 8, 8, 0, 0, 6, 8, 1, 0, 2, 8, 1] := Row.fresh w 27 .i64 [0, 8, 8, 0, 0, 6, 8, 1, 0, 2, 8, 1]
  have b0 := (Below.refl w.heap.size w).alloc (Nat.le_refl _) (.cells #[.int .i64 0, .int .i64 8, .int .i64 8, .int .i64 0, .int .i64 0, .int .i64 6, .int .i64 8, .int .i64 1, .int .i64 0, .int .i64 2, .int .i64 8, .int .i64 1] 27)
  generalize (w.alloc (.cells #[.int .i64 0, .int .i64 8, .int .i64 8, .int .i64 0, .int .i64 0, .int .i64 6, .int .i64 8, .int .i64 1, .int .i64 0, .int .i64 2, .int .i64 8, .int .i64 1] 27)) = W at *
  have HS := Hid.mk (And.intro r0 b0)
  clear r0 b0
  go_wp2_with (first
    | (go_at_call 11; refine (HC.out.1 HS.out.1 _ _ (by first | exact .inl rfl | exact .inr rfl)).mono ?_; rintro e w1 ⟨rfl, b1⟩; replace HS := Hid.mk (And.intro (HS.out.1.call b1) (below3 HS.out.2 b1)); clear b1)
    | (go_at_call 12; refine (HC.out.2 HS.out.1).mono ?_; rintro e w2 ⟨rfl, b1⟩; replace HS := Hid.mk (And.intro (HS.out.1.call b1) (below3 HS.out.2 b1)); clear b1))
  go_ret
  exact ⟨rfl, HS.out.2⟩
end Go.Proofs.Ytfaaoogdmfllbaa
