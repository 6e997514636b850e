/-
  The walk of the law ScoreOrder. Condition: a float has 64 bits.
-/
import Derived.Test.YtkjlakoieeofoaaWalksB
namespace Go.Proofs.Ytkjlakoieeofoaa
open Go.RowKit

/-- where a float stands: its kind, and its key within that -/
def kind (f : Nat) : Int := if nanB f then 0 else if key f < 0 then 1 else if key f = 0 then (if neg f then 2 else 3) else 4
def within (f : Nat) : Int := if nanB f then 0 else key f
theorem kind_range (f : Nat) : 0 ≤ kind f ∧ kind f ≤ 4 := by
  unfold kind
  repeat' split
  all_goals omega
theorem zero_is (a : Nat) : zeroB a = (!nanB a && decide (key a = 0)) := by
  have := eq_is a 0
  rw [nan0, key0] at this
  simp only [Bool.not_false, Bool.and_true] at this
  exact this
theorem ordF_facts (a b : Nat) : (ordF a b = -1 ∧ (kind a < kind b ∨ kind a = kind b ∧ within a < within b)) ∨ (ordF a b = 1 ∧ (kind b < kind a ∨ kind a = kind b ∧ within b < within a)) ∨ (ordF a b = 0 ∧ kind a = kind b ∧ within a = within b) := by
  by_cases hz : zeroB a = true ∧ zeroB b = true
  · have ho : ordF a b = cmpF (oneOf a) (oneOf b) := by unfold ordF; rw [hz.1, hz.2]; rfl
    rw [zero_is, zero_is] at hz
    simp only [Bool.and_eq_true, Bool.not_eq_true', decide_eq_true_eq] at hz
    rw [ho]
    unfold oneOf kind within
    simp only [hz.1.1, hz.1.2, hz.2.1, hz.2.2]
    cases neg a <;> cases neg b
    · rw [show cmpF (if false = true then lessOneF else oneF) (if false = true then lessOneF else oneF) = 0 by kernel_rfl]; simp
    · rw [show cmpF (if false = true then lessOneF else oneF) (if true = true then lessOneF else oneF) = 1 by kernel_rfl]; simp
    · rw [show cmpF (if true = true then lessOneF else oneF) (if false = true then lessOneF else oneF) = -1 by kernel_rfl]; simp
    · rw [show cmpF (if true = true then lessOneF else oneF) (if true = true then lessOneF else oneF) = 0 by kernel_rfl]; simp
  · have ho : ordF a b = cmpF a b := by
      unfold ordF
      rw [if_neg]
      simpa using hz
    rw [zero_is, zero_is] at hz
    simp only [Bool.and_eq_true, Bool.not_eq_true', decide_eq_true_eq] at hz
    rw [ho]
    unfold cmpF kind within
    cases ha : nanB a <;> cases hb : nanB b <;> simp only [Bool.false_eq_true, if_false, if_true]
    · rw [ha, hb] at hz
      simp only [true_and] at hz
      have : ∀ (x y : Bool), (if x then (2 : Int) else 3) ≤ 3 ∧ 2 ≤ (if x then (2 : Int) else 3) ∧ (if y then (2 : Int) else 3) ≤ 3 ∧ 2 ≤ (if y then (2 : Int) else 3) := by intro x y; cases x <;> cases y <;> simp
      have := this (neg a) (neg b)
      generalize (if neg a = true then (2 : Int) else 3) = p at *
      generalize (if neg b = true then (2 : Int) else 3) = q at *
      generalize key a = x at *
      generalize key b = y at *
      repeat' split
      all_goals omega
    · have : 0 < (if key a < 0 then (1 : Int) else if key a = 0 then if neg a = true then 2 else 3 else 4) := by
        repeat' split
        all_goals decide
      exact .inr (.inl ⟨trivial, .inl this⟩)
    · have : 0 < (if key b < 0 then (1 : Int) else if key b = 0 then if neg b = true then 2 else 3 else 4) := by
        repeat' split
        all_goals decide
      exact .inl ⟨trivial, .inl this⟩
    · exact .inr (.inr ⟨trivial, trivial, trivial⟩)

theorem place2_any (f : Nat) (w : World) (hf : f < 18446744073709551616) :
    Calls Try.prog 13 #[.float .f64 f] w fun e w' => (∃ (v : Nat), e = .returned (.tuple #[.int .i64 (kind f), .float .f64 v]) ∧ nanB v = false ∧ key v = within f) ∧ w' = w := by
  refine (place_any f w hf).mono ?_
  rintro e w' ⟨⟨k, v, rfl, h⟩, rfl⟩
  refine ⟨⟨v, ?_, ?_⟩, rfl⟩
  · congr 4
    unfold kind
    rcases h with ⟨h1, rfl, rfl⟩ | ⟨h1, h2, rfl, rfl⟩ | ⟨h1, h2, h3, rfl, rfl⟩ | ⟨h1, h2, h3, rfl, rfl⟩ | ⟨h1, h2, rfl, rfl⟩
    · simp [h1]
    · simp [h1, h2]
    · simp [h1, h2, h3]
    · simp [h1, h2, h3]
    · simp [h1]; rw [if_neg (by omega), if_neg (by omega)]
  · unfold within
    rcases h with ⟨h1, rfl, rfl⟩ | ⟨h1, h2, rfl, rfl⟩ | ⟨h1, h2, h3, rfl, rfl⟩ | ⟨h1, h2, h3, rfl, rfl⟩ | ⟨h1, h2, rfl, rfl⟩ <;> simp_all [nan0, key0]
theorem ltv {x y : Nat} {i j : Int} (hx : nanB x = false ∧ key x = i) (hy : nanB y = false ∧ key y = j) : (FloatKind.f64.format.order x y == some .lt) = decide (i < j) := by
  have := lt_is x y
  rw [hx.1, hy.1, hx.2, hy.2] at this
  simp only [Bool.not_false, Bool.true_and] at this
  exact this
theorem gtv {x y : Nat} {i j : Int} (hx : nanB x = false ∧ key x = i) (hy : nanB y = false ∧ key y = j) : (FloatKind.f64.format.order x y == some .gt) = decide (j < i) := by
  have := gt_is x y
  rw [hx.1, hy.1, hx.2, hy.2] at this
  simp only [Bool.not_false, Bool.true_and] at this
  exact this

set_option maxHeartbeats 1000000 in
theorem scoreOrder_any (a b c : Nat) (w : World) (ha : a < 18446744073709551616) (hb : b < 18446744073709551616) (hc : c < 18446744073709551616) :
    Calls Try.prog 5 #[.float .f64 a, .float .f64 b, .float .f64 c] w fun e w' => e = .returned (.bool true) ∧ Below w.heap.size w w' := by
  have fba := ordF_facts b a
  have fac : ¬ 0 < ordF a b → ¬ 0 < ordF b c → ordF a c ≤ 0 := by
    have fab := ordF_facts a b
    have fbc := ordF_facts b c
    have fac := ordF_facts a c
    omega
  rcases ordF_facts a b with ⟨e1, h | ⟨h, h'⟩⟩ | ⟨e1, h | ⟨h, h'⟩⟩ | ⟨e1, h, h'⟩
  · have e2 : ordF b a = 1 := by omega
    clear fba
    go_enter Try.func5, Try.ntmps5
    go_wp2_with (first
      | (go_at_call 13; refine (place2_any _ _ (by assumption)).mono ?_; rintro e w' ⟨⟨v, rfl, hv⟩, rfl⟩)
      | (go_at_call 12; refine (order_any _ _ _ (by assumption) (by assumption)).mono ?_; rintro e w' ⟨rfl, rfl⟩)
      | (go_at_call 10; refine (awake_any _).mono ?_; rintro e w' ⟨rfl, hbl⟩))
    all_goals go_ret
    all_goals refine ⟨?_, hbl⟩
    all_goals first | rfl | skip
  · have e2 : ordF b a = 1 := by omega
    have d1 : decide (within a < within b) = true := by simpa using h'
    have d2 : decide (within b < within a) = false := by simp; omega
    clear fba
    go_enter Try.func5, Try.ntmps5
    go_wp2_with (first
      | (go_at_call 13; refine (place2_any _ _ (by assumption)).mono ?_; rintro e w' ⟨⟨v, rfl, hv⟩, rfl⟩; first | (have l1 := (ltv hva hv).trans d1; have g1 := (gtv hva hv).trans d2) | (have hva := hv))
      | (go_at_call 12; refine (order_any _ _ _ (by assumption) (by assumption)).mono ?_; rintro e w' ⟨rfl, rfl⟩)
      | (go_at_call 10; refine (awake_any _).mono ?_; rintro e w' ⟨rfl, hbl⟩))
    all_goals go_ret
    all_goals refine ⟨?_, hbl⟩
    all_goals first | rfl | skip
  · have e2 : ordF b a = -1 := by omega
    clear fba
    go_enter Try.func5, Try.ntmps5
    go_wp2_with (first
      | (go_at_call 13; refine (place2_any _ _ (by assumption)).mono ?_; rintro e w' ⟨⟨v, rfl, hv⟩, rfl⟩)
      | (go_at_call 12; refine (order_any _ _ _ (by assumption) (by assumption)).mono ?_; rintro e w' ⟨rfl, rfl⟩)
      | (go_at_call 10; refine (awake_any _).mono ?_; rintro e w' ⟨rfl, hbl⟩))
    all_goals go_ret
    all_goals refine ⟨?_, hbl⟩
    all_goals first | rfl | skip
  · have e2 : ordF b a = -1 := by omega
    have d1 : decide (within a < within b) = false := by simp; omega
    have d2 : decide (within b < within a) = true := by simpa using h'
    clear fba
    go_enter Try.func5, Try.ntmps5
    go_wp2_with (first
      | (go_at_call 13; refine (place2_any _ _ (by assumption)).mono ?_; rintro e w' ⟨⟨v, rfl, hv⟩, rfl⟩; first | (have l1 := (ltv hva hv).trans d1; have g1 := (gtv hva hv).trans d2) | (have hva := hv))
      | (go_at_call 12; refine (order_any _ _ _ (by assumption) (by assumption)).mono ?_; rintro e w' ⟨rfl, rfl⟩)
      | (go_at_call 10; refine (awake_any _).mono ?_; rintro e w' ⟨rfl, hbl⟩))
    all_goals go_ret
    all_goals refine ⟨?_, hbl⟩
    all_goals first | rfl | skip
  · have e2 : ordF b a = 0 := by omega
    have d1 : decide (within a < within b) = false := by simp; omega
    have d2 : decide (within b < within a) = false := by simp; omega
    clear fba
    go_enter Try.func5, Try.ntmps5
    go_wp2_with (first
      | (go_at_call 13; refine (place2_any _ _ (by assumption)).mono ?_; rintro e w' ⟨⟨v, rfl, hv⟩, rfl⟩; first | (have l1 := (ltv hva hv).trans d1; have g1 := (gtv hva hv).trans d2) | (have hva := hv))
      | (go_at_call 12; refine (order_any _ _ _ (by assumption) (by assumption)).mono ?_; rintro e w' ⟨rfl, rfl⟩)
      | (go_at_call 10; refine (awake_any _).mono ?_; rintro e w' ⟨rfl, hbl⟩))
    all_goals go_ret
    all_goals refine ⟨?_, hbl⟩
    all_goals first | rfl | skip
end Go.Proofs.Ytkjlakoieeofoaa
