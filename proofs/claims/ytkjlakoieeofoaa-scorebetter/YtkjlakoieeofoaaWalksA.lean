/-
  What the calls of math, cmp and package score do that compare floats: they leave the world as it was. Condition: a float has 64 bits.
-/
import Derived.Test.YtkjlakoieeofoaaRows
import Derived.Test.YtkjlakoieeofoaaNum
import Derived.WalkKit
import Derived.WalkSpells
import Derived.WalkLawsBesides
import Derived.Laws.BitsAllLaws
namespace Go.Proofs.Ytkjlakoieeofoaa
open Go.RowKit

@[go_sem] theorem run_bits (x : Nat) (w : World) : (callFunc 25 #[.float .f64 x]).run Try.prog w = .ok (.value (.int .u64 x)) w := by
  rw [run_callFunc_extern (e := Extern.MathFloatBits.float64bits) Try.func25 (by decide) (by kernel_rfl) (by kernel_rfl) (by kernel_rfl)]
  rfl
@[go_sem] theorem run_frombits (x : Int) (w : World) : (callFunc 23 #[.int .u64 x]).run Try.prog w = .ok (.value (.float .f64 x.toNat)) w := by
  rw [run_callFunc_extern (e := Extern.MathFloatBits.float64frombits) Try.func23 (by decide) (by kernel_rfl) (by kernel_rfl) (by kernel_rfl)]
  rfl

theorem nan_ask (x : Nat) : (Ieee.double.order x x != some .eq) = nanB x := by
  rw [order_is]
  cases h : nanB x
  · simp
  · rfl
theorem isNaN_any (x : Nat) (w : World) :
    Calls Try.prog 11 #[.float .f64 x] w fun e w' => e = .returned (.bool (nanB x)) ∧ w' = w := by
  go_enter Try.func11, Try.ntmps11
  go_wp2
  all_goals (go_ret; exact ⟨by rw [← nan_ask]; rfl, rfl⟩)
theorem isNaN2_any (x : Nat) (w : World) :
    Calls Try.prog 24 #[.float .f64 x] w fun e w' => e = .returned (.bool (nanB x)) ∧ w' = w := by
  go_enter Try.func24, Try.ntmps24
  go_wp2
  all_goals (go_ret; exact ⟨by rw [← nan_ask]; rfl, rfl⟩)

theorem lt_is (x y : Nat) : (Ieee.double.order x y == some .lt) = (!nanB x && !nanB y && decide (key x < key y)) := by
  rw [order_is]
  cases nanB x <;> cases nanB y <;> simp [compare_int]
  split
  · simp_all
  · split <;> simp_all
theorem gt_is (x y : Nat) : (Ieee.double.order x y == some .gt) = (!nanB x && !nanB y && decide (key y < key x)) := by
  rw [order_is]
  cases nanB x <;> cases nanB y <;> simp [compare_int]
  split
  · simp_all; omega
  · split <;> simp_all
    omega
theorem eq_is (x y : Nat) : (Ieee.double.order x y == some .eq) = (!nanB x && !nanB y && decide (key x = key y)) := by
  rw [order_is]
  cases nanB x <;> cases nanB y <;> simp [compare_int]
  split
  · simp_all; omega
  · split <;> simp_all

theorem nan0 : nanB 0 = false := by kernel_rfl
theorem key0 : key 0 = 0 := by kernel_rfl
/-- cmp.Compare -/
def cmpF (x y : Nat) : Int :=
  if nanB x then (if nanB y then 0 else -1) else if nanB y then 1 else if key x < key y then -1 else if key y < key x then 1 else 0

set_option maxHeartbeats 400000 in
theorem compare_any (x y : Nat) (w : World) :
    Calls Try.prog 19 #[.float .f64 x, .float .f64 y] w fun e w' => e = .returned (.int .i64 (cmpF x y)) ∧ w' = w := by
  have hl := lt_is x y
  have hg := gt_is x y
  go_enter Try.func19, Try.ntmps19
  go_wp2_with (go_at_call 24; refine (isNaN2_any _ _).mono ?_; rintro e w' ⟨rfl, rfl⟩)
  all_goals go_ret
  all_goals refine ⟨?_, rfl⟩
  all_goals unfold cmpF
  all_goals simp_all [FloatKind.format]
  rw [if_neg (by omega), if_neg (by omega)]

def neg (x : Nat) : Bool := decide (9223372036854775808 ≤ x)
def oneF : Nat := 4607182418800017408
def lessOneF : Nat := 13830554455654793216
theorem and_top (y : Nat) (hy : y < 18446744073709551616) : y &&& 9223372036854775808 = if neg y then 9223372036854775808 else 0 := by
  have e : (9223372036854775808 : Nat) = 2 ^ 63 := by decide
  have h63 : y.testBit 63 = neg y := by
    rw [Nat.testBit_eq_decide_div_mod_eq]
    unfold neg
    by_cases h : 9223372036854775808 ≤ y
    · have : y / 2 ^ 63 % 2 = 1 := by omega
      simp [this, h]
    · have : y / 2 ^ 63 % 2 = 0 := by omega
      simp [this, h]
  apply Nat.eq_of_testBit_eq
  intro i
  rw [e, Nat.testBit_and, Nat.testBit_two_pow]
  by_cases hi : 63 = i
  · subst hi
    rw [h63]
    cases neg y
    · simp
    · rw [if_pos rfl, Nat.testBit_two_pow]
      rfl
  · cases neg y
    · simp [hi]
    · rw [if_pos rfl, Nat.testBit_two_pow]
      simp [hi]
/-- 1, with the sign of y -/
def oneOf (y : Nat) : Nat := if neg y then lessOneF else oneF
set_option maxHeartbeats 400000 in
theorem copysign_any (y : Nat) (w : World) (hy : y < 18446744073709551616) :
    Calls Try.prog 20 #[.float .f64 4607182418800017408, .float .f64 y] w fun e w' => e = .returned (.float .f64 (oneOf y)) ∧ w' = w := by
  go_enter Try.func20, Try.ntmps20
  go_wp2
  go_ret
  refine ⟨?_, rfl⟩
  have h1 : bits .andNot .u64 4607182418800017408 9223372036854775808 = 4607182418800017408 := by kernel_rfl
  have h2 := u64_and_nat y 9223372036854775808 hy (by omega)
  rw [and_top y hy] at h2
  change Ending.returned (Value.float FloatKind.f64 (bits BinOp.or IntKind.u64 (bits BinOp.andNot IntKind.u64 4607182418800017408 9223372036854775808) (bits BinOp.and IntKind.u64 (↑y) 9223372036854775808)).toNat) = _
  rw [h1, show bits BinOp.and IntKind.u64 (↑y) 9223372036854775808 = _ from h2]
  unfold oneOf
  cases neg y
  · exact congrArg (fun n => Ending.returned (Value.float FloatKind.f64 n)) (show (bits .or .u64 4607182418800017408 0).toNat = oneF by kernel_rfl)
  · exact congrArg (fun n => Ending.returned (Value.float FloatKind.f64 n)) (show (bits .or .u64 4607182418800017408 9223372036854775808).toNat = lessOneF by kernel_rfl)

set_option maxHeartbeats 400000 in
theorem signbit_any (y : Nat) (w : World) (hy : y < 18446744073709551616) :
    Calls Try.prog 21 #[.float .f64 y] w fun e w' => e = .returned (.bool (neg y)) ∧ w' = w := by
  go_enter Try.func21, Try.ntmps21
  go_wp2
  go_ret
  refine ⟨?_, rfl⟩
  change Ending.returned (Value.bool (decide (wrap64 ↑y < 0))) = _
  congr 2
  unfold neg
  have : (wrap64 (y : Int) < 0) ↔ 9223372036854775808 ≤ y := by
    unfold wrap64
    omega
  simp only [this]

set_option maxHeartbeats 400000 in
theorem abs_any (y : Nat) (w : World) (hy : y < 18446744073709551616) :
    Calls Try.prog 22 #[.float .f64 y] w fun e w' => e = .returned (.float .f64 (y % 9223372036854775808)) ∧ w' = w := by
  go_enter Try.func22, Try.ntmps22
  go_wp2
  go_ret
  refine ⟨?_, rfl⟩
  have h1 := u64_andNot_nat y 9223372036854775808 hy (by omega)
  have h2 : y &&& (18446744073709551615 - 9223372036854775808) = y % 9223372036854775808 := Nat.and_two_pow_sub_one_eq_mod y 63
  rw [h2] at h1
  change Ending.returned (Value.float FloatKind.f64 (bits BinOp.andNot IntKind.u64 (↑y) 9223372036854775808).toNat) = _
  rw [show bits BinOp.andNot IntKind.u64 (↑y) 9223372036854775808 = _ from h1]
  rfl

/-- no end, whatever the sign -/
def infB (x : Nat) : Bool := Ieee.double.order (x % 9223372036854775808) 9218868437227405311 == some .gt
set_option maxHeartbeats 400000 in
theorem isInf_any (y : Nat) (w : World) (hy : y < 18446744073709551616) :
    Calls Try.prog 15 #[.float .f64 y, .int .i64 0] w fun e w' => e = .returned (.bool (infB y)) ∧ w' = w := by
  go_enter Try.func15, Try.ntmps15
  go_wp2_with (go_at_call 22; refine (abs_any _ _ (by assumption)).mono ?_; rintro e w' ⟨rfl, rfl⟩)
  all_goals (go_ret; exact ⟨rfl, rfl⟩)
set_option maxHeartbeats 400000 in
theorem isInfUp_any (y : Nat) (w : World) :
    Calls Try.prog 15 #[.float .f64 y, .int .i64 1] w fun e w' => e = .returned (.bool (Ieee.double.order y 9218868437227405311 == some .gt)) ∧ w' = w := by
  go_enter Try.func15, Try.ntmps15
  go_wp2
  all_goals (go_ret; exact ⟨rfl, rfl⟩)

def zeroB (x : Nat) : Bool := Ieee.double.order x 0 == some .eq
/-- the order of floats -/
def ordF (a b : Nat) : Int := if zeroB a && zeroB b then cmpF (oneOf a) (oneOf b) else cmpF a b
set_option maxHeartbeats 400000 in
theorem order_any (a b : Nat) (w : World) (ha : a < 18446744073709551616) (hb : b < 18446744073709551616) :
    Calls Try.prog 12 #[.float .f64 a, .float .f64 b] w fun e w' => e = .returned (.int .i64 (ordF a b)) ∧ w' = w := by
  have h1 : (FloatKind.f64.format.order a 0 == some .eq) = zeroB a := rfl
  have h2 : (FloatKind.f64.format.order b 0 == some .eq) = zeroB b := rfl
  go_enter Try.func12, Try.ntmps12
  go_wp2_with (first | (go_at_call 19; refine (compare_any _ _ _).mono ?_; rintro e w' ⟨rfl, rfl⟩) | (go_at_call 20; refine (copysign_any _ _ (by assumption)).mono ?_; rintro e w' ⟨rfl, rfl⟩))
  all_goals (go_ret; refine ⟨?_, rfl⟩)
  all_goals unfold ordF
  all_goals simp_all

set_option maxHeartbeats 400000 in
theorem place_any (f : Nat) (w : World) (hf : f < 18446744073709551616) :
    Calls Try.prog 13 #[.float .f64 f] w fun e w' => (∃ (k : Int) (v : Nat), e = .returned (.tuple #[.int .i64 k, .float .f64 v]) ∧
      (nanB f = true ∧ k = 0 ∧ v = 0 ∨ nanB f = false ∧ key f < 0 ∧ k = 1 ∧ v = f ∨ nanB f = false ∧ key f = 0 ∧ neg f = true ∧ k = 2 ∧ v = 0 ∨ nanB f = false ∧ key f = 0 ∧ neg f = false ∧ k = 3 ∧ v = 0 ∨ nanB f = false ∧ 0 < key f ∧ k = 4 ∧ v = f)) ∧ w' = w := by
  have h1 : (FloatKind.f64.format.order f 0 == some .lt) = (!nanB f && decide (key f < 0)) := by
    have := lt_is f 0
    rw [nan0, key0] at this
    simp only [Bool.not_false, Bool.and_true] at this
    exact this
  have h2 : (FloatKind.f64.format.order f 0 == some .eq) = (!nanB f && decide (key f = 0)) := by
    have := eq_is f 0
    rw [nan0, key0] at this
    simp only [Bool.not_false, Bool.and_true] at this
    exact this
  go_enter Try.func13, Try.ntmps13
  go_wp2_with (first | (go_at_call 11; refine (isNaN_any _ _).mono ?_; rintro e w' ⟨rfl, rfl⟩) | (go_at_call 21; refine (signbit_any _ _ (by assumption)).mono ?_; rintro e w' ⟨rfl, rfl⟩))
  all_goals (go_ret2; refine ⟨⟨_, _, rfl, ?_⟩, rfl⟩)
  all_goals simp_all
  omega
end Go.Proofs.Ytkjlakoieeofoaa
