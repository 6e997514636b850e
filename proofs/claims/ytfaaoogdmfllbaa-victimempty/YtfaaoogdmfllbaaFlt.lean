/-
  What the calls of math, cmp and package score do that compare floats: they leave the world as it was. Condition: a float has 64 bits.
-/
import Derived.Test.YtfaaoogdmfllbaaRows
import Derived.Test.YtfaaoogdmfllbaaNum
import Derived.WalkKit
import Derived.WalkSpells
import Derived.WalkLawsBesides
import Derived.Laws.BitsAllLaws
namespace Go.Proofs.Ytfaaoogdmfllbaa
open Go.RowKit

@[go_sem] theorem run_bits (x : Nat) (w : World) : (callFunc 20 #[.float .f64 x]).run Try.prog w = .ok (.value (.int .u64 x)) w := by
  rw [run_callFunc_extern (e := Extern.MathFloatBits.float64bits) Try.func20 (by decide) (by kernel_rfl) (by kernel_rfl) (by kernel_rfl)]
  rfl
@[go_sem] theorem run_frombits (x : Int) (w : World) : (callFunc 18 #[.int .u64 x]).run Try.prog w = .ok (.value (.float .f64 x.toNat)) w := by
  rw [run_callFunc_extern (e := Extern.MathFloatBits.float64frombits) Try.func18 (by decide) (by kernel_rfl) (by kernel_rfl) (by kernel_rfl)]
  rfl

theorem nan_ask (x : Nat) : (Ieee.double.order x x != some .eq) = nanB x := by
  rw [order_is]
  cases h : nanB x
  · simp
  · rfl
theorem isNaN_any (x : Nat) (w : World) :
    Calls Try.prog 8 #[.float .f64 x] w fun e w' => e = .returned (.bool (nanB x)) ∧ w' = w := by
  go_enter Try.func8, Try.ntmps8
  go_wp2
  all_goals (go_ret; exact ⟨by rw [← nan_ask]; rfl, rfl⟩)
theorem isNaN2_any (x : Nat) (w : World) :
    Calls Try.prog 19 #[.float .f64 x] w fun e w' => e = .returned (.bool (nanB x)) ∧ w' = w := by
  go_enter Try.func19, Try.ntmps19
  go_wp2
  all_goals (go_ret; exact ⟨by rw [← nan_ask]; rfl, rfl⟩)

theorem lt_is (x y : Nat) : (Ieee.double.order x y == some .lt) = (!nanB x && !nanB y && decide (key x < key y)) := by
  rw [order_is]
  cases nanB x <;> cases nanB y <;> simp [compare_int]
  split
  · simp_all
  · split <;> simp_all
theorem gt_is (x y : Nat) : (Ieee.double.order x y == some .gt) = (!nanB x && !nanB y && decide (key y < key x)) := by
  rw [order_is]
  cases nanB x <;> cases nanB y <;> simp [compare_int]
  split
  · simp_all; omega
  · split <;> simp_all
    omega
theorem eq_is (x y : Nat) : (Ieee.double.order x y == some .eq) = (!nanB x && !nanB y && decide (key x = key y)) := by
  rw [order_is]
  cases nanB x <;> cases nanB y <;> simp [compare_int]
  split
  · simp_all; omega
  · split <;> simp_all

theorem nan0 : nanB 0 = false := by kernel_rfl
theorem key0 : key 0 = 0 := by kernel_rfl
/-- cmp.Compare -/
def cmpF (x y : Nat) : Int :=
  if nanB x then (if nanB y then 0 else -1) else if nanB y then 1 else if key x < key y then -1 else if key y < key x then 1 else 0

set_option maxHeartbeats 400000 in
theorem compare_any (x y : Nat) (w : World) :
    Calls Try.prog 14 #[.float .f64 x, .float .f64 y] w fun e w' => e = .returned (.int .i64 (cmpF x y)) ∧ w' = w := by
  have hl := lt_is x y
  have hg := gt_is x y
  go_enter Try.func14, Try.ntmps14
  go_wp2_with (go_at_call 19; refine (isNaN2_any _ _).mono ?_; rintro e w' ⟨rfl, rfl⟩)
  all_goals go_ret
  all_goals refine ⟨?_, rfl⟩
  all_goals unfold cmpF
  all_goals simp_all [FloatKind.format]
  rw [if_neg (by omega), if_neg (by omega)]

def neg (x : Nat) : Bool := decide (9223372036854775808 ≤ x)
def oneF : Nat := 4607182418800017408
def lessOneF : Nat := 13830554455654793216
theorem and_top (y : Nat) (hy : y < 18446744073709551616) : y &&& 9223372036854775808 = if neg y then 9223372036854775808 else 0 := by
  have e : (9223372036854775808 : Nat) = 2 ^ 63 := by decide
  have h63 : y.testBit 63 = neg y := by
    rw [Nat.testBit_eq_decide_div_mod_eq]
    unfold neg
    by_cases h : 9223372036854775808 ≤ y
    · have : y / 2 ^ 63 % 2 = 1 := by omega
      simp [this, h]
    · have : y / 2 ^ 63 % 2 = 0 := by omega
      simp [this, h]
  apply Nat.eq_of_testBit_eq
  intro i
  rw [e, Nat.testBit_and, Nat.testBit_two_pow]
  by_cases hi : 63 = i
  · subst hi
    rw [h63]
    cases neg y
    · simp
    · rw [if_pos rfl, Nat.testBit_two_pow]
      rfl
  · cases neg y
    · simp [hi]
    · rw [if_pos rfl, Nat.testBit_two_pow]
      simp [hi]
/-- 1, with the sign of y -/
def oneOf (y : Nat) : Nat := if neg y then lessOneF else oneF
set_option maxHeartbeats 400000 in
theorem copysign_any (y : Nat) (w : World) (hy : y < 18446744073709551616) :
    Calls Try.prog 15 #[.float .f64 4607182418800017408, .float .f64 y] w fun e w' => e = .returned (.float .f64 (oneOf y)) ∧ w' = w := by
  go_enter Try.func15, Try.ntmps15
  go_wp2
  go_ret
  refine ⟨?_, rfl⟩
  have h1 : bits .andNot .u64 4607182418800017408 9223372036854775808 = 4607182418800017408 := by kernel_rfl
  have h2 := u64_and_nat y 9223372036854775808 hy (by omega)
  rw [and_top y hy] at h2
  change Ending.returned (Value.float FloatKind.f64 (bits BinOp.or IntKind.u64 (bits BinOp.andNot IntKind.u64 4607182418800017408 9223372036854775808) (bits BinOp.and IntKind.u64 (↑y) 9223372036854775808)).toNat) = _
  rw [h1, show bits BinOp.and IntKind.u64 (↑y) 9223372036854775808 = _ from h2]
  unfold oneOf
  cases neg y
  · exact congrArg (fun n => Ending.returned (Value.float FloatKind.f64 n)) (show (bits .or .u64 4607182418800017408 0).toNat = oneF by kernel_rfl)
  · exact congrArg (fun n => Ending.returned (Value.float FloatKind.f64 n)) (show (bits .or .u64 4607182418800017408 9223372036854775808).toNat = lessOneF by kernel_rfl)

def zeroB (x : Nat) : Bool := Ieee.double.order x 0 == some .eq
/-- the order of floats -/
def ordF (a b : Nat) : Int := if zeroB a && zeroB b then cmpF (oneOf a) (oneOf b) else cmpF a b
set_option maxHeartbeats 400000 in
theorem order_any (a b : Nat) (w : World) (ha : a < 18446744073709551616) (hb : b < 18446744073709551616) :
    Calls Try.prog 9 #[.float .f64 a, .float .f64 b] w fun e w' => e = .returned (.int .i64 (ordF a b)) ∧ w' = w := by
  have h1 : (FloatKind.f64.format.order a 0 == some .eq) = zeroB a := rfl
  have h2 : (FloatKind.f64.format.order b 0 == some .eq) = zeroB b := rfl
  go_enter Try.func9, Try.ntmps9
  go_wp2_with (first | (go_at_call 14; refine (compare_any _ _ _).mono ?_; rintro e w' ⟨rfl, rfl⟩) | (go_at_call 15; refine (copysign_any _ _ (by assumption)).mono ?_; rintro e w' ⟨rfl, rfl⟩))
  all_goals (go_ret; refine ⟨?_, rfl⟩)
  all_goals unfold ordF
  all_goals simp_all

end Go.Proofs.Ytfaaoogdmfllbaa
