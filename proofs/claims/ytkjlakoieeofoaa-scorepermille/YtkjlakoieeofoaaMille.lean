/-
  The walk of score.PerMille and of the law ScorePerMille. Condition: a float has 64 bits.
-/
import Derived.Test.YtkjlakoieeofoaaWalksB
import Derived.Test.YtkjlakoieeofoaaRound
namespace Go.Proofs.Ytkjlakoieeofoaa
open Go.RowKit
open Ieee

theorem read_thousand : double.read 4652007308841189376 = .number false 8796093022208000 (-43) := by decide +kernel
theorem read_million : double.read 4696837146684686336 = .number false 8589934592000000 (-33) := by decide +kernel
theorem key_million : key 4696837146684686336 = ((1000000 * 2 ^ 1074 : Nat) : Int) := by
  unfold key
  rw [read_million]
  decide +kernel
theorem million_nan : nanB 4696837146684686336 = false := by decide +kernel
/-- a number from 0 to a million, times 1000 -/
theorem mille_mul (f : Nat) (hn : nanB f = false) (h0 : 0 ≤ key f) (h1 : key f ≤ key 4696837146684686336) :
    ∃ r, floatBits .mul .f64 f 4652007308841189376 = some r ∧ ∃ n, floatToIntVal .f64 r .i64 = some n ∧ 0 ≤ n ∧ n ≤ 1000000000 := by
  rw [key_million] at h1
  have hx := read_fits f
  have hm : floatBits .mul .f64 f 4652007308841189376 = ((double.read f).product (.number false 8796093022208000 (-43))).map double.write := by
    rw [← read_thousand]
    rfl
  rw [hm]
  unfold nanB at hn
  unfold key at h0 h1
  obtain ⟨b, hb⟩ : ∃ b : Nat, b = 1074 := ⟨_, rfl⟩
  generalize double.read f = d at *
  rcases hx with ⟨s, t, rfl⟩ | ⟨s, rfl⟩ | ⟨s, m, i, rfl, hm1, hi, hi2⟩
  · cases hn
  · exfalso
    rw [← hb] at h1
    cases s
    · have h2 : 1000000 * 2 ^ b < 2 ^ (63 + b) := by
        rw [Nat.pow_add]
        exact Nat.mul_lt_mul_of_pos_right (by omega) (Nat.two_pow_pos _)
      have h3 : 2 ^ (63 + b) ≤ 2 ^ (tE + 55) := Nat.pow_le_pow_right (by omega) (by rw [tE_is]; omega)
      have h4 : ((2 ^ (tE + 55) : Nat) : Int) = top := by unfold top; rw [Int.natCast_pow]; rfl
      have h5 : top ≤ ((1000000 * 2 ^ b : Nat) : Int) := h1
      rw [← h4] at h5
      have h6 := Int.ofNat_le.1 h5
      omega
    · have h5 : 0 ≤ - top := h0
      have := top_pos
      omega
  · refine ⟨double.nearest (s ^^ false) (m * 8796093022208000) (i + -43), rfl, ?_⟩
    by_cases hz : m = 0
    · subst hz
      rw [Nat.zero_mul]
      have hk := nearest_zero (s ^^ false) (i + -43)
      exact toInt_le _ 1000000000 hk.2 (by rw [hk.1]; omega) (by rw [hk.1]; omega) (by omega)
    · have hs : s = false := by
        cases s
        · rfl
        · have h4 : 0 ≤ -((m <<< (i + 1074).toNat : Nat) : Int) := h0
          rw [Nat.shiftLeft_eq] at h4
          have h5 : m * 2 ^ (i + 1074).toNat = 0 := by omega
          exact absurd ((Nat.mul_eq_zero.1 h5).resolve_right (Nat.ne_of_gt (Nat.two_pow_pos _))) hz
      subst hs
      have hle : m * 2 ^ (i + 1074).toNat ≤ 1000000 * 2 ^ b := by
        rw [← hb] at h1
        have h4 : ((m <<< (i + 1074).toNat : Nat) : Int) ≤ ((1000000 * 2 ^ b : Nat) : Int) := h1
        rw [Nat.shiftLeft_eq] at h4
        exact Int.ofNat_le.1 h4
      obtain ⟨S, hS⟩ : ∃ S : Nat, S = 2000 := ⟨_, rfl⟩
      obtain ⟨K, E, k1, k2, k3⟩ := nearest_le (false ^^ false) (m * 8796093022208000) (i + -43) 1000000000 S (by omega) (by omega) (by omega) (by
        rw [← hb]
        have e1 : (i + -43 + 1074 + (S : Int)).toNat + 43 = (i + 1074).toNat + S := by omega
        have e2 : m * 8796093022208000 * 2 ^ (i + -43 + 1074 + (S : Int)).toNat = 1000 * (m * 2 ^ (i + 1074).toNat * 2 ^ S) := by
          rw [Nat.mul_assoc m (2 ^ (i + 1074).toNat), ← Nat.pow_add, ← e1, Nat.pow_add, show (8796093022208000 : Nat) = 1000 * 2 ^ 43 by decide]
          generalize 2 ^ (i + -43 + 1074 + (S : Int)).toNat = z
          generalize 2 ^ 43 = y
          rw [← Nat.mul_assoc, ← Nat.mul_assoc, Nat.mul_comm m 1000, Nat.mul_assoc, Nat.mul_assoc, Nat.mul_comm y z, Nat.mul_assoc]
        have e3 : 1000000000 * 2 ^ (b + S) = 1000 * (1000000 * 2 ^ b * 2 ^ S) := by
          rw [Nat.pow_add]
          generalize 2 ^ b = p
          generalize 2 ^ S = q
          rw [Nat.mul_assoc 1000000, ← Nat.mul_assoc 1000]
        rw [e2, e3]
        exact Nat.mul_le_mul_left _ (Nat.mul_le_mul_right _ hle))
      refine toInt_le _ 1000000000 k2 ?_ ?_ (by omega)
      · rw [k1]; exact Int.natCast_nonneg _
      · rw [k1]
        show ((K <<< E : Nat) : Int) ≤ _
        rw [Nat.shiftLeft_eq]
        exact Int.ofNat_le.2 k3

set_option maxHeartbeats 400000 in
theorem mille_in (f r : Nat) (n : Int) (w : World) (hr : floatBits .mul .f64 f 4652007308841189376 = some r) (hi : floatToIntVal .f64 r .i64 = some n)
    (h1 : (FloatKind.f64.format.order f 0 == some .gt || FloatKind.f64.format.order f 0 == some .eq) = true) (h2 : (FloatKind.f64.format.order f 4696837146684686336 == some .lt || FloatKind.f64.format.order f 4696837146684686336 == some .eq) = true) :
    Calls Try.prog 17 #[.float .f64 f] w fun e w' => e = .returned (.tuple #[.int .i64 n, .bool true]) ∧ w' = w := by
  have f1 : ∀ W, fval .mul f 4652007308841189376 W = r := fun W => by unfold fval; rw [hr]
  have f2 : fdr .mul f 4652007308841189376 = 0 := by unfold fdr; rw [hr]
  have f3 : ∀ W, (convert 24 3 (.float .f64 r)).run Try.prog W = .ok (.int .i64 n) W := fun W => run_convert_float_int W 24 3 .f64 .i64 r n (by kernel_rfl) Try.underlying3 hi
  clear hr hi
  go_enter Try.func17, Try.ntmps17
  go_wp2
  go_ret2
  exact ⟨rfl, rfl⟩
set_option maxHeartbeats 400000 in
theorem mille_low (f : Nat) (w : World) (h1 : (FloatKind.f64.format.order f 0 == some .gt || FloatKind.f64.format.order f 0 == some .eq) = false) :
    Calls Try.prog 17 #[.float .f64 f] w fun e w' => e = .returned (.tuple #[.int .i64 0, .bool false]) ∧ w' = w := by
  go_enter Try.func17, Try.ntmps17
  go_wp2
  go_ret2
  exact ⟨rfl, rfl⟩
set_option maxHeartbeats 400000 in
theorem mille_high (f : Nat) (w : World) (h1 : (FloatKind.f64.format.order f 0 == some .gt || FloatKind.f64.format.order f 0 == some .eq) = true) (h2 : (FloatKind.f64.format.order f 4696837146684686336 == some .lt || FloatKind.f64.format.order f 4696837146684686336 == some .eq) = false) :
    Calls Try.prog 17 #[.float .f64 f] w fun e w' => e = .returned (.tuple #[.int .i64 0, .bool false]) ∧ w' = w := by
  go_enter Try.func17, Try.ntmps17
  go_wp2
  go_ret2
  exact ⟨rfl, rfl⟩
set_option maxHeartbeats 400000 in
theorem law_low (f : Nat) (w : World) (h1 : (FloatKind.f64.format.order f 0 == some .gt || FloatKind.f64.format.order f 0 == some .eq) = false) :
    Calls Try.prog 8 #[.float .f64 f] w fun e w' => e = .returned (.bool true) ∧ Below w.heap.size w w' := by
  go_enter Try.func8, Try.ntmps8
  go_wp2_with (first
    | (go_at_call 17; refine (mille_low _ _ h1).mono ?_; rintro e w' ⟨rfl, rfl⟩)
    | (go_at_call 10; refine (awake_any _).mono ?_; rintro e w' ⟨rfl, hbA⟩))
  go_ret
  exact ⟨rfl, hbA⟩
set_option maxHeartbeats 400000 in
theorem law_high (f : Nat) (w : World) (h1 : (FloatKind.f64.format.order f 0 == some .gt || FloatKind.f64.format.order f 0 == some .eq) = true) (h2 : (FloatKind.f64.format.order f 4696837146684686336 == some .lt || FloatKind.f64.format.order f 4696837146684686336 == some .eq) = false) :
    Calls Try.prog 8 #[.float .f64 f] w fun e w' => e = .returned (.bool true) ∧ Below w.heap.size w w' := by
  go_enter Try.func8, Try.ntmps8
  go_wp2_with (first
    | (go_at_call 17; refine (mille_high _ _ h1 h2).mono ?_; rintro e w' ⟨rfl, rfl⟩)
    | (go_at_call 10; refine (awake_any _).mono ?_; rintro e w' ⟨rfl, hbA⟩))
  go_ret
  exact ⟨rfl, hbA⟩
set_option maxHeartbeats 400000 in
theorem law_in (f r : Nat) (n : Int) (w : World) (hr : floatBits .mul .f64 f 4652007308841189376 = some r) (hi : floatToIntVal .f64 r .i64 = some n) (hn0 : 0 ≤ n) (hn1 : n ≤ 1000000000)
    (h1 : (FloatKind.f64.format.order f 0 == some .gt || FloatKind.f64.format.order f 0 == some .eq) = true) (h2 : (FloatKind.f64.format.order f 4696837146684686336 == some .lt || FloatKind.f64.format.order f 4696837146684686336 == some .eq) = true) :
    Calls Try.prog 8 #[.float .f64 f] w fun e w' => e = .returned (.bool true) ∧ Below w.heap.size w w' := by
  have c := fun W => mille_in f r n W hr hi h1 h2
  have f1 : ∀ W, fval .mul f 4652007308841189376 W = r := fun W => by unfold fval; rw [hr]
  have f2 : fdr .mul f 4652007308841189376 = 0 := by unfold fdr; rw [hr]
  have f3 : ∀ W, (convert 24 3 (.float .f64 r)).run Try.prog W = .ok (.int .i64 n) W := fun W => run_convert_float_int W 24 3 .f64 .i64 r n (by kernel_rfl) Try.underlying3 hi
  clear hr hi
  go_enter Try.func8, Try.ntmps8
  go_wp2_with (first
    | (go_at_call 17; refine (c _).mono ?_; rintro e w' ⟨rfl, rfl⟩)
    | (go_at_call 10; refine (awake_any _).mono ?_; rintro e w' ⟨rfl, hbA⟩))
  go_ret
  exact ⟨rfl, below_drawn hbA 0⟩
theorem scorePerMille_any (f : Nat) (w : World) : Calls Try.prog 8 #[.float .f64 f] w fun e w' => e = .returned (.bool true) ∧ Below w.heap.size w w' := by
  cases h1 : (FloatKind.f64.format.order f 0 == some .gt || FloatKind.f64.format.order f 0 == some .eq)
  · exact law_low f w h1
  cases h2 : (FloatKind.f64.format.order f 4696837146684686336 == some .lt || FloatKind.f64.format.order f 4696837146684686336 == some .eq)
  · exact law_high f w h1 h2
  have g1 : (double.order f 0 == some .gt || double.order f 0 == some .eq) = true := h1
  have g2 : (double.order f 4696837146684686336 == some .lt || double.order f 4696837146684686336 == some .eq) = true := h2
  rw [gt_is, eq_is, nan0, key0] at g1
  rw [lt_is, eq_is, million_nan] at g2
  cases hn : nanB f
  · simp only [hn, Bool.not_false, Bool.true_and, Bool.or_eq_true, decide_eq_true_eq] at g1 g2
    obtain ⟨r, hr, n, hi, hn0, hn1⟩ := mille_mul f hn (by omega) (by omega)
    exact law_in f r n w hr hi hn0 hn1 h1 h2
  · simp [hn] at g1
end Go.Proofs.Ytkjlakoieeofoaa
