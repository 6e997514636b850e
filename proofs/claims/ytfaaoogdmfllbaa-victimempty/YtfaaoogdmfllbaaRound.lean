/-
  How far a number is from what is written of it: no more than half a step of its last digit. No condition.
-/
import Derived.Test.YtfaaoogdmfllbaaNum
namespace Go.Proofs.Ytfaaoogdmfllbaa
open Ieee

theorem cut_bounds (s : Bool) (n drop : Nat) :
    2 * (Toward.even.cut s n drop * 2 ^ drop) ≤ 2 * n + 2 ^ drop ∧ 2 * n ≤ 2 * (Toward.even.cut s n drop * 2 ^ drop) + 2 ^ drop := by
  unfold Toward.cut
  simp only [Nat.one_shiftLeft]
  by_cases h : drop ≤ n.log2 + 2
  · rw [Nat.min_eq_left h]
    have hg : 0 < 2 ^ drop := Nat.two_pow_pos _
    generalize 2 ^ drop = g at *
    have e := Nat.div_add_mod n g
    have hr := Nat.mod_lt n hg
    generalize n / g = low at *
    generalize n % g = rest at *
    have e1 : (low + 1) * g = g * low + g := by rw [Nat.add_mul, Nat.one_mul, Nat.mul_comm]
    have e0 : (low + 0) * g = g * low := by rw [Nat.add_zero, Nat.mul_comm]
    cases hb : (decide (g < 2 * rest) || (g == 2 * rest && low % 2 == 1))
    · have : 2 * rest ≤ g := by
        simp only [Bool.or_eq_false_iff, decide_eq_false_iff_not] at hb
        omega
      simp only [Bool.toNat_false]
      rw [e0]
      generalize g * low = q at *
      omega
    · have : g ≤ 2 * rest := by
        simp only [Bool.or_eq_true, decide_eq_true_eq, Bool.and_eq_true, beq_iff_eq] at hb
        omega
      simp only [Bool.toNat_true]
      rw [e1]
      generalize g * low = q at *
      omega
  · rw [Nat.min_eq_right (by omega)]
    have h1 : n < 2 ^ (n.log2 + 1) := Nat.lt_log2_self
    have h2 : 2 ^ (n.log2 + 2) ≤ 2 ^ drop := Nat.pow_le_pow_right (by omega) (by omega)
    have h3 : 2 ^ (n.log2 + 2) = 2 * 2 ^ (n.log2 + 1) := by rw [show n.log2 + 2 = (n.log2 + 1) + 1 from rfl, Nat.pow_succ 2 (n.log2 + 1), Nat.mul_comm]
    rw [Nat.div_eq_of_lt (by omega), Nat.mod_eq_of_lt (by omega)]
    have hb : (decide (2 ^ (n.log2 + 2) < 2 * n) || (2 ^ (n.log2 + 2) == 2 * n && 0 % 2 == 1)) = false := by
      simp
      omega
    rw [hb]
    simp only [Bool.toNat_false]
    omega

theorem key_rung (s : Bool) (E K : Nat) (hK : K ≤ 9007199254740992) (hE : E = 0 ∨ 4503599627370496 ≤ K) (hr : E * 4503599627370496 + K < 9218868437227405312) :
    key (double.word s (E * 4503599627370496 + K)) = signed s K E ∧ nanB (double.word s (E * 4503599627370496 + K)) = false := by
  have key' : ∀ d, double.read (double.word s (E * 4503599627370496 + K)) = d → keyD d = signed s K E → d.isNaN = false → key (double.word s (E * 4503599627370496 + K)) = signed s K E ∧ nanB (double.word s (E * 4503599627370496 + K)) = false := by
    intro d h1 h2 h3
    unfold key nanB
    rw [h1]
    exact ⟨h2, h3⟩
  generalize hR : E * 4503599627370496 + K = r at *
  have hneg : (double.word s r / 9223372036854775808 % 2 == 1) = s ∧ double.word s r % 9223372036854775808 = r := by
    unfold Format.word
    rw [sw_is]
    cases s
    · simp; omega
    · simp; omega
  have hread : double.read (double.word s r) = if r < 4503599627370496 then .number s r (-1074) else .number s (4503599627370496 + r % 4503599627370496) (-1074 + ((r / 4503599627370496 - 1 : Nat) : Int)) := by
    unfold Format.read
    simp only [sw_is, bin_is, inf_is, lp_is]
    rw [hneg.1, hneg.2]
    split
    · rfl
    · first | rfl | rw [if_pos hr]
  by_cases h : r < 4503599627370496
  · rw [if_pos h] at hread
    refine key' _ hread ?_ rfl
    have hE0 : E = 0 := by omega
    subst hE0
    have : r = K := by omega
    subst this
    rfl
  · rw [if_neg h] at hread
    refine key' _ hread ?_ rfl
    show signed s (4503599627370496 + r % 4503599627370496) (-1074 + ((r / 4503599627370496 - 1 : Nat) : Int) + 1074).toNat = signed s K E
    by_cases hk : K = 9007199254740992
    · have h1 : r % 4503599627370496 = 0 := by omega
      have h2 : r / 4503599627370496 = E + 2 := by omega
      rw [h1, h2]
      have h3 : (-1074 + ((E + 2 - 1 : Nat) : Int) + 1074).toNat = 1 + E := by omega
      rw [h3, Nat.add_comm 1 E, signed_eq, signed_eq, hk, Int.pow_succ]
      cases s <;> simp <;> omega
    · have h1 : r % 4503599627370496 = K - 4503599627370496 := by omega
      have h2 : r / 4503599627370496 = E + 1 := by omega
      rw [h1, h2]
      have h3 : (-1074 + ((E + 1 - 1 : Nat) : Int) + 1074).toNat = E := by omega
      have h4 : 4503599627370496 + (K - 4503599627370496) = K := by omega
      rw [h3, h4]

/-- what is written of a number that is not too great: the number itself, up to half a step -/
theorem nearest_core (s : Bool) (mag : Nat) (place : Int) (hm : mag ≠ 0) (hh : place + mag.log2 ≤ 1000) :
    ∃ (E K : Nat), key (double.nearest s mag place) = signed s K E ∧ nanB (double.nearest s mag place) = false ∧ (E : Int) = max (place + mag.log2 - 52) (-1074) + 1074 ∧
      ∀ S : Nat, 0 ≤ place + 1074 + S → 2 * (K * 2 ^ (E + S)) ≤ 2 * (mag * 2 ^ (place + 1074 + S).toNat) + 2 ^ (E + S) ∧ 2 * (mag * 2 ^ (place + 1074 + S).toNat) ≤ 2 * (K * 2 ^ (E + S)) + 2 ^ (E + S) := by
  have hlo : 2 ^ mag.log2 ≤ mag := Nat.log2_self_le hm
  have hup : mag < 2 ^ (mag.log2 + 1) := Nat.lt_log2_self
  generalize hL : mag.log2 = L at *
  obtain ⟨last, hlast⟩ : ∃ last : Int, last = max (place + L - 52) (-1074) := ⟨_, rfl⟩
  have hn : double.nearest s mag place = double.word s (min ((last + 1074).toNat * 4503599627370496 + Toward.even.cut s (mag <<< (place - last).toNat) (last - place).toNat) 9218868437227405312) := by
    unfold Format.nearest
    rw [if_neg hm]
    simp only [lp_is, bin_is, inf_is, hL]
    rw [show ((double.fractionBits : Nat) : Int) = 52 from rfl, ← hlast]
    rfl
  have hA : mag <<< (place - last).toNat = mag * 2 ^ (place - last).toNat := Nat.shiftLeft_eq ..
  rw [hA] at hn
  have hb := cut_bounds s (mag * 2 ^ (place - last).toNat) (last - place).toNat
  generalize Toward.even.cut s (mag * 2 ^ (place - last).toNat) (last - place).toNat = K at *
  generalize ha : (place - last).toNat = a at *
  generalize hD : (last - place).toNat = D at *
  obtain ⟨E, hE⟩ : ∃ E : Nat, (last + 1074).toNat = E := ⟨_, rfl⟩
  rw [hE] at hn
  have h2D : 0 < 2 ^ D := Nat.two_pow_pos _
  -- the digits kept
  have hK1 : K ≤ 9007199254740992 := by
    have h1 : mag * 2 ^ a < 2 ^ (L + 1 + a) := by rw [Nat.pow_add 2 (L + 1) a]; exact Nat.mul_lt_mul_of_pos_right hup (Nat.two_pow_pos _)
    have h2 : 2 ^ (L + 1 + a) ≤ 2 ^ (53 + D) := Nat.pow_le_pow_right (by omega) (by omega)
    have h3 : 2 ^ (53 + D) = 9007199254740992 * 2 ^ D := by rw [Nat.pow_add]
    have h4 : 2 * (K * 2 ^ D) < 2 * (9007199254740992 * 2 ^ D) + 2 ^ D := by omega
    have h5 : (2 * K) * 2 ^ D < (2 * 9007199254740992 + 1) * 2 ^ D := by
      rw [Nat.mul_assoc, Nat.add_mul, Nat.mul_assoc, Nat.one_mul]
      exact h4
    have := Nat.lt_of_mul_lt_mul_right h5
    omega
  have hK2 : E = 0 ∨ 4503599627370496 ≤ K := by
    by_cases h0 : last = -1074
    · left; omega
    · right
      have h1 : 2 ^ (L + a) ≤ mag * 2 ^ a := by rw [Nat.pow_add]; exact Nat.mul_le_mul_right _ hlo
      have h2 : 2 ^ (L + a) = 4503599627370496 * 2 ^ D := by rw [show L + a = 52 + D by omega, Nat.pow_add]
      have h4 : 2 * (4503599627370496 * 2 ^ D) ≤ 2 * (K * 2 ^ D) + 2 ^ D := by omega
      have h5 : (2 * 4503599627370496) * 2 ^ D ≤ (2 * K + 1) * 2 ^ D := by
        rw [Nat.mul_assoc, Nat.add_mul, Nat.mul_assoc, Nat.one_mul]
        exact h4
      have := Nat.le_of_mul_le_mul_right h5 h2D
      omega
  have hr : E * 4503599627370496 + K < 9218868437227405312 := by
    have : E ≤ 2022 := by omega
    omega
  rw [Nat.min_eq_left (Nat.le_of_lt hr)] at hn
  have hk := key_rung s E K hK1 hK2 hr
  rw [← hn] at hk
  refine ⟨E, K, hk.1, hk.2, by omega, fun S hS => ?_⟩
  obtain ⟨p, hp⟩ : ∃ p : Nat, (place + 1074 + S).toNat = p := ⟨_, rfl⟩
  rw [hp]
  have hx : mag * 2 ^ a * 2 ^ (E + S) = mag * 2 ^ p * 2 ^ D := by
    rw [Nat.mul_assoc, Nat.mul_assoc, ← Nat.pow_add, ← Nat.pow_add, show a + (E + S) = p + D by omega]
  have hu : 0 < 2 ^ (E + S) := Nat.two_pow_pos _
  have m1 := Nat.mul_le_mul_right (2 ^ (E + S)) hb.1
  have m2 := Nat.mul_le_mul_right (2 ^ (E + S)) hb.2
  generalize 2 ^ (E + S) = u at *
  generalize 2 ^ D = d at *
  generalize mag * 2 ^ p = X at *
  generalize mag * 2 ^ a = A at *
  have c1 : 2 * (K * d) * u = 2 * (K * u) * d := by rw [Nat.mul_assoc, Nat.mul_assoc, Nat.mul_assoc, Nat.mul_assoc, Nat.mul_comm d u]
  rw [Nat.add_mul, Nat.mul_assoc 2 A u] at m1
  rw [Nat.add_mul, Nat.mul_assoc 2 A u] at m2
  constructor
  · refine Nat.le_of_mul_le_mul_right (c := d) ?_ h2D
    rw [Nat.add_mul, Nat.mul_assoc 2 X d, ← hx, Nat.mul_comm u d, ← c1]
    exact m1
  · refine Nat.le_of_mul_le_mul_right (c := d) ?_ h2D
    rw [Nat.add_mul, Nat.mul_assoc 2 X d, ← hx, Nat.mul_comm u d, ← c1]
    exact m2

/-- a number up to a whole one is written as one up to it -/
theorem nearest_le (s : Bool) (mag : Nat) (place : Int) (B S : Nat) (hm : mag ≠ 0) (hB : B < 4503599627370496) (hS : 0 ≤ place + 1074 + S)
    (h : mag * 2 ^ (place + 1074 + S).toNat ≤ B * 2 ^ (1074 + S)) :
    ∃ K E : Nat, key (double.nearest s mag place) = signed s K E ∧ nanB (double.nearest s mag place) = false ∧ K * 2 ^ E ≤ B * 2 ^ 1074 := by
  obtain ⟨b, hb⟩ : ∃ b : Nat, b = 1074 := ⟨_, rfl⟩
  rw [← hb] at h ⊢
  have hlo : 2 ^ mag.log2 ≤ mag := Nat.log2_self_le hm
  -- so it is below 2 ^ 52
  have hlog : place + mag.log2 < 52 := by
    have h1 : 2 ^ (mag.log2 + (place + 1074 + S).toNat) ≤ B * 2 ^ (b + S) := Nat.le_trans (by rw [Nat.pow_add]; exact Nat.mul_le_mul_right _ hlo) h
    have h2 : B * 2 ^ (b + S) < 2 ^ (52 + (b + S)) := by
      rw [Nat.pow_add 2 52]
      exact Nat.mul_lt_mul_of_pos_right hB (Nat.two_pow_pos _)
    have h3 := (Nat.pow_lt_pow_iff_right (a := 2) (by omega)).1 (Nat.lt_of_le_of_lt h1 h2)
    omega
  obtain ⟨E, K, h1, h2, hE, hbd⟩ := nearest_core s mag place hm (by omega)
  refine ⟨K, E, h1, h2, ?_⟩
  have hEb : E ≤ b := by omega
  have g := (hbd S hS).1
  have e1 : B * 2 ^ (b + S) = B * 2 ^ (b - E) * 2 ^ (E + S) := by
    rw [Nat.mul_assoc, ← Nat.pow_add, show b - E + (E + S) = b + S by omega]
  have hu : 0 < 2 ^ (E + S) := Nat.two_pow_pos _
  have g2 : 2 * (K * 2 ^ (E + S)) ≤ 2 * (B * 2 ^ (b - E) * 2 ^ (E + S)) + 2 ^ (E + S) := by
    rw [e1] at h
    omega
  have g3 : K ≤ B * 2 ^ (b - E) := by
    generalize B * 2 ^ (b - E) = q at *
    generalize 2 ^ (E + S) = u at *
    have : 2 * K * u ≤ (2 * q + 1) * u := by
      rw [Nat.mul_assoc, Nat.add_mul, Nat.mul_assoc, Nat.one_mul]
      exact g2
    have := Nat.le_of_mul_le_mul_right this hu
    omega
  calc K * 2 ^ E ≤ B * 2 ^ (b - E) * 2 ^ E := Nat.mul_le_mul_right _ g3
    _ = B * 2 ^ b := by rw [Nat.mul_assoc, ← Nat.pow_add, show b - E + E = b by omega]

theorem nearest_zero (s : Bool) (place : Int) : key (double.nearest s 0 place) = 0 ∧ nanB (double.nearest s 0 place) = false := by
  unfold Format.nearest
  rw [if_pos rfl]
  cases s
  · exact ⟨by decide +kernel, by decide +kernel⟩
  · exact ⟨by decide +kernel, by decide +kernel⟩

/-- a float from 0 to a whole number is cut to a whole number up to it -/
theorem toInt_le (x B : Nat) (hn : nanB x = false) (h0 : 0 ≤ key x) (h1 : key x ≤ ((B * 2 ^ 1074 : Nat) : Int)) (hB : B < 9223372036854775807) :
    ∃ n : Int, floatToIntVal .f64 x .i64 = some n ∧ 0 ≤ n ∧ n ≤ B := by
  obtain ⟨b, hb⟩ : ∃ b : Nat, b = 1074 := ⟨_, rfl⟩
  rw [← hb] at h1
  have hx := read_fits x
  unfold floatToIntVal FloatKind.decode
  unfold nanB at hn
  unfold key at h0 h1
  have hf : FloatKind.f64.format.read x = double.read x := rfl
  rw [hf]
  generalize double.read x = d at *
  rcases hx with ⟨s, t, rfl⟩ | ⟨s, rfl⟩ | ⟨s, m, i, rfl, hm, hi, hi2⟩
  · cases hn
  · exfalso
    cases s
    · have h2 : B * 2 ^ b < 2 ^ (63 + b) := by
        rw [Nat.pow_add]
        exact Nat.mul_lt_mul_of_pos_right (by omega) (Nat.two_pow_pos _)
      have h3 : 2 ^ (63 + b) ≤ 2 ^ (tE + 55) := Nat.pow_le_pow_right (by omega) (by rw [tE_is]; omega)
      have h4 : ((2 ^ (tE + 55) : Nat) : Int) = top := by unfold top; rw [Int.natCast_pow]; rfl
      have h5 : top ≤ ((B * 2 ^ b : Nat) : Int) := h1
      rw [← h4] at h5
      have h6 := Int.ofNat_le.1 h5
      omega
    · have h5 : 0 ≤ - top := h0
      have := top_pos
      omega
  · have h2 : 0 ≤ signed s m (i + 1074).toNat := h0
    have h3 : signed s m (i + 1074).toNat ≤ ((B * 2 ^ b : Nat) : Int) := h1
    have hs : s = false ∨ m = 0 := by
      cases s
      · exact .inl rfl
      · right
        have h4 : 0 ≤ -((m <<< (i + 1074).toNat : Nat) : Int) := h2
        rw [Nat.shiftLeft_eq] at h4
        have h5 : m * 2 ^ (i + 1074).toNat = 0 := by omega
        exact (Nat.mul_eq_zero.1 h5).resolve_right (Nat.ne_of_gt (Nat.two_pow_pos _))
    have hle : m * 2 ^ (i + 1074).toNat ≤ B * 2 ^ b := by
      rcases hs with rfl | rfl
      · have h4 : ((m <<< (i + 1074).toNat : Nat) : Int) ≤ ((B * 2 ^ b : Nat) : Int) := h3
        rw [Nat.shiftLeft_eq] at h4
        exact Int.ofNat_le.1 h4
      · simp
    have hN : m * 2 ^ i.toNat ≤ B * 2 ^ (-i).toNat := by
      refine Nat.le_of_mul_le_mul_right (c := 2 ^ (b - (-i).toNat)) ?_ (Nat.two_pow_pos _)
      rw [Nat.mul_assoc, Nat.mul_assoc, ← Nat.pow_add, ← Nat.pow_add, show i.toNat + (b - (-i).toNat) = (i + 1074).toNat by omega, show (-i).toNat + (b - (-i).toNat) = b by omega]
      exact hle
    have hc : Toward.zero.cut s (m <<< i.toNat) (-i).toNat ≤ B := by
      rw [Nat.shiftLeft_eq]
      unfold Toward.cut
      simp only [Nat.one_shiftLeft, Bool.toNat_false, Nat.add_zero]
      generalize m * 2 ^ i.toNat = n at *
      generalize (-i).toNat = D at *
      by_cases h : D ≤ n.log2 + 2
      · rw [Nat.min_eq_left h]
        exact Nat.div_le_of_le_mul (by rw [Nat.mul_comm]; exact hN)
      · rw [Nat.min_eq_right (by omega)]
        have h1 : n < 2 ^ (n.log2 + 1) := Nat.lt_log2_self
        have h2 : 2 ^ (n.log2 + 1) ≤ 2 ^ (n.log2 + 2) := Nat.pow_le_pow_right (by omega) (by omega)
        rw [Nat.div_eq_of_lt (by omega)]
        exact Nat.zero_le _
    have hz : m = 0 → Toward.zero.cut s (m <<< i.toNat) (-i).toNat = 0 := by
      intro h
      subst h
      rw [Nat.shiftLeft_eq, Nat.zero_mul]
      unfold Toward.cut
      simp
    have ht : Datum.toInt Toward.zero (Datum.number s m i) = some (signed s (Toward.zero.cut s (m <<< i.toNat) (-i).toNat) 0) := rfl
    rw [ht]
    generalize Toward.zero.cut s (m <<< i.toNat) (-i).toNat = c at *
    have hv : signed s c 0 = c := by
      rcases hs with rfl | h
      · simp [signed]
      · rw [hz h]; cases s <;> rfl
    rw [hv]
    refine ⟨c, ?_, by omega, by omega⟩
    have e1 : IntKind.i64.min = -9223372036854775808 := rfl
    have e2 : IntKind.i64.max = 9223372036854775807 := rfl
    simp only [e1, e2]
    rw [if_pos (by omega)]
end Go.Proofs.Ytfaaoogdmfllbaa
