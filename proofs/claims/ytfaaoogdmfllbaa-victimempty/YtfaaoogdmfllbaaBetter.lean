/-
  Of blocks of as many pages, up to 32, written as long ago, the one of which fewer live is worth more: in floats. No condition.
-/
import Derived.Test.YtfaaoogdmfllbaaOpr
import Derived.Test.YtfaaoogdmfllbaaNear
namespace Go.Proofs.Ytfaaoogdmfllbaa
open Ieee

theorem pw16 : pw 16 = 65536 := rfl
theorem pw52 : pw 52 = 4503599627370496 := by decide
theorem below_top {k n : Nat} (h : k < pw n) (hn : n ≤ 2100) : k < topN := Nat.lt_of_lt_of_le h (pw_mono (by rw [tE_is]; omega))
theorem LU : 8 * ((pw 53 + 1) * ((pw 53 + 1) * (pw 54 + 1))) < 9 * ((pw 53 - 1) * ((pw 53 - 1) * (pw 54 - 1))) := by decide

/-- between whole numbers it stays between them -/
theorem nearest_range (mag : Nat) (place : Int) (B1 B2 : Nat) (hp : -1074 ≤ place) (hB : B2 < 4503599627370496) (hm : mag ≠ 0)
    (h1 : B1 * pw 1074 ≤ mag * pw (place + 1074).toNat) (h2 : mag * pw (place + 1074).toNat ≤ B2 * pw 1074) :
    ∃ k, Num (double.nearest false mag place) k ∧ B1 * pw 1074 ≤ k ∧ k ≤ B2 * pw 1074 := by
  have hlo := log_le hm
  obtain ⟨b, hb⟩ : ∃ b : Nat, b = 1074 := ⟨_, rfl⟩
  rw [← hb] at h1 h2 ⊢
  have hlog : place + mag.log2 < 52 := by
    have h3 : pw (mag.log2 + (place + 1074).toNat) ≤ B2 * pw b := Nat.le_trans (by rw [pw_add]; exact Nat.mul_le_mul_right _ hlo) h2
    have h4 : B2 * pw b < pw (52 + b) := by
      rw [pw_add, pw52]
      exact Nat.mul_lt_mul_of_pos_right hB (pw_pos _)
    have := pw_lt (Nat.lt_of_le_of_lt h3 h4)
    omega
  obtain ⟨E, K, k1, k2, hE, hbd⟩ := nearest_core false mag place hm (by omega)
  have hEb : E ≤ b := by omega
  obtain ⟨g1, g2⟩ := hbd 0 (by omega)
  rw [show (place + 1074 + ((0 : Nat) : Int)).toNat = (place + 1074).toNat by omega, Nat.add_zero, pw_is, pw_is] at g1 g2
  have e1 : ∀ B, B * pw b = B * pw (b - E) * pw E := fun B => by rw [Nat.mul_assoc, ← pw_add, show b - E + E = b by omega]
  have hu := pw_pos E
  rw [e1] at h1 h2
  generalize mag * pw (place + 1074).toNat = X at *
  have q1 : K ≤ B2 * pw (b - E) := by
    generalize B2 * pw (b - E) = q at *
    generalize pw E = u at *
    have : 2 * K * u ≤ (2 * q + 1) * u := by
      rw [Nat.mul_assoc, Nat.add_mul, Nat.mul_assoc, Nat.one_mul]
      omega
    have := Nat.le_of_mul_le_mul_right this hu
    omega
  have q2 : B1 * pw (b - E) ≤ K := by
    generalize B1 * pw (b - E) = q at *
    generalize pw E = u at *
    have : 2 * q * u ≤ (2 * K + 1) * u := by
      rw [Nat.mul_assoc, Nat.add_mul, Nat.mul_assoc, Nat.one_mul]
      omega
    have := Nat.le_of_mul_le_mul_right this hu
    omega
  have r1 : K * pw E ≤ B2 * pw b := by rw [e1]; exact Nat.mul_le_mul_right _ q1
  refine ⟨K * pw E, ⟨k2, by rw [k1, signed_pos], ?_⟩, by rw [e1]; exact Nat.mul_le_mul_right _ q2, r1⟩
  refine below_top (n := 52 + b) (Nat.lt_of_le_of_lt r1 ?_) (by omega)
  rw [pw_add, pw52]
  exact Nat.mul_lt_mul_of_pos_right hB (pw_pos _)

theorem read_one : double.read oneF = .number false 4503599627370496 (-52) := by decide +kernel
/-- an age, and one more -/
theorem add_one (age : Nat) (h : age < 65536) : ∃ v k, floatBits .add .f64 (floatOfInt .f64 (age : Int)) oneF = some v ∧ Num v k ∧ pw 1074 ≤ k ∧ k ≤ 65536 * pw 1074 := by
  have hx : floatOfInt .f64 (age : Int) = double.nearest false age 0 := by
    show double.nearest (decide ((age : Int) < 0)) ((age : Int).natAbs) 0 = _
    rw [decide_eq_false (by omega), Int.natAbs_natCast]
  obtain ⟨kx, hkx, hle⟩ : ∃ kx, Num (double.nearest false age 0) kx ∧ kx ≤ 65535 * pw 1074 := by
    by_cases hz : age = 0
    · subst hz
      exact ⟨0, zero_num _ _, Nat.zero_le _⟩
    · obtain ⟨k, a, b, c⟩ := nearest_range age 0 0 65535 (by omega) (by omega) hz (by rw [Nat.zero_mul]; exact Nat.zero_le _) (by
        rw [show ((0 : Int) + 1074).toNat = 1074 from rfl]
        exact Nat.mul_le_mul_right _ (by omega))
      exact ⟨k, a, c⟩
  obtain ⟨s, m, i, e1, hm, hi1, hi2, hk, hs⟩ := hkx.read
  rw [hx]
  obtain ⟨base, hbase⟩ : ∃ base, base = min i (-52) := ⟨_, rfl⟩
  obtain ⟨A, hA⟩ : ∃ A : Nat, A = m * pw (i - base).toNat + 4503599627370496 * pw (-52 - base).toNat := ⟨_, rfl⟩
  have hA0 : A ≠ 0 := by
    have := Nat.mul_pos (show 0 < 4503599627370496 by omega) (pw_pos (-52 - base).toNat)
    omega
  have hsum : floatBits .add .f64 (double.nearest false age 0) oneF = some (double.nearest false A base) := by
    show ((double.read (double.nearest false age 0)).sum (double.read oneF)).map double.write = _
    rw [e1, read_one]
    have ht : signed s m (i - base).toNat + signed false 4503599627370496 (-52 - base).toNat = (A : Int) := by
      rw [signed_pos, hA]
      rcases hs with rfl | rfl
      · rw [signed_pos]
        omega
      · have : signed s 0 (i - base).toNat = 0 := by rw [signed_eq]; simp
        rw [this, Nat.zero_mul]
        omega
    show (some (Datum.number (if signed s m (i - min i (-52)).toNat + signed false 4503599627370496 (-52 - min i (-52)).toNat = 0 then s && false else decide (signed s m (i - min i (-52)).toNat + signed false 4503599627370496 (-52 - min i (-52)).toNat < 0)) (signed s m (i - min i (-52)).toNat + signed false 4503599627370496 (-52 - min i (-52)).toNat).natAbs (min i (-52)))).map double.write = _
    rw [← hbase, ht, if_neg (by omega), decide_eq_false (by omega), Int.natAbs_natCast]
    rfl
  have hX : A * pw (base + 1074).toNat = kx + pw 1074 := by
    rw [hA, Nat.add_mul, Nat.mul_assoc, Nat.mul_assoc, ← pw_add, ← pw_add, hk, ← pw52, ← pw_add]
    rw [show (i - base).toNat + (base + 1074).toNat = (i + 1074).toNat by omega, show 52 + ((-52 - base).toNat + (base + 1074).toNat) = 1074 by omega]
  obtain ⟨k, a, b, c⟩ := nearest_range A base 1 65536 (by omega) (by omega) hA0 (by rw [hX]; omega) (by rw [hX]; omega)
  exact ⟨_, k, hsum, a, by omega, c⟩

/-- what comes of it -/
theorem score_bounds {v α c kc d kd : Nat} (hv : Num v α) (h1 : pw 1074 ≤ α) (h2 : α ≤ 65536 * pw 1074) (hc : Num c kc) (h3 : kc = 0 ∨ pw 1060 ≤ kc) (h4 : kc ≤ pw 1075) (hd : Num d kd) (h5 : pw 1060 ≤ kd) (h6 : kd ≤ pw 1076) :
    ∃ g s k, floatBits .mul .f64 v c = some g ∧ floatBits .quo .f64 g d = some s ∧ Num s k ∧
      k * kd * (pw 53 * (pw 53 * pw 54)) ≤ α * kc * ((pw 53 + 1) * ((pw 53 + 1) * (pw 54 + 1))) ∧ α * kc * ((pw 53 - 1) * ((pw 53 - 1) * (pw 54 - 1))) ≤ k * kd * (pw 53 * (pw 53 * pw 54)) := by
  have hT := pw_pos 1074
  have p53 : 1 < pw 53 := by have := pw_up (show 0 < 53 by omega); have := pw_pos 0; omega
  have hr : α * kc = 0 ∨ pw (1074 + 1060) ≤ α * kc ∧ α * kc < pw (17 + (1074 + 1075)) := by
    rcases h3 with h | h
    · left; rw [h, Nat.mul_zero]
    · right
      refine ⟨by rw [pw_add]; exact Nat.mul_le_mul h1 h, ?_⟩
      have a1 : α * kc ≤ 65536 * pw 1074 * pw 1075 := Nat.mul_le_mul h2 h4
      refine Nat.lt_of_le_of_lt a1 ?_
      rw [← pw16, Nat.mul_assoc, ← pw_add, ← pw_add]
      exact pw_up (by omega)
  obtain ⟨g, kg, hg, hgn, g1, g2⟩ := mul_near hv hc _ _ hr (by omega) (by omega)
  have hq : kg = 0 ∨ kd ≤ kg * pw 20 ∧ kg ≤ kd * pw 40 := by
    by_cases hz : kg = 0
    · exact .inl hz
    · right
      have hkc : pw 1060 ≤ kc := by
        rcases h3 with h | h
        · exfalso
          rw [h, Nat.mul_zero, Nat.zero_mul] at g1
          have := Nat.mul_pos (Nat.mul_pos (Nat.pos_of_ne_zero hz) hT) (pw_pos 53)
          omega
        · exact h
      have b1 : kc ≤ kg * 2 := by
        refine Nat.le_of_mul_le_mul_right (c := pw 1074 * pw 53) ?_ (Nat.mul_pos hT (pw_pos _))
        calc kc * (pw 1074 * pw 53) = pw 1074 * kc * pw 53 := by generalize pw 1074 = T; ac_rfl
          _ ≤ α * kc * ((pw 53 - 1) * 2) := Nat.mul_le_mul (Nat.mul_le_mul_right _ h1) (by omega)
          _ = α * kc * (pw 53 - 1) * 2 := by ac_rfl
          _ ≤ kg * pw 1074 * pw 53 * 2 := Nat.mul_le_mul_right _ g2
          _ = kg * 2 * (pw 1074 * pw 53) := by generalize pw 1074 = T; ac_rfl
      have b2 : kg ≤ 65536 * kc * 2 := by
        refine Nat.le_of_mul_le_mul_right (c := pw 1074 * pw 53) ?_ (Nat.mul_pos hT (pw_pos _))
        calc kg * (pw 1074 * pw 53) = kg * pw 1074 * pw 53 := by generalize pw 1074 = T; ac_rfl
          _ ≤ α * kc * (pw 53 + 1) := g1
          _ ≤ 65536 * pw 1074 * kc * (pw 53 * 2) := Nat.mul_le_mul (Nat.mul_le_mul_right _ h2) (by omega)
          _ = 65536 * kc * 2 * (pw 1074 * pw 53) := by generalize pw 1074 = T; ac_rfl
      constructor
      · calc kd ≤ pw 1076 := h6
          _ ≤ pw (1059 + 20) := pw_mono (by omega)
          _ = pw 1059 * pw 20 := pw_add ..
          _ ≤ kg * pw 20 := Nat.mul_le_mul_right _ (by
            have : pw (1059 + 1) = pw 1059 * 2 := by rw [pw_add, pw1]
            rw [show 1060 = 1059 + 1 from rfl, this] at hkc
            omega)
      · calc kg ≤ 65536 * kc * 2 := b2
          _ ≤ 65536 * pw 1075 * 2 := Nat.mul_le_mul_right _ (Nat.mul_le_mul_left _ h4)
          _ = pw (16 + 1075 + 1) := by rw [pw_add, pw_add, pw1, pw16]
          _ ≤ pw (1060 + 40) := pw_mono (by omega)
          _ = pw 1060 * pw 40 := pw_add ..
          _ ≤ kd * pw 40 := Nat.mul_le_mul_right _ h5
  obtain ⟨s, ks, hs, hsn, s1, s2⟩ := quo_near hgn hd (Nat.ne_of_gt (Nat.lt_of_lt_of_le (pw_pos _) h5)) hq
  refine ⟨g, s, ks, hg, hs, hsn, ?_, ?_⟩
  · calc ks * kd * (pw 53 * (pw 53 * pw 54)) = ks * kd * (pw 53 * pw 54) * pw 53 := by ac_rfl
      _ ≤ kg * pw 1074 * ((pw 53 + 1) * (pw 54 + 1)) * pw 53 := Nat.mul_le_mul_right _ s1
      _ = kg * pw 1074 * pw 53 * ((pw 53 + 1) * (pw 54 + 1)) := by generalize pw 1074 = T; ac_rfl
      _ ≤ α * kc * (pw 53 + 1) * ((pw 53 + 1) * (pw 54 + 1)) := Nat.mul_le_mul_right _ g1
      _ = α * kc * ((pw 53 + 1) * ((pw 53 + 1) * (pw 54 + 1))) := by ac_rfl
  · calc α * kc * ((pw 53 - 1) * ((pw 53 - 1) * (pw 54 - 1))) = α * kc * (pw 53 - 1) * ((pw 53 - 1) * (pw 54 - 1)) := by ac_rfl
      _ ≤ kg * pw 1074 * pw 53 * ((pw 53 - 1) * (pw 54 - 1)) := Nat.mul_le_mul_right _ g2
      _ = kg * pw 1074 * ((pw 53 - 1) * (pw 54 - 1)) * pw 53 := by generalize pw 1074 = T; ac_rfl
      _ ≤ ks * kd * (pw 53 * pw 54) * pw 53 := Nat.mul_le_mul_right _ s2
      _ = ks * kd * (pw 53 * (pw 53 * pw 54)) := by ac_rfl

theorem strict {α kcx kdx ksx kcy kdy ksy P L U : Nat} (hx : α * kcx * L ≤ ksx * kdx * P) (hy : ksy * kdy * P ≤ α * kcy * U) (hc : 9 * (kcy * kdx) ≤ 8 * (kcx * kdy)) (hLU : 8 * U < 9 * L) (hα : 0 < α) (hcx : 0 < kcx) (hdy : 0 < kdy) : ksy < ksx := by
  refine Nat.lt_of_not_le fun h => ?_
  have a1 : α * (kcx * kdy) * (9 * L) ≤ α * (kcx * kdy) * (8 * U) := by
    calc α * (kcx * kdy) * (9 * L) = α * kcx * L * (9 * kdy) := by ac_rfl
      _ ≤ ksx * kdx * P * (9 * kdy) := Nat.mul_le_mul_right _ hx
      _ ≤ ksy * kdx * P * (9 * kdy) := Nat.mul_le_mul_right _ (Nat.mul_le_mul_right _ (Nat.mul_le_mul_right _ h))
      _ = ksy * kdy * P * (9 * kdx) := by ac_rfl
      _ ≤ α * kcy * U * (9 * kdx) := Nat.mul_le_mul_right _ hy
      _ = 9 * (kcy * kdx) * (α * U) := by ac_rfl
      _ ≤ 8 * (kcx * kdy) * (α * U) := Nat.mul_le_mul_right _ hc
      _ = α * (kcx * kdy) * (8 * U) := by ac_rfl
  have := Nat.le_of_mul_le_mul_left a1 (Nat.mul_pos hα (Nat.mul_pos hcx hdy))
  omega
end Go.Proofs.Ytfaaoogdmfllbaa
