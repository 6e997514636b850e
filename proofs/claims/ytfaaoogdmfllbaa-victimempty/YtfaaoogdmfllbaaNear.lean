/-
  Products and quotients of floats are near to what they should be. No condition.
-/
import Derived.Test.YtfaaoogdmfllbaaRound
namespace Go.Proofs.Ytfaaoogdmfllbaa
open Ieee

/-- 2 ^ n, under a name -/
def pw (n : Nat) : Nat := 2 ^ n
theorem pw_add (a b : Nat) : pw (a + b) = pw a * pw b := Nat.pow_add ..
theorem pw_pos (a : Nat) : 0 < pw a := Nat.two_pow_pos _
theorem pw_mono {a b : Nat} (h : a ≤ b) : pw a ≤ pw b := Nat.pow_le_pow_right (by omega) h
theorem pw_lt {a b : Nat} (h : pw a < pw b) : a < b := (Nat.pow_lt_pow_iff_right (a := 2) (by omega)).1 h
theorem pw_up {a b : Nat} (h : a < b) : pw a < pw b := Nat.pow_lt_pow_right (by omega) h
theorem pw1 : pw 1 = 2 := rfl
theorem pw21 : pw 21 = pw 20 * 2 := rfl
theorem pw53 : pw 53 = 2 * pw 52 := rfl
theorem pw54 : pw 54 = 2 * pw 53 := rfl
theorem pw53_is : 9007199254740992 = pw 53 := by decide
theorem pw_is (n : Nat) : 2 ^ n = pw n := rfl
theorem log_le {n : Nat} (h : n ≠ 0) : pw n.log2 ≤ n := Nat.log2_self_le h
theorem lt_log {n : Nat} : n < pw (n.log2 + 1) := Nat.lt_log2_self
theorem shift_is (m n : Nat) : m <<< n = m * pw n := Nat.shiftLeft_eq ..
theorem signed_pos (K E : Nat) : signed false K E = ((K * pw E : Nat) : Int) := by
  unfold signed pw
  rw [Nat.shiftLeft_eq]
  rfl
def topN : Nat := pw (tE + 55)
theorem top_is : (topN : Int) = top := by unfold topN pw top; rw [Int.natCast_pow]; rfl

/-- x is a number from 0 on, with the key k -/
def Num (x k : Nat) : Prop := nanB x = false ∧ key x = (k : Int) ∧ k < topN
theorem Num.read {x k : Nat} (h : Num x k) : ∃ s m i, double.read x = .number s m i ∧ m < 9007199254740992 ∧ -1074 ≤ i ∧ i ≤ 971 ∧ k = m * pw (i + 1074).toNat ∧ (s = false ∨ m = 0) := by
  obtain ⟨h1, h2, h3⟩ := h
  have hx := read_fits x
  have ht := top_is
  have tp := top_pos
  unfold nanB at h1
  unfold key at h2
  generalize double.read x = d at *
  rcases hx with ⟨s, t, rfl⟩ | ⟨s, rfl⟩ | ⟨s, m, i, rfl, hm, hi, hi2⟩
  · cases h1
  · exfalso
    cases s
    · have h4 : top = (k : Int) := h2
      omega
    · have h4 : - top = (k : Int) := h2
      omega
  · have h4 : signed s m (i + 1074).toNat = (k : Int) := h2
    cases s
    · rw [signed_pos] at h4
      exact ⟨false, m, i, rfl, hm, hi, hi2, by omega, .inl rfl⟩
    · have h5 : -((m <<< (i + 1074).toNat : Nat) : Int) = (k : Int) := h4
      rw [Nat.shiftLeft_eq] at h5
      have h6 : m * 2 ^ (i + 1074).toNat = 0 := by omega
      have h7 : m = 0 := (Nat.mul_eq_zero.1 h6).resolve_right (Nat.ne_of_gt (Nat.two_pow_pos _))
      have h8 : k = 0 := by omega
      exact ⟨true, m, i, rfl, hm, hi, hi2, by rw [h7, Nat.zero_mul, h8], .inr h7⟩

/-- a number that is neither too great nor too small, and what is written of it -/
theorem near_core (mag : Nat) (place : Int) (S lo hi X : Nat) (hX : X = mag * pw (place + 1074 + S).toNat) (hS : 0 ≤ place + 1074 + S) (h1 : pw lo ≤ X) (h2 : X < pw hi) (h3 : 52 + S ≤ lo) (h4 : hi ≤ 2075 + S) :
    ∃ k, Num (double.nearest false mag place) k ∧ k * pw S * pw 53 ≤ X * (pw 53 + 1) ∧ X * (pw 53 - 1) ≤ k * pw S * pw 53 := by
  have hm : mag ≠ 0 := by
    intro h
    subst h
    rw [Nat.zero_mul] at hX
    have := pw_pos lo
    omega
  have hlo : pw mag.log2 ≤ mag := log_le hm
  have hup : mag < pw (mag.log2 + 1) := lt_log
  obtain ⟨p, hp⟩ : ∃ p : Nat, (place + 1074 + S).toNat = p := ⟨_, rfl⟩
  rw [hp] at hX
  have l1 : mag.log2 + p < hi := pw_lt (Nat.lt_of_le_of_lt (by rw [pw_add, hX]; exact Nat.mul_le_mul_right _ hlo) h2)
  have l2 : lo < mag.log2 + 1 + p := pw_lt (Nat.lt_of_le_of_lt h1 (by rw [pw_add, hX]; exact Nat.mul_lt_mul_of_pos_right hup (pw_pos _)))
  obtain ⟨E, K, k1, k2, hE, hbd⟩ := nearest_core false mag place hm (by omega)
  obtain ⟨b1, b2⟩ := hbd S hS
  rw [hp] at b1 b2
  have e0 : mag * 2 ^ p = X := by rw [pw_is]; exact hX.symm
  rw [e0] at b1 b2
  have e1 : K * 2 ^ (E + S) = K * pw E * pw S := by rw [pw_is, pw_add, Nat.mul_assoc]
  have hu : pw (E + S) * pw 52 ≤ X := by
    rw [← pw_add, hX, show E + S + 52 = mag.log2 + p by omega, pw_add]
    exact Nat.mul_le_mul_right _ hlo
  rw [e1] at b1 b2
  have e2 : 2 ^ (E + S) = pw (E + S) := pw_is _
  rw [e2] at b1 b2
  refine ⟨K * pw E, ⟨k2, by rw [k1, signed_pos], ?_⟩, ?_, ?_⟩
  · -- below the top
    have h5 : K * pw E * pw S ≤ 2 * X := by
      have : pw (E + S) ≤ X := Nat.le_trans (Nat.le_mul_of_pos_right _ (pw_pos 52)) hu
      omega
    have h6 : K * pw E * pw S < pw (1 + hi) := by
      rw [pw_add, pw1]
      omega
    have h7 : pw (1 + hi) ≤ pw (tE + 55) * pw S := by rw [← pw_add]; exact pw_mono (by rw [tE_is]; omega)
    exact Nat.lt_of_mul_lt_mul_right (Nat.lt_of_lt_of_le h6 h7)
  · generalize K * pw E * pw S = V at *
    have e3 : pw 53 = 2 * pw 52 := pw53
    have := Nat.mul_le_mul_right (pw 52) b1
    rw [e3, Nat.mul_add, Nat.mul_one]
    rw [Nat.add_mul] at this
    have e4 : 2 * V * pw 52 = V * (2 * pw 52) := by rw [Nat.mul_comm 2 V, Nat.mul_assoc]
    have e5 : 2 * X * pw 52 = X * (2 * pw 52) := by rw [Nat.mul_comm 2 X, Nat.mul_assoc]
    omega
  · generalize K * pw E * pw S = V at *
    have e3 : pw 53 = 2 * pw 52 := pw53
    have := Nat.mul_le_mul_right (pw 52) b2
    rw [Nat.mul_sub, Nat.mul_one, e3]
    rw [Nat.add_mul] at this
    have e4 : 2 * V * pw 52 = V * (2 * pw 52) := by rw [Nat.mul_comm 2 V, Nat.mul_assoc]
    have e5 : 2 * X * pw 52 = X * (2 * pw 52) := by rw [Nat.mul_comm 2 X, Nat.mul_assoc]
    omega

theorem zero_num (s : Bool) (place : Int) : Num (double.nearest s 0 place) 0 := by
  have h := nearest_zero s place
  exact ⟨h.2, h.1, pw_pos _⟩

/-- a product -/
theorem mul_near {x y kx ky : Nat} (hx : Num x kx) (hy : Num y ky) (lo hi : Nat) (h : kx * ky = 0 ∨ pw lo ≤ kx * ky ∧ kx * ky < pw hi) (h3 : 1126 ≤ lo) (h4 : hi ≤ 3149) :
    ∃ r k, floatBits .mul .f64 x y = some r ∧ Num r k ∧ k * pw 1074 * pw 53 ≤ kx * ky * (pw 53 + 1) ∧ kx * ky * (pw 53 - 1) ≤ k * pw 1074 * pw 53 := by
  obtain ⟨s, m, i, e1, hm, hi1, hi2, rfl, hs⟩ := hx.read
  obtain ⟨t, n, j, e2, hn, hj1, hj2, rfl, ht⟩ := hy.read
  have hb : floatBits .mul .f64 x y = some (double.nearest (s ^^ t) (m * n) (i + j)) := by
    show ((double.read x).product (double.read y)).map double.write = _
    rw [e1, e2]
    rfl
  have hk : m * pw (i + 1074).toNat * (n * pw (j + 1074).toNat) = m * n * pw (i + j + 1074 + (1074 : Nat)).toNat := by
    rw [show (i + j + 1074 + ((1074 : Nat) : Int)).toNat = (i + 1074).toNat + (j + 1074).toNat by omega, pw_add]
    generalize pw (i + 1074).toNat = a
    generalize pw (j + 1074).toNat = b
    rw [Nat.mul_assoc, Nat.mul_assoc, Nat.mul_left_comm a n b]
  by_cases hz : m * n = 0
  · refine ⟨_, 0, hb, by rw [hz]; exact zero_num _ _, ?_, ?_⟩
    · rw [Nat.zero_mul, Nat.zero_mul]; exact Nat.zero_le _
    · rw [hk, hz, Nat.zero_mul, Nat.zero_mul]; exact Nat.zero_le _
  · have hm0 : m ≠ 0 := fun h => hz (by rw [h, Nat.zero_mul])
    have hn0 : n ≠ 0 := fun h => hz (by rw [h, Nat.mul_zero])
    obtain rfl := hs.resolve_right hm0
    obtain rfl := ht.resolve_right hn0
    rw [hk] at h ⊢
    rcases h with h | ⟨h1, h2⟩
    · exact absurd ((Nat.mul_eq_zero.1 h).resolve_left hz) (Nat.ne_of_gt (pw_pos _))
    · obtain ⟨k, a, b, c⟩ := near_core (m * n) (i + j) 1074 lo hi _ rfl (by omega) h1 h2 (by omega) (by omega)
      exact ⟨_, k, hb, a, b, c⟩

theorem quotient_is (s t : Bool) (m n : Nat) (i j : Int) (hn : n ≠ 0) : Datum.quotient 54 (.number s m i) (.number t n j) =
    some (.number (s ^^ t) (2 * (m <<< (54 + n.log2 - m.log2) / n) + (m <<< (54 + n.log2 - m.log2) % n != 0).toNat) (i - j - ((54 + n.log2 - m.log2 : Nat) : Int) - 1)) := by
  show (if n = 0 then if m = 0 then none else some (Datum.infinity (s ^^ t)) else _) = _
  rw [if_neg hn]
/-- the quotient's digits -/
theorem quo_digits (m n : Nat) (hm : m ≠ 0) (hn : n ≠ 0) : ∃ (Q more : Nat), more ≤ 54 + n.log2 ∧ (∀ s t i j, Datum.quotient 54 (.number s m i) (.number t n j) = some (.number (s ^^ t) Q (i - j - more - 1))) ∧
    Q * n * pw 54 ≤ 2 * (m * pw more) * (pw 54 + 1) ∧ 2 * (m * pw more) * (pw 54 - 1) ≤ Q * n * pw 54 := by
  obtain ⟨more, hmore⟩ : ∃ more, more = 54 + n.log2 - m.log2 := ⟨_, rfl⟩
  refine ⟨2 * (m <<< more / n) + (m <<< more % n != 0).toNat, more, by omega, fun s t i j => ?_, ?_⟩
  · rw [quotient_is _ _ _ _ _ _ hn, ← hmore]
  · have hsh : m <<< more = m * pw more := shift_is ..
    rw [hsh]
    have h1 : pw m.log2 ≤ m := log_le hm
    have h2 : n < pw (n.log2 + 1) := lt_log
    have hbig : pw 53 * n ≤ m * pw more := by
      have h3 : pw (m.log2 + more) ≤ m * pw more := by rw [pw_add]; exact Nat.mul_le_mul_right _ h1
      have h4 : pw (53 + (n.log2 + 1)) ≤ pw (m.log2 + more) := pw_mono (by omega)
      have h5 : pw 53 * n ≤ pw (53 + (n.log2 + 1)) := by rw [pw_add]; exact Nat.mul_le_mul_left _ (Nat.le_of_lt h2)
      omega
    generalize m * pw more = d at *
    have e := Nat.div_add_mod d n
    have hr := Nat.mod_lt d (Nat.pos_of_ne_zero hn)
    generalize d / n = q at *
    generalize d % n = r at *
    have e54 : pw 54 = 2 * pw 53 := pw54
    have near : 2 * d ≤ (2 * q + (r != 0).toNat) * n + n ∧ (2 * q + (r != 0).toNat) * n ≤ 2 * d + n := by
      have c0 : (2 * q + 0) * n = 2 * (n * q) := by rw [Nat.add_zero, Nat.mul_assoc, Nat.mul_comm q n]
      have c1 : (2 * q + 1) * n = 2 * (n * q) + n := by rw [Nat.add_mul, Nat.one_mul, Nat.mul_assoc, Nat.mul_comm q n]
      cases hb : (r != 0)
      · simp only [Bool.toNat_false]
        rw [c0]
        have : r = 0 := by simpa using hb
        omega
      · simp only [Bool.toNat_true]
        rw [c1]
        omega
    generalize (2 * q + (r != 0).toNat) * n = z at *
    have hn2 : n * pw 54 ≤ 2 * d := by
      rw [e54, Nat.mul_comm n, Nat.mul_assoc]
      omega
    have m1 := Nat.mul_le_mul_right (pw 54) near.1
    have m2 := Nat.mul_le_mul_right (pw 54) near.2
    rw [Nat.add_mul] at m1 m2
    rw [Nat.mul_add, Nat.mul_one, Nat.mul_sub, Nat.mul_one]
    omega

/-- a quotient -/
theorem quo_near {x y kx ky : Nat} (hx : Num x kx) (hy : Num y ky) (hy0 : ky ≠ 0) (h : kx = 0 ∨ ky ≤ kx * pw 20 ∧ kx ≤ ky * pw 40) :
    ∃ r k, floatBits .quo .f64 x y = some r ∧ Num r k ∧ k * ky * (pw 53 * pw 54) ≤ kx * pw 1074 * ((pw 53 + 1) * (pw 54 + 1)) ∧ kx * pw 1074 * ((pw 53 - 1) * (pw 54 - 1)) ≤ k * ky * (pw 53 * pw 54) := by
  obtain ⟨s, m, i, e1, hm, hi1, hi2, hkx, hs⟩ := hx.read
  obtain ⟨t, n, j, e2, hn, hj1, hj2, hky, ht⟩ := hy.read
  have hn0 : n ≠ 0 := fun h => hy0 (by rw [hky, h, Nat.zero_mul])
  obtain rfl := ht.resolve_right hn0
  have hb : floatBits .quo .f64 x y = (Datum.quotient 54 (.number s m i) (.number false n j)).map double.write := by
    show ((double.read x).quotient (double.fractionBits + 2) (double.read y)).map double.write = _
    rw [e1, e2]
    rfl
  by_cases hz : m = 0
  · subst hz
    have hk0 : kx = 0 := by rw [hkx, Nat.zero_mul]
    obtain ⟨pl, hpl⟩ : ∃ pl, Datum.quotient 54 (.number s 0 i) (.number false n j) = some (.number (s ^^ false) 0 pl) := by
      rw [quotient_is _ _ _ _ _ _ hn0]
      simp
    rw [hpl] at hb
    refine ⟨_, 0, hb, zero_num _ _, ?_, ?_⟩
    · rw [Nat.zero_mul, Nat.zero_mul]; exact Nat.zero_le _
    · rw [hk0, Nat.zero_mul, Nat.zero_mul]; exact Nat.zero_le _
  · obtain rfl := hs.resolve_right hz
    obtain ⟨Q, more, hmore, hq, q1, q2⟩ := quo_digits m n hz hn0
    rw [hq] at hb
    have hlogn : n.log2 < 53 := by
      have h1 : pw n.log2 ≤ n := log_le hn0
      have h2 : (9007199254740992 : Nat) = pw 53 := pw53_is
      exact pw_lt (Nat.lt_of_le_of_lt h1 (by omega))
    obtain ⟨S, hS⟩ : ∃ S : Nat, S = 3000 := ⟨_, rfl⟩
    obtain ⟨p, hp⟩ : ∃ p : Nat, (i - j - more - 1 + 1074 + S).toNat = p := ⟨_, rfl⟩
    -- the quotient, times ky
    have key1 : Q * pw p * ky = Q * n * (pw p * pw (j + 1074).toNat) := by
      rw [hky]
      generalize pw (j + 1074).toNat = a
      generalize pw p = c
      rw [Nat.mul_assoc Q c, Nat.mul_left_comm c n a, ← Nat.mul_assoc Q n]
    have key2 : 2 * (m * pw more) * (pw p * pw (j + 1074).toNat) = kx * pw 1074 * pw S := by
      rw [hkx, ← pw1]
      have : pw 1 * (m * pw more) * (pw p * pw (j + 1074).toNat) = m * (pw 1 * pw more * pw p * pw (j + 1074).toNat) := by
        generalize pw 1 = a
        generalize pw more = b
        generalize pw p = c
        generalize pw (j + 1074).toNat = d
        rw [Nat.mul_left_comm a m b, Nat.mul_assoc m, Nat.mul_assoc (a * b) c d]
      rw [this, ← pw_add, ← pw_add, ← pw_add, Nat.mul_assoc, Nat.mul_assoc, ← pw_add, ← pw_add]
      rw [show 1 + more + p + (j + 1074).toNat = (i + 1074).toNat + (1074 + S) by omega]
    obtain ⟨X, hX⟩ : ∃ X, X = Q * pw p := ⟨_, rfl⟩
    obtain ⟨W, hW⟩ : ∃ W, W = kx * pw 1074 * pw S := ⟨_, rfl⟩
    have u1 : X * ky * pw 54 ≤ W * (pw 54 + 1) := by
      rw [hX, key1, hW, ← key2]
      have := Nat.mul_le_mul_right (pw p * pw (j + 1074).toNat) q1
      calc Q * n * (pw p * pw (j + 1074).toNat) * pw 54 = Q * n * pw 54 * (pw p * pw (j + 1074).toNat) := by generalize pw 1074 = T; ac_rfl
        _ ≤ 2 * (m * pw more) * (pw 54 + 1) * (pw p * pw (j + 1074).toNat) := this
        _ = 2 * (m * pw more) * (pw p * pw (j + 1074).toNat) * (pw 54 + 1) := by generalize pw 1074 = T; ac_rfl
    have u2 : W * (pw 54 - 1) ≤ X * ky * pw 54 := by
      rw [hX, key1, hW, ← key2]
      have := Nat.mul_le_mul_right (pw p * pw (j + 1074).toNat) q2
      calc 2 * (m * pw more) * (pw p * pw (j + 1074).toNat) * (pw 54 - 1) = 2 * (m * pw more) * (pw 54 - 1) * (pw p * pw (j + 1074).toNat) := by generalize pw 1074 = T; ac_rfl
        _ ≤ Q * n * pw 54 * (pw p * pw (j + 1074).toNat) := this
        _ = Q * n * (pw p * pw (j + 1074).toNat) * pw 54 := by generalize pw 1074 = T; ac_rfl
    have hkx0 : 0 < kx := by rw [hkx]; exact Nat.mul_pos (Nat.pos_of_ne_zero hz) (pw_pos _)
    obtain ⟨hc1, hc2⟩ := h.resolve_left (Nat.ne_of_gt hkx0)
    have hky0 : 0 < ky := Nat.pos_of_ne_zero hy0
    have p54 : 1 < pw 54 := by have := pw_up (show 0 < 54 by omega); have := pw_pos 0; omega
    have v1 : X * ky ≤ W * 2 := by
      refine Nat.le_of_mul_le_mul_right (c := pw 54) (Nat.le_trans u1 ?_) (pw_pos _)
      rw [Nat.mul_assoc]
      exact Nat.mul_le_mul_left _ (by omega)
    have v2 : W ≤ X * ky * 2 := by
      refine Nat.le_of_mul_le_mul_right (c := pw 54) ?_ (pw_pos _)
      calc W * pw 54 ≤ W * ((pw 54 - 1) * 2) := Nat.mul_le_mul_left _ (by omega)
        _ = W * (pw 54 - 1) * 2 := by ac_rfl
        _ ≤ X * ky * pw 54 * 2 := Nat.mul_le_mul_right _ u2
        _ = X * ky * 2 * pw 54 := by ac_rfl
    have w1 : X < pw (1120 + S) := by
      have : X ≤ pw (1 + (40 + (1074 + S))) := by
        refine Nat.le_of_mul_le_mul_right (c := ky) (Nat.le_trans v1 ?_) hky0
        rw [hW, pw_add, pw_add, pw_add, pw1]
        calc kx * pw 1074 * pw S * 2 ≤ ky * pw 40 * pw 1074 * pw S * 2 := Nat.mul_le_mul_right _ (Nat.mul_le_mul_right _ (Nat.mul_le_mul_right _ hc2))
          _ = 2 * (pw 40 * (pw 1074 * pw S)) * ky := by generalize pw 1074 = T; ac_rfl
      refine Nat.lt_of_le_of_lt this ?_
      exact pw_up (by omega)
    have w2 : pw (1050 + S) ≤ X := by
      have : pw (1074 + S) ≤ X * pw 21 := by
        refine Nat.le_of_mul_le_mul_right (c := kx) ?_ hkx0
        rw [pw_add, pw21]
        calc pw 1074 * pw S * kx = W := by rw [hW]; generalize pw 1074 = T; ac_rfl
          _ ≤ X * ky * 2 := v2
          _ ≤ X * (kx * pw 20) * 2 := Nat.mul_le_mul_right _ (Nat.mul_le_mul_left _ hc1)
          _ = X * (pw 20 * 2) * kx := by ac_rfl
      refine Nat.le_of_mul_le_mul_right (c := pw 21) (Nat.le_trans ?_ this) (pw_pos _)
      rw [← pw_add]
      exact pw_mono (by omega)
    obtain ⟨k, hk, b1, b2⟩ := near_core Q (i - j - more - 1) S (1050 + S) (1120 + S) X (by rw [hp]; exact hX) (by omega) w2 w1 (by omega) (by omega)
    refine ⟨_, k, hb, hk, ?_, ?_⟩
    · refine Nat.le_of_mul_le_mul_right (c := pw S) ?_ (pw_pos _)
      calc k * ky * (pw 53 * pw 54) * pw S = k * pw S * pw 53 * (ky * pw 54) := by ac_rfl
        _ ≤ X * (pw 53 + 1) * (ky * pw 54) := Nat.mul_le_mul_right _ b1
        _ = X * ky * pw 54 * (pw 53 + 1) := by ac_rfl
        _ ≤ W * (pw 54 + 1) * (pw 53 + 1) := Nat.mul_le_mul_right _ u1
        _ = kx * pw 1074 * ((pw 53 + 1) * (pw 54 + 1)) * pw S := by rw [hW]; generalize pw 1074 = T; ac_rfl
    · refine Nat.le_of_mul_le_mul_right (c := pw S) ?_ (pw_pos _)
      calc kx * pw 1074 * ((pw 53 - 1) * (pw 54 - 1)) * pw S = W * (pw 54 - 1) * (pw 53 - 1) := by rw [hW]; generalize pw 1074 = T; ac_rfl
        _ ≤ X * ky * pw 54 * (pw 53 - 1) := Nat.mul_le_mul_right _ u2
        _ = X * (pw 53 - 1) * (ky * pw 54) := by ac_rfl
        _ ≤ k * pw S * pw 53 * (ky * pw 54) := Nat.mul_le_mul_right _ b2
        _ = k * ky * (pw 53 * pw 54) * pw S := by ac_rfl
end Go.Proofs.Ytfaaoogdmfllbaa
