/-
  The one of which fewer live is worth more. No condition.
-/
import Derived.Test.YtfaaoogdmfllbaaTable
namespace Go.Proofs.Ytfaaoogdmfllbaa
open Ieee

theorem num_of {v : Nat} (h1 : nanB v = false) (h2 : 0 ≤ key v) {n : Nat} (h3 : kOf v ≤ pw n) (hn : n < 2100) : Num v (kOf v) := by
  refine ⟨h1, ?_, ?_⟩
  · unfold kOf; omega
  · exact below_top (Nat.lt_of_le_of_lt h3 (pw_up (Nat.lt_succ_self n))) hn
theorem num_eq {v k k' : Nat} (h : Num v k) (h' : Num v k') : k = k' := by
  have h1 := h.2.1
  have h2 := h'.2.1
  omega
/-- what is known of one -/
theorem one_worth {n x v α age : Nat} (hrow : checkRow n = true) (hx0 : x ≠ 0) (hx : x ≤ n) (hadd : floatBits .add .f64 (floatOfInt .f64 (age : Int)) oneF = some v) (hv : Num v α) (h1 : pw 1074 ≤ α) (h2 : α ≤ 65536 * pw 1074) :
    ∃ c d s k, cO n x = some c ∧ dO n x = some d ∧ pw 1060 ≤ kOf d ∧ worthO (x : Int) (n : Int) (age : Int) = some s ∧ Num s k ∧
      k * kOf d * (pw 53 * (pw 53 * pw 54)) ≤ α * kOf c * ((pw 53 + 1) * ((pw 53 + 1) * (pw 54 + 1))) ∧ α * kOf c * ((pw 53 - 1) * ((pw 53 - 1) * (pw 54 - 1))) ≤ k * kOf d * (pw 53 * (pw 53 * pw 54)) := by
  have h := one_of hrow hx0 hx
  unfold checkOne at h
  split at h
  · rename_i c d hc hd
    simp only [Bool.and_eq_true, Bool.not_eq_true', Bool.or_eq_true, decide_eq_true_eq] at h
    obtain ⟨⟨⟨⟨⟨⟨⟨a1, a2⟩, a3⟩, a4⟩, a5⟩, a6⟩, a7⟩, a8⟩ := h
    obtain ⟨g, s, k, b1, b2, b3, b4, b5⟩ := score_bounds hv h1 h2 (num_of a1 a2 a4 (by omega)) a3 a4 (num_of a5 a6 a8 (by omega)) a7 a8
    refine ⟨c, d, s, k, hc, hd, a7, ?_, b3, b4, b5⟩
    unfold worthO
    have e1 : opO .add (some (floatOfInt .f64 (age : Int))) (some oneF) = some v := hadd
    have e2 : opO .sub (some oneF) (shareO (x : Int) (n : Int)) = some c := hc
    have e3 : opO .mul (some 4611686018427387904) (shareO (x : Int) (n : Int)) = some d := hd
    rw [e1, e2, e3]
    show (floatBits .mul .f64 v c).bind (fun z => floatBits .quo .f64 z d) = some s
    rw [b1]
    exact b2
  · cases h
theorem next_less {n x v α age : Nat} (hrow : checkRow n = true) (hx0 : x ≠ 0) (hx : x < n) (hadd : floatBits .add .f64 (floatOfInt .f64 (age : Int)) oneF = some v) (hv : Num v α) (h1 : pw 1074 ≤ α) (h2 : α ≤ 65536 * pw 1074)
    {s k s' k' : Nat} (e1 : worthO (x : Int) (n : Int) (age : Int) = some s) (n1 : Num s k) (e2 : worthO ((x + 1 : Nat) : Int) (n : Int) (age : Int) = some s') (n2 : Num s' k') : k' < k := by
  obtain ⟨c, d, t, kt, hc, hd, hpd, ht, hnt, u, l⟩ := one_worth hrow hx0 (by omega) hadd hv h1 h2
  obtain ⟨c', d', t', kt', hc', hd', hpd', ht', hnt', u', l'⟩ := one_worth (x := x + 1) hrow (by omega) (by omega) hadd hv h1 h2
  obtain rfl : s = t := Option.some.inj (e1.symm.trans ht)
  obtain rfl : s' = t' := Option.some.inj (e2.symm.trans ht')
  obtain rfl := num_eq n1 hnt
  obtain rfl := num_eq n2 hnt'
  have h := two_of hrow hx0 hx
  unfold checkTwo at h
  rw [hc, hd, hc', hd'] at h
  simp only [Bool.and_eq_true, decide_eq_true_eq] at h
  exact strict l u' h.1 LU (Nat.lt_of_lt_of_le (pw_pos _) h1) h.2 (Nat.lt_of_lt_of_le (pw_pos _) hpd')
theorem later_less {n v α age : Nat} (hrow : checkRow n = true) (hadd : floatBits .add .f64 (floatOfInt .f64 (age : Int)) oneF = some v) (hv : Num v α) (h1 : pw 1074 ≤ α) (h2 : α ≤ 65536 * pw 1074)
    {x : Nat} (hx0 : x ≠ 0) (e : Nat) : x + e + 1 ≤ n → ∀ {s k s' k' : Nat}, worthO (x : Int) (n : Int) (age : Int) = some s → Num s k → worthO ((x + e + 1 : Nat) : Int) (n : Int) (age : Int) = some s' → Num s' k' → k' < k := by
  induction e with
  | zero => exact fun hx s k s' k' e1 n1 e2 n2 => next_less hrow hx0 (by omega) hadd hv h1 h2 e1 n1 e2 n2
  | succ e ih =>
    intro hx s k s' k' e1 n1 e2 n2
    obtain ⟨_, _, t, kt, _, _, _, ht, hnt, _, _⟩ := one_worth (x := x + e + 1) hrow (by omega) (by omega) hadd hv h1 h2
    have a := ih (by omega) e1 n1 ht hnt
    have b := next_less hrow (x := x + e + 1) (by omega) (by omega) hadd hv h1 h2 ht hnt e2 n2
    omega
theorem read_zero : double.read 0 = .number false 0 (-1074) := by decide +kernel
theorem key_one : key oneF = ((pw 1074 : Nat) : Int) := by decide +kernel
theorem one_number : nanB oneF = false := by decide +kernel
theorem key_end : key 9218868437227405312 = top := by
  unfold key
  rw [show double.read 9218868437227405312 = .infinity false by decide +kernel]
  rfl
theorem end_number : nanB 9218868437227405312 = false := by decide +kernel
theorem quotient_end (m : Nat) (i j : Int) (hm : m ≠ 0) : Datum.quotient 54 (.number false m i) (.number false 0 j) = some (.infinity false) := by
  have : ∀ n, n = 0 → Datum.quotient 54 (.number false m i) (.number false n j) = some (.infinity false) := by
    intro n hn
    show (if n = 0 then if m = 0 then none else some (Datum.infinity (false ^^ false)) else _) = _
    rw [if_pos hn, if_neg hm]
    rfl
  exact this 0 rfl
/-- where none lives -/
theorem none_worth {n v α age : Nat} (hrow : checkRow n = true) (hadd : floatBits .add .f64 (floatOfInt .f64 (age : Int)) oneF = some v) (hv : Num v α) (h1 : pw 1074 ≤ α) (h2 : α ≤ 65536 * pw 1074) :
    worthO ((0 : Nat) : Int) (n : Int) (age : Int) = some 9218868437227405312 := by
  obtain ⟨hc, hd⟩ := zero_of hrow
  have hone : Num oneF (pw 1074) := ⟨one_number, key_one, below_top (pw_up (show 1074 < 1075 by omega)) (by omega)⟩
  have hT := pw_pos 1074
  obtain ⟨g, kg, b1, b2, b3, b4⟩ := mul_near hv hone (1074 + 1074) (17 + (1074 + 1074)) (.inr ⟨by rw [pw_add]; exact Nat.mul_le_mul_right _ h1, by
    refine Nat.lt_of_le_of_lt (Nat.mul_le_mul_right _ h2) ?_
    rw [← pw16, Nat.mul_assoc, ← pw_add, ← pw_add]
    exact pw_up (by omega)⟩) (by omega) (by omega)
  have hg0 : kg ≠ 0 := by
    intro h
    rw [h, Nat.zero_mul, Nat.zero_mul] at b4
    have p53 : 1 < pw 53 := by have := pw_up (show 0 < 53 by omega); have := pw_pos 0; omega
    have := Nat.mul_pos (Nat.mul_pos (Nat.lt_of_lt_of_le hT h1) hT) (show 0 < pw 53 - 1 by omega)
    omega
  obtain ⟨s, m, i, e1, _, _, _, hk, hs⟩ := b2.read
  have hm : m ≠ 0 := fun h => hg0 (by rw [hk, h, Nat.zero_mul])
  obtain rfl := hs.resolve_right hm
  have b5 : floatBits .quo .f64 g 0 = some 9218868437227405312 := by
    show ((double.read g).quotient (double.fractionBits + 2) (double.read 0)).map double.write = _
    rw [e1, read_zero, show double.fractionBits + 2 = 54 from rfl, quotient_end m i _ hm]
    decide +kernel
  unfold worthO
  have e1 : opO .add (some (floatOfInt .f64 (age : Int))) (some oneF) = some v := hadd
  have e2 : opO .sub (some oneF) (shareO ((0 : Nat) : Int) (n : Int)) = some oneF := hc
  have e3 : opO .mul (some 4611686018427387904) (shareO ((0 : Nat) : Int) (n : Int)) = some 0 := hd
  rw [e1, e2, e3]
  show (floatBits .mul .f64 v oneF).bind (fun z => floatBits .quo .f64 z 0) = some _
  rw [b1]
  exact b5
/-- fewer are worth more -/
theorem fewer (n x y age : Nat) (hn0 : n ≠ 0) (hn : n ≤ 32) (hxy : x < y) (hy : y ≤ n) (ha : age < 65536) :
    ∃ p q, worthO (x : Int) (n : Int) (age : Int) = some p ∧ worthO (y : Int) (n : Int) (age : Int) = some q ∧ nanB p = false ∧ nanB q = false ∧ 0 ≤ key q ∧ key q < key p := by
  obtain ⟨v, α, hadd, hv, h1, h2⟩ := add_one age ha
  have hrow := row_of hn0 hn
  obtain ⟨_, _, q, kq, _, _, _, hq, hnq, _, _⟩ := one_worth (x := y) hrow (by omega) hy hadd hv h1 h2
  have hq2 := hnq.2.1
  by_cases hx0 : x = 0
  · subst hx0
    refine ⟨_, q, none_worth hrow hadd hv h1 h2, hq, end_number, hnq.1, by omega, ?_⟩
    rw [key_end, hq2, ← top_is]
    exact Int.ofNat_lt.2 hnq.2.2
  · obtain ⟨_, _, p, kp, _, _, _, hp, hnp, _, _⟩ := one_worth (x := x) hrow hx0 (by omega) hadd hv h1 h2
    have hl := later_less hrow hadd hv h1 h2 hx0 (y - x - 1) (by omega) hp hnp (by rw [show x + (y - x - 1) + 1 = y by omega]; exact hq) hnq
    have hp2 := hnp.2.1
    exact ⟨p, q, hp, hq, hnp.1, hnq.1, by omega, by omega⟩
end Go.Proofs.Ytfaaoogdmfllbaa
