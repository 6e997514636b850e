/-
  Numbers as bytes, the lowest first: what they are worth, how many a number has. No condition.
-/
import Derived.Laws.MathBits
namespace Go.Proofs.YtdolilgkjknckaaDoor
open Go

/-- what bytes are worth, the lowest first -/
def leL : List UInt8 → Nat
  | [] => 0
  | b :: r => b.toNat + 256 * leL r
theorem leL_append (l r : List UInt8) : leL (l ++ r) = leL l + 256 ^ l.length * leL r := by
  induction l with
  | nil => simp [leL]
  | cons a l ih =>
    rw [List.cons_append, leL, ih, leL, List.length_cons, Nat.pow_succ, Nat.mul_add, Nat.add_assoc, ← Nat.mul_assoc, Nat.mul_comm (256 ^ l.length) 256]
theorem leL_lt (l : List UInt8) : leL l < 256 ^ l.length := by
  induction l with
  | nil => simp [leL]
  | cons a l ih =>
    rw [leL, List.length_cons, Nat.pow_succ]
    have := a.toNat_lt
    omega
/-- the bytes of a number, so many -/
def fixL : Nat → Nat → List UInt8
  | _, 0 => []
  | n, k + 1 => UInt8.ofNat (n % 256) :: fixL (n / 256) k
theorem fixL_length (n k : Nat) : (fixL n k).length = k := by
  induction k generalizing n with
  | zero => rfl
  | succ k ih => rw [fixL, List.length_cons, ih]
theorem byte_mod (n : Nat) : (UInt8.ofNat (n % 256)).toNat = n % 256 := by rw [UInt8.toNat_ofNat']; omega
theorem leL_fixL (n k : Nat) : leL (fixL n k) = n % 256 ^ k := by
  induction k generalizing n with
  | zero => rw [fixL, leL, Nat.pow_zero, Nat.mod_one]
  | succ k ih =>
    rw [fixL, leL, ih, byte_mod, Nat.pow_succ, Nat.mul_comm (256 ^ k) 256, Nat.mod_mul]
theorem fixL_leL (l : List UInt8) : fixL (leL l) l.length = l := by
  induction l with
  | nil => rfl
  | cons a l ih =>
    have h := a.toNat_lt
    have h1 : (a.toNat + 256 * leL l) % 256 = a.toNat := by omega
    have h2 : (a.toNat + 256 * leL l) / 256 = leL l := by omega
    rw [leL, List.length_cons, fixL, h1, h2, ih, UInt8.ofNat_toNat]
theorem fixL_get (n k j : Nat) (h : j < k) : (fixL n k).getD j 0 = UInt8.ofNat (n / 256 ^ j % 256) := by
  induction k generalizing n j with
  | zero => omega
  | succ k ih =>
    cases j with
    | zero => simp [fixL]
    | succ j =>
      rw [fixL, List.getD_cons_succ, ih _ _ (by omega), Nat.pow_succ, Nat.mul_comm, Nat.div_div_eq_div_mul]
theorem fixL_snoc (n k : Nat) : fixL n (k + 1) = fixL n k ++ [UInt8.ofNat (n / 256 ^ k % 256)] := by
  induction k generalizing n with
  | zero => simp [fixL]
  | succ k ih =>
    rw [fixL, ih, fixL, List.cons_append, Nat.div_div_eq_div_mul, Nat.pow_succ, Nat.mul_comm (256 ^ k) 256]
theorem fixL_take (n k j : Nat) (h : j ≤ k) : (fixL n k).take j = fixL n j := by
  induction k generalizing n j with
  | zero => obtain rfl : j = 0 := by omega
            rfl
  | succ k ih =>
    cases j with
    | zero => rfl
    | succ j => rw [fixL, List.take_succ_cons, ih _ _ (by omega), fixL]

/-- how many bytes a number has -/
def nb (n : Nat) : Nat := (bitLen n + 7) / 8
theorem pow256 (k : Nat) : 256 ^ k = 2 ^ (8 * k) := by rw [Nat.pow_mul]
theorem nb_zero : nb 0 = 0 := rfl
theorem nb_lt (n : Nat) : n < 256 ^ nb n := by
  have h := (bitLen_spec n).1
  rw [pow256]
  exact Nat.lt_of_lt_of_le h (Nat.pow_le_pow_right (by omega) (by unfold nb; omega))
theorem nb_pos (n : Nat) (h : n ≠ 0) : 0 < nb n := by
  unfold nb bitLen
  rw [if_neg h]
  omega
theorem nb_ge (n : Nat) (h : n ≠ 0) : 256 ^ (nb n - 1) ≤ n := by
  have h1 := (bitLen_spec n).2 h
  rw [pow256]
  refine Nat.le_trans (Nat.pow_le_pow_right (by omega) ?_) h1
  have := nb_pos n h
  unfold nb at this ⊢
  omega
/-- the one count of bytes between which a number lies -/
theorem nb_unique (n k : Nat) (h1 : n < 256 ^ k) (h2 : 0 < k → 256 ^ (k - 1) ≤ n) : nb n = k := by
  by_cases hn : n = 0
  · subst hn
    rw [nb_zero]
    cases k with
    | zero => rfl
    | succ k =>
      have h3 := h2 (by omega)
      have h4 := Nat.pow_pos (n := k) (show 0 < 256 by omega)
      rw [Nat.add_sub_cancel] at h3
      omega
  · have a1 := nb_lt n
    have a2 := nb_ge n hn
    have a3 := nb_pos n hn
    have hk : 0 < k := by
      cases k with
      | zero => simp at h1; omega
      | succ k => omega
    have h3 := h2 hk
    have b1 : nb n - 1 < k := (Nat.pow_lt_pow_iff_right (by omega : 1 < 256)).1 (Nat.lt_of_le_of_lt a2 h1)
    have b2 : k - 1 < nb n := (Nat.pow_lt_pow_iff_right (by omega : 1 < 256)).1 (Nat.lt_of_le_of_lt h3 a1)
    omega
theorem nb_le8 (n : Nat) (h : n < 18446744073709551616) : nb n ≤ 8 := by
  by_cases hn : n = 0
  · subst hn; decide
  · have a2 := nb_ge n hn
    have b1 : nb n - 1 < 8 := (Nat.pow_lt_pow_iff_right (by omega : 1 < 256)).1 (Nat.lt_of_le_of_lt a2 (by simpa using h))
    omega
theorem nb_div (n : Nat) (h : n ≠ 0) : nb n = nb (n / 256) + 1 := by
  refine nb_unique n _ ?_ (fun _ => ?_)
  · have := nb_lt (n / 256)
    rw [Nat.pow_succ]
    omega
  · rw [Nat.add_sub_cancel]
    by_cases h2 : n / 256 = 0
    · rw [h2, nb_zero]
      simp
      omega
    · have h3 := nb_ge (n / 256) h2
      have h4 := nb_pos (n / 256) h2
      obtain ⟨k, hk⟩ : ∃ k, nb (n / 256) = k + 1 := ⟨nb (n / 256) - 1, by omega⟩
      rw [hk, Nat.add_sub_cancel] at h3
      rw [hk, Nat.pow_succ]
      omega
/-- a number's bytes, without their count -/
def digs (n : Nat) : List UInt8 := fixL n (nb n)
theorem digs_length (n : Nat) : (digs n).length = nb n := fixL_length _ _
theorem digs_zero : digs 0 = [] := rfl
theorem digs_step (n : Nat) (h : n ≠ 0) : digs n = UInt8.ofNat (n % 256) :: digs (n / 256) := by
  unfold digs
  rw [nb_div n h, fixL]
theorem leL_digs (n : Nat) : leL (digs n) = n := by
  unfold digs
  rw [leL_fixL, Nat.mod_eq_of_lt (nb_lt n)]
/-- a number's bytes -/
def numL (n : Nat) : List UInt8 := UInt8.ofNat (nb n) :: digs n
theorem numL_length (n : Nat) : (numL n).length = nb n + 1 := by rw [numL, List.length_cons, digs_length]
end Go.Proofs.YtdolilgkjknckaaDoor
