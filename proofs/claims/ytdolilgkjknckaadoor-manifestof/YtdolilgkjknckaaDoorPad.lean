/-
  The text filled up as a whole is the text's blocks, and behind them the rest filled up.
-/
import Derived.Test.YtdolilgkjknckaaDoorRefSumA
namespace Go.Proofs.YtdolilgkjknckaaDoor.Sh
set_option maxRecDepth 100000
open Go Go.RowKit

theorem absorb_prefix (ws : List Int) (l r : List UInt8) (k : Nat) (h : 64 * k ≤ l.length) : absorb ws (l ++ r) k = absorb ws l k := by
  induction k with
  | zero => rfl
  | succ k ih =>
    rw [absorb, absorb, ih (by omega)]
    congr 2
    rw [List.drop_append_of_le_length (by omega), List.take_append_of_le_length (by rw [List.length_drop]; omega)]
theorem absorb_behind (ws : List Int) (l r : List UInt8) (k m : Nat) (h : l.length = 64 * k) : absorb ws (l ++ r) (k + m) = absorb (absorb ws l k) r m := by
  induction m with
  | zero => exact absorb_prefix ws l r k (by omega)
  | succ m ih =>
    rw [← Nat.add_assoc, absorb, absorb, ih]
    congr 2
    rw [List.drop_append, List.drop_eq_nil_of_le (by omega), List.nil_append, h, show 64 * (k + m) - 64 * k = 64 * m by omega]

theorem fillLen_get (l : List UInt8) (last n j : Nat) (h : last ≤ l.length) (h8 : 8 ≤ last) (hj : j ≤ 8) (i : Nat) :
    (fillLen l last n j)[i]? = if last - j ≤ i ∧ i < last then some (UInt8.ofNat (n / 256 ^ (last - 1 - i))) else l[i]? := by
  induction j with
  | zero =>
    rw [if_neg (by omega)]
    rfl
  | succ j ih =>
    rw [fillLen, List.getElem?_set, ih (by omega), fillLen_length]
    by_cases hi : last - 1 - j = i
    · rw [if_pos hi, if_pos (by omega), if_pos (by omega), show last - 1 - i = j by omega]
    · rw [if_neg hi]
      by_cases h2 : last - j ≤ i ∧ i < last
      · rw [if_pos h2, if_pos (by omega)]
      · rw [if_neg h2, if_neg (by omega)]

theorem be_at (n i : Nat) (h : i < 8) : (beTo n 8)[i]? = some (UInt8.ofNat (n * 8 / 256 ^ (7 - i))) := by
  have e : (2 : Nat) ^ (56 - 8 * i) = 256 ^ (7 - i) := by
    rw [show (256 : Nat) = 2 ^ 8 from rfl, ← Nat.pow_mul, show 8 * (7 - i) = 56 - 8 * i by omega]
  unfold beTo
  rw [List.getElem?_map, List.getElem?_range h, Option.map_some, e]

theorem filledL_same (l : List UInt8) (n : Nat) (h : l.length < 64) : filledL l n = padZ l (lastOf l.length - 9 - l.length) ++ beTo n 8 := by
  have hl : lastOf l.length = 64 ∨ lastOf l.length = 128 := by unfold lastOf; split <;> simp
  have hl9 : l.length + 9 ≤ lastOf l.length := by unfold lastOf; split <;> omega
  unfold filledL
  generalize lastOf l.length = L at *
  have hh : (headed l).length = 128 := headed_length l (by omega)
  apply List.ext_getElem?
  intro i
  rw [List.getElem?_take]
  by_cases hi : i < L
  · rw [if_pos hi, fillLen_get _ _ _ _ (by rw [List.length_set, hh]; omega) (by omega) (Nat.le_refl 8)]
    by_cases hb : L - 8 ≤ i
    · rw [if_pos ⟨hb, hi⟩, List.getElem?_append_right (by rw [padZ_length]; omega), padZ_length, be_at _ _ (by omega)]
      rw [show L - 1 - i = 7 - (i - (l.length + 1 + (L - 9 - l.length))) by omega]
    · rw [if_neg (by omega), List.getElem?_append_left (by rw [padZ_length]; omega), List.getElem?_set, hh]
      unfold padZ headed
      by_cases h1 : l.length = i
      · rw [if_pos h1, if_pos (by omega), List.append_assoc, List.getElem?_append_right (by omega), ← h1]
        simp
      · rw [if_neg h1]
        by_cases h2 : i < l.length
        · rw [List.append_assoc, List.getElem?_append_left h2, List.getElem?_append_left h2]
        · rw [List.getElem?_append_right (by omega), List.getElem?_replicate, if_pos (by omega), List.getElem?_append_right (by simp; omega), List.getElem?_replicate, if_pos (by simp; omega)]
  · rw [if_neg hi, List.getElem?_eq_none (by rw [List.length_append, padZ_length, beTo_length]; omega)]

theorem bytesOf_padded (l : List UInt8) {B : Nat} (hB : (padded l).length = 64 * B) : bytesOf (absorb H0 (padded l) B) = sumL l := by
  have hr : (l.drop (64 * (l.length / 64))).length = l.length % 64 := by rw [List.length_drop]; omega
  have hz : lastOf (l.length % 64) - 9 - l.length % 64 = zOf l.length := by unfold lastOf zOf; split <;> omega
  have hb : B = l.length / 64 + lastOf (l.length % 64) / 64 := by
    rw [padded_length] at hB
    revert hB
    unfold zOf lastOf
    split <;> omega
  have hp : padded l = l.take (64 * (l.length / 64)) ++ filledL (l.drop (64 * (l.length / 64))) l.length := by
    rw [filledL_same _ _ (by rw [hr]; omega), hr, hz, padded_eq]
    unfold padZ
    rw [← List.append_assoc, ← List.append_assoc, ← List.append_assoc, List.take_append_drop]
  have ht : (l.take (64 * (l.length / 64))).length = 64 * (l.length / 64) := by rw [List.length_take]; omega
  unfold sumL
  congr 1
  rw [hb, hp, absorb_behind _ _ _ _ _ ht]
  congr 1
  have := absorb_prefix H0 (l.take (64 * (l.length / 64))) (l.drop (64 * (l.length / 64))) (l.length / 64) (by omega)
  rw [List.take_append_drop] at this
  exact this.symm
end Go.Proofs.YtdolilgkjknckaaDoor.Sh
