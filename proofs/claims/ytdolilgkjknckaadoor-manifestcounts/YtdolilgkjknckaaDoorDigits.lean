/-
  Digits written, and read again: what is there comes back.
-/
import Derived.Test.YtdolilgkjknckaaDoorRefHex
namespace Go.Proofs.YtdolilgkjknckaaDoor.Sh
set_option maxRecDepth 100000
open Go Go.RowKit

theorem dig_isDig (n : Nat) (h : n < 16) : isDig (dig n) = true := by
  have : ∀ m : Fin 16, isDig (dig m.val) = true := by decide
  exact this ⟨n, h⟩
theorem pair_dig (b : UInt8) : pairV (dig (b.toNat / 16)) (dig (b.toNat % 16)) = b := by
  have : ∀ m : Fin 256, pairV (dig (m.val / 16)) (dig (m.val % 16)) = UInt8.ofNat m.val := by decide +kernel
  have h := this ⟨b.toNat, b.toNat_lt⟩
  rw [h]
  simp
theorem dig_pair (a b : UInt8) (ha : isDig a = true) (hb : isDig b = true) : dig ((pairV a b).toNat / 16) = a ∧ dig ((pairV a b).toNat % 16) = b := by
  have : ∀ m n : Fin 256, isDig (UInt8.ofNat m.val) = true → isDig (UInt8.ofNat n.val) = true → dig ((pairV (UInt8.ofNat m.val) (UInt8.ofNat n.val)).toNat / 16) = UInt8.ofNat m.val ∧ dig ((pairV (UInt8.ofNat m.val) (UInt8.ofNat n.val)).toNat % 16) = UInt8.ofNat n.val := by decide +kernel
  have h := this ⟨a.toNat, a.toNat_lt⟩ ⟨b.toNat, b.toNat_lt⟩
  simp only [UInt8.ofNat_toNat] at h
  exact h ha hb

/-- two by two -/
def unL : List UInt8 → List UInt8
  | a :: b :: l => pairV a b :: unL l
  | _ => []
theorem unTo_eq (l : List UInt8) (k : Nat) (h : l.length = 2 * k) : unTo l k = unL l := by
  induction k generalizing l with
  | zero =>
    cases l with
    | nil => rfl
    | cons a l => simp at h
  | succ k ih =>
    match l, h with
    | a :: b :: l, h =>
      have hl : l.length = 2 * k := by simp at h; omega
      rw [unL, ← ih l hl]
      unfold unTo
      rw [List.range_succ_eq_map, List.map_cons, List.map_map]
      congr 1
    | [a], h => simp at h; omega
    | [], h => simp at h
theorem hexL_cons (b : UInt8) (l : List UInt8) : hexL (b :: l) = dig (b.toNat / 16) :: dig (b.toNat % 16) :: hexL l := by
  have := hexL_append [b] l
  rw [hexL_one] at this
  exact this
theorem unL_hexL (l : List UInt8) : unL (hexL l) = l := by
  induction l with
  | nil => rw [hexL_nil]; rfl
  | cons b l ih => rw [hexL_cons, unL, pair_dig, ih]
theorem all_hexL (l : List UInt8) : (hexL l).all isDig = true := by
  induction l with
  | nil => rw [hexL_nil]; rfl
  | cons b l ih =>
    have := b.toNat_lt
    rw [hexL_cons, List.all_cons, List.all_cons, ih, dig_isDig _ (by omega), dig_isDig _ (by omega)]
    rfl
theorem hexL_unL (l : List UInt8) (k : Nat) (h : l.length = 2 * k) (ha : l.all isDig = true) : hexL (unL l) = l := by
  induction k generalizing l with
  | zero =>
    cases l with
    | nil => rw [unL, hexL_nil]; simp
    | cons a l => simp at h
  | succ k ih =>
    match l, h with
    | a :: b :: l, h =>
      have hl : l.length = 2 * k := by simp at h; omega
      rw [List.all_cons, List.all_cons, Bool.and_eq_true, Bool.and_eq_true] at ha
      obtain ⟨h1, h2, h3⟩ := ha
      obtain ⟨e1, e2⟩ := dig_pair a b h1 h2
      rw [unL, hexL_cons, e1, e2, ih l hl h3]
    | [a], h => simp at h; omega
    | [], h => simp at h
theorem unhex_hexL (l : List UInt8) : unhex (hexL l) = (l, 0) := by
  have hl := hexL_length l
  rw [unhex, if_neg (by omega), if_pos (all_hexL l), unTo_eq _ _ (by omega : (hexL l).length = 2 * ((hexL l).length / 2)), unL_hexL]
theorem unhex_odd (l : List UInt8) (h : l.length % 2 = 1) : unhex l = ([], 2) := by rw [unhex, if_pos h]
theorem unhex_bad (l : List UInt8) (h : ¬ l.length % 2 = 1) (ha : ¬ l.all isDig = true) : unhex l = ([], 3) := by rw [unhex, if_neg h, if_neg ha]
theorem unhex_good (l : List UInt8) (h : ¬ l.length % 2 = 1) (ha : l.all isDig = true) : (unhex l).2 = 0 ∧ hexL (unhex l).1 = l := by
  rw [unhex, if_neg h, if_pos ha]
  refine ⟨rfl, ?_⟩
  show hexL (unTo l (l.length / 2)) = l
  rw [unTo_eq _ _ (by omega), hexL_unL l (l.length / 2) (by omega) ha]
theorem unhex_short (l : List UInt8) : (unhex l).1.length ≤ l.length := by
  rw [unhex]
  split
  · simp
  · split
    · show (unTo l (l.length / 2)).length ≤ l.length
      rw [unTo_length]
      omega
    · simp
end Go.Proofs.YtdolilgkjknckaaDoor.Sh
