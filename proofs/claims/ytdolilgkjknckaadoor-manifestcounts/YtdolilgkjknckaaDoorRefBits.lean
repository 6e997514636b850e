/-
  The answer's choice and majority are the program's.
-/
import Derived.Test.YtdolilgkjknckaaDoorTimes
import Derived.Test.YtdolilgkjknckaaDoorMixed
namespace Go.Proofs.YtdolilgkjknckaaDoor.Sh
open Go Go.RowKit

def chR (e f g : Int) : Int := bits .or .u32 (bits .and .u32 e f) (bits .and .u32 (4294967295 - e) g)
def majR (a b c : Int) : Int := bits .or .u32 (bits .or .u32 (bits .and .u32 a b) (bits .and .u32 a c)) (bits .and .u32 b c)

theorem pow32 (i : Nat) (h : 32 ≤ i) : 4294967296 ≤ 2 ^ i := by
  have h2 : 2 ^ 32 ≤ 2 ^ i := Nat.pow_le_pow_right (by decide) h
  exact h2
theorem not_xor (e : Nat) (h : e < 4294967296) : 4294967295 - e = 4294967295 ^^^ e := by
  apply Nat.eq_of_testBit_eq
  intro i
  have h1 := Nat.testBit_two_pow_sub_succ (x := e) (n := 32) h i
  have h2 : (4294967295 : Nat).testBit i = decide (i < 32) := Nat.testBit_two_pow_sub_one 32 i
  rw [show 2 ^ 32 - (e + 1) = 4294967295 - e by omega] at h1
  rw [h1, Nat.testBit_xor, h2]
  by_cases hi : i < 32
  · simp [hi]
  · have : e.testBit i = false := Nat.testBit_lt_two_pow (Nat.lt_of_lt_of_le h (pow32 i (by omega)))
    simp [hi, this]
theorem and_lt (a b : Nat) (h : a < 4294967296) : a &&& b < 4294967296 := Nat.lt_of_le_of_lt Nat.and_le_left h
theorem xor_lt (a b : Nat) (h : a < 4294967296) (k : b < 4294967296) : a ^^^ b < 4294967296 := Nat.xor_lt_two_pow (n := 32) h k
theorem or_lt (a b : Nat) (h : a < 4294967296) (k : b < 4294967296) : a ||| b < 4294967296 := Nat.or_lt_two_pow (n := 32) h k

theorem ch_same (e f g : Int) (e0 : 0 ≤ e) (e1 : e < 4294967296) (f0 : 0 ≤ f) (f1 : f < 4294967296) (g0 : 0 ≤ g) (g1 : g < 4294967296) : chR e f g = chD e f g := by
  obtain ⟨E, rfl⟩ := Int.eq_ofNat_of_zero_le e0
  obtain ⟨F, rfl⟩ := Int.eq_ofNat_of_zero_le f0
  obtain ⟨G, rfl⟩ := Int.eq_ofNat_of_zero_le g0
  have hE : E < 4294967296 := by omega
  have hF : F < 4294967296 := by omega
  have hG : G < 4294967296 := by omega
  have s1 : (4294967295 - (E : Int)) = ((4294967295 - E : Nat) : Int) := by omega
  have hx : 4294967295 ^^^ E < 4294967296 := xor_lt _ _ (by omega) hE
  have m1 : (IntKind.u32.max : Int) = ((4294967295 : Nat) : Int) := rfl
  unfold chR chD
  rw [s1, not_xor E hE, m1, u32_and_nat E F hE hF, u32_and_nat _ G hx hG, u32_xor_nat 4294967295 E (by omega) hE, u32_and_nat _ G hx hG, u32_or_nat _ _ (and_lt _ _ hE) (and_lt _ _ hx), u32_xor_nat _ _ (and_lt _ _ hE) (and_lt _ _ hx)]
  congr 1
  apply Nat.eq_of_testBit_eq
  intro i
  simp only [Nat.testBit_or, Nat.testBit_xor, Nat.testBit_and]
  have h2 : (4294967295 : Nat).testBit i = decide (i < 32) := Nat.testBit_two_pow_sub_one 32 i
  rw [h2]
  by_cases hi : i < 32
  · cases E.testBit i <;> cases F.testBit i <;> cases G.testBit i <;> simp [hi]
  · have : G.testBit i = false := Nat.testBit_lt_two_pow (Nat.lt_of_lt_of_le hG (pow32 i (by omega)))
    cases E.testBit i <;> cases F.testBit i <;> simp [this]
theorem maj_same (a b c : Int) (a0 : 0 ≤ a) (a1 : a < 4294967296) (b0 : 0 ≤ b) (b1 : b < 4294967296) (c0 : 0 ≤ c) (c1 : c < 4294967296) : majR a b c = majD a b c := by
  obtain ⟨A, rfl⟩ := Int.eq_ofNat_of_zero_le a0
  obtain ⟨B, rfl⟩ := Int.eq_ofNat_of_zero_le b0
  obtain ⟨C, rfl⟩ := Int.eq_ofNat_of_zero_le c0
  have hA : A < 4294967296 := by omega
  have hB : B < 4294967296 := by omega
  have hC : C < 4294967296 := by omega
  have h1 := and_lt A B hA
  have h2 := and_lt A C hA
  have h3 := and_lt B C hB
  unfold majR majD
  rw [u32_and_nat A B hA hB, u32_and_nat A C hA hC, u32_and_nat B C hB hC, u32_or_nat _ _ h1 h2, u32_xor_nat _ _ h1 h2, u32_or_nat _ _ (or_lt _ _ h1 h2) h3, u32_xor_nat _ _ (xor_lt _ _ h1 h2) h3]
  congr 1
  apply Nat.eq_of_testBit_eq
  intro i
  simp only [Nat.testBit_or, Nat.testBit_xor, Nat.testBit_and]
  cases A.testBit i <;> cases B.testBit i <;> cases C.testBit i <;> rfl

theorem small_of {l : List Int} (h : ∀ x ∈ l, 0 ≤ x ∧ x < 4294967296) : Small l := by
  intro j
  by_cases hj : j < l.length
  · rw [List.getD_eq_getElem?_getD, List.getElem?_eq_getElem hj]
    exact h _ (List.getElem_mem hj)
  · rw [List.getD_eq_getElem?_getD, List.getElem?_eq_none (by omega)]
    exact ⟨Int.le_refl 0, (by decide : (0 : Int) < 4294967296)⟩
theorem mod_small (x : Int) : 0 ≤ x % 4294967296 ∧ x % 4294967296 < 4294967296 := by omega
theorem rnd_small (k x : Int) (v : List Int) (h : Small v) : Small (rnd k x v) := by
  apply small_of
  intro y hy
  simp only [rnd, List.mem_cons, List.not_mem_nil, or_false] at hy
  rcases hy with rfl | rfl | rfl | rfl | rfl | rfl | rfl | rfl
  · exact mod_small _
  · exact h 0
  · exact h 1
  · exact h 2
  · exact mod_small _
  · exact h 4
  · exact h 5
  · exact h 6
theorem rounds_small (K S v : List Int) (h : Small v) (n : Nat) : Small (rounds K S v n) := by
  induction n with
  | zero => exact h
  | succ n ih => exact rnd_small _ _ _ ih
theorem rounds_length (K S v : List Int) (h : v.length = 8) (n : Nat) : (rounds K S v n).length = 8 := by
  cases n with
  | zero => exact h
  | succ n => rfl
theorem mix_small (K S ws : List Int) : Small (mix K S ws) := by
  rw [mix_eq]
  apply small_of
  intro y hy
  simp only [sumTo, List.mem_map, List.mem_range] at hy
  obtain ⟨i, hi, rfl⟩ := hy
  rw [if_pos hi]
  exact mod_small _
theorem H0_small : Small H0 := by
  apply small_of
  intro x hx
  rw [H0_eq] at hx
  revert x
  decide
end Go.Proofs.YtdolilgkjknckaaDoor.Sh
