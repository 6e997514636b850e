/-
  Floats as whole numbers: each float that is a number has a key, and floats stand to each other as their keys do. No condition.
-/
import Derived.WalkKit
import Derived.WalkLawsBesides
namespace Go.Proofs.Ytfaaoogdmfllbaa
open Ieee

def nanB (x : Nat) : Bool := (double.read x).isNaN
/-- above all numbers' keys -/
def tE : Nat := 2045
theorem tE_is : tE = 2045 := rfl
def top : Int := 2 ^ (tE + 55)
def keyD : Datum → Int
  | .number s m i => signed s m (i + 1074).toNat
  | .infinity s => if s then - top else top
  | .nan _ _ => 0
def key (x : Nat) : Int := keyD (double.read x)

theorem sw_is : double.signWeight = 9223372036854775808 := by decide
theorem bin_is : double.binade = 4503599627370496 := by decide
theorem inf_is : double.infRung = 9218868437227405312 := by decide
theorem lp_is : double.leastPlace = -1074 := by decide

/-- what a word of the format can stand for -/
def Fits (d : Datum) : Prop := (∃ s t, d = .nan s t) ∨ (∃ s, d = .infinity s) ∨ ∃ s m i, d = .number s m i ∧ m < 9007199254740992 ∧ -1074 ≤ i ∧ i ≤ 971
theorem read_fits (x : Nat) : Fits (double.read x) := by
  unfold Format.read
  simp only [sw_is, bin_is, inf_is, lp_is]
  split
  · exact .inr (.inr ⟨_, _, _, rfl, by omega, by omega, by omega⟩)
  · split
    · exact .inr (.inr ⟨_, _, _, rfl, by omega, by omega, by omega⟩)
    · split
      · exact .inr (.inl ⟨_, rfl⟩)
      · exact .inl ⟨_, _, rfl⟩

theorem signed_eq (s : Bool) (m k : Nat) : signed s m k = (if s then -1 else 1) * (m : Int) * (2 : Int) ^ k := by
  unfold signed
  rw [Nat.shiftLeft_eq]
  cases s <;> simp [Int.neg_mul]
theorem signed_scale (s : Bool) (m k j : Nat) : signed s m (k + j) = signed s m k * (2 : Int) ^ j := by
  rw [signed_eq, signed_eq, Int.pow_add, Int.mul_assoc, Int.mul_assoc, Int.mul_assoc]
theorem compare_int (a b : Int) : compare a b = if a < b then .lt else if a = b then .eq else .gt := rfl
theorem compare_scale (a b : Int) (j : Nat) : compare (a * 2 ^ j) (b * 2 ^ j) = compare a b := by
  have h : (0 : Int) < 2 ^ j := Int.pow_pos (by omega)
  rw [compare_int, compare_int]
  have h1 : a * 2 ^ j < b * 2 ^ j ↔ a < b := ⟨fun g => Int.lt_of_mul_lt_mul_right g (by omega), fun g => Int.mul_lt_mul_of_pos_right g h⟩
  have h2 : a * 2 ^ j = b * 2 ^ j ↔ a = b := ⟨fun g => Int.eq_of_mul_eq_mul_right (by omega) g, fun g => by rw [g]⟩
  simp only [h1, h2]
theorem signed_lt (s : Bool) (m : Nat) (i : Int) (hm : m < 9007199254740992) (hi : i ≤ 971) : - top < signed s m (i + 1074).toNat ∧ signed s m (i + 1074).toNat < top := by
  have hk : (i + 1074).toNat ≤ tE := by rw [tE_is]; omega
  have h1 : (2 : Nat) ^ (i + 1074).toNat ≤ 2 ^ tE := Nat.pow_le_pow_right (by omega) hk
  have h2 : m * 2 ^ (i + 1074).toNat < 2 ^ (tE + 55) := by
    calc m * 2 ^ (i + 1074).toNat ≤ m * 2 ^ tE := Nat.mul_le_mul_left _ h1
      _ < 9007199254740992 * 2 ^ tE := Nat.mul_lt_mul_of_pos_right hm (Nat.pow_pos (by omega))
      _ ≤ 2 ^ (tE + 55) := by rw [show (9007199254740992 : Nat) = 2 ^ 53 from by decide, ← Nat.pow_add]; exact Nat.pow_le_pow_right (by omega) (by omega)
  have h3 : ((m * 2 ^ (i + 1074).toNat : Nat) : Int) < top := by
    have : ((2 ^ (tE + 55) : Nat) : Int) = top := by unfold top; rw [Int.natCast_pow]; rfl
    rw [← this]
    exact Int.ofNat_lt.2 h2
  unfold signed
  rw [Nat.shiftLeft_eq]
  generalize m * 2 ^ (i + 1074).toNat = n at *
  cases s <;> simp <;> omega
theorem top_pos : 0 < top := by unfold top; exact Int.pow_pos (by omega)

theorem order_is (x y : Nat) : double.order x y = if nanB x || nanB y then none else some (compare (key x) (key y)) := by
  unfold Format.order nanB key
  have hx := read_fits x
  have hy := read_fits y
  generalize double.read x = a at *
  generalize double.read y = b at *
  have tp := top_pos
  rcases hx with ⟨s, t, rfl⟩ | ⟨s, rfl⟩ | ⟨s, m, i, rfl, hm, h1, h2⟩
  · simp [Datum.order, Datum.isNaN]
  · rcases hy with ⟨t, u, rfl⟩ | ⟨t, rfl⟩ | ⟨t, m, i, rfl, hm, h1, h2⟩
    · simp [Datum.order, Datum.isNaN]
    · simp only [Datum.order, Datum.isNaN, keyD]
      rw [compare_int]
      generalize top = T at tp
      have hT : ¬ T < - T := by omega
      have hT2 : - T < T := by omega
      have hT3 : ¬ T = - T := by omega
      cases s <;> cases t <;> simp [hT, hT2, hT3] <;> rfl
    · have := signed_lt t m i hm h2
      simp only [Datum.order, Datum.isNaN, keyD]
      rw [compare_int]
      cases s <;> simp only [Bool.false_eq_true, if_false, if_true, Bool.or_self] <;> first | rw [if_pos (by omega)] | rw [if_neg (by omega), if_neg (by omega)]
  · have hs := signed_lt s m i hm h2
    rcases hy with ⟨t, u, rfl⟩ | ⟨t, rfl⟩ | ⟨t, n, j, rfl, hn, h3, h4⟩
    · simp [Datum.order, Datum.isNaN]
    · simp only [Datum.order, Datum.isNaN, keyD]
      rw [compare_int]
      cases t <;> simp only [Bool.false_eq_true, if_false, if_true, Bool.or_self] <;> first | rw [if_pos (by omega)] | rw [if_neg (by omega), if_neg (by omega)]
    · simp only [Datum.order, Datum.isNaN, keyD]
      have e1 : (i + 1074).toNat = (i - min i j).toNat + (min i j + 1074).toNat := by omega
      have e2 : (j + 1074).toNat = (j - min i j).toNat + (min i j + 1074).toNat := by omega
      rw [e1, e2, signed_scale, signed_scale, compare_scale]
      simp
end Go.Proofs.Ytfaaoogdmfllbaa
