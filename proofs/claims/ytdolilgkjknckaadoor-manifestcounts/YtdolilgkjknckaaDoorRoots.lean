/-
  The walks of the roots, the primes, and the first words and round numbers made of them.
-/
import Derived.Test.YtdolilgkjknckaaDoorSNum
import Derived.Test.YtdolilgkjknckaaDoorMem
namespace Go.Proofs.YtdolilgkjknckaaDoor.Sh
open Go Go.RowKit

theorem or64_bd (x y : Int) (x0 : 0 ≤ x) (x1 : x < 34359738368) (y0 : 0 ≤ y) (y1 : y < 34359738368) : 0 ≤ bits .or .u64 x y ∧ bits .or .u64 x y < 34359738368 := by
  obtain ⟨a, rfl⟩ := Int.eq_ofNat_of_zero_le x0
  obtain ⟨b, rfl⟩ := Int.eq_ofNat_of_zero_le y0
  rw [bits_or_u64_nat a b (by omega) (by omega)]
  have := Nat.or_lt_two_pow (n := 35) (x := a) (y := b) (by omega) (by omega)
  omega
theorem mul_bd (n : Int) (n0 : 0 ≤ n) (n1 : n < 34359738368) : 0 ≤ mulHi n n ∧ mulHi n n ≤ 63 ∧ 0 ≤ mulLo n n ∧ mulLo n n < 18446744073709551616 := by
  unfold mulHi mulLo
  have h : n * n ≤ 34359738367 * 34359738367 := Int.mul_le_mul (by omega) (by omega) n0 (by omega)
  have h' : 0 ≤ n * n := Int.mul_nonneg n0 n0
  generalize n * n = m at *
  omega
theorem mulHi_bd (x y : Int) (x0 : 0 ≤ x) (x1 : x < 18446744073709551616) (y0 : 0 ≤ y) (y1 : y < 34359738368) : 0 ≤ mulHi x y ∧ mulHi x y < 34359738368 := by
  unfold mulHi
  have h : x * y ≤ 18446744073709551615 * 34359738367 := Int.mul_le_mul (by omega) (by omega) y0 (by omega)
  have h' : 0 ≤ x * y := Int.mul_nonneg x0 y0
  generalize x * y = m at *
  omega
theorem mul63_bd (h n : Int) (h0 : 0 ≤ h) (h1 : h ≤ 63) (n0 : 0 ≤ n) (n1 : n < 34359738368) : 0 ≤ h * n ∧ h * n ≤ 2164663517184 := by
  have a : h * n ≤ 63 * 34359738367 := Int.mul_le_mul h1 (by omega) n0 (by omega)
  have b : 0 ≤ h * n := Int.mul_nonneg h0 n0
  omega

/-- the square root's bits, one behind the other -/
def sqGo (p : Int) : Nat → Int → Int → Int
  | 0, x, _ => x
  | f + 1, x, y => if 0 < y then (if mulHi (bits .or .u64 x y) (bits .or .u64 x y) < p then sqGo p f (bits .or .u64 x y) (y / 2) else sqGo p f x (y / 2)) else x
theorem sqGo_zero (p : Int) (f : Nat) (x : Int) : sqGo p f x 0 = x := by cases f <;> rfl
def sqBits (p : Int) : Int := sqGo p 35 0 17179869184 % 4294967296

/-- the cube root's -/
def cbGo (p : Int) : Nat → Int → Int → Int
  | 0, x, _ => x
  | f + 1, x, y => if 0 < y then (if mulHi (bits .or .u64 x y) (bits .or .u64 x y) * (bits .or .u64 x y) + mulHi (mulLo (bits .or .u64 x y) (bits .or .u64 x y)) (bits .or .u64 x y) < p * 4294967296 then cbGo p f (bits .or .u64 x y) (y / 2) else cbGo p f x (y / 2)) else x
theorem cbGo_zero (p : Int) (f : Nat) (x : Int) : cbGo p f x 0 = x := by cases f <;> rfl
def cbBits (p : Int) : Int := cbGo p 35 0 17179869184 % 4294967296

theorem Hid.mk {p : Prop} (h : p) : Hid p := h

theorem sq_any (p : Int) (w : World) :
    Calls Tryd.prog 75 #[.int .u64 p] w fun e w' => e = .returned (.int .u32 (sqBits p)) ∧ w' = w := by
  obtain ⟨T, hT⟩ : ∃ T, T = sqGo p 35 0 17179869184 := ⟨_, rfl⟩
  have eT : sqBits p = T % 4294967296 := by rw [hT]; rfl
  rw [eT]
  have HT : Hid (T = sqGo p 35 0 17179869184) := hT
  clear eT hT
  go_enter Tryd.func75, Tryd.ntmps75
  go_wp2_with fail
  go_loop [3, 4] (fun r b => ∃ (x y : Int) (f : Nat), 0 ≤ x ∧ x < 34359738368 ∧ r = .int .u64 x ∧ b = .int .u64 y ∧ 0 ≤ y ∧ y ≤ 17179869184 ∧ y < 2 ^ f ∧ T = sqGo p f x y) (fun _ b => (intOf b).toNat)
  case atStart => exact ⟨_, _, 35, by omega, by omega, rfl, rfl, by omega, by omega, by decide, HT.out⟩
  case round =>
    obtain ⟨x, y, f, x0, x1, rfl, rfl, y0, y1, y2, hT⟩ := hrel
    have HT2 : Hid (T = sqGo p f x y) := hT
    clear hT HT
    by_cases hy : 0 < y
    · obtain ⟨n0, n1⟩ := or64_bd x y x0 x1 y0 (by omega)
      cases f with
      | zero => omega
      | succ f =>
        have hT := HT2.out
        rw [sqGo, if_pos hy] at hT
        have y3 : y / 2 < 2 ^ f := by
          rw [Int.pow_succ] at y2
          omega
        generalize hn : bits .or .u64 x y = n at *
        obtain ⟨T1, hT1⟩ : ∃ T1, T1 = sqGo p f n (y / 2) := ⟨_, rfl⟩
        obtain ⟨T2, hT2⟩ : ∃ T2, T2 = sqGo p f x (y / 2) := ⟨_, rfl⟩
        rw [← hT1, ← hT2] at hT
        have HT3 := Hid.mk hT
        have HT1 := Hid.mk hT1
        have HT4 := Hid.mk hT2
        have Y3 := Hid.mk y3
        clear hT HT2 y2 y3 hT1 hT2
        go_wp2_with (go_at_call 89; refine (mul64_any _ _ (by omega) (by omega) (by omega) (by omega) _).mono ?_; rintro e w' ⟨rfl, rfl⟩)
        all_goals rename_i hlt
        · refine ⟨⟨_, _, f, n0, n1, rfl, rfl, by omega, by omega, Y3.out, ?_⟩, ?_⟩
          · have hT := HT3.out
            rw [if_pos hlt, HT1.out] at hT
            exact hT
          · simp [intOf]; omega
        · refine ⟨⟨_, _, f, x0, x1, rfl, rfl, by omega, by omega, Y3.out, ?_⟩, ?_⟩
          · have hT := HT3.out
            rw [if_neg (Int.not_lt.2 hlt), HT4.out] at hT
            exact hT
          · simp [intOf]; omega
    · obtain rfl : y = 0 := by omega
      have hT := HT2.out
      rw [sqGo_zero] at hT
      subst hT
      clear HT2 y2
      go_wp2_with fail
      go_ret
      exact ⟨rfl, rfl⟩

theorem cb_any (p : Int) (h0 : 0 ≤ p) (h1 : p < 400) (w : World) :
    Calls Tryd.prog 74 #[.int .u64 p] w fun e w' => e = .returned (.int .u32 (cbBits p)) ∧ w' = w := by
  obtain ⟨T, hT⟩ : ∃ T, T = cbGo p 35 0 17179869184 := ⟨_, rfl⟩
  have eT : cbBits p = T % 4294967296 := by rw [hT]; rfl
  rw [eT]
  have HT : Hid (T = cbGo p 35 0 17179869184) := hT
  clear eT hT
  go_enter Tryd.func74, Tryd.ntmps74
  go_wp2_with fail
  go_loop [3, 4] (fun r b => ∃ (x y : Int) (f : Nat), 0 ≤ x ∧ x < 34359738368 ∧ r = .int .u64 x ∧ b = .int .u64 y ∧ 0 ≤ y ∧ y ≤ 17179869184 ∧ y < 2 ^ f ∧ T = cbGo p f x y) (fun _ b => (intOf b).toNat)
  case atStart => exact ⟨_, _, 35, by omega, by omega, rfl, rfl, by omega, by omega, by decide, HT.out⟩
  case round =>
    obtain ⟨x, y, f, x0, x1, rfl, rfl, y0, y1, y2, hT⟩ := hrel
    have HT2 : Hid (T = cbGo p f x y) := hT
    clear hT HT
    by_cases hy : 0 < y
    · obtain ⟨n0, n1⟩ := or64_bd x y x0 x1 y0 (by omega)
      obtain ⟨m0, m1, m2, m3⟩ := mul_bd _ n0 n1
      obtain ⟨q0, q1⟩ := mulHi_bd _ _ m2 m3 n0 n1
      obtain ⟨r0, r1⟩ := mul63_bd _ _ m0 m1 n0 n1
      cases f with
      | zero => omega
      | succ f =>
        have hT := HT2.out
        rw [cbGo, if_pos hy] at hT
        have y3 : y / 2 < 2 ^ f := by
          rw [Int.pow_succ] at y2
          omega
        generalize hn : bits .or .u64 x y = n at *
        obtain ⟨T1, hT1⟩ : ∃ T1, T1 = cbGo p f n (y / 2) := ⟨_, rfl⟩
        obtain ⟨T2, hT2⟩ : ∃ T2, T2 = cbGo p f x (y / 2) := ⟨_, rfl⟩
        rw [← hT1, ← hT2] at hT
        have HT3 := Hid.mk hT
        have HT1 := Hid.mk hT1
        have HT4 := Hid.mk hT2
        have Y3 := Hid.mk y3
        clear hT HT2 y2 y3 hT1 hT2
        go_wp2_with (go_at_call 89; refine (mul64_any _ _ (by omega) (by omega) (by omega) (by omega) _).mono ?_; rintro e w' ⟨rfl, rfl⟩)
        all_goals rename_i hlt
        · refine ⟨⟨_, _, f, n0, n1, rfl, rfl, by omega, by omega, Y3.out, ?_⟩, ?_⟩
          · have hT := HT3.out
            rw [if_pos hlt, HT1.out] at hT
            exact hT
          · simp [intOf]; omega
        · refine ⟨⟨_, _, f, x0, x1, rfl, rfl, by omega, by omega, Y3.out, ?_⟩, ?_⟩
          · have hT := HT3.out
            rw [if_neg (Int.not_lt.2 hlt), HT4.out] at hT
            exact hT
          · simp [intOf]; omega
    · obtain rfl : y = 0 := by omega
      have hT := HT2.out
      rw [cbGo_zero] at hT
      subst hT
      clear HT2 y2
      go_wp2_with fail
      go_ret
      exact ⟨rfl, rfl⟩

/-- the first 64 primes -/
def primes64 : List Int := [2, 3, 5, 7, 11, 13, 17, 19, 23, 29, 31, 37, 41, 43, 47, 53, 59, 61, 67, 71, 73, 79, 83, 89, 97, 101, 103, 107, 109, 113, 127, 131, 137, 139, 149, 151, 157, 163, 167, 173, 179, 181, 191, 193, 197, 199, 211, 223, 227, 229, 233, 239, 241, 251, 257, 263, 269, 271, 277, 281, 283, 293, 307, 311]
def H0 : List Int := (primes64.take 8).map sqBits
def K0 : List Int := primes64.map cbBits
theorem H0_eq : H0 = [1779033703, 3144134277, 1013904242, 2773480762, 1359893119, 2600822924, 528734635, 1541459225] := by decide +kernel
theorem K0_head : K0.take 4 = [1116352408, 1899447441, 3049323471, 3921009573] := by decide +kernel
end Go.Proofs.YtdolilgkjknckaaDoor.Sh
