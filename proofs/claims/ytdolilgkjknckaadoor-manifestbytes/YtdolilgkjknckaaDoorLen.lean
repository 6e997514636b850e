/-
  How many bits a number has: the walk of Len64. No condition.
-/
import Derived.Test.YtdolilgkjknckaaDoorFix
namespace Go.Proofs.YtdolilgkjknckaaDoor
open Go Go.RowKit

theorem len_close (k x m : Nat) (hk : k ≤ 56) (hm : m < 256) (hx : bitLen x = k + bitLen m) : wrap64 ((k : Int) + wrap64 (bitLen m : Int)) = (bitLen x : Int) := by
  have := bitLen_le8 m hm
  unfold wrap64
  omega
theorem len_close0 (x : Nat) (hm : x < 256) : wrap64 (wrap64 (bitLen x : Int)) = (bitLen x : Int) := by
  have := bitLen_le8 x hm
  unfold wrap64
  omega
theorem len_close1 (x : Nat) (hm : x < 256) : wrap64 (bitLen x : Int) = (bitLen x : Int) := by
  have := bitLen_le8 x hm
  unfold wrap64
  omega
theorem bitLen_by (x a b : Nat) (h : b = 2 ^ a) (hx : x / b ≠ 0) : bitLen x = a + bitLen (x / b) := by
  subst h
  exact bitLen_shift x a hx
theorem quot_by (n B C b sh : Nat) (hb : b = 2 ^ sh) (hBC : B = b * C) (h : n < B) (h1 : (b : Int) ≤ (n : Int)) : ∃ a : Nat, (n : Int) / (b : Int) = a ∧ a < C ∧ Hid (bitLen n = sh + bitLen a) := by
  have hpos : 0 < b := by subst hb; exact Nat.two_pow_pos sh
  refine ⟨n / b, by simp, Nat.div_lt_of_lt_mul (by rw [← hBC]; exact h), ?_⟩
  have hx : n / b ≠ 0 := by
    have : 0 < n / b := Nat.div_pos (by omega) hpos
    omega
  exact bitLen_by n sh b hb hx
set_option maxHeartbeats 1000000 in
set_option maxRecDepth 100000 in
theorem len_111 (n : Nat) (w : World) (d0 : decide ((4294967296 : Int) ≤ (n : Int)) = true) (a : Nat) (qa : (n : Int) / 4294967296 = (a : Int)) (Xa : Hid (bitLen n = 32 + bitLen a)) (d1 : decide ((65536 : Int) ≤ (a : Int)) = true) (b : Nat) (qb : (a : Int) / 65536 = (b : Int)) (Xb : Hid (bitLen a = 16 + bitLen b)) (d2 : decide ((256 : Int) ≤ (b : Int)) = true) (c : Nat) (qc : (b : Int) / 256 = (c : Int)) (Xc : Hid (bitLen b = 8 + bitLen c)) (hm : (c : Int) < 256) :
    Calls Tryd.prog 65 #[.int .u64 n] w fun e w' => e = .returned (.int .i64 (bitLen n)) ∧ w' = w := by
  go_enter Tryd.func65, Tryd.ntmps65
  go_wp2_with fail
  go_ret
  refine ⟨congrArg Ending.returned (congrArg (Value.int IntKind.i64) ?_), rfl⟩
  rw [len8tab_get]
  exact len_close 56 n _ (by omega) (by omega) (by have e0 := Xa.out; have e1 := Xb.out; have e2 := Xc.out; omega)

set_option maxHeartbeats 1000000 in
set_option maxRecDepth 100000 in
theorem len_110 (n : Nat) (w : World) (d0 : decide ((4294967296 : Int) ≤ (n : Int)) = true) (a : Nat) (qa : (n : Int) / 4294967296 = (a : Int)) (Xa : Hid (bitLen n = 32 + bitLen a)) (d1 : decide ((65536 : Int) ≤ (a : Int)) = true) (b : Nat) (qb : (a : Int) / 65536 = (b : Int)) (Xb : Hid (bitLen a = 16 + bitLen b)) (d2 : decide ((256 : Int) ≤ (b : Int)) = false) (hm : (b : Int) < 256) :
    Calls Tryd.prog 65 #[.int .u64 n] w fun e w' => e = .returned (.int .i64 (bitLen n)) ∧ w' = w := by
  go_enter Tryd.func65, Tryd.ntmps65
  go_wp2_with fail
  go_ret
  refine ⟨congrArg Ending.returned (congrArg (Value.int IntKind.i64) ?_), rfl⟩
  rw [len8tab_get]
  exact len_close 48 n _ (by omega) (by omega) (by have e0 := Xa.out; have e1 := Xb.out; omega)

set_option maxHeartbeats 1000000 in
set_option maxRecDepth 100000 in
theorem len_101 (n : Nat) (w : World) (d0 : decide ((4294967296 : Int) ≤ (n : Int)) = true) (a : Nat) (qa : (n : Int) / 4294967296 = (a : Int)) (Xa : Hid (bitLen n = 32 + bitLen a)) (d1 : decide ((65536 : Int) ≤ (a : Int)) = false) (d2 : decide ((256 : Int) ≤ (a : Int)) = true) (c : Nat) (qc : (a : Int) / 256 = (c : Int)) (Xc : Hid (bitLen a = 8 + bitLen c)) (hm : (c : Int) < 256) :
    Calls Tryd.prog 65 #[.int .u64 n] w fun e w' => e = .returned (.int .i64 (bitLen n)) ∧ w' = w := by
  go_enter Tryd.func65, Tryd.ntmps65
  go_wp2_with fail
  go_ret
  refine ⟨congrArg Ending.returned (congrArg (Value.int IntKind.i64) ?_), rfl⟩
  rw [len8tab_get]
  exact len_close 40 n _ (by omega) (by omega) (by have e0 := Xa.out; have e1 := Xc.out; omega)

set_option maxHeartbeats 1000000 in
set_option maxRecDepth 100000 in
theorem len_100 (n : Nat) (w : World) (d0 : decide ((4294967296 : Int) ≤ (n : Int)) = true) (a : Nat) (qa : (n : Int) / 4294967296 = (a : Int)) (Xa : Hid (bitLen n = 32 + bitLen a)) (d1 : decide ((65536 : Int) ≤ (a : Int)) = false) (d2 : decide ((256 : Int) ≤ (a : Int)) = false) (hm : (a : Int) < 256) :
    Calls Tryd.prog 65 #[.int .u64 n] w fun e w' => e = .returned (.int .i64 (bitLen n)) ∧ w' = w := by
  go_enter Tryd.func65, Tryd.ntmps65
  go_wp2_with fail
  go_ret
  refine ⟨congrArg Ending.returned (congrArg (Value.int IntKind.i64) ?_), rfl⟩
  rw [len8tab_get]
  exact len_close 32 n _ (by omega) (by omega) (by have e0 := Xa.out; omega)

set_option maxHeartbeats 1000000 in
set_option maxRecDepth 100000 in
theorem len_011 (n : Nat) (w : World) (d0 : decide ((4294967296 : Int) ≤ (n : Int)) = false) (d1 : decide ((65536 : Int) ≤ (n : Int)) = true) (b : Nat) (qb : (n : Int) / 65536 = (b : Int)) (Xb : Hid (bitLen n = 16 + bitLen b)) (d2 : decide ((256 : Int) ≤ (b : Int)) = true) (c : Nat) (qc : (b : Int) / 256 = (c : Int)) (Xc : Hid (bitLen b = 8 + bitLen c)) (hm : (c : Int) < 256) :
    Calls Tryd.prog 65 #[.int .u64 n] w fun e w' => e = .returned (.int .i64 (bitLen n)) ∧ w' = w := by
  go_enter Tryd.func65, Tryd.ntmps65
  go_wp2_with fail
  go_ret
  refine ⟨congrArg Ending.returned (congrArg (Value.int IntKind.i64) ?_), rfl⟩
  rw [len8tab_get]
  exact len_close 24 n _ (by omega) (by omega) (by have e0 := Xb.out; have e1 := Xc.out; omega)

set_option maxHeartbeats 1000000 in
set_option maxRecDepth 100000 in
theorem len_010 (n : Nat) (w : World) (d0 : decide ((4294967296 : Int) ≤ (n : Int)) = false) (d1 : decide ((65536 : Int) ≤ (n : Int)) = true) (b : Nat) (qb : (n : Int) / 65536 = (b : Int)) (Xb : Hid (bitLen n = 16 + bitLen b)) (d2 : decide ((256 : Int) ≤ (b : Int)) = false) (hm : (b : Int) < 256) :
    Calls Tryd.prog 65 #[.int .u64 n] w fun e w' => e = .returned (.int .i64 (bitLen n)) ∧ w' = w := by
  go_enter Tryd.func65, Tryd.ntmps65
  go_wp2_with fail
  go_ret
  refine ⟨congrArg Ending.returned (congrArg (Value.int IntKind.i64) ?_), rfl⟩
  rw [len8tab_get]
  exact len_close 16 n _ (by omega) (by omega) (by have e0 := Xb.out; omega)

set_option maxHeartbeats 1000000 in
set_option maxRecDepth 100000 in
theorem len_001 (n : Nat) (w : World) (d0 : decide ((4294967296 : Int) ≤ (n : Int)) = false) (d1 : decide ((65536 : Int) ≤ (n : Int)) = false) (d2 : decide ((256 : Int) ≤ (n : Int)) = true) (c : Nat) (qc : (n : Int) / 256 = (c : Int)) (Xc : Hid (bitLen n = 8 + bitLen c)) (hm : (c : Int) < 256) :
    Calls Tryd.prog 65 #[.int .u64 n] w fun e w' => e = .returned (.int .i64 (bitLen n)) ∧ w' = w := by
  go_enter Tryd.func65, Tryd.ntmps65
  go_wp2_with fail
  go_ret
  refine ⟨congrArg Ending.returned (congrArg (Value.int IntKind.i64) ?_), rfl⟩
  rw [len8tab_get]
  exact len_close 8 n _ (by omega) (by omega) (by have e0 := Xc.out; omega)

set_option maxHeartbeats 1000000 in
set_option maxRecDepth 100000 in
theorem len_000 (n : Nat) (w : World) (d0 : decide ((4294967296 : Int) ≤ (n : Int)) = false) (d1 : decide ((65536 : Int) ≤ (n : Int)) = false) (d2 : decide ((256 : Int) ≤ (n : Int)) = false) (hm : (n : Int) < 256) :
    Calls Tryd.prog 65 #[.int .u64 n] w fun e w' => e = .returned (.int .i64 (bitLen n)) ∧ w' = w := by
  go_enter Tryd.func65, Tryd.ntmps65
  go_wp2_with fail
  go_ret
  refine ⟨congrArg Ending.returned (congrArg (Value.int IntKind.i64) ?_), rfl⟩
  rw [len8tab_get]
  first | exact len_close0 n (by omega) | exact len_close1 n (by omega)
theorem len64_any (n : Nat) (h : n < 18446744073709551616) (w : World) :
    Calls Tryd.prog 65 #[.int .u64 n] w fun e w' => e = .returned (.int .i64 (bitLen n)) ∧ w' = w := by
  by_cases h1 : ((4294967296 : Nat) : Int) ≤ (n : Int)
  · obtain ⟨a, qa, ba, Xa⟩ := quot_by n 18446744073709551616 4294967296 4294967296 32 (by decide) (by decide) (by omega) h1
    by_cases h2 : ((65536 : Nat) : Int) ≤ (a : Int)
    · obtain ⟨b, qb, bb, Xb⟩ := quot_by a 4294967296 65536 65536 16 (by decide) (by decide) (by omega) h2
      by_cases h3 : ((256 : Nat) : Int) ≤ (b : Int)
      · obtain ⟨c, qc, bc, Xc⟩ := quot_by b 65536 256 256 8 (by decide) (by decide) (by omega) h3
        exact len_111 n w (decide_eq_true h1) a qa Xa (decide_eq_true h2) b qb Xb (decide_eq_true h3) c qc Xc (by omega)
      · exact len_110 n w (decide_eq_true h1) a qa Xa (decide_eq_true h2) b qb Xb (decide_eq_false h3) (by omega)
    · by_cases h3 : ((256 : Nat) : Int) ≤ (a : Int)
      · obtain ⟨c, qc, bc, Xc⟩ := quot_by a 65536 256 256 8 (by decide) (by decide) (by omega) h3
        exact len_101 n w (decide_eq_true h1) a qa Xa (decide_eq_false h2) (decide_eq_true h3) c qc Xc (by omega)
      · exact len_100 n w (decide_eq_true h1) a qa Xa (decide_eq_false h2) (decide_eq_false h3) (by omega)
  · by_cases h2 : ((65536 : Nat) : Int) ≤ (n : Int)
    · obtain ⟨b, qb, bb, Xb⟩ := quot_by n 4294967296 65536 65536 16 (by decide) (by decide) (by omega) h2
      by_cases h3 : ((256 : Nat) : Int) ≤ (b : Int)
      · obtain ⟨c, qc, bc, Xc⟩ := quot_by b 65536 256 256 8 (by decide) (by decide) (by omega) h3
        exact len_011 n w (decide_eq_false h1) (decide_eq_true h2) b qb Xb (decide_eq_true h3) c qc Xc (by omega)
      · exact len_010 n w (decide_eq_false h1) (decide_eq_true h2) b qb Xb (decide_eq_false h3) (by omega)
    · by_cases h3 : ((256 : Nat) : Int) ≤ (n : Int)
      · obtain ⟨c, qc, bc, Xc⟩ := quot_by n 65536 256 256 8 (by decide) (by decide) (by omega) h3
        exact len_001 n w (decide_eq_false h1) (decide_eq_false h2) (decide_eq_true h3) c qc Xc (by omega)
      · exact len_000 n w (decide_eq_false h1) (decide_eq_false h2) (decide_eq_false h3) (by omega)
end Go.Proofs.YtdolilgkjknckaaDoor
