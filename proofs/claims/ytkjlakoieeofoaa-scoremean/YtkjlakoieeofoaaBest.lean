/-
  The walk of score.Best. Condition: the row lies in cells of floats of 64 bits.
-/
import Derived.Test.YtkjlakoieeofoaaWalksB
import Derived.BigQuiet
namespace Go.Proofs.Ytkjlakoieeofoaa
open Go.RowKit

/-- the place of the greatest of the first k -/
def best (xs : Nat → Nat) : Nat → Int
  | 0 => -1
  | k + 1 => if nanB (xs k) then best xs k else if best xs k < 0 ∨ 0 < ordF (xs k) (xs (best xs k).toNat) then k else best xs k
theorem best_range (xs : Nat → Nat) (k : Nat) : -1 ≤ best xs k ∧ best xs k < k := by
  induction k with
  | zero => simp [best]
  | succ k ih =>
    unfold best
    split
    · omega
    · split <;> omega

set_option maxHeartbeats 400000 in
theorem best_any (a : Addr) (len cap : Nat) (xs : Nat → Nat) (w : World) (hl : len ≤ cap) (hm : cap ≤ maxLen)
    (hc : ∀ i, i < len → w.cell? (a.add i) = some (.float .f64 (xs i))) (hx : ∀ i, xs i < 18446744073709551616) :
    Calls Try.prog 14 #[.slice (some a) len cap] w fun e w' => e = .returned (.int .i64 (best xs len)) ∧ w' = w := by
  unfold maxLen at hm
  go_enter Try.func14, Try.ntmps14
  go_wp2
  go_loop [3, 8] (fun b i => ∃ k : Nat, k ≤ len ∧ i = .int .i64 k ∧ b = .int .i64 (best xs k))
     (fun _ i => len - (intOf i).toNat)
  case atStart => exact ⟨0, Nat.zero_le _, rfl, rfl⟩
  case round =>
    obtain ⟨k, hk, rfl, rfl⟩ := hrel
    have hr := best_range xs k
    go_wp2_with (first
      | (go_at_call 11; refine (isNaN_any _ _).mono ?_; rintro e w' ⟨rfl, rfl⟩)
      | (go_at_call 12; refine (order_any _ _ _ (hx _) (hx _)).mono ?_; rintro e w' ⟨rfl, rfl⟩))
    all_goals try
      refine ⟨⟨k + 1, by omega, by go_num, ?_⟩, by simp [intOf]; omega⟩
    · simp_all [best]
    · simp_all [best]
    · simp_all [best]
      intro _
      omega
    · simp_all [best]
    · have he : k = len := by omega
      subst he
      go_ret
      exact ⟨rfl, rfl⟩

/-- a float of 64 bits -/
def Fit (x : Nat) : Prop := x < 18446744073709551616
theorem order_fit (a b : Nat) (w : World) (ha : Fit a) (hb : Fit b) :
    Calls Try.prog 12 #[.float .f64 a, .float .f64 b] w fun e w' => e = .returned (.int .i64 (ordF a b)) ∧ w' = w := order_any a b w ha hb
theorem cells_kept {w w1 : World} {a : Addr} {len n : Nat} {xs : Nat → Nat} (hc : ∀ i, i < len → w.cell? (a.add i) = some (.float .f64 (xs i))) (hb : Below (w.drewN n).heap.size (w.drewN n) w1) :
    ∀ i, i < len → w1.cell? (a.add i) = some (.float .f64 (xs i)) := by
  intro i hi
  have h : (w.drewN n).cell? (a.add i) = some (.float .f64 (xs i)) := hc i hi
  rw [hb.cell (World.block_lt_of_cell? _ _ h)]
  exact h
theorem below_kept {w w1 : World} {n : Nat} (hb : Below (w.drewN n).heap.size (w.drewN n) w1) : Below w.heap.size w w1 :=
  (below_drawn (Below.refl _ _) n).trans hb
set_option maxHeartbeats 1000000 in
theorem scoreBest_few (a : Addr) (len cap : Nat) (xs : Nat → Nat) (w : World) (hl : len ≤ cap) (hm : cap ≤ maxLen)
    (hc : ∀ i : Nat, i < len → w.cell? (a.add i) = some (.float .f64 (xs i))) (hx : ∀ i, xs i < 18446744073709551616) (hn : len ≤ 100) :
    Calls Try.prog 6 #[.slice (some a) len cap] w fun e w' => e = .returned (.bool true) ∧ Below w.heap.size w w' := by
  have hm0 := hm
  unfold maxLen at hm
  go_enter Try.func6, Try.ntmps6
  go_wp2
  go_loopw [4, 5] (fun b i wr => ∃ k : Nat, k ≤ len ∧ i = .int .i64 k ∧ b = .int .i64 (best xs k) ∧ ∃ n, wr = w.drewN n)
     (fun _ i _ => len - (intOf i).toNat)
  case atStart => exact ⟨0, Nat.zero_le _, rfl, rfl, 0, rfl⟩
  case round =>
    obtain ⟨k, hk, rfl, rfl, n, rfl⟩ := hrel
    have hr := best_range xs k
    go_wp2_with (first
      | (go_at_call 11; refine (isNaN_any _ _).mono ?_; rintro e w' ⟨rfl, rfl⟩)
      | (go_at_call 10; refine (awake_any _).mono ?_; rintro e w' ⟨rfl, hbA⟩; have hc2 := cells_kept (len := len) (fun i hi => hc i (by omega)) hbA)
      | (go_at_call 14; refine (best_any _ len _ xs _ (by omega) hm0 (fun i hi => hc2 i (by omega)) hx).mono ?_; rintro e w' ⟨rfl, rfl⟩))
    · refine ⟨⟨k + 1, by omega, by go_num, ?_, n, rfl⟩, by simp [intOf]; omega⟩
      simp_all [best]
    · have c1 : w.cell? (a.add k) = some (.float .f64 (xs k)) := hc k (by omega)
      have hs : best xs (k + 1) = if best xs k < 0 ∨ 0 < ordF (xs k) (xs (best xs k).toNat) then (k : Int) else best xs k := by
        rw [best, if_neg (by simp_all)]
      by_cases hb : best xs k < 0
      · rw [if_pos (.inl hb)] at hs
        generalize best xs k = z at *
        go_region
        go_wp2
        exact ⟨⟨k + 1, by omega, by go_num, by rw [hs], _, rfl⟩, by simp [intOf]; omega⟩
      · obtain ⟨B, hB⟩ : ∃ B : Nat, best xs k = B := ⟨(best xs k).toNat, by omega⟩
        rw [hB] at hs hr
        have c2 : (w.drewN n).cell? (a.add B) = some (.float .f64 (xs B)) := hc B (by omega)
        have c3 : (w.drewN n).cell? (a.add k) = some (.float .f64 (xs k)) := c1
        clear c1
        rw [Int.toNat_natCast] at hs
        rw [hB]
        have fx : Fit (xs k) := hx k
        have fy : Fit (xs B) := hx B
        have HS : Hid (best xs (k + 1) = _) := hs
        have hB' : B < len := by omega
        clear hB hs hx hc hb
        generalize xs k = x at *
        generalize xs B = y at *
        have hd : decide ((B : Int) < 0) = false := by simp
        generalize hW : w.drewN n = W at *
        have HW : Hid (w.drewN n = W) := hW
        clear hW
        go_quiet (first | (go_at_call 12; refine Calls.quiet_of_same (order_fit _ _ _ fx fy)))
        go_wp2
        · refine ⟨⟨k + 1, by omega, by go_num, ?_, n + nq, by rw [← HW.out, World.drewN_drewN]⟩, by simp [intOf]; omega⟩
          rw [HS.out, if_pos (.inr (by assumption))]
        · refine ⟨⟨k + 1, by omega, by go_num, ?_, n + nq, by rw [← HW.out, World.drewN_drewN]⟩, by simp [intOf]; omega⟩
          rw [HS.out, if_neg (by omega)]
    · go_ret
      have he : k = len := by omega
      subst he
      exact ⟨by simp, below_kept hbA⟩
set_option maxHeartbeats 1000000 in
theorem scoreBest_many (a : Addr) (len cap : Nat) (xs : Nat → Nat) (w : World) (hl : len ≤ cap) (hm : cap ≤ maxLen)
    (hc : ∀ i : Nat, (i : Int) < 100 → w.cell? (a.add i) = some (.float .f64 (xs i))) (hx : ∀ i, xs i < 18446744073709551616) (hn : 100 < len) :
    Calls Try.prog 6 #[.slice (some a) len cap] w fun e w' => e = .returned (.bool true) ∧ Below w.heap.size w w' := by
  have hm0 := hm
  unfold maxLen at hm
  go_enter Try.func6, Try.ntmps6
  go_wp2
  go_loopw [4, 5] (fun b i wr => ∃ k : Nat, k ≤ 100 ∧ i = .int .i64 k ∧ b = .int .i64 (best xs k) ∧ ∃ n, wr = w.drewN n)
     (fun _ i _ => 100 - (intOf i).toNat)
  case atStart => exact ⟨0, Nat.zero_le _, rfl, rfl, 0, rfl⟩
  case round =>
    obtain ⟨k, hk, rfl, rfl, n, rfl⟩ := hrel
    have hr := best_range xs k
    go_wp2_with (first
      | (go_at_call 11; refine (isNaN_any _ _).mono ?_; rintro e w' ⟨rfl, rfl⟩)
      | (go_at_call 10; refine (awake_any _).mono ?_; rintro e w' ⟨rfl, hbA⟩; have hc2 := cells_kept (len := 100) (fun i hi => hc i (by omega)) hbA)
      | (go_at_call 14; refine (best_any _ 100 _ xs _ (by omega) hm0 (fun i hi => hc2 i (by omega)) hx).mono ?_; rintro e w' ⟨rfl, rfl⟩))
    · refine ⟨⟨k + 1, by omega, by go_num, ?_, n, rfl⟩, by simp [intOf]; omega⟩
      simp_all [best]
    · have c1 : w.cell? (a.add k) = some (.float .f64 (xs k)) := hc k (by omega)
      have hs : best xs (k + 1) = if best xs k < 0 ∨ 0 < ordF (xs k) (xs (best xs k).toNat) then (k : Int) else best xs k := by
        rw [best, if_neg (by simp_all)]
      by_cases hb : best xs k < 0
      · rw [if_pos (.inl hb)] at hs
        generalize best xs k = z at *
        go_region
        go_wp2
        exact ⟨⟨k + 1, by omega, by go_num, by rw [hs], _, rfl⟩, by simp [intOf]; omega⟩
      · obtain ⟨B, hB⟩ : ∃ B : Nat, best xs k = B := ⟨(best xs k).toNat, by omega⟩
        rw [hB] at hs hr
        have c2 : (w.drewN n).cell? (a.add B) = some (.float .f64 (xs B)) := hc B (by omega)
        have c3 : (w.drewN n).cell? (a.add k) = some (.float .f64 (xs k)) := c1
        clear c1
        rw [Int.toNat_natCast] at hs
        rw [hB]
        have fx : Fit (xs k) := hx k
        have fy : Fit (xs B) := hx B
        have HS : Hid (best xs (k + 1) = _) := hs
        have hB' : B < 100 := by omega
        clear hB hs hx hc hb
        generalize xs k = x at *
        generalize xs B = y at *
        have hd : decide ((B : Int) < 0) = false := by simp
        generalize hW : w.drewN n = W at *
        have HW : Hid (w.drewN n = W) := hW
        clear hW
        go_quiet (first | (go_at_call 12; refine Calls.quiet_of_same (order_fit _ _ _ fx fy)))
        go_wp2
        · refine ⟨⟨k + 1, by omega, by go_num, ?_, n + nq, by rw [← HW.out, World.drewN_drewN]⟩, by simp [intOf]; omega⟩
          rw [HS.out, if_pos (.inr (by assumption))]
        · refine ⟨⟨k + 1, by omega, by go_num, ?_, n + nq, by rw [← HW.out, World.drewN_drewN]⟩, by simp [intOf]; omega⟩
          rw [HS.out, if_neg (by omega)]
    · go_ret
      have he : k = 100 := by omega
      subst he
      exact ⟨by simp, below_kept hbA⟩
end Go.Proofs.Ytkjlakoieeofoaa
