/-
  The walk of score.Mean and of the law ScoreMean. Condition: the row lies in cells of floats of 64 bits.
-/
import Derived.Test.YtkjlakoieeofoaaLawA
import Derived.Test.YtkjlakoieeofoaaLawC
namespace Go.Proofs.Ytkjlakoieeofoaa
open Go.RowKit

/-- the mean of the finite ones of the first k, by the document; how many these are -/
def meanS (xs : Nat → Nat) : Nat → Option Nat × Nat
  | 0 => (some 0, 0)
  | k + 1 => if nanB (xs k) || infB (xs k) then meanS xs k else
    (opO .add (meanS xs k).1 (opO .quo (opO .sub (some (xs k)) (meanS xs k).1) (some (floatOfInt .f64 (((meanS xs k).2 : Int) + 1)))), (meanS xs k).2 + 1)
theorem meanS_le (xs : Nat → Nat) (k : Nat) : (meanS xs k).2 ≤ k := by
  induction k with
  | zero => simp [meanS]
  | succ k ih =>
    unfold meanS
    split
    · omega
    · simp; omega
theorem meanS_pass {xs : Nat → Nat} {k : Nat} (h : nanB (xs k) = true ∨ infB (xs k) = true) : meanS xs (k + 1) = meanS xs k := by
  rw [meanS, if_pos (by simpa using h)]
theorem meanS_take {xs : Nat → Nat} {k : Nat} (h1 : nanB (xs k) = false) (h2 : infB (xs k) = false) :
    (meanS xs (k + 1)).1 = opO .add (meanS xs k).1 (opO .quo (opO .sub (some (xs k)) (meanS xs k).1) (some (floatOfInt .f64 (((meanS xs k).2 : Int) + 1)))) ∧ (meanS xs (k + 1)).2 = (meanS xs k).2 + 1 := by
  rw [meanS, if_neg (by simp [h1, h2])]
  exact ⟨rfl, rfl⟩
/-- what Mean answers -/
def meanO (xs : Nat → Nat) (k : Nat) : Option Nat := if (meanS xs k).2 = 0 then none else (meanS xs k).1
/-- where the loop stands -/
def MeanAt (xs : Nat → Nat) (k : Nat) (m n : Value) : Prop := ∃ r, m = .float .f64 r ∧ Is (meanS xs k).1 r ∧ n = .int .i64 ((meanS xs k).2 : Nat)

theorem mean_pass {xs : Nat → Nat} {k r q : Nat} (hr : Is (meanS xs k).1 r) (hq : (meanS xs k).2 = q) (h : nanB (xs k) = true ∨ infB (xs k) = true) : MeanAt xs (k + 1) (.float .f64 r) (.int .i64 q) :=
  ⟨r, rfl, by rw [meanS_pass h]; exact hr, by rw [meanS_pass h, hq]⟩
theorem mean_take {xs : Nat → Nat} {k r q : Nat} (hr : Is (meanS xs k).1 r) (hq : (meanS xs k).2 = q) (hx : Fit (xs k)) (h1 : ¬ nanB (xs k) = true) (h2 : infB (xs k) = false) (W1 W2 W3 : World) :
    MeanAt xs (k + 1) (.float .f64 (fval .add r (fval .quo (fval .sub (xs k) r W1) (floatOfInt .f64 ((q : Int) + 1)) W2) W3)) (.int .i64 ((q : Int) + 1)) := by
  have h := meanS_take (xs := xs) (k := k) (by simpa using h1) h2
  refine ⟨_, rfl, ?_, ?_⟩
  · rw [h.1, hq]
    exact is_opO hr (is_opO (is_opO (is_some hx) hr _) (is_ofInt _) _) _
  · rw [h.2, hq]
    rfl
theorem mean_none {xs : Nat → Nat} {k q : Nat} (hq : (meanS xs k).2 = q) (h : ((q : Int) == 0) = true) : meanO xs k = none := by
  unfold meanO
  rw [hq, if_pos (by simpa using h)]
theorem mean_some {xs : Nat → Nat} {k q : Nat} (hq : (meanS xs k).2 = q) (h : ((q : Int) == 0) = false) : meanO xs k = (meanS xs k).1 := by
  unfold meanO
  rw [hq, if_neg (by simpa using h)]

set_option maxHeartbeats 1000000 in
theorem mean_any (a : Addr) (len cap : Nat) (xs : Nat → Nat) (w : World) (hl : len ≤ cap) (hm : cap ≤ maxLen)
    (hc : ∀ i : Nat, i < len → w.cell? (a.add i) = some (.float .f64 (xs i))) (hx : ∀ i, Fit (xs i)) :
    Calls Try.prog 16 #[.slice (some a) len cap] w fun e w' => ∃ r n, e = .returned (.float .f64 r) ∧ Is (meanO xs len) r ∧ w' = w.drewN n := by
  unfold maxLen at hm
  go_enter Try.func16, Try.ntmps16
  go_wp2
  go_loopw [3, 4, 9] (fun m n i wr => ∃ k : Nat, k ≤ len ∧ i = .int .i64 k ∧ MeanAt xs k m n ∧ ∃ n, wr = w.drewN n)
     (fun _ _ i _ => len - (intOf i).toNat)
  case atStart => exact ⟨0, Nat.zero_le _, rfl, ⟨0, rfl, is_some (by decide), rfl⟩, 0, rfl⟩
  case round =>
    obtain ⟨k, hk, rfl, ⟨r, rfl, hr, rfl⟩, n, rfl⟩ := hrel
    have hle := meanS_le xs k
    have HR : Hid (Is (meanS xs k).1 r) := hr
    clear hr
    generalize hq : (meanS xs k).2 = q at *
    have HQ : Hid ((meanS xs k).2 = q) := hq
    clear hq
    go_wp2_with (first
      | (go_at_call 11; refine (isNaN_any _ _).mono ?_; rintro e w' ⟨rfl, rfl⟩)
      | (go_at_call 15; refine (isInf_any _ _ (hx _)).mono ?_; rintro e w' ⟨rfl, rfl⟩)
      | (go_at_call 18; refine (nan_any _).mono ?_; rintro e w' ⟨rfl, rfl⟩))
    · exact ⟨⟨k + 1, by omega, by go_num, mean_pass HR.out HQ.out (.inl (by assumption)), _, rfl⟩, by simp [intOf]; omega⟩
    · exact ⟨⟨k + 1, by omega, by go_num, mean_pass HR.out HQ.out (.inr (by assumption)), _, rfl⟩, by simp [intOf]; omega⟩
    · exact ⟨⟨k + 1, by omega, by go_num, mean_take HR.out HQ.out (hx k) (by assumption) (by assumption) _ _ _, _, rfl⟩, by simp [intOf]; omega⟩
    · have he : k = len := by omega
      subst he
      go_ret
      exact ⟨_, _, rfl, is_nan (mean_none HQ.out (by assumption)) (by decide) (by kernel_rfl), rfl⟩
    · have he : k = len := by omega
      subst he
      go_ret
      exact ⟨_, _, rfl, by rw [mean_some HQ.out (by assumption)]; exact HR.out, rfl⟩

theorem mean_nil (w : World) : Calls Try.prog 16 #[.slice none 0 0] w fun e w' => ∃ r, e = .returned (.float .f64 r) ∧ nanB r = true ∧ w' = w := by
  go_enter Try.func16, Try.ntmps16
  go_wp2
  go_loop [3, 4, 9] (fun m n i => i = .int .i64 0 ∧ m = .float .f64 0 ∧ n = .int .i64 0) (fun _ _ _ => 0)
  case atStart => exact ⟨rfl, rfl, rfl⟩
  case round =>
    obtain ⟨rfl, rfl, rfl⟩ := hrel
    go_wp2_with (go_at_call 18; refine (nan_any _).mono ?_; rintro e w' ⟨rfl, rfl⟩)
    go_ret
    exact ⟨_, rfl, by kernel_rfl, rfl⟩
set_option maxHeartbeats 400000 in
theorem scoreMean_nil (w : World) : Calls Try.prog 7 #[.slice none 0 0] w fun e w' => e = .returned (.bool true) ∧ Below w.heap.size w w' := by
  go_enter Try.func7, Try.ntmps7
  go_wp2
  go_loop [4, 5, 6] (fun m n i => i = .int .i64 0 ∧ m = .float .f64 0 ∧ n = .int .i64 0) (fun _ _ _ => 0)
  case atStart => exact ⟨rfl, rfl, rfl⟩
  case round =>
    obtain ⟨rfl, rfl, rfl⟩ := hrel
    go_wp2_with (first
      | (go_at_call 10; refine (awake_any _).mono ?_; rintro e w' ⟨rfl, hbA⟩)
      | (go_at_call 11; refine (isNaN_any _ _).mono ?_; rintro e w' ⟨rfl, rfl⟩)
      | (go_at_call 16; refine (mean_nil _).mono ?_; rintro e w' ⟨r, rfl, hr, rfl⟩))
    go_ret
    exact ⟨by first | rfl | (rw [hr]; rfl), hbA⟩

set_option maxHeartbeats 1000000 in
theorem scoreMean_few (a : Addr) (len cap : Nat) (xs : Nat → Nat) (w : World) (hl : len ≤ cap) (hm : cap ≤ maxLen)
    (hc : ∀ i : Nat, i < len → w.cell? (a.add i) = some (.float .f64 (xs i))) (hx : ∀ i, Fit (xs i)) (hn : len ≤ 100) :
    Calls Try.prog 7 #[.slice (some a) len cap] w fun e w' => e = .returned (.bool true) ∧ Below w.heap.size w w' := by
  have hm0 := hm
  unfold maxLen at hm
  go_enter Try.func7, Try.ntmps7
  go_wp2
  go_loopw [4, 5, 6] (fun m n i wr => ∃ k : Nat, k ≤ len ∧ i = .int .i64 k ∧ MeanAt xs k m n ∧ ∃ n, wr = w.drewN n)
     (fun _ _ i _ => len - (intOf i).toNat)
  case atStart => exact ⟨0, Nat.zero_le _, rfl, ⟨0, rfl, is_some (by decide), rfl⟩, 0, rfl⟩
  case round =>
    obtain ⟨k, hk, rfl, ⟨r, rfl, hr, rfl⟩, n, rfl⟩ := hrel
    have hle := meanS_le xs k
    have HR : Hid (Is (meanS xs k).1 r) := hr
    clear hr
    generalize hq : (meanS xs k).2 = q at *
    have HQ : Hid ((meanS xs k).2 = q) := hq
    clear hq
    go_wp2_with (first
      | (go_at_call 11; refine (isNaN_any _ _).mono ?_; rintro e w' ⟨rfl, rfl⟩)
      | (go_at_call 15; refine (isInf_any _ _ (hx _)).mono ?_; rintro e w' ⟨rfl, rfl⟩)
      | (go_at_call 10; refine (awake_any _).mono ?_; rintro e w' ⟨rfl, hbA⟩)
      | (go_at_call 16; refine (mean_any _ len _ xs (w.drewN n) (by omega) hm0 (fun i hi => hc i (by omega)) hx).mono ?_; rintro e w' ⟨g, n2, rfl, hg, rfl⟩; have HG : Hid (Is (meanO xs len) g) := hg; clear hg))
    · exact ⟨⟨k + 1, by omega, by go_num, mean_pass HR.out HQ.out (.inl (by assumption)), _, rfl⟩, by simp [intOf]; omega⟩
    · exact ⟨⟨k + 1, by omega, by go_num, mean_take HR.out HQ.out (hx k) (by assumption) (by simp_all) _ _ _, _, rfl⟩, by simp [intOf]; omega⟩
    · exact ⟨⟨k + 1, by omega, by go_num, mean_pass HR.out HQ.out (.inr (by simp_all)), _, rfl⟩, by simp [intOf]; omega⟩
    all_goals have he : k = len := by omega
    all_goals subst he
    · go_ret
      have h := HG.out
      rw [mean_none HQ.out (by assumption)] at h
      exact ⟨by rw [h.2]; rfl, below_kept hbA⟩
    all_goals have h := HG.out
    all_goals rw [mean_some HQ.out (by assumption)] at h
    · go_ret
      exact ⟨rfl, below_kept hbA⟩
    · go_ret
      have h2 := (not_same (by assumption) h HR.out).2
      exact ⟨by rw [h2, Bool.or_true]; rfl, below_kept hbA⟩
    · have h2 := (not_same (by assumption) h HR.out).1
      exact absurd h2 (by assumption)

set_option maxHeartbeats 1000000 in
theorem scoreMean_many (a : Addr) (len cap : Nat) (xs : Nat → Nat) (w : World) (hl : len ≤ cap) (hm : cap ≤ maxLen)
    (hc : ∀ i : Nat, (i : Int) < 100 → w.cell? (a.add i) = some (.float .f64 (xs i))) (hx : ∀ i, Fit (xs i)) (hn : 100 < len) :
    Calls Try.prog 7 #[.slice (some a) len cap] w fun e w' => e = .returned (.bool true) ∧ Below w.heap.size w w' := by
  have hm0 := hm
  unfold maxLen at hm
  go_enter Try.func7, Try.ntmps7
  go_wp2
  go_loopw [4, 5, 6] (fun m n i wr => ∃ k : Nat, k ≤ 100 ∧ i = .int .i64 k ∧ MeanAt xs k m n ∧ ∃ n, wr = w.drewN n)
     (fun _ _ i _ => 100 - (intOf i).toNat)
  case atStart => exact ⟨0, Nat.zero_le _, rfl, ⟨0, rfl, is_some (by decide), rfl⟩, 0, rfl⟩
  case round =>
    obtain ⟨k, hk, rfl, ⟨r, rfl, hr, rfl⟩, n, rfl⟩ := hrel
    have hle := meanS_le xs k
    have HR : Hid (Is (meanS xs k).1 r) := hr
    clear hr
    generalize hq : (meanS xs k).2 = q at *
    have HQ : Hid ((meanS xs k).2 = q) := hq
    clear hq
    go_wp2_with (first
      | (go_at_call 11; refine (isNaN_any _ _).mono ?_; rintro e w' ⟨rfl, rfl⟩)
      | (go_at_call 15; refine (isInf_any _ _ (hx _)).mono ?_; rintro e w' ⟨rfl, rfl⟩)
      | (go_at_call 10; refine (awake_any _).mono ?_; rintro e w' ⟨rfl, hbA⟩)
      | (go_at_call 16; refine (mean_any _ 100 _ xs (w.drewN n) (by omega) hm0 (fun i hi => hc i (by omega)) hx).mono ?_; rintro e w' ⟨g, n2, rfl, hg, rfl⟩; have HG : Hid (Is (meanO xs 100) g) := hg; clear hg))
    · exact ⟨⟨k + 1, by omega, by go_num, mean_pass HR.out HQ.out (.inl (by assumption)), _, rfl⟩, by simp [intOf]; omega⟩
    · exact ⟨⟨k + 1, by omega, by go_num, mean_take HR.out HQ.out (hx k) (by assumption) (by simp_all) _ _ _, _, rfl⟩, by simp [intOf]; omega⟩
    · exact ⟨⟨k + 1, by omega, by go_num, mean_pass HR.out HQ.out (.inr (by simp_all)), _, rfl⟩, by simp [intOf]; omega⟩
    all_goals have he : k = 100 := by omega
    all_goals subst he
    · go_ret
      have h := HG.out
      rw [mean_none HQ.out (by assumption)] at h
      exact ⟨by rw [h.2]; rfl, below_kept hbA⟩
    all_goals have h := HG.out
    all_goals rw [mean_some HQ.out (by assumption)] at h
    · go_ret
      exact ⟨rfl, below_kept hbA⟩
    · go_ret
      have h2 := (not_same (by assumption) h HR.out).2
      exact ⟨by rw [h2, Bool.or_true]; rfl, below_kept hbA⟩
    · have h2 := (not_same (by assumption) h HR.out).1
      exact absurd h2 (by assumption)

theorem scoreMean_any (v : Value) (len : Nat) (xs : Nat → Nat) (w : World) (h : Floats w v len xs) :
    Calls Try.prog 7 #[v] w fun e w' => e = .returned (.bool true) ∧ Below w.heap.size w w' := by
  rcases all_fit h with rfl | ⟨a, cap, ys, rfl, hl, hm, hc, hx⟩
  · exact scoreMean_nil w
  · by_cases hn : len ≤ 100
    · exact scoreMean_few a len cap ys w hl hm hc hx hn
    · exact scoreMean_many a len cap ys w hl hm (fun i hi => hc i (by omega)) hx (by omega)
end Go.Proofs.Ytkjlakoieeofoaa
