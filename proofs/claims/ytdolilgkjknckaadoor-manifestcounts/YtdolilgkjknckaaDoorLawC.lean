/-
  ManifestCounts (8): what a word says as a count, and a number's digits. Condition: the library's table of powers of ten holds what it was laid with (Tb).
-/
import Derived.Test.YtdolilgkjknckaaDoorAwk
namespace Go.Proofs.YtdolilgkjknckaaDoor
open Go Go.RowKit
set_option maxRecDepth 100000
/-- what is held -/
def TS (w w' : World) : Prop := Tb w' ∧ Below w.heap.size w w'
theorem TS.call {w w1 w2 : World} (h : TS w w1) (b : Below w1.heap.size w1 w2) : TS w w2 := ⟨h.1.call b, below3 h.2 b⟩
theorem TS.drew {w w1 : World} (h : TS w w1) : TS w w1.drew := ⟨h.1.drew, h.2.drew⟩
theorem itoa_any (n : Int) (h0 : -9223372036854775808 ≤ n) (h1 : n ≤ 9223372036854775807) (w : World) (ht : Tb w) :
    Calls Tryd.prog 30 #[.int .i64 n] w fun e w' => e = .returned (.string (decB n)) ∧ Below w.heap.size w w' :=
  (sl_strconv_Itoa n h0 h1 w ht).mono fun e w' ⟨he, k, os, hw⟩ => ⟨he, by rw [hw]; exact Lib.below_grow _ _ (Nat.le_refl _) _ _⟩
theorem counts_walk (s : ByteArray) (n : Int) (w : World) (h0 : -9223372036854775808 ≤ n) (h1 : n ≤ 9223372036854775807) (ht : Tb w) :
    Calls Tryd.prog 8 #[.string s, .int .i64 n] w fun e w' => e = .returned (.bool true) ∧ Below w.heap.size w w' := by
  have c0 := few_any s
  generalize cut400 s = S at *
  have c1 := count_walk S
  have c2 := refCount_any S
  have c3 := digits_any n h0 h1
  have c4 := itoa_any n h0 h1
  have c5 : ∀ w, Calls Tryd.prog 27 #[.string (decB n)] w fun e w' => e = .returned (.tuple #[.int .i64 (if 0 ≤ n ∧ n < 2147483648 then n else 0), .bool (decide (0 ≤ n ∧ n < 2147483648))]) ∧ Below w.heap.size w w' := fun w => by
    have := count_walk (decB n) w
    rw [show cntV (decB n).data.toList = (if 0 ≤ n ∧ n < 2147483648 then n else 0, decide (0 ≤ n ∧ n < 2147483648)) from cntV_itoa n] at this
    exact this
  generalize (cntV S.data.toList).1 = A at *
  generalize (cntV S.data.toList).2 = B at *
  generalize decB n = N at *
  have hk := Hid.mk (show TS w w from ⟨ht, Below.refl _ _⟩)
  clear ht
  go_enter Tryd.func8, Tryd.ntmps8
  by_cases hn : n = -9223372036854775808
  · subst hn
    clear c3 c4 c5
    go_wp2_with (first
      | (go_at_call 10; refine (c0 _).mono ?_; rintro e w0 ⟨rfl, hw0⟩; rw [hw0]; clear hw0)
      | (go_at_call 27; refine (c1 _).mono ?_; rintro e w1 ⟨rfl, b1⟩; replace hk := Hid.mk (hk.out.call b1); clear b1)
      | (go_at_call 28; refine (c2 _).mono ?_; rintro e w2 ⟨rfl, rfl⟩)
      | (go_at_call 13; refine (awake_any _ hk.out.1).mono ?_; rintro e w3 ⟨rfl, b3⟩; replace hk := Hid.mk (hk.out.call b3); clear b3))
    go_ret
    exact ⟨by simp, hk.out.2⟩
  · by_cases hr0 : 0 ≤ n
    · by_cases hr1 : n < 2147483648
      · rw [if_pos ⟨hr0, hr1⟩, decide_eq_true ⟨hr0, hr1⟩] at c5
        go_wp2_with (first
      | (go_at_call 10; refine (c0 _).mono ?_; rintro e w0 ⟨rfl, hw0⟩; rw [hw0]; clear hw0)
      | (go_at_call_of 27 S; refine (c1 _).mono ?_; rintro e w1 ⟨rfl, b1⟩; replace hk := Hid.mk (hk.out.call b1); clear b1)
      | (go_at_call 28; refine (c2 _).mono ?_; rintro e w2 ⟨rfl, rfl⟩)
      | (go_at_call 29; refine (c3 _ hk.out.1).mono ?_; rintro e w3 ⟨rfl, b3⟩; replace hk := Hid.mk (hk.out.call b3); clear b3)
      | (go_at_call 30; refine (c4 _ hk.out.1).mono ?_; rintro e w3 ⟨rfl, b3⟩; replace hk := Hid.mk (hk.out.call b3); clear b3)
      | (go_at_call 13; refine (awake_any _ hk.out.1).mono ?_; rintro e w3 ⟨rfl, b3⟩; replace hk := Hid.mk (hk.out.call b3); clear b3)
      | (go_at_call_of 27 N; refine (c5 _).mono ?_; rintro e w4 ⟨rfl, b4⟩; replace hk := Hid.mk (hk.out.call b4); clear b4))
        go_ret
        exact ⟨by simp, hk.out.2⟩
      · rw [if_neg (fun h => hr1 h.2), decide_eq_false (fun h => hr1 h.2)] at c5
        go_wp2_with (first
      | (go_at_call 10; refine (c0 _).mono ?_; rintro e w0 ⟨rfl, hw0⟩; rw [hw0]; clear hw0)
      | (go_at_call_of 27 S; refine (c1 _).mono ?_; rintro e w1 ⟨rfl, b1⟩; replace hk := Hid.mk (hk.out.call b1); clear b1)
      | (go_at_call 28; refine (c2 _).mono ?_; rintro e w2 ⟨rfl, rfl⟩)
      | (go_at_call 29; refine (c3 _ hk.out.1).mono ?_; rintro e w3 ⟨rfl, b3⟩; replace hk := Hid.mk (hk.out.call b3); clear b3)
      | (go_at_call 30; refine (c4 _ hk.out.1).mono ?_; rintro e w3 ⟨rfl, b3⟩; replace hk := Hid.mk (hk.out.call b3); clear b3)
      | (go_at_call 13; refine (awake_any _ hk.out.1).mono ?_; rintro e w3 ⟨rfl, b3⟩; replace hk := Hid.mk (hk.out.call b3); clear b3)
      | (go_at_call_of 27 N; refine (c5 _).mono ?_; rintro e w4 ⟨rfl, b4⟩; replace hk := Hid.mk (hk.out.call b4); clear b4))
        go_ret
        exact ⟨by simp; omega, hk.out.2⟩
    · rw [if_neg (fun h => hr0 h.1), decide_eq_false (fun h => hr0 h.1)] at c5
      go_wp2_with (first
      | (go_at_call 10; refine (c0 _).mono ?_; rintro e w0 ⟨rfl, hw0⟩; rw [hw0]; clear hw0)
      | (go_at_call_of 27 S; refine (c1 _).mono ?_; rintro e w1 ⟨rfl, b1⟩; replace hk := Hid.mk (hk.out.call b1); clear b1)
      | (go_at_call 28; refine (c2 _).mono ?_; rintro e w2 ⟨rfl, rfl⟩)
      | (go_at_call 29; refine (c3 _ hk.out.1).mono ?_; rintro e w3 ⟨rfl, b3⟩; replace hk := Hid.mk (hk.out.call b3); clear b3)
      | (go_at_call 30; refine (c4 _ hk.out.1).mono ?_; rintro e w3 ⟨rfl, b3⟩; replace hk := Hid.mk (hk.out.call b3); clear b3)
      | (go_at_call 13; refine (awake_any _ hk.out.1).mono ?_; rintro e w3 ⟨rfl, b3⟩; replace hk := Hid.mk (hk.out.call b3); clear b3)
      | (go_at_call_of 27 N; refine (c5 _).mono ?_; rintro e w4 ⟨rfl, b4⟩; replace hk := Hid.mk (hk.out.call b4); clear b4))
      go_ret
      exact ⟨by simp, hk.out.2⟩
theorem wf_i64 {n : Int} (h : (Lit.int .i64 n).wf = true) : -9223372036854775808 ≤ n ∧ n ≤ 9223372036854775807 := by
  have e0 : IntKind.i64.min = -9223372036854775808 := by decide
  have e1 : IntKind.i64.max = 9223372036854775807 := by decide
  unfold Lit.wf at h
  rw [Bool.and_eq_true, decide_eq_true_eq, decide_eq_true_eq, e0, e1] at h
  exact h
theorem counts_wf (s : ByteArray) (n : Int) (w : World) (h : (Lit.int .i64 n).wf = true) (ht : Tb w) :
    Calls Tryd.prog 8 #[.string s, .int .i64 n] w fun e w' => e = .returned (.bool true) ∧ Below w.heap.size w w' := counts_walk s n w (wf_i64 h).1 (wf_i64 h).2 ht
end Go.Proofs.YtdolilgkjknckaaDoor
