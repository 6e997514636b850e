/-
  The walk of the law CodeTexts.
-/
import Derived.Test.YtcdgmnjioaillaaLawB
namespace Go.Proofs.Ytcdgmnjioaillaa
open Go Go.RowKit

theorem numB_size (n : Nat) (h : n < 18446744073709551616) : (numB n).size ≤ 9 := numL_size n h
theorem textB_size (x : ByteArray) (h : x.size ≤ 300) : (textB x).size ≤ 309 := by
  unfold textB
  rw [ByteArray.size_append]
  have := numL_size x.size (by omega)
  omega
theorem rT_text (x : ByteArray) (most : Int) (h : x.size ≤ 1000) : rT (textB x) 0 most = if upTo most < x.size then (⟨#[]⟩, 5, ⟨#[]⟩) else (⟨#[]⟩, 0, x) := by
  have := rT_app x ⟨#[]⟩ most h
  rwa [append_nilB] at this
theorem nil_of_size (x : ByteArray) (h : x.size = 0) : x = ⟨#[]⟩ := by
  apply ByteArray.ext
  exact Array.eq_empty_of_size_eq_zero h
set_option maxHeartbeats 4000000 in
theorem codeTexts_aux (a b : ByteArray) (X Y : ByteArray) (hX : cut a = X) (hY : cut b = Y) (lX : X.size ≤ 300) (lY : Y.size ≤ 300) (n : Nat) (hn : n < 18446744073709551616) (R1 : ByteArray)
    (q1 : rT (textB X ++ numB n ++ textB Y) 0 300 = (R1, 0, X)) (q2 : rN R1 0 18446744073709551615 = (textB Y, 0, n)) (q3 : rT (textB Y) 0 300 = (⟨#[]⟩, 0, Y)) (q : ByteArray × Int × ByteArray)
    (q4 : rT (textB X) 0 ((X.size : Int) - 1) = q) (hq : (X.size = 0 ∧ q = (⟨#[]⟩, 0, ⟨#[]⟩)) ∨ (0 < X.size ∧ q = (⟨#[]⟩, 5, ⟨#[]⟩))) (w : World) :
    Calls Try.prog 5 #[.string a, .string b, .int .u64 n] w fun e w' => e = .returned (.bool true) ∧ Below w.heap.size w w' := by
  have hb := Hid.mk (Below.refl w.heap.size w)
  have e0 := end0
  have e5 := end5
  have z1 := textB_size X lX
  have z2 := numB_size n hn
  have z3 := textB_size Y lY
  have s1 : X.size ≤ 1000 := by omega
  have s2 : Y.size ≤ 1000 := by omega
  rcases hq with ⟨h1, rfl⟩ | ⟨h1, rfl⟩
  · rw [h1] at q4
    replace q4 : rT (textB X) 0 (-1) = (⟨#[]⟩, 0, ⟨#[]⟩) := q4
    go_enter Try.func5, Try.ntmps5
    go_wp2_with (first
      | (go_at_call 17; refine (few_any _ _).mono ?_; rintro e w' ⟨rfl, hw⟩; rw [hw]; clear hw; (first | rw [hX] | rw [hY]))
      | (go_at_call 8; refine (new_any _ _).mono ?_; rintro e w2 ⟨rfl, r1, b1⟩; (first
          | (have hne := Hid.mk (Nat.ne_of_lt hr.out.lt); have hg2 := Hid.mk hb.out.size; replace hr := Hid.mk (hr.out.call b1); have hf := Hid.mk r1)
          | (have hr := Hid.mk r1; have hg := Hid.mk hb.out.size)); replace hb := Hid.mk (below3 hb.out b1); clear b1 r1)
      | (go_at_call 10; refine (num_any hr.out _).mono ?_; rintro e w3 ⟨rfl, r1, g1⟩; rw [q2] at r1 ⊢; replace hr := Hid.mk r1; replace hb := Hid.mk (below_grown hb.out g1 hb.out.size hg.out); clear r1 g1)
      | (go_at_call 19; refine (text_any (by first | exact hf.out | exact hr.out) _ (by omega)).mono ?_; rintro e w3 ⟨rfl, r1, g1⟩; (first
          | (rw [q4] at r1 ⊢; replace hf := Hid.mk r1; replace hr := Hid.mk (hr.out.kept g1 hne.out); replace hb := Hid.mk (below_grown hb.out g1 hb.out.size hg2.out))
          | ((first | rw [q1] at r1 ⊢ | rw [q3] at r1 ⊢); replace hr := Hid.mk r1; replace hb := Hid.mk (below_grown hb.out g1 hb.out.size hg.out))); clear r1 g1)
      | (go_at_call 16; refine (end_any (by first | exact hf.out | exact hr.out)).mono ?_; rintro e w4 ⟨rfl, rfl⟩; (first | rw [e0] | rw [e5]))
      | (go_at_call 9; refine (encNumB_any n hn _).mono ?_; rintro e w1 ⟨rfl, b1⟩; (try replace hr := Hid.mk (hr.out.call b1)); (try replace hf := Hid.mk (hf.out.call b1)); replace hb := Hid.mk (below3 hb.out b1); clear b1)
      | (go_at_call 27; refine (encText_any _ (by assumption) _).mono ?_; rintro e w1 ⟨rfl, b1⟩; (try replace hr := Hid.mk (hr.out.call b1)); (try replace hf := Hid.mk (hf.out.call b1)); replace hb := Hid.mk (below3 hb.out b1); clear b1)
      | (go_at_call 28; refine (refText_any _ (by assumption) _).mono ?_; rintro e w1 ⟨rfl, b1⟩; (try replace hr := Hid.mk (hr.out.call b1)); (try replace hf := Hid.mk (hf.out.call b1)); replace hb := Hid.mk (below3 hb.out b1); clear b1)
      | (go_at_call 13; refine (awake_any _).mono ?_; rintro e w1 ⟨rfl, b1⟩; (try replace hr := Hid.mk (hr.out.call b1)); (try replace hf := Hid.mk (hf.out.call b1)); replace hb := Hid.mk (below3 hb.out b1); clear b1))
    go_ret
    exact ⟨rfl, hb.out⟩
  · have h2 : ¬ X = ByteArray.empty := by
      intro e
      rw [e] at h1
      exact absurd h1 (by decide)
    go_enter Try.func5, Try.ntmps5
    go_wp2_with (first
      | (go_at_call 17; refine (few_any _ _).mono ?_; rintro e w' ⟨rfl, hw⟩; rw [hw]; clear hw; (first | rw [hX] | rw [hY]))
      | (go_at_call 8; refine (new_any _ _).mono ?_; rintro e w2 ⟨rfl, r1, b1⟩; (first
          | (have hne := Hid.mk (Nat.ne_of_lt hr.out.lt); have hg2 := Hid.mk hb.out.size; replace hr := Hid.mk (hr.out.call b1); have hf := Hid.mk r1)
          | (have hr := Hid.mk r1; have hg := Hid.mk hb.out.size)); replace hb := Hid.mk (below3 hb.out b1); clear b1 r1)
      | (go_at_call 10; refine (num_any hr.out _).mono ?_; rintro e w3 ⟨rfl, r1, g1⟩; rw [q2] at r1 ⊢; replace hr := Hid.mk r1; replace hb := Hid.mk (below_grown hb.out g1 hb.out.size hg.out); clear r1 g1)
      | (go_at_call 19; refine (text_any (by first | exact hf.out | exact hr.out) _ (by omega)).mono ?_; rintro e w3 ⟨rfl, r1, g1⟩; (first
          | (rw [q4] at r1 ⊢; replace hf := Hid.mk r1; replace hr := Hid.mk (hr.out.kept g1 hne.out); replace hb := Hid.mk (below_grown hb.out g1 hb.out.size hg2.out))
          | ((first | rw [q1] at r1 ⊢ | rw [q3] at r1 ⊢); replace hr := Hid.mk r1; replace hb := Hid.mk (below_grown hb.out g1 hb.out.size hg.out))); clear r1 g1)
      | (go_at_call 16; refine (end_any (by first | exact hf.out | exact hr.out)).mono ?_; rintro e w4 ⟨rfl, rfl⟩; (first | rw [e0] | rw [e5]))
      | (go_at_call 9; refine (encNumB_any n hn _).mono ?_; rintro e w1 ⟨rfl, b1⟩; (try replace hr := Hid.mk (hr.out.call b1)); (try replace hf := Hid.mk (hf.out.call b1)); replace hb := Hid.mk (below3 hb.out b1); clear b1)
      | (go_at_call 27; refine (encText_any _ (by assumption) _).mono ?_; rintro e w1 ⟨rfl, b1⟩; (try replace hr := Hid.mk (hr.out.call b1)); (try replace hf := Hid.mk (hf.out.call b1)); replace hb := Hid.mk (below3 hb.out b1); clear b1)
      | (go_at_call 28; refine (refText_any _ (by assumption) _).mono ?_; rintro e w1 ⟨rfl, b1⟩; (try replace hr := Hid.mk (hr.out.call b1)); (try replace hf := Hid.mk (hf.out.call b1)); replace hb := Hid.mk (below3 hb.out b1); clear b1)
      | (go_at_call 13; refine (awake_any _).mono ?_; rintro e w1 ⟨rfl, b1⟩; (try replace hr := Hid.mk (hr.out.call b1)); (try replace hf := Hid.mk (hf.out.call b1)); replace hb := Hid.mk (below3 hb.out b1); clear b1))
    go_ret
    exact ⟨rfl, hb.out⟩
theorem codeTexts_any (a b : ByteArray) (n : Int) (w : World) (hn : 0 ≤ n ∧ n ≤ 18446744073709551615) :
    Calls Try.prog 5 #[.string a, .string b, .int .u64 n] w fun e w' => e = .returned (.bool true) ∧ Below w.heap.size w w' := by
  obtain ⟨m, rfl⟩ := Int.eq_ofNat_of_zero_le hn.1
  have hm : m < 18446744073709551616 := by omega
  have lX := cut_size a
  have lY := cut_size b
  refine codeTexts_aux a b (cut a) (cut b) rfl rfl lX lY m hm (numB m ++ textB (cut b)) ?_ ?_ ?_ _ rfl ?_ w
  · rw [ByteArray.append_assoc, rT_app _ _ _ (by omega), if_neg (by show ¬ (300 : Int) < _; omega)]
  · rw [rN_app _ _ _ hm, if_neg (by omega)]
  · rw [rT_text _ _ (by omega), if_neg (by show ¬ (300 : Int) < _; omega)]
  · by_cases h0 : (cut a).size = 0
    · refine .inl ⟨h0, ?_⟩
      rw [rT_text _ _ (by omega), h0, if_neg (by decide), nil_of_size _ h0]
    · refine .inr ⟨by omega, ?_⟩
      rw [rT_text _ _ (by omega), if_pos]
      unfold upTo
      split <;> omega
end Go.Proofs.Ytcdgmnjioaillaa
