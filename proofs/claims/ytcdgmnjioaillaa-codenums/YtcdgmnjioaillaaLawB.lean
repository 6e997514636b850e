/-
  The walk of the law CodeNums.
-/
import Derived.Test.YtcdgmnjioaillaaBack
namespace Go.Proofs.Ytcdgmnjioaillaa
open Go Go.RowKit

/-- a fixed number's bytes -/
def fixB (n : Nat) (b : Int) : ByteArray := ⟨(fixL n (wid b).toNat).toArray⟩
theorem encFixB_any (n : Nat) (b : Int) (w : World) :
    Calls Try.prog 11 #[.int .u64 n, .int .i64 b] w fun e w' => e = .returned (.string (fixB n b)) ∧ Below w.heap.size w w' := encFixed_any n b w
theorem refFixB_any (n : Nat) (hn : n < 18446744073709551616) (b : Int) (w : World) :
    Calls Try.prog 15 #[.int .u64 n, .int .i64 b] w fun e w' => e = .returned (.string (fixB n b)) ∧ Below w.heap.size w w' := refFixed_any n hn b w
theorem rF_fix (n : Nat) (b : Int) : rF (fixB n b) 0 b = (⟨#[]⟩, 0, n % 256 ^ (wid b).toNat) := by
  have h := rB_app (fixB n b) ⟨#[]⟩ (wid b) (by
    show wid b = (((fixL n (wid b).toNat).toArray.size : Nat) : Int)
    rw [List.size_toArray, fixL_length]
    have := wid_le b
    omega)
  rw [append_nilB] at h
  unfold rF
  rw [h]
  unfold fixB
  simp only [leL_fixL]
theorem end0 : rE ⟨#[]⟩ 0 = 0 := rfl
theorem end5 : rE ⟨#[]⟩ 5 = 5 := rfl
theorem cut_by (n k V : Nat) (hk : k < 8) (hv : V = n % 256 ^ k) : ∃ P : Nat, IntKind.u64.wrap ((2 : Int) ^ (8 * k)) = (P : Int) ∧ 0 < P ∧ (n : Int) % (P : Int) = (V : Int) := by
  have hp := Nat.pow_pos (n := k) (show 0 < 256 by omega)
  have h7 : 256 ^ k ≤ 256 ^ 7 := Nat.pow_le_pow_right (show 256 > 0 by omega) (show k ≤ 7 by omega)
  refine ⟨256 ^ k, ?_, hp, by rw [hv]; rfl⟩
  have e : ((2 : Int) ^ (8 * k)) = ((256 ^ k : Nat) : Int) := by
    rw [pow256, Int.natCast_pow]
    rfl
  rw [e, IntKind.wrap_u64]
  have : (256 : Nat) ^ 7 = 72057594037927936 := by decide
  omega
set_option maxHeartbeats 4000000 in
theorem codeNums_aux (n : Nat) (hn : n < 18446744073709551616) (most b : Int) (q : ByteArray × Int × Nat) (hq : rN (numB n) 0 most = q) (V : Nat) (hV : rF (fixB n b) 0 b = (⟨#[]⟩, 0, V))
    (hcases : (most < n ∧ q = (⟨#[]⟩, 5, 0)) ∨ ((n : Int) ≤ most ∧ q = (⟨#[]⟩, 0, n)))
    (hcut : (8 ≤ b ∧ V = n) ∨ (b ≤ 0 ∧ V = 0) ∨ (∃ k : Nat, b = (k : Int) ∧ 0 < k ∧ k < 8 ∧ V = n % 256 ^ k)) (w : World) :
    Calls Try.prog 3 #[.int .u64 n, .int .u64 most, .int .i64 b] w fun e w' => e = .returned (.bool true) ∧ Below w.heap.size w w' := by
  have hb := Hid.mk (Below.refl w.heap.size w)
  have e0 := end0
  have e5 := end5
  rcases hcases with ⟨h1, rfl⟩ | ⟨h1, rfl⟩
  · rcases hcut with ⟨c1, hv⟩ | ⟨c1, hv⟩ | ⟨k, rfl, c1, c2, hv⟩
    · rw [hv] at hV
      clear hv
      go_enter Try.func3, Try.ntmps3
      go_wp2_with (first
        | (go_at_call 8; refine (new_any _ _).mono ?_; rintro e w2 ⟨rfl, r1, b1⟩; (first
            | (have hne := Hid.mk (Nat.ne_of_lt hr.out.lt); have hg2 := Hid.mk hb.out.size; replace hr := Hid.mk (hr.out.call b1); have hf := Hid.mk r1)
            | (have hr := Hid.mk r1; have hg := Hid.mk hb.out.size)); replace hb := Hid.mk (below3 hb.out b1); clear b1 r1)
        | (go_at_call 10; refine (num_any hr.out _).mono ?_; rintro e w3 ⟨rfl, r1, g1⟩; rw [hq] at r1 ⊢; replace hr := Hid.mk r1; replace hb := Hid.mk (below_grown hb.out g1 hb.out.size hg.out); clear r1 g1)
        | (go_at_call 12; refine (fixedF_any hf.out _).mono ?_; rintro e w3 ⟨rfl, r1, g1⟩; rw [hV] at r1 ⊢; replace hf := Hid.mk r1; replace hr := Hid.mk (hr.out.kept g1 hne.out); replace hb := Hid.mk (below_grown hb.out g1 hb.out.size hg2.out); clear r1 g1)
        | (go_at_call 16; refine (end_any (by first | exact hf.out | exact hr.out)).mono ?_; rintro e w4 ⟨rfl, rfl⟩; (first | rw [e0] | rw [e5]))
        | (go_at_call 9; refine (encNumB_any n hn _).mono ?_; rintro e w1 ⟨rfl, b1⟩; (try replace hr := Hid.mk (hr.out.call b1)); (try replace hf := Hid.mk (hf.out.call b1)); replace hb := Hid.mk (below3 hb.out b1); clear b1)
        | (go_at_call 14; refine (refNumB_any n hn _).mono ?_; rintro e w1 ⟨rfl, b1⟩; (try replace hr := Hid.mk (hr.out.call b1)); (try replace hf := Hid.mk (hf.out.call b1)); replace hb := Hid.mk (below3 hb.out b1); clear b1)
        | (go_at_call 11; refine (encFixB_any n _ _).mono ?_; rintro e w1 ⟨rfl, b1⟩; (try replace hr := Hid.mk (hr.out.call b1)); (try replace hf := Hid.mk (hf.out.call b1)); replace hb := Hid.mk (below3 hb.out b1); clear b1)
        | (go_at_call 15; refine (refFixB_any n hn _ _).mono ?_; rintro e w1 ⟨rfl, b1⟩; (try replace hr := Hid.mk (hr.out.call b1)); (try replace hf := Hid.mk (hf.out.call b1)); replace hb := Hid.mk (below3 hb.out b1); clear b1)
        | (go_at_call 13; refine (awake_any _).mono ?_; rintro e w1 ⟨rfl, b1⟩; (try replace hr := Hid.mk (hr.out.call b1)); (try replace hf := Hid.mk (hf.out.call b1)); replace hb := Hid.mk (below3 hb.out b1); clear b1))
      go_ret
      exact ⟨rfl, hb.out⟩
    · rw [hv] at hV
      clear hv
      go_enter Try.func3, Try.ntmps3
      go_wp2_with (first
        | (go_at_call 8; refine (new_any _ _).mono ?_; rintro e w2 ⟨rfl, r1, b1⟩; (first
            | (have hne := Hid.mk (Nat.ne_of_lt hr.out.lt); have hg2 := Hid.mk hb.out.size; replace hr := Hid.mk (hr.out.call b1); have hf := Hid.mk r1)
            | (have hr := Hid.mk r1; have hg := Hid.mk hb.out.size)); replace hb := Hid.mk (below3 hb.out b1); clear b1 r1)
        | (go_at_call 10; refine (num_any hr.out _).mono ?_; rintro e w3 ⟨rfl, r1, g1⟩; rw [hq] at r1 ⊢; replace hr := Hid.mk r1; replace hb := Hid.mk (below_grown hb.out g1 hb.out.size hg.out); clear r1 g1)
        | (go_at_call 12; refine (fixedF_any hf.out _).mono ?_; rintro e w3 ⟨rfl, r1, g1⟩; rw [hV] at r1 ⊢; replace hf := Hid.mk r1; replace hr := Hid.mk (hr.out.kept g1 hne.out); replace hb := Hid.mk (below_grown hb.out g1 hb.out.size hg2.out); clear r1 g1)
        | (go_at_call 16; refine (end_any (by first | exact hf.out | exact hr.out)).mono ?_; rintro e w4 ⟨rfl, rfl⟩; (first | rw [e0] | rw [e5]))
        | (go_at_call 9; refine (encNumB_any n hn _).mono ?_; rintro e w1 ⟨rfl, b1⟩; (try replace hr := Hid.mk (hr.out.call b1)); (try replace hf := Hid.mk (hf.out.call b1)); replace hb := Hid.mk (below3 hb.out b1); clear b1)
        | (go_at_call 14; refine (refNumB_any n hn _).mono ?_; rintro e w1 ⟨rfl, b1⟩; (try replace hr := Hid.mk (hr.out.call b1)); (try replace hf := Hid.mk (hf.out.call b1)); replace hb := Hid.mk (below3 hb.out b1); clear b1)
        | (go_at_call 11; refine (encFixB_any n _ _).mono ?_; rintro e w1 ⟨rfl, b1⟩; (try replace hr := Hid.mk (hr.out.call b1)); (try replace hf := Hid.mk (hf.out.call b1)); replace hb := Hid.mk (below3 hb.out b1); clear b1)
        | (go_at_call 15; refine (refFixB_any n hn _ _).mono ?_; rintro e w1 ⟨rfl, b1⟩; (try replace hr := Hid.mk (hr.out.call b1)); (try replace hf := Hid.mk (hf.out.call b1)); replace hb := Hid.mk (below3 hb.out b1); clear b1)
        | (go_at_call 13; refine (awake_any _).mono ?_; rintro e w1 ⟨rfl, b1⟩; (try replace hr := Hid.mk (hr.out.call b1)); (try replace hf := Hid.mk (hf.out.call b1)); replace hb := Hid.mk (below3 hb.out b1); clear b1))
      go_ret
      exact ⟨rfl, hb.out⟩
    · obtain ⟨P, hP, hP0, hm⟩ := cut_by n k V c2 hv
      clear hv
      go_enter Try.func3, Try.ntmps3
      go_wp2_with (first
        | (go_at_call 8; refine (new_any _ _).mono ?_; rintro e w2 ⟨rfl, r1, b1⟩; (first
            | (have hne := Hid.mk (Nat.ne_of_lt hr.out.lt); have hg2 := Hid.mk hb.out.size; replace hr := Hid.mk (hr.out.call b1); have hf := Hid.mk r1)
            | (have hr := Hid.mk r1; have hg := Hid.mk hb.out.size)); replace hb := Hid.mk (below3 hb.out b1); clear b1 r1)
        | (go_at_call 10; refine (num_any hr.out _).mono ?_; rintro e w3 ⟨rfl, r1, g1⟩; rw [hq] at r1 ⊢; replace hr := Hid.mk r1; replace hb := Hid.mk (below_grown hb.out g1 hb.out.size hg.out); clear r1 g1)
        | (go_at_call 12; refine (fixedF_any hf.out _).mono ?_; rintro e w3 ⟨rfl, r1, g1⟩; rw [hV] at r1 ⊢; replace hf := Hid.mk r1; replace hr := Hid.mk (hr.out.kept g1 hne.out); replace hb := Hid.mk (below_grown hb.out g1 hb.out.size hg2.out); clear r1 g1)
        | (go_at_call 16; refine (end_any (by first | exact hf.out | exact hr.out)).mono ?_; rintro e w4 ⟨rfl, rfl⟩; (first | rw [e0] | rw [e5]))
        | (go_at_call 9; refine (encNumB_any n hn _).mono ?_; rintro e w1 ⟨rfl, b1⟩; (try replace hr := Hid.mk (hr.out.call b1)); (try replace hf := Hid.mk (hf.out.call b1)); replace hb := Hid.mk (below3 hb.out b1); clear b1)
        | (go_at_call 14; refine (refNumB_any n hn _).mono ?_; rintro e w1 ⟨rfl, b1⟩; (try replace hr := Hid.mk (hr.out.call b1)); (try replace hf := Hid.mk (hf.out.call b1)); replace hb := Hid.mk (below3 hb.out b1); clear b1)
        | (go_at_call 11; refine (encFixB_any n _ _).mono ?_; rintro e w1 ⟨rfl, b1⟩; (try replace hr := Hid.mk (hr.out.call b1)); (try replace hf := Hid.mk (hf.out.call b1)); replace hb := Hid.mk (below3 hb.out b1); clear b1)
        | (go_at_call 15; refine (refFixB_any n hn _ _).mono ?_; rintro e w1 ⟨rfl, b1⟩; (try replace hr := Hid.mk (hr.out.call b1)); (try replace hf := Hid.mk (hf.out.call b1)); replace hb := Hid.mk (below3 hb.out b1); clear b1)
        | (go_at_call 13; refine (awake_any _).mono ?_; rintro e w1 ⟨rfl, b1⟩; (try replace hr := Hid.mk (hr.out.call b1)); (try replace hf := Hid.mk (hf.out.call b1)); replace hb := Hid.mk (below3 hb.out b1); clear b1))
      go_ret
      exact ⟨rfl, hb.out⟩
  · rcases hcut with ⟨c1, hv⟩ | ⟨c1, hv⟩ | ⟨k, rfl, c1, c2, hv⟩
    · rw [hv] at hV
      clear hv
      go_enter Try.func3, Try.ntmps3
      go_wp2_with (first
        | (go_at_call 8; refine (new_any _ _).mono ?_; rintro e w2 ⟨rfl, r1, b1⟩; (first
            | (have hne := Hid.mk (Nat.ne_of_lt hr.out.lt); have hg2 := Hid.mk hb.out.size; replace hr := Hid.mk (hr.out.call b1); have hf := Hid.mk r1)
            | (have hr := Hid.mk r1; have hg := Hid.mk hb.out.size)); replace hb := Hid.mk (below3 hb.out b1); clear b1 r1)
        | (go_at_call 10; refine (num_any hr.out _).mono ?_; rintro e w3 ⟨rfl, r1, g1⟩; rw [hq] at r1 ⊢; replace hr := Hid.mk r1; replace hb := Hid.mk (below_grown hb.out g1 hb.out.size hg.out); clear r1 g1)
        | (go_at_call 12; refine (fixedF_any hf.out _).mono ?_; rintro e w3 ⟨rfl, r1, g1⟩; rw [hV] at r1 ⊢; replace hf := Hid.mk r1; replace hr := Hid.mk (hr.out.kept g1 hne.out); replace hb := Hid.mk (below_grown hb.out g1 hb.out.size hg2.out); clear r1 g1)
        | (go_at_call 16; refine (end_any (by first | exact hf.out | exact hr.out)).mono ?_; rintro e w4 ⟨rfl, rfl⟩; (first | rw [e0] | rw [e5]))
        | (go_at_call 9; refine (encNumB_any n hn _).mono ?_; rintro e w1 ⟨rfl, b1⟩; (try replace hr := Hid.mk (hr.out.call b1)); (try replace hf := Hid.mk (hf.out.call b1)); replace hb := Hid.mk (below3 hb.out b1); clear b1)
        | (go_at_call 14; refine (refNumB_any n hn _).mono ?_; rintro e w1 ⟨rfl, b1⟩; (try replace hr := Hid.mk (hr.out.call b1)); (try replace hf := Hid.mk (hf.out.call b1)); replace hb := Hid.mk (below3 hb.out b1); clear b1)
        | (go_at_call 11; refine (encFixB_any n _ _).mono ?_; rintro e w1 ⟨rfl, b1⟩; (try replace hr := Hid.mk (hr.out.call b1)); (try replace hf := Hid.mk (hf.out.call b1)); replace hb := Hid.mk (below3 hb.out b1); clear b1)
        | (go_at_call 15; refine (refFixB_any n hn _ _).mono ?_; rintro e w1 ⟨rfl, b1⟩; (try replace hr := Hid.mk (hr.out.call b1)); (try replace hf := Hid.mk (hf.out.call b1)); replace hb := Hid.mk (below3 hb.out b1); clear b1)
        | (go_at_call 13; refine (awake_any _).mono ?_; rintro e w1 ⟨rfl, b1⟩; (try replace hr := Hid.mk (hr.out.call b1)); (try replace hf := Hid.mk (hf.out.call b1)); replace hb := Hid.mk (below3 hb.out b1); clear b1))
      go_ret
      exact ⟨rfl, hb.out⟩
    · rw [hv] at hV
      clear hv
      go_enter Try.func3, Try.ntmps3
      go_wp2_with (first
        | (go_at_call 8; refine (new_any _ _).mono ?_; rintro e w2 ⟨rfl, r1, b1⟩; (first
            | (have hne := Hid.mk (Nat.ne_of_lt hr.out.lt); have hg2 := Hid.mk hb.out.size; replace hr := Hid.mk (hr.out.call b1); have hf := Hid.mk r1)
            | (have hr := Hid.mk r1; have hg := Hid.mk hb.out.size)); replace hb := Hid.mk (below3 hb.out b1); clear b1 r1)
        | (go_at_call 10; refine (num_any hr.out _).mono ?_; rintro e w3 ⟨rfl, r1, g1⟩; rw [hq] at r1 ⊢; replace hr := Hid.mk r1; replace hb := Hid.mk (below_grown hb.out g1 hb.out.size hg.out); clear r1 g1)
        | (go_at_call 12; refine (fixedF_any hf.out _).mono ?_; rintro e w3 ⟨rfl, r1, g1⟩; rw [hV] at r1 ⊢; replace hf := Hid.mk r1; replace hr := Hid.mk (hr.out.kept g1 hne.out); replace hb := Hid.mk (below_grown hb.out g1 hb.out.size hg2.out); clear r1 g1)
        | (go_at_call 16; refine (end_any (by first | exact hf.out | exact hr.out)).mono ?_; rintro e w4 ⟨rfl, rfl⟩; (first | rw [e0] | rw [e5]))
        | (go_at_call 9; refine (encNumB_any n hn _).mono ?_; rintro e w1 ⟨rfl, b1⟩; (try replace hr := Hid.mk (hr.out.call b1)); (try replace hf := Hid.mk (hf.out.call b1)); replace hb := Hid.mk (below3 hb.out b1); clear b1)
        | (go_at_call 14; refine (refNumB_any n hn _).mono ?_; rintro e w1 ⟨rfl, b1⟩; (try replace hr := Hid.mk (hr.out.call b1)); (try replace hf := Hid.mk (hf.out.call b1)); replace hb := Hid.mk (below3 hb.out b1); clear b1)
        | (go_at_call 11; refine (encFixB_any n _ _).mono ?_; rintro e w1 ⟨rfl, b1⟩; (try replace hr := Hid.mk (hr.out.call b1)); (try replace hf := Hid.mk (hf.out.call b1)); replace hb := Hid.mk (below3 hb.out b1); clear b1)
        | (go_at_call 15; refine (refFixB_any n hn _ _).mono ?_; rintro e w1 ⟨rfl, b1⟩; (try replace hr := Hid.mk (hr.out.call b1)); (try replace hf := Hid.mk (hf.out.call b1)); replace hb := Hid.mk (below3 hb.out b1); clear b1)
        | (go_at_call 13; refine (awake_any _).mono ?_; rintro e w1 ⟨rfl, b1⟩; (try replace hr := Hid.mk (hr.out.call b1)); (try replace hf := Hid.mk (hf.out.call b1)); replace hb := Hid.mk (below3 hb.out b1); clear b1))
      go_ret
      exact ⟨rfl, hb.out⟩
    · obtain ⟨P, hP, hP0, hm⟩ := cut_by n k V c2 hv
      clear hv
      go_enter Try.func3, Try.ntmps3
      go_wp2_with (first
        | (go_at_call 8; refine (new_any _ _).mono ?_; rintro e w2 ⟨rfl, r1, b1⟩; (first
            | (have hne := Hid.mk (Nat.ne_of_lt hr.out.lt); have hg2 := Hid.mk hb.out.size; replace hr := Hid.mk (hr.out.call b1); have hf := Hid.mk r1)
            | (have hr := Hid.mk r1; have hg := Hid.mk hb.out.size)); replace hb := Hid.mk (below3 hb.out b1); clear b1 r1)
        | (go_at_call 10; refine (num_any hr.out _).mono ?_; rintro e w3 ⟨rfl, r1, g1⟩; rw [hq] at r1 ⊢; replace hr := Hid.mk r1; replace hb := Hid.mk (below_grown hb.out g1 hb.out.size hg.out); clear r1 g1)
        | (go_at_call 12; refine (fixedF_any hf.out _).mono ?_; rintro e w3 ⟨rfl, r1, g1⟩; rw [hV] at r1 ⊢; replace hf := Hid.mk r1; replace hr := Hid.mk (hr.out.kept g1 hne.out); replace hb := Hid.mk (below_grown hb.out g1 hb.out.size hg2.out); clear r1 g1)
        | (go_at_call 16; refine (end_any (by first | exact hf.out | exact hr.out)).mono ?_; rintro e w4 ⟨rfl, rfl⟩; (first | rw [e0] | rw [e5]))
        | (go_at_call 9; refine (encNumB_any n hn _).mono ?_; rintro e w1 ⟨rfl, b1⟩; (try replace hr := Hid.mk (hr.out.call b1)); (try replace hf := Hid.mk (hf.out.call b1)); replace hb := Hid.mk (below3 hb.out b1); clear b1)
        | (go_at_call 14; refine (refNumB_any n hn _).mono ?_; rintro e w1 ⟨rfl, b1⟩; (try replace hr := Hid.mk (hr.out.call b1)); (try replace hf := Hid.mk (hf.out.call b1)); replace hb := Hid.mk (below3 hb.out b1); clear b1)
        | (go_at_call 11; refine (encFixB_any n _ _).mono ?_; rintro e w1 ⟨rfl, b1⟩; (try replace hr := Hid.mk (hr.out.call b1)); (try replace hf := Hid.mk (hf.out.call b1)); replace hb := Hid.mk (below3 hb.out b1); clear b1)
        | (go_at_call 15; refine (refFixB_any n hn _ _).mono ?_; rintro e w1 ⟨rfl, b1⟩; (try replace hr := Hid.mk (hr.out.call b1)); (try replace hf := Hid.mk (hf.out.call b1)); replace hb := Hid.mk (below3 hb.out b1); clear b1)
        | (go_at_call 13; refine (awake_any _).mono ?_; rintro e w1 ⟨rfl, b1⟩; (try replace hr := Hid.mk (hr.out.call b1)); (try replace hf := Hid.mk (hf.out.call b1)); replace hb := Hid.mk (below3 hb.out b1); clear b1))
      go_ret
      exact ⟨rfl, hb.out⟩
theorem codeNums_any (n most b : Int) (w : World) (hn : 0 ≤ n ∧ n ≤ 18446744073709551615) :
    Calls Try.prog 3 #[.int .u64 n, .int .u64 most, .int .i64 b] w fun e w' => e = .returned (.bool true) ∧ Below w.heap.size w w' := by
  obtain ⟨m, rfl⟩ := Int.eq_ofNat_of_zero_le hn.1
  have hm : m < 18446744073709551616 := by omega
  refine codeNums_aux m hm most b _ rfl _ (rF_fix m b) ?_ ?_ w
  · rw [rN_num m most hm]
    by_cases h : most < (m : Int)
    · exact .inl ⟨h, if_pos h⟩
    · exact .inr ⟨by omega, if_neg h⟩
  · by_cases h8 : 8 ≤ b
    · have e : (wid b).toNat = 8 := by unfold wid; split <;> (try split) <;> omega
      exact .inl ⟨h8, by rw [e]; exact Nat.mod_eq_of_lt hm⟩
    · by_cases h0 : b ≤ 0
      · have e : (wid b).toNat = 0 := by unfold wid; split <;> (try split) <;> omega
        exact .inr (.inl ⟨h0, by rw [e, Nat.pow_zero, Nat.mod_one]⟩)
      · obtain ⟨k, rfl⟩ := Int.eq_ofNat_of_zero_le (show 0 ≤ b by omega)
        have e : (wid (k : Int)).toNat = k := by unfold wid; split <;> (try split) <;> omega
        exact .inr (.inr ⟨k, rfl, by omega, by omega, by rw [e]⟩)
end Go.Proofs.Ytcdgmnjioaillaa
