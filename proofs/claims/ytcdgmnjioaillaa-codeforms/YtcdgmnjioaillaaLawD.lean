/-
  The walk of the law CodeForms.
-/
import Derived.Test.YtcdgmnjioaillaaForm
import Derived.Deep.RegionHeld3
namespace Go.Proofs.Ytcdgmnjioaillaa
open Go Go.RowKit

theorem codeForms_bad (s T : ByteArray) (hT : cut s = T) (S : ByteArray) (E : Int) (q : rN T 0 18446744073709551615 = (S, E, 0)) (hE : E ≠ 0) (w : World) :
    Calls Try.prog 6 #[.string s] w fun e w' => e = .returned (.bool true) ∧ Below w.heap.size w w' := by
  have hb := Hid.mk (Below.refl w.heap.size w)
  go_enter Try.func6, Try.ntmps6
  go_wp2_with (first
    | (go_at_call 17; refine (few_any _ _).mono ?_; rintro e w' ⟨rfl, hw⟩; rw [hw]; clear hw; rw [hT])
    | (go_at_call 8; refine (new_any _ _).mono ?_; rintro e w2 ⟨rfl, r1, b1⟩; have hr := Hid.mk r1; have hg := Hid.mk hb.out.size; replace hb := Hid.mk (below3 hb.out b1); clear b1 r1)
    | (go_at_call 10; refine (num_any hr.out _).mono ?_; rintro e w3 ⟨rfl, r1, g1⟩; rw [q] at r1 ⊢; replace hr := Hid.mk r1; replace hb := Hid.mk (below_grown hb.out g1 hb.out.size hg.out); clear r1 g1)
    | (go_at_call 13; refine (awake_any _).mono ?_; rintro e w1 ⟨rfl, b1⟩; (try replace hr := Hid.mk (hr.out.call b1)); replace hb := Hid.mk (below3 hb.out b1); clear b1)
    | (go_at_call 24; refine (err_any hr.out).mono ?_; rintro e w4 ⟨rfl, rfl⟩))
  go_ret
  exact ⟨rfl, hb.out⟩
theorem codeForms_good (s T : ByteArray) (hT : cut s = T) (S : ByteArray) (v k : Nat) (q : rN T 0 18446744073709551615 = (S, 0, v)) (h1 : 1 ≤ k) (h9 : k ≤ 9) (hk : S.size + k = T.size) (B : ByteArray)
    (hB : numB v = B) (hX : T.extract 0 k = B) (hv : v < 18446744073709551616) (w : World) :
    Calls Try.prog 6 #[.string s] w fun e w' => e = .returned (.bool true) ∧ Below w.heap.size w w' := by
  have hb := Hid.mk (Below.refl w.heap.size w)
  have hd : (T.size : Int) - (S.size : Int) = (k : Int) := by omega
  have hkT : k ≤ T.size := by omega
  have HK := Hid.mk hk
  clear hk
  go_enter Try.func6, Try.ntmps6
  go_wp2_with (first
    | (go_at_call 17; refine (few_any _ _).mono ?_; rintro e w' ⟨rfl, hw⟩; rw [hw]; clear hw; rw [hT])
    | (go_at_call 8; refine (new_any _ _).mono ?_; rintro e w2 ⟨rfl, r1, b1⟩; have hr := Hid.mk r1; have hg := Hid.mk hb.out.size; replace hb := Hid.mk (below3 hb.out b1); clear b1 r1)
    | (go_at_call 10; refine (num_any hr.out _).mono ?_; rintro e w3 ⟨rfl, r1, g1⟩; rw [q] at r1 ⊢; replace hr := Hid.mk r1; replace hb := Hid.mk (below_grown hb.out g1 hb.out.size hg.out); clear r1 g1)
    | (go_at_call 13; refine (awake_any _).mono ?_; rintro e w1 ⟨rfl, b1⟩; (try replace hr := Hid.mk (hr.out.call b1)); replace hb := Hid.mk (below3 hb.out b1); clear b1)
    | (go_at_call 25; refine (left_any hr.out).mono ?_; rintro e w4 ⟨rfl, rfl⟩)
    | (go_at_call 24; refine (err_any hr.out).mono ?_; rintro e w4 ⟨rfl, rfl⟩))
  clear hd hT q
  have t1 : decide ((1 : Int) ≤ (k : Int)) = true := decide_eq_true (by omega)
  have t9 : decide ((k : Int) ≤ 9) = true := decide_eq_true (by omega)
  go_region_held3 (fun w' => Below w.heap.size w w') (first | assumption | exact hb.out.drew | exact below3 (by assumption) (by assumption))
    (first | (go_at_call 9; refine (encNumB_any v hv _).mono ?_; rintro e w5 ⟨rfl, b1⟩; rw [hB]))
  have hb2 : Below w.heap.size w w5 := by assumption
  go_wp2_with fail
  go_ret
  exact ⟨rfl, hb2⟩
theorem codeForms_any (s : ByteArray) (w : World) : Calls Try.prog 6 #[.string s] w fun e w' => e = .returned (.bool true) ∧ Below w.heap.size w w' := by
  rcases rN_form (cut s) 18446744073709551615 with ⟨hE, h0⟩ | ⟨k, h1, h9, hE, hk, hX, hv⟩
  · exact codeForms_bad s (cut s) rfl (rN (cut s) 0 18446744073709551615).1 (rN (cut s) 0 18446744073709551615).2.1 (by rw [← h0]) hE w
  · exact codeForms_good s (cut s) rfl (rN (cut s) 0 18446744073709551615).1 (rN (cut s) 0 18446744073709551615).2.2 k (Prod.ext rfl (Prod.ext hE rfl)) h1 h9 hk _ rfl hX hv w
end Go.Proofs.Ytcdgmnjioaillaa
