/-
  The walk of the law ScoreBetter. Condition: the arguments are whole numbers of 64 bits.
-/
import Derived.Test.YtkjlakoieeofoaaFewer
import Derived.Test.YtkjlakoieeofoaaLawB
import Derived.BigQuiet
namespace Go.Proofs.Ytkjlakoieeofoaa
open Go.RowKit

theorem and_small (x : Int) (k : Nat) (hk : k ≤ 65535) : ∃ M : Nat, bits .and .i64 x k = M ∧ M ≤ k := by
  have e : bits .and .i64 x k = IntKind.i64.wrap ((BitVec.ofInt 64 x &&& BitVec.ofInt 64 k).toNat : Int) := rfl
  have h1 : (BitVec.ofInt 64 x &&& BitVec.ofInt 64 (k : Int)).toNat ≤ k := by
    rw [BitVec.toNat_and]
    refine Nat.le_trans Nat.and_le_right ?_
    rw [BitVec.ofInt_natCast, BitVec.toNat_ofNat]
    exact Nat.mod_le _ _
  refine ⟨_, ?_, h1⟩
  rw [e, IntKind.wrap_i64]
  omega

theorem reduce (a : Int) (M : Nat) (hM : M ≤ 31) : ∃ x : Nat, (wrap64 (wrap64 (a.tmod (1 + (M : Int) + 1) + (1 + (M : Int))) + 1)).tmod (1 + (M : Int) + 1) = x ∧ x ≤ M + 1 := by
  have h1 := Int.lt_tmod_of_pos a (show (0 : Int) < 1 + (M : Int) + 1 by omega)
  have h2 := Int.tmod_lt_of_pos a (show (0 : Int) < 1 + (M : Int) + 1 by omega)
  generalize a.tmod (1 + (M : Int) + 1) = t at *
  have e : wrap64 (wrap64 (t + (1 + (M : Int))) + 1) = t + (1 + (M : Int)) + 1 := by
    unfold wrap64
    omega
  rw [e]
  have h3 := Int.tmod_lt_of_pos (t + (1 + (M : Int)) + 1) (show (0 : Int) < 1 + (M : Int) + 1 by omega)
  have h4 := Int.tmod_nonneg (1 + (M : Int) + 1) (show 0 ≤ t + (1 + (M : Int)) + 1 by omega)
  exact ⟨((t + (1 + (M : Int)) + 1).tmod (1 + (M : Int) + 1)).toNat, by omega, by omega⟩
theorem ord_same {o : Option Nat} {p q : Nat} (hp : Is o p) (hq : Is o q) : ordF p q = 0 := by
  have h : kind p = kind q ∧ within p = within q := by
    cases o with
    | some v =>
      obtain rfl : p = v := hp.2
      obtain rfl : q = p := hq.2
      exact ⟨rfl, rfl⟩
    | none =>
      have a : nanB p = true := hp.2
      have b : nanB q = true := hq.2
      unfold kind within
      rw [a, b]
      exact ⟨rfl, rfl⟩
  rcases ordF_facts p q with ⟨_, g⟩ | ⟨_, g⟩ | ⟨g, _⟩
  · omega
  · omega
  · exact g
theorem ord_fewer {x y M A p q : Nat} (hM : M ≤ 31) (hA : A ≤ 65535) (hxy : x < y) (hy : y ≤ M + 1) (hp : Is (ofO (x : Int) (1 + (M : Int)) (A : Int)) p) (hq : Is (ofO (y : Int) (1 + (M : Int)) (A : Int)) q) : ordF p q = 1 := by
  obtain ⟨p', q', e1, e2, n1, n2, k1, k2⟩ := fewer (M + 1) x y A (by omega) (by omega) hxy hy (by omega)
  have hn : (1 + (M : Int)) = ((M + 1 : Nat) : Int) := by omega
  unfold ofO at hp hq
  rw [if_neg (by omega), hn, e1] at hp
  rw [if_neg (by omega), hn, e2] at hq
  obtain rfl : p = p' := hp.2
  obtain rfl : q = q' := hq.2
  have w1 : within p = key p := by unfold within; rw [n1]; rfl
  have w2 : within q = key q := by unfold within; rw [n2]; rfl
  have kp : kind p = 4 := by
    unfold kind
    rw [n1]
    simp only [Bool.false_eq_true, if_false]
    rw [if_neg (by omega), if_neg (by omega)]
  have kq := kind_range q
  rcases ordF_facts p q with ⟨_, g⟩ | ⟨g, _⟩ | ⟨_, g⟩
  · omega
  · exact g
  · omega
theorem below_three {w w1 w2 w3 : World} {n : Nat} (h1 : Below (w.drewN n).heap.size (w.drewN n) w1) (h2 : Below w1.heap.size w1 w2) (h3 : Below w2.heap.size w2 w3) : Below w.heap.size w w3 := by
  have a : Below w.heap.size w w1 := (below_drawn (Below.refl _ _) n).trans h1
  have b : Below w.heap.size w w2 := a.trans (h2.mono a.size)
  exact b.trans (h3.mono b.size)

set_option maxHeartbeats 1000000 in
theorem scoreBetter_any (a b more : Int) (w : World) :
    Calls Try.prog 4 #[.int .i64 a, .int .i64 b, .int .i64 more] w fun e w' => e = .returned (.bool true) ∧ Below w.heap.size w w' := by
  obtain ⟨M, hM, hM31⟩ := and_small more 31 (by omega)
  obtain ⟨A, hA, hA2⟩ := and_small (more / 32) 65535 (by omega)
  have hM' : bits .and .i64 more 31 = M := hM
  have hA' : bits .and .i64 (more / 32) 65535 = A := hA
  clear hM hA
  obtain ⟨x, hx, hxM⟩ := reduce a M hM31
  obtain ⟨y, hy, hyM⟩ := reduce b M hM31
  have HX : Hid (_ = _) := hx
  have HY : Hid (_ = _) := hy
  clear hx hy
  go_enter Try.func4, Try.ntmps4
  go_wp2
  go_quiet (fail)
  rw [HX.out, HY.out]
  rcases Nat.lt_trichotomy x y with hlt | heq | hgt
  · have hn1 : ¬ y ≤ x := by omega
    go_wp2_with (first
      | (go_at_call 9; refine (of_any _ _ _ _).mono ?_; rintro e w' ⟨r, rfl, hr, hbO⟩; first | (have hq := hr; have hbQ := hbO; have hord := ord_fewer hM31 hA2 hlt hyM hp hr; clear hr hbO; have HP := hp.1; have HQ := hq.1) | (have hp := hr; have hbP := hbO; clear hr hbO))
      | (go_at_call 10; refine (awake_any _).mono ?_; rintro e w' ⟨rfl, hbA⟩)
      | (go_at_call 12; refine (order_any _ _ _ HP HQ).mono ?_; rintro e w' ⟨rfl, rfl⟩))
    go_ret
    exact ⟨by first | rfl | simp [hord], below_three hbP hbQ hbA⟩
  · subst heq
    go_wp2_with (first
      | (go_at_call 9; refine (of_any _ _ _ _).mono ?_; rintro e w' ⟨r, rfl, hr, hbO⟩; first | (have hq := hr; have hbQ := hbO; have hord := ord_same hp hr; clear hr hbO; have HP := hp.1; have HQ := hq.1) | (have hp := hr; have hbP := hbO; clear hr hbO))
      | (go_at_call 10; refine (awake_any _).mono ?_; rintro e w' ⟨rfl, hbA⟩)
      | (go_at_call 12; refine (order_any _ _ _ HP HQ).mono ?_; rintro e w' ⟨rfl, rfl⟩))
    go_ret
    exact ⟨by first | rfl | simp [hord], below_three hbP hbQ hbA⟩
  · have hn1 : ¬ x ≤ y := by omega
    go_wp2_with (first
      | (go_at_call 9; refine (of_any _ _ _ _).mono ?_; rintro e w' ⟨r, rfl, hr, hbO⟩; first | (have hq := hr; have hbQ := hbO; have hord := hp; clear hr hbO; have HP := hp.1; have HQ := hq.1) | (have hp := hr; have hbP := hbO; clear hr hbO))
      | (go_at_call 10; refine (awake_any _).mono ?_; rintro e w' ⟨rfl, hbA⟩)
      | (go_at_call 12; refine (order_any _ _ _ HP HQ).mono ?_; rintro e w' ⟨rfl, rfl⟩))
    go_ret
    exact ⟨by first | rfl | simp, below_three hbP hbQ hbA⟩
end Go.Proofs.Ytkjlakoieeofoaa
