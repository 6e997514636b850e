/-
  The walk of the law WearLeast. No condition.
-/
import Derived.Test.YtcnjlfngpbnmcaaAwk
namespace Go.Proofs.Ytcnjlfngpbnmcaa
open Go Go.RowKit

/-- the least count, the greatest count of the first so many; 0 of none -/
def lw (f : Nat → Int × Int) (j : Nat) : Int := if j = 0 then 0 else (f (lst f j).toNat).2
def hgh (f : Nat → Int × Int) (j : Nat) : Int := if j = 0 then 0 else grt f (f 0).2 j
theorem spr_is (f : Nat → Int × Int) (n : Nat) : spr f n = hgh f n - lw f n := by
  unfold spr hgh lw
  by_cases h : n = 0
  · rw [if_pos h, if_pos h, if_pos h]; rfl
  · rw [if_neg h, if_neg h, if_neg h]
theorem lw_zero (f : Nat → Int × Int) (j : Nat) (h : j = 0) : lst f (j + 1) = j ∧ lw f (j + 1) = (f j).2 ∧ hgh f (j + 1) = (f j).2 := by
  subst h
  have e : lst f (0 + 1) = (0 : Nat) := by rw [lst_succ, if_pos (.inl (show (-1 : Int) < 0 by decide))]
  refine ⟨e, ?_, ?_⟩
  · unfold lw; rw [if_neg (by omega), e]; rfl
  · unfold hgh
    rw [if_neg (by omega), grt_succ]
    show max (f 0).2 (f 0).2 = _
    omega
theorem lw_pos (f : Nat → Int × Int) (j : Nat) (h : 0 < j) : lw f j = (f (lst f j).toNat).2 ∧ lst f (j + 1) = (if (f j).2 < lw f j then (j : Int) else lst f j) ∧
    lw f (j + 1) = (if (f j).2 < lw f j then (f j).2 else lw f j) ∧ hgh f (j + 1) = (if hgh f j < (f j).2 then (f j).2 else hgh f j) := by
  have hp := lst_pos f j h
  have e1 : lw f j = (f (lst f j).toNat).2 := by unfold lw; rw [if_neg (by omega)]
  have e2 : lst f (j + 1) = (if (f j).2 < lw f j then (j : Int) else lst f j) := by
    rw [lst_succ, e1]
    by_cases q : (f j).2 < (f (lst f j).toNat).2
    · rw [if_pos (.inr q), if_pos q]
    · rw [if_neg (by omega), if_neg q]
  refine ⟨e1, e2, ?_, ?_⟩
  · have e3 : lw f (j + 1) = (f (lst f (j + 1)).toNat).2 := by unfold lw; rw [if_neg (by omega)]
    rw [e3, e2]
    by_cases q : (f j).2 < lw f j
    · rw [if_pos q, if_pos q]; rfl
    · rw [if_neg q, if_neg q, e1]
  · have e4 : hgh f j = grt f (f 0).2 j := by unfold hgh; rw [if_neg (by omega)]
    have e5 : hgh f (j + 1) = grt f (f 0).2 (j + 1) := by unfold hgh; rw [if_neg (by omega)]
    rw [e5, grt_succ, e4]
    split <;> omega
theorem grt_in (f : Nat → Int × Int) (n : Nat) {b : Int} (h : ∀ i, i < n → 0 ≤ (f i).2 ∧ (f i).2 ≤ b) (h0 : 0 < n) : 0 ≤ grt f (f 0).2 n ∧ grt f (f 0).2 n ≤ b := by
  rcases grt_one f (f 0).2 n with e | ⟨i, hi, e⟩
  · rw [e]; exact h 0 h0
  · rw [e]; exact h i hi
theorem lh_range (f : Nat → Int × Int) (n : Nat) (h : ∀ i, i < n → 0 ≤ (f i).2 ∧ (f i).2 ≤ 65535) : (0 ≤ lw f n ∧ lw f n ≤ 65535) ∧ 0 ≤ hgh f n ∧ hgh f n ≤ 65535 := by
  unfold lw hgh
  by_cases h0 : n = 0
  · rw [if_pos h0, if_pos h0]; omega
  · rw [if_neg h0, if_neg h0]
    have h1 := lst_pos f n (by omega)
    have h2 := lst_range f n
    exact ⟨h _ (by omega), grt_in f n h (by omega)⟩
set_option maxRecDepth 20000 in
theorem wearLeast_any (a : Option Addr) (len cap : Nat) (f : Nat → Int × Int) (w : World) (h : Ws w a len f) : Calls Try.prog 3 #[.slice a len cap] w fun e w' => e = .returned (.bool true) ∧ Below w.heap.size w w' := by
  have H := Hid.mk h
  clear h
  go_enter Try.func3, Try.ntmps3
  go_upto_region 2 with (go_at_call 6; refine (few_any H.out).mono ?_; rintro e w1 ⟨a2, n, cp, f2, rfl, hn, hw, hr, b1⟩)
  have H1 := Hid.mk (And.intro hw (And.intro hr b1))
  clear hw hr b1 H
  go_upto_region 3 with fail
  go_loopw [4, 5, 6, 7] (fun v l hi i wr => ∃ j : Nat, j ≤ n ∧ i = .int .i64 j ∧ v = .int .i64 (lst f2 j) ∧ l = .int .i64 (lw f2 j) ∧ hi = .int .i64 (hgh f2 j) ∧ Below w1.heap.size w1 wr) (fun _ _ _ i _ => n - (intOf i).toNat)
  case atStart => exact ⟨0, Nat.zero_le _, rfl, rfl, rfl, rfl, Below.refl _ _⟩
  case round =>
    obtain ⟨j, hj, rfl, rfl, rfl, rfl, hb⟩ := hrel
    have HB := Hid.mk hb
    clear hb
    by_cases hlt : j < n
    · have hlt1 : (j : Int) < n := by omega
      have H2 := Hid.mk (H1.out.1.call HB.out)
      obtain ⟨g, o, rfl, hg, c0, c1⟩ := H2.out j hlt
      clear c0
      by_cases hj0 : j = 0
      · have hq := Hid.mk (lw_zero f2 j hj0)
        have hx : decide (lst f2 j < 0) = true := by subst hj0; rfl
        have hz : ((j : Int) == 0) = true := by simp; omega
        clear hj0
        generalize lst f2 j = x at *
        generalize lw f2 j = y at *
        generalize hgh f2 j = z at *
        generalize (f2 j).2 = q at *
        go_upto_region 5 with fail
        go_quiet (fail)
        go_wp2
        exact ⟨⟨j + 1, by omega, by go_num, by rw [hq.out.1], by rw [hq.out.2.1], by rw [hq.out.2.2], below_drewN HB.out⟩, by simp [intOf]; omega⟩
      · have hq := lw_pos f2 j (by omega)
        have hp := lst_pos f2 j (by omega)
        have hrg := lst_range f2 j
        obtain ⟨m, hm⟩ : ∃ m : Nat, lst f2 j = m := ⟨(lst f2 j).toNat, by omega⟩
        rw [hm, Int.toNat_natCast] at hq
        rw [hm] at hrg ⊢
        have hmn : m < n := by omega
        obtain ⟨_, _, e, _, _, d1⟩ := H2.out m hmn
        cases e
        have hx : decide ((m : Int) < 0) = false := decide_eq_false (by omega)
        have hz : ((j : Int) == 0) = false := by simp; omega
        have hmn1 : (m : Int) < n := by omega
        obtain ⟨he, hq1, hq2, hq3⟩ := hq
        rw [← he] at d1
        generalize lw f2 j = y at *
        generalize hgh f2 j = z at *
        generalize (f2 j).2 = q at *
        clear he hp hm
        by_cases h1 : q < y <;> by_cases h2 : z < q
        all_goals
          first | rw [if_pos h1] at hq1 hq2 | rw [if_neg h1] at hq1 hq2
          first | rw [if_pos h2] at hq3 | rw [if_neg h2] at hq3
          have HQ := Hid.mk (And.intro hq1 (And.intro hq2 hq3))
          clear hq1 hq2 hq3
          go_upto_region 5 with fail
          go_quiet (fail)
          go_wp2
          exact ⟨⟨j + 1, by omega, by go_num, by rw [HQ.out.1], by rw [HQ.out.2.1], by rw [HQ.out.2.2], below_drewN HB.out⟩, by simp [intOf]; omega⟩
    · have hlt1 : ¬ (j : Int) < n := by omega
      have hjn : j = n := by omega
      subst hjn
      have hL := fun w (h : Ws w a2 j f2) => least_any (cap := cp) h (by omega)
      have hS := fun w (h : Ws w a2 j f2) => spread_any (cap := cp) h (by omega) (fun i hi => ⟨(H1.out.2.1 i hi).1, by have := (H1.out.2.1 i hi).2; omega⟩)
      rw [spr_is] at hS
      have hR := lh_range f2 j H1.out.2.1
      generalize lst f2 j = x at *
      generalize lw f2 j = y at *
      generalize hgh f2 j = z at *
      obtain ⟨⟨y0, y1⟩, z0, z1⟩ := hR
      have HS := Hid.mk (And.intro (H1.out.1.call HB.out) (And.intro (below3 H1.out.2.2 HB.out) (And.intro hL hS)))
      clear hL hS H1
      go_wp2_with (first
        | (go_at_call 7; refine (awake_any _).mono ?_; rintro e w2 ⟨rfl, b2⟩; replace HS := Hid.mk (And.intro (HS.out.1.call b2) (And.intro (below3 HS.out.2.1 b2) HS.out.2.2)); clear b2)
        | (go_at_call 8; refine (HS.out.2.2.1 _ HS.out.1).mono ?_; rintro e w3 ⟨rfl, b2⟩; replace HS := Hid.mk (And.intro (HS.out.1.call b2) (And.intro (below3 HS.out.2.1 b2) HS.out.2.2)); clear b2)
        | (go_at_call 9; refine (HS.out.2.2.2 _ HS.out.1).mono ?_; rintro e w4 ⟨rfl, b2⟩; replace HS := Hid.mk (And.intro (HS.out.1.call b2) (And.intro (below3 HS.out.2.1 b2) HS.out.2.2)); clear b2))
      go_ret
      exact ⟨rfl, HS.out.2.1⟩
end Go.Proofs.Ytcnjlfngpbnmcaa
