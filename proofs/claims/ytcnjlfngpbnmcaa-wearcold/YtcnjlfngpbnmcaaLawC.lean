/-
  The walk of the law WearCold. No condition.
-/
import Derived.Test.YtcnjlfngpbnmcaaLawL
namespace Go.Proofs.Ytcnjlfngpbnmcaa
open Go Go.RowKit

/-- is one of the first so many above M by more than k? -/
def smB (f : Nat → Int × Int) (M k : Int) : Nat → Bool
  | 0 => false
  | j + 1 => smB f M k j || (decide (M < (f j).2) && decide (k < (f j).2 - M))
theorem smB_succ (f : Nat → Int × Int) (M k : Int) (j : Nat) : smB f M k (j + 1) = (smB f M k j || (decide (M < (f j).2) && decide (k < (f j).2 - M))) := rfl
theorem smB_iff (f : Nat → Int × Int) (M k : Int) (j : Nat) : smB f M k j = true ↔ ∃ i, i < j ∧ M < (f i).2 ∧ k < (f i).2 - M := by
  induction j with
  | zero => simp [smB]
  | succ j ih =>
    rw [smB_succ, Bool.or_eq_true, ih, Bool.and_eq_true, decide_eq_true_eq, decide_eq_true_eq]
    constructor
    · rintro (⟨i, hi, h⟩ | h)
      · exact ⟨i, by omega, h⟩
      · exact ⟨j, by omega, h⟩
    · rintro ⟨i, hi, h⟩
      by_cases e : i = j
      · subst e; exact .inr h
      · exact .inl ⟨i, by omega, h⟩
theorem cld_is (fa : Nat → Int × Int) (na : Nat) (ff : Nat → Int × Int) (nf : Nat) (k : Int) (m : Nat) (hm : lst ff nf = m) (hk : 0 ≤ k) :
    cld fa na ff nf k = if smB fa (ff m).2 k na = true then (m : Int) else -1 := by
  unfold cld
  rw [hm, Int.toNat_natCast]
  by_cases h0 : na = 0
  · subst h0
    rw [if_pos (.inr (.inl rfl))]
    rfl
  · by_cases hs : smB fa (ff m).2 k na = true
    · rw [if_pos hs, if_neg]
      obtain ⟨i, hi, h1, h2⟩ := (smB_iff _ _ _ _).1 hs
      have := (grt_ge fa (fa 0).2 na).2 i hi
      omega
    · rw [if_neg hs, if_pos]
      refine .inr (.inr fun hc => hs ((smB_iff _ _ _ _).2 ?_))
      rcases grt_one fa (fa 0).2 na with e | ⟨i, hi, e⟩
      · rw [e] at hc; exact ⟨0, by omega, by omega, hc⟩
      · rw [e] at hc; exact ⟨i, hi, by omega, hc⟩
theorem cld_none (fa : Nat → Int × Int) (na : Nat) (ff : Nat → Int × Int) (k : Int) : cld fa na ff 0 k = -1 := by
  unfold cld
  rw [if_pos (.inl (show (-1 : Int) < 0 by decide))]
set_option maxRecDepth 20000 in
theorem wearCold_any (a : Option Addr) (len cap : Nat) (f : Nat → Int × Int) (a' : Option Addr) (len' cap' : Nat) (f' : Nat → Int × Int) (lim : Int) (w : World) (h : Ws w a len f) (h' : Ws w a' len' f') : Calls Try.prog 4 #[.slice a len cap, .slice a' len' cap', .int .i64 lim] w fun e w' => e = .returned (.bool true) ∧ Below w.heap.size w w' := by
  obtain ⟨k, hk, hk1⟩ := low lim 255 (by omega)
  simp only [Int.cast_ofNat_Int] at hk
  have HA := Hid.mk h
  have HB0 := Hid.mk h'
  clear h h'
  go_enter Try.func4, Try.ntmps4
  go_upto_region 2 with (first
    | (go_at_call 6; refine (few_any HA.out).mono ?_; rintro e w1 ⟨a2, n, cp, f2, rfl, hn, hw, hr, b1⟩; have HB := Hid.mk (HB0.out.call b1); have H1 := Hid.mk (And.intro hw (And.intro hr b1)); clear HA HB0 hw hr b1)
    | (go_at_call 6; refine (few_any HB.out).mono ?_; rintro e w2 ⟨a3, n3, cp3, f3, rfl, hn3, hw3, hr3, b2⟩; have H2 := Hid.mk (And.intro (H1.out.1.call b2) (And.intro H1.out.2.1 (And.intro hw3 (And.intro hr3 (below3 H1.out.2.2 b2))))); clear HB H1 hw3 hr3 b2))
  by_cases h0 : n3 = 0
  · subst h0
    have hx : Hid (lst f3 0 = -1) := rfl
    have hL := fun w (h : Ws w a3 0 f3) => least_any (cap := cp3) h (by omega)
    have hC := fun w (h : Ws w a2 n f2) (h' : Ws w a3 0 f3) => cold_any (ca := cp) (cf := cp3) h h' (by omega) (by omega) (fun i hi => ⟨(H2.out.2.1 i hi).1, by have := (H2.out.2.1 i hi).2; omega⟩) (fun i hi => ⟨(H2.out.2.2.2.1 i hi).1, by have := (H2.out.2.2.2.1 i hi).2; omega⟩) k
    rw [cld_none] at hC
    rw [hx.out] at hL
    clear hx
    have HS := Hid.mk (And.intro H2.out.1 (And.intro H2.out.2.2.1 (And.intro H2.out.2.2.2.2 (And.intro hL hC))))
    clear hL hC H2
    go_upto_region 5 with (go_at_call 8; refine (HS.out.2.2.2.1 _ HS.out.2.1).mono ?_; rintro e w3 ⟨rfl, b3⟩; replace HS := Hid.mk (And.intro (HS.out.1.call b3) (And.intro (HS.out.2.1.call b3) (And.intro (below3 HS.out.2.2.1 b3) HS.out.2.2.2))); clear b3)
    go_loop [11, 12] (fun s i => s = .bool false ∧ i = .int .i64 0) (fun _ _ => 0)
    case atStart => exact ⟨rfl, rfl⟩
    case round =>
      obtain ⟨rfl, rfl⟩ := hrel
      go_wp2_with (first
        | (go_at_call 7; refine (awake_any _).mono ?_; rintro e w4 ⟨rfl, b2⟩; replace HS := Hid.mk (And.intro (HS.out.1.call b2) (And.intro (HS.out.2.1.call b2) (And.intro (below3 HS.out.2.2.1 b2) HS.out.2.2.2))); clear b2)
        | (go_at_call 10; refine (HS.out.2.2.2.2 _ HS.out.1 HS.out.2.1).mono ?_; rintro e w5 ⟨rfl, b2⟩; replace HS := Hid.mk (And.intro (HS.out.1.call b2) (And.intro (HS.out.2.1.call b2) (And.intro (below3 HS.out.2.2.1 b2) HS.out.2.2.2))); clear b2))
      all_goals
        go_ret
        exact ⟨rfl, HS.out.2.2.1⟩
  · have hL := fun w (h : Ws w a3 n3 f3) => least_any (cap := cp3) h (by omega)
    have hC := fun w (h : Ws w a2 n f2) (h' : Ws w a3 n3 f3) => cold_any (ca := cp) (cf := cp3) h h' (by omega) (by omega) (fun i hi => ⟨(H2.out.2.1 i hi).1, by have := (H2.out.2.1 i hi).2; omega⟩) (fun i hi => ⟨(H2.out.2.2.2.1 i hi).1, by have := (H2.out.2.2.2.1 i hi).2; omega⟩) k
    have hp := lst_pos f3 n3 (by omega)
    have hrg := lst_range f3 n3
    obtain ⟨m, hm⟩ : ∃ m : Nat, lst f3 n3 = m := ⟨(lst f3 n3).toNat, by omega⟩
    rw [cld_is f2 n f3 n3 k m hm (by omega)] at hC
    rw [hm] at hL hrg
    have hmn : m < n3 := by omega
    obtain ⟨g, o, rfl, _, _, _⟩ := H2.out.2.2.1 m hmn
    have hM : ∀ w', Ws w' (some ⟨g, o, none⟩) n3 f3 → g < w'.heap.size ∧ w'.cell? ⟨g, o + m * 2 + 1, none⟩ = some (.int .i64 (f3 m).2) := fun w' h' => by
      obtain ⟨g, o, e, k, _, d1⟩ := h' m hmn
      cases e
      exact ⟨k, d1⟩
    have hMr := H2.out.2.2.2.1 m hmn
    generalize (f3 m).2 = M at *
    have hmn1 : (m : Int) < n3 := by omega
    have hm0 : (0 : Int) ≤ m := by omega
    clear hp hrg hm
    have HS := Hid.mk (And.intro H2.out.1 (And.intro H2.out.2.2.1 (And.intro H2.out.2.2.2.2 (And.intro hL hC))))
    have HR := Hid.mk (And.intro hM H2.out.2.1)
    clear hL hC H2 hM
    go_upto_region 5 with (go_at_call 8; refine (HS.out.2.2.2.1 _ HS.out.2.1).mono ?_; rintro e w3 ⟨rfl, b3⟩; replace HS := Hid.mk (And.intro (HS.out.1.call b3) (And.intro (HS.out.2.1.call b3) (And.intro (below3 HS.out.2.2.1 b3) HS.out.2.2.2))); clear b3)
    go_loopw [11, 12] (fun s i wr => ∃ j : Nat, j ≤ n ∧ i = .int .i64 j ∧ s = .bool (smB f2 M k j) ∧ Below w3.heap.size w3 wr) (fun _ i _ => n - (intOf i).toNat)
    case atStart => exact ⟨0, Nat.zero_le _, rfl, rfl, Below.refl _ _⟩
    case round =>
      obtain ⟨j, hj, rfl, rfl, hb⟩ := hrel
      have HB := Hid.mk hb
      clear hb
      by_cases hlt : j < n
      · have hlt1 : (j : Int) < n := by omega
        obtain ⟨g', o', rfl, hg', _, c1⟩ := HS.out.1.call HB.out j hlt
        obtain ⟨hg, d1⟩ := HR.out.1 _ (HS.out.2.1.call HB.out)
        have hqr := HR.out.2 j hlt
        have hs := Hid.mk (smB_succ f2 M k j)
        generalize (f2 j).2 = q at *
        generalize smB f2 M k j = s at *
        cases s
        · by_cases h1 : M < q
          · by_cases h2 : (k : Int) < q - M
            all_goals
              go_upto_region 7 with fail
              go_quiet (fail)
              go_wp2
              exact ⟨⟨j + 1, by omega, by go_num, by rw [hs.out]; simp [h1, h2], below_drewN HB.out⟩, by simp [intOf]; omega⟩
          · go_upto_region 7 with fail
            go_quiet (fail)
            go_wp2
            exact ⟨⟨j + 1, by omega, by go_num, by rw [hs.out]; simp [h1], below_drewN HB.out⟩, by simp [intOf]; omega⟩
        · go_upto_region 7 with fail
          go_quiet (fail)
          go_wp2
          exact ⟨⟨j + 1, by omega, by go_num, by rw [hs.out]; rfl, below_drewN HB.out⟩, by simp [intOf]; omega⟩
      · have hlt1 : ¬ (j : Int) < n := by omega
        have hjn : j = n := by omega
        subst hjn
        clear HR
        replace HS := Hid.mk (And.intro (HS.out.1.call HB.out) (And.intro (HS.out.2.1.call HB.out) (And.intro (below3 HS.out.2.2.1 HB.out) HS.out.2.2.2)))
        generalize smB f2 M k j = s at *
        cases s
        all_goals
          go_wp2_with (first
            | (go_at_call 7; refine (awake_any _).mono ?_; rintro e w4 ⟨rfl, b2⟩; replace HS := Hid.mk (And.intro (HS.out.1.call b2) (And.intro (HS.out.2.1.call b2) (And.intro (below3 HS.out.2.2.1 b2) HS.out.2.2.2))); clear b2)
            | (go_at_call 10; refine (HS.out.2.2.2.2 _ HS.out.1 HS.out.2.1).mono ?_; rintro e w5 ⟨rfl, b2⟩; replace HS := Hid.mk (And.intro (HS.out.1.call b2) (And.intro (HS.out.2.1.call b2) (And.intro (below3 HS.out.2.2.1 b2) HS.out.2.2.2))); clear b2))
          go_ret
          exact ⟨rfl, HS.out.2.2.1⟩
end Go.Proofs.Ytcnjlfngpbnmcaa
