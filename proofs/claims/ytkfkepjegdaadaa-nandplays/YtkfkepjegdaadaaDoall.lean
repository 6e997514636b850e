/-
  The law's do, all its ways together. No condition.
-/
import Derived.Test.YtkfkepjegdaadaaDoe0
import Derived.Test.YtkfkepjegdaadaaDoe1
import Derived.Test.YtkfkepjegdaadaaDom1a
import Derived.Test.YtkfkepjegdaadaaDom1
import Derived.Test.YtkfkepjegdaadaaDop0
import Derived.Test.YtkfkepjegdaadaaDor1
import Derived.Test.YtkfkepjegdaadaaDow
import Derived.Test.YtkfkepjegdaadaaDog
namespace Go.Proofs.Ytkfkepjegdaadaa
open Go Go.RowKit

/-- one act on: the same geometry, at most one more action, at most one more erasing each -/
structure Step (C C' : Ch) : Prop where
  B : C'.B = C.B
  P : C'.P = C.P
  Z : C'.Z = C.Z
  did : C'.did ≤ C.did + 1
  worn : ∀ i, C'.worn i ≤ C.worn i + 1
theorem Step.refl (C : Ch) : Step C C := ⟨rfl, rfl, rfl, by omega, fun i => by omega⟩
theorem upd_le (f : Nat → Int) (b i : Nat) : upd f b (f b + 1) i ≤ f i + 1 := by
  unfold upd
  split
  · rename_i h; rw [h]; omega
  · omega
theorem Step.erase (C : Ch) (b : Int) : Step C (eraseC C b).1 := by
  unfold eraseC
  split
  · split
    · exact ⟨rfl, rfl, rfl, Int.le_refl _, fun i => upd_le _ _ _⟩
    · split
      · exact ⟨rfl, rfl, rfl, Int.le_refl _, fun i => upd_le _ _ _⟩
      · exact ⟨rfl, rfl, rfl, Int.le_refl _, fun i => upd_le _ _ _⟩
  · exact Step.refl C
theorem Step.marked (C : Ch) (b : Int) : Step C (markC C b).1 := by
  unfold markC
  split
  · split
    · exact ⟨rfl, rfl, rfl, Int.le_refl _, fun i => by show C.worn i ≤ _; omega⟩
    · exact ⟨rfl, rfl, rfl, Int.le_refl _, fun i => by show C.worn i ≤ _; omega⟩
  · exact Step.refl C
theorem Step.prog (C : Ch) (b p : Nat) (s : ByteArray) : Step C (progM C b p s).1 := by
  unfold progM
  split
  · exact Step.refl C
  · split
    · exact ⟨rfl, rfl, rfl, Int.le_refl _, fun i => by show C.worn i ≤ _; omega⟩
    · split
      · exact ⟨rfl, rfl, rfl, Int.le_refl _, fun i => by show C.worn i ≤ _; omega⟩
      · exact ⟨rfl, rfl, rfl, Int.le_refl _, fun i => by show C.worn i ≤ _; omega⟩
/-- what do leaves -/
def DoP (L : Ly) (X : Mx) (C : Ch) (w : World) (e : Ending) (w' : World) : Prop :=
  ∃ X' C', e = .returned (.tuple #[.agg (mdA X' C'), .bool true]) ∧ Chip w' L C' ∧ Md w' (L.own C.B) X' C' ∧ Kp (L.own C.B) w w' ∧ Xf X X' ∧ Step C C'
theorem do_any {w : World} {L X C} (hc : Chip w L C) (hm : Md w (L.own C.B) X C) (K b p f : Int) (hf : 0 ≤ f ∧ f < 256) (hd : C.did < 999) (hw : ∀ n, C.worn n < 999) :
    Calls Try.prog 13 #[.agg (mdA X C), .pointer (some ⟨L.a, 0, none⟩), .agg #[.int .i64 K, .int .i64 b, .int .i64 p, .int .u8 f]] w fun e w' => DoP L X C w e w' := by
  have hw2 : ∀ n, 0 ≤ C.worn n ∧ C.worn n < 999 := fun n => ⟨(hm.wornr n).1, hw n⟩
  by_cases h4 : K = 4
  · subst h4
    by_cases hr : refB C b = 0
    · obtain ⟨_, n, hbn, hn⟩ := refB_zero hr
      refine (do_e1_4 hc hm b p f hf n hbn hn hr hd hw2).mono ?_
      rintro e w' ⟨X', h1, h2, h3, h5, hx⟩
      exact ⟨X', _, h1, h2, h3, h5, hx, Step.erase C b⟩
    · refine (do_e0_4 hc hm b p f hf hr hd hw2).mono ?_
      rintro e w' ⟨X', h1, h2, h3, h5, hx⟩
      exact ⟨X', _, h1, h2, h3, h5, hx, Step.refl C⟩
  by_cases h5 : K = 5
  · subst h5
    by_cases hr : refB C b = 0
    · obtain ⟨_, n, hbn, hn⟩ := refB_zero hr
      refine (do_e1_5 hc hm b p f hf n hbn hn hr hd hw2).mono ?_
      rintro e w' ⟨X', h1, h2, h3, h5, hx⟩
      exact ⟨X', _, h1, h2, h3, h5, hx, Step.erase C b⟩
    · refine (do_e0_5 hc hm b p f hf hr hd hw2).mono ?_
      rintro e w' ⟨X', h1, h2, h3, h5, hx⟩
      exact ⟨X', _, h1, h2, h3, h5, hx, Step.refl C⟩
  by_cases h6 : K = 6
  · subst h6
    by_cases hr : refB C b = 0
    · cases hcut : C.cuts (C.did + 1) with
      | none =>
        refine (do_m1a hc hm b p f hf hr hd hcut).mono ?_
        rintro e w' ⟨X', h1, h2, h3, h5, hx⟩
        exact ⟨X', _, h1, h2, h3, h5, hx, Step.marked C b⟩
      | some x =>
        obtain ⟨k0, x0⟩ := x
        by_cases hk : 0 < k0
        · refine (do_m1b hc hm b p f hf hr hd k0 x0 hcut hk).mono ?_
          rintro e w' ⟨X', h1, h2, h3, h5, hx⟩
          exact ⟨X', _, h1, h2, h3, h5, hx, Step.marked C b⟩
        · refine (do_m1c hc hm b p f hf hr hd k0 x0 hcut hk).mono ?_
          rintro e w' ⟨X', h1, h2, h3, h5, hx⟩
          exact ⟨X', _, h1, h2, h3, h5, hx, Step.marked C b⟩
    · refine (do_m0 hc hm b p f hf hr hd).mono ?_
      rintro e w' ⟨X', h1, h2, h3, h5, hx⟩
      exact ⟨X', _, h1, h2, h3, h5, hx, Step.refl C⟩
  by_cases h7 : K = 7
  · subst h7
    refine (do_p hc hm b p f hf).mono ?_
    rintro e w' ⟨X', h1, h2, h3, h5, hx⟩
    exact ⟨X', _, h1, h2, h3, h5, hx, ⟨rfl, rfl, rfl, by show C.did ≤ _; omega, fun i => by show C.worn i ≤ _; omega⟩⟩
  by_cases h8 : K = 8
  · subst h8
    by_cases hr : refP C b p = 0
    · obtain ⟨_, ⟨n, hbn, hn⟩, q, hpq, hq⟩ := refP_zero hr
      by_cases he : C.pg n q = ⟨#[]⟩
      · refine (do_r1a hc hm b p f hf n q hbn hpq hn hq hr he).mono ?_
        rintro e w' ⟨X', h1, h2, h3, h5, hx⟩
        exact ⟨X', _, h1, h2, h3, h5, hx, Step.refl C⟩
      · refine (do_r1b hc hm b p f hf n q hbn hpq hn hq hr he).mono ?_
        rintro e w' ⟨X', h1, h2, h3, h5, hx⟩
        exact ⟨X', _, h1, h2, h3, h5, hx, Step.refl C⟩
    · refine (do_r0 hc hm b p f hf hr).mono ?_
      rintro e w' ⟨X', h1, h2, h3, h5, hx⟩
      exact ⟨X', _, h1, h2, h3, h5, hx, Step.refl C⟩
  by_cases h9 : K = 9
  · subst h9
    by_cases hr : refP C b p = 0
    · refine (do_w1 hc hm b p f hf hr hd).mono ?_
      rintro e w' ⟨X', h1, h2, h3, h5, hx⟩
      exact ⟨X', _, h1, h2, h3, h5, hx, Step.refl C⟩
    · refine (do_w0 hc hm b p f hf hr hd).mono ?_
      rintro e w' ⟨X', h1, h2, h3, h5, hx⟩
      exact ⟨X', _, h1, h2, h3, h5, hx, Step.refl C⟩
  by_cases hr : refP C b p = 0
  · obtain ⟨_, ⟨n, hbn, hn⟩, q, hpq, hq⟩ := refP_zero hr
    refine (do_g1 hc hm K b p f hf h4 h5 h6 h7 h8 h9 n q hbn hpq hn hq hr hd).mono ?_
    rintro e w' ⟨X', h1, h2, h3, h5, hx⟩
    exact ⟨X', _, h1, h2, h3, h5, hx, Step.prog C n q _⟩
  · refine (do_g0 hc hm K b p f hf h4 h5 h6 h7 h8 h9 hr hd).mono ?_
    rintro e w' ⟨X', h1, h2, h3, h5, hx⟩
    exact ⟨X', _, h1, h2, h3, h5, hx, Step.refl C⟩
end Go.Proofs.Ytkfkepjegdaadaa
