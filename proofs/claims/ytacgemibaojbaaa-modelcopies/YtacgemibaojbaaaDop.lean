/-
  The answer's Do and Apply, whole. No condition.
-/
import Derived.Test.YtacgemibaojbaaaDoA
import Derived.Test.YtacgemibaojbaaaDoE
import Derived.Test.YtacgemibaojbaaaMay
namespace Go.Proofs.Ytacgemibaojbaaa
open Go Go.RowKit Go.Maps

theorem do_any {w : World} {B v0 v1 v2 v3 m} (h : RAt w B v0 v1 v2 v3 m) (hB : B ≤ w.heap.size) (hn : Lens m) {K S P A T N : Int} (hK : 1 ≤ K ∧ K ≤ 9) :
    Calls Try.prog 35 #[.agg #[v0, v1, v2, v3], rv K S P A T N] w (DoR w B v0 v1 v2 v3 (doR m K S P A T N)) := by

  have hk : K = 1 ∨ K = 2 ∨ K = 3 ∨ K = 4 ∨ K = 5 ∨ K = 6 ∨ K = 7 ∨ K = 8 ∨ K = 9 := by omega
  have fs := fnd_spec S m.sp 0
  simp only [Nat.zero_add] at fs
  unfold doR
  rcases hk with rfl | rfl | rfl | rfl | rfl | rfl | rfl | rfl | rfl
  · simp only [Int.reduceEq, if_false, if_true]
    rcases fs with ⟨h1, _⟩ | ⟨j, h1, h2, h3⟩
    · rw [h1, if_pos (by omega)]; exact do1_none h hB hn h1
    · rw [h2, if_neg (by omega), Int.toNat_natCast]
      by_cases hp : P < 0 ∨ (m.sp.getD j (0, 0, false)).2.1 ≤ P
      · rw [if_pos hp]; exact do1_page h hB hn h2 h1 (hx := rfl) hp
      · rw [if_neg hp]; exact do1_put h hB hn h2 h1 (hx := rfl) (by omega) (Int.not_le.1 (fun x => hp (.inr x)))
  · simp only [Int.reduceEq, if_false, if_true]
    rcases fs with ⟨h1, _⟩ | ⟨j, h1, h2, h3⟩
    · rw [h1, if_pos (by omega)]; exact do2_none h hB hn h1
    · rw [h2, if_neg (by omega)]
      cases hg : gL S P m.lv with
      | none => rw [if_pos rfl]; exact do2_not h hB hn h2 h1 (hx := rfl) hg
      | some pl => rw [if_neg (by simp)]; exact do2_trim h hB hn h2 h1 (hx := rfl) hg
  · simp only [if_true]
    by_cases hA : cL A m.lv = 0
    · rw [if_pos (.inl hA)]; exact do3_a h hB hn hA
    · by_cases hT : 0 < cL T m.lv
      · rw [if_pos (.inr hT)]; exact do3_b h hB hn (by omega) hT
      · rw [if_neg (by omega)]; exact do3_c h hB hn (by omega) (by omega)
  · simp only [Int.reduceEq, if_false, if_true]
    rcases fs with ⟨h1, _⟩ | ⟨j, h1, h2, h3⟩
    · rw [if_neg (by omega)]; exact do4_make h hB hn h1
    · rw [if_pos (by omega)]; exact do4_some h hB hn (by omega)
  · simp only [Int.reduceEq, if_false, if_true]
    rcases fs with ⟨h1, _⟩ | ⟨j, h1, h2, h3⟩
    · rw [h1, if_pos (by omega)]; exact do5_none h hB hn h1
    · rw [h2, if_neg (by omega)]; exact do5_drop h hB hn h2 h1 (hx := rfl)
  · simp only [Int.reduceEq, if_false, if_true]
    rcases fs with ⟨h1, _⟩ | ⟨j, h1, h2, h3⟩
    · rw [h1, if_pos (by omega)]; exact do6_none h hB hn h1
    · rw [h2, if_neg (by omega), Int.toNat_natCast]
      by_cases hT : 0 ≤ fndGo T m.sp 0
      · rw [if_pos hT]; exact do6_taken h hB hn h2 h1 (hx := rfl) hT
      · rw [if_neg hT]
        have ft := fnd_spec T m.sp 0
        simp only [Nat.zero_add] at ft
        rcases ft with ⟨t1, _⟩ | ⟨j', t1, t2, t3⟩
        · exact do6_copy h hB hn h2 h1 (hx := rfl) t1
        · omega
  · simp only [Int.reduceEq, if_false]
    rcases fs with ⟨h1, _⟩ | ⟨j, h1, h2, h3⟩
    · rw [h1, if_pos (by omega)]; exact do7_none h hB hn h1
    · rw [h2, if_neg (by omega), Int.toNat_natCast]; exact do7_seal h hB hn h2 h1 (hx := rfl)
  · simp only [Int.reduceEq, if_false, if_true]; exact do8_bad h hB hn
  · simp only [Int.reduceEq, if_false, if_true]; exact do9_worn h hB hn rfl
/-- what the answer's Apply makes of its state, and the error -/
def apR' (m : Rs) (K S P A T N : Int) : Rs × Int := if mayB K S P A T N = false then (m, 1) else doR m K S P A T N
end Go.Proofs.Ytacgemibaojbaaa
