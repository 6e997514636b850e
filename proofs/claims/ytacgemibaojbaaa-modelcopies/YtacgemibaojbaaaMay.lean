/-
  Which records may be, said plainly: both sides' Checks answer just that. No condition.
-/
import Derived.Test.YtacgemibaojbaaaRchk
namespace Go.Proofs.Ytacgemibaojbaaa
open Go Go.RowKit

/-- may a record be? -/
def mayR (K S P A T N : Int) : Prop :=
  (K = 1 ∧ 1 ≤ S ∧ S ≤ 15 ∧ 0 ≤ P ∧ P ≤ 1023 ∧ 0 ≤ A ∧ A ≤ 511 ∧ T = 0 ∧ N = 0) ∨ (K = 2 ∧ 1 ≤ S ∧ S ≤ 15 ∧ 0 ≤ P ∧ P ≤ 1023 ∧ A = 0 ∧ T = 0 ∧ N = 0) ∨
  (K = 3 ∧ S = 0 ∧ P = 0 ∧ 0 ≤ A ∧ A ≤ 511 ∧ 0 ≤ T ∧ T ≤ 511 ∧ N = 0) ∨ (K = 4 ∧ 1 ≤ S ∧ S ≤ 15 ∧ P = 0 ∧ A = 0 ∧ T = 0 ∧ 1 ≤ N ∧ N ≤ 1024) ∨
  (K = 5 ∧ 1 ≤ S ∧ S ≤ 15 ∧ P = 0 ∧ A = 0 ∧ T = 0 ∧ N = 0) ∨ (K = 6 ∧ 1 ≤ S ∧ S ≤ 15 ∧ P = 0 ∧ A = 0 ∧ 1 ≤ T ∧ T ≤ 15 ∧ N = 0) ∨
  (K = 7 ∧ 1 ≤ S ∧ S ≤ 15 ∧ P = 0 ∧ A = 0 ∧ T = 0 ∧ N = 0) ∨ (K = 8 ∧ S = 0 ∧ P = 0 ∧ 0 ≤ A ∧ A ≤ 31 ∧ T = 0 ∧ N = 0) ∨
  (K = 9 ∧ S = 0 ∧ P = 0 ∧ 0 ≤ A ∧ A ≤ 31 ∧ T = 0 ∧ 0 ≤ N ∧ N ≤ 1073741824)
theorem chk_iff (K S P A T N : Int) : chkL K [K, S, P, A, T, N] = true ↔ mayR K S P A T N := by
  rcases kinds K with rfl | rfl | rfl | rfl | rfl | rfl | rfl | rfl | rfl | ⟨h1, h2, h3, h4, h5, h6, h7, h8, h9⟩
  case inr.inr.inr.inr.inr.inr.inr.inr.inr =>
    unfold chkL
    rw [flds_none h1 h2 h3 h4 h5 h6 h7 h8 h9]
    simp [chkGo, mayR, h1, h2, h3, h4, h5, h6, h7, h8, h9]
  all_goals
    unfold chkL
    split
    · rename_i hq
      simp [flds, chkGo] at hq
      simp [mayR]
      omega
    · rename_i m hq
      simp [flds, chkGo] at hq
      simp [flds, mayR]
      first
      | obtain ⟨h1, h2, h3, rfl⟩ := hq
      | obtain ⟨h1, h2, rfl⟩ := hq
      | obtain ⟨h1, rfl⟩ := hq
      simp
      omega
theorem refChk_iff (K S P A T N : Int) : (decide (0 < (flds K).length) && (decide (laySet (flds K) (valsL (flds K) [K, S, P, A, T, N]) [K, 0, 0, 0, 0, 0] = [K, S, P, A, T, N]) && within (valsL (flds K) [K, S, P, A, T, N]) (leasts (flds K)) (mosts (flds K)))) = true ↔ mayR K S P A T N := by
  rcases kinds K with rfl | rfl | rfl | rfl | rfl | rfl | rfl | rfl | rfl | ⟨h1, h2, h3, h4, h5, h6, h7, h8, h9⟩
  case inr.inr.inr.inr.inr.inr.inr.inr.inr =>
    rw [flds_none h1 h2 h3 h4 h5 h6 h7 h8 h9]
    simp [mayR, h1, h2, h3, h4, h5, h6, h7, h8, h9]
  all_goals
    simp [flds, laySet, valsL, leasts, mosts, within, mayR]
    try omega
/-- both answer the same -/
def mayB (K S P A T N : Int) : Bool := chkL K [K, S, P, A, T, N]
theorem mayB_iff {K S P A T N : Int} : mayB K S P A T N = true ↔ mayR K S P A T N := chk_iff K S P A T N
theorem checkB_any (K S P A T N : Int) (w : World) : Calls Try.prog 44 #[rv K S P A T N] w fun e w' => e = .returned (.bool (mayB K S P A T N)) ∧ Below w.heap.size w w' := check_any K S P A T N w
theorem refCheckB_any (K S P A T N : Int) (w : World) : Calls Try.prog 34 #[rv K S P A T N] w fun e w' => e = .returned (.bool (mayB K S P A T N)) ∧ Below w.heap.size w w' := by
  have h := refCheck_any K S P A T N w
  have e : (decide (0 < (flds K).length) && (decide (laySet (flds K) (valsL (flds K) [K, S, P, A, T, N]) [K, 0, 0, 0, 0, 0] = [K, S, P, A, T, N]) && within (valsL (flds K) [K, S, P, A, T, N]) (leasts (flds K)) (mosts (flds K)))) = mayB K S P A T N :=
    Bool.eq_iff_iff.2 ((refChk_iff K S P A T N).trans mayB_iff.symm)
  rw [e] at h
  exact h
end Go.Proofs.Ytacgemibaojbaaa
