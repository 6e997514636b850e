/-
  A block of the model, erased: the walk of erase, whole. No condition.
-/
import Derived.Test.YtkfkepjegdaadaaMe3
namespace Go.Proofs.Ytkfkepjegdaadaa
open Go Go.RowKit

/-- a block of the model is erased -/
theorem erasem_any {w : World} {S X C} (h : Md w S X C) (hS : ∀ i, S i → i < w.heap.size) (b : Nat) (hb : b < C.B) (hr : refB C b = 0) (hd9 : C.did < 999) (hw9 : ∀ i, C.worn i < 999) : Calls Try.prog 30 #[.agg (mdA X C), .int .i64 b] w fun e w' =>
    ∃ X', e = .returned (.tuple #[.agg (mdA X' (eraseC C b).1), .int .i64 (eraseC C b).2]) ∧ Md w' S X' (eraseC C b).1 ∧ Below w.heap.size w w' ∧ Xn w X X' := by
  unfold eraseC
  rw [if_pos hr, Int.toNat_natCast]
  cases hc : C.cuts (C.did + 1) with
  | some x => exact erasem_cut h hS b hb hd9 hw9 x.1 x.2 hc
  | none =>
    have eA : actC C = { C with did := C.did + 1 } := by
      unfold actC
      rw [hc]
      simp
    by_cases hf : (C.dead b || C.fails (C.did + 1)) = true
    · simp only
      rw [if_pos hf]
      have h1 := erasem_dead h hS b hb hd9 hw9 hc hf
      rw [eA] at h1
      exact h1
    · simp only
      rw [if_neg hf]
      rw [Bool.not_eq_true] at hf
      have h1 := erasem_ok h hS b hb hd9 hw9 hc hf
      rw [eA] at h1
      exact h1
end Go.Proofs.Ytkfkepjegdaadaa
