/-
  The walk of the law ShaSums.
-/
import Derived.Test.YthjldnglaookgaaAwake
namespace Go.Proofs.Ythjldnglaookgaa
open Go Go.RowKit

@[irreducible] def sumB (x : ByteArray) : ByteArray := ⟨(sumL x.data.toList).toArray⟩
theorem sumB_size (x : ByteArray) : (sumB x).size = 32 := by
  unfold sumB
  rw [size_toArray, sumL_length]
theorem sumB_any (s : ByteArray) (hs : s.size ≤ 1000) (w : World) : Calls Try.prog 8 #[.string s] w fun e w' => e = .returned (.string (sumB s)) ∧ Below w.heap.size w w' := by
  unfold sumB
  exact sum_any s hs w
/-- what the answer's digest keeps -/
def RefSums : Prop := ∀ s : ByteArray, s.size ≤ 1000 → ∀ w : World, Calls Try.prog 9 #[.string s] w fun e w' => e = .returned (.string ⟨(sumL s.data.toList).toArray⟩) ∧ Below w.heap.size w w'
theorem refSumB_any (hc : RefSums) (s : ByteArray) (hs : s.size ≤ 1000) (w : World) : Calls Try.prog 9 #[.string s] w fun e w' => e = .returned (.string (sumB s)) ∧ Below w.heap.size w w' := by
  unfold sumB
  exact hc s hs w

theorem shaSums_of (hc : RefSums) (s : ByteArray) (w : World) : Calls Try.prog 3 #[.string s] w fun e w' => e = .returned (.bool true) ∧ Below w.heap.size w w' := by
  have hT : (cut s).size ≤ 1000 := by
    have := cut_size s
    omega
  have hz := sumB_size (cut s)
  have HC := Hid.mk hc
  have hb := Below.refl w.heap.size w
  clear hc
  go_enter Try.func3, Try.ntmps3
  go_wp2_with (first
    | (go_at_call 6; refine (few_any _ _).mono ?_; rintro e w' ⟨rfl, hw⟩; rw [hw]; clear hw)
    | (go_at_call 7; refine (awake_any _).mono ?_; rintro e w1 ⟨rfl, b1⟩; replace hb := below3 hb b1; clear b1)
    | (go_at_call 9; refine (refSumB_any HC.out _ (by assumption) _).mono ?_; rintro e w3 ⟨rfl, b1⟩; replace hb := below3 hb b1; clear b1)
    | (go_at_call 8; refine (sumB_any _ (by assumption) _).mono ?_; rintro e w2 ⟨rfl, b1⟩; replace hb := below3 hb b1; clear b1))
  go_ret
  exact ⟨rfl, hb⟩
end Go.Proofs.Ythjldnglaookgaa
