/-
  The digests of abc and of nothing; few.
-/
import Derived.Test.YthjldnglaookgaaSum
import Derived.Test.YthjldnglaookgaaRefHex
namespace Go.Proofs.Ythjldnglaookgaa
open Go Go.RowKit

theorem sum_abc : sumL [97, 98, 99] = [186, 120, 22, 191, 143, 1, 207, 234, 65, 65, 64, 222, 93, 174, 34, 35, 176, 3, 97, 163, 150, 23, 122, 156, 180, 16, 255, 97, 242, 0, 21, 173] := by decide +kernel
theorem sum_nil : sumL [] = [227, 176, 196, 66, 152, 252, 28, 20, 154, 251, 244, 200, 153, 111, 185, 36, 39, 174, 65, 228, 100, 155, 147, 76, 164, 149, 153, 27, 120, 82, 184, 85] := by decide +kernel
theorem hex_abc : hexL (sumL [97, 98, 99]) = [98, 97, 55, 56, 49, 54, 98, 102] ++ hexL ((sumL [97, 98, 99]).drop 4) := by
  rw [sum_abc]
  decide +kernel
theorem hex_nil : hexL (sumL []) = [101, 51, 98, 48, 99, 52, 52, 50] ++ hexL ((sumL []).drop 4) := by
  rw [sum_nil]
  decide +kernel
theorem head8 (a b : List UInt8) (h : a.length = 8) : (⟨(a ++ b).toArray⟩ : ByteArray).extract 0 8 = ⟨a.toArray⟩ := by
  have e : ((⟨(a ++ b).toArray⟩ : ByteArray).extract 0 8).data = ((a ++ b).toArray).extract 0 8 := by simp
  have e2 : ((a ++ b).toArray).extract 0 8 = a.toArray := by
    apply Array.ext'
    simp [← h]
  cases hq : (⟨(a ++ b).toArray⟩ : ByteArray).extract 0 8 with
  | mk d =>
    rw [hq] at e
    rw [← e2, ← e]

/-- a text that is not too long -/
def cut (s : ByteArray) : ByteArray := if 300 < s.size then s.extract 0 300 else s
theorem cut_size (s : ByteArray) : (cut s).size ≤ 300 := by
  unfold cut
  split
  · rw [ByteArray.size_extract]; omega
  · omega
theorem few_any (s : ByteArray) (w : World) : Calls Try.prog 6 #[.string s] w fun e w' => e = .returned (.string (cut s)) ∧ w' = w := by
  by_cases h : 300 < s.size
  · have e : cut s = s.extract 0 300 := by unfold cut; rw [if_pos h]
    rw [e]
    go_enter Try.func6, Try.ntmps6
    go_wp2
    go_ret
    exact ⟨rfl, rfl⟩
  · have e : cut s = s := by unfold cut; rw [if_neg h]
    rw [e]
    go_enter Try.func6, Try.ntmps6
    go_wp2
    go_ret
    exact ⟨rfl, rfl⟩

theorem size_toArray (l : List UInt8) : (⟨l.toArray⟩ : ByteArray).size = l.length := by simp [ByteArray.size]
theorem sumL_length (l : List UInt8) : (sumL l).length = 32 := by rw [sumL, bytesOf_eq, bytesTo_length]

theorem awake_aux (A B C D : ByteArray) (z3 : A.size = 64) (z4 : B.size = 64) (h3 : A.extract 0 8 = ⟨#[98, 97, 55, 56, 49, 54, 98, 102]⟩) (h4 : B.extract 0 8 = ⟨#[101, 51, 98, 48, 99, 52, 52, 50]⟩)
    (c1 : ∀ w, Calls Try.prog 8 #[.string ⟨#[97, 98, 99]⟩] w fun e w' => e = .returned (.string C) ∧ Below w.heap.size w w')
    (c2 : ∀ w, Calls Try.prog 8 #[.string ⟨#[]⟩] w fun e w' => e = .returned (.string D) ∧ Below w.heap.size w w')
    (c3 : ∀ w, Calls Try.prog 11 #[.string C] w fun e w' => e = .returned (.string A) ∧ Below w.heap.size w w')
    (c4 : ∀ w, Calls Try.prog 11 #[.string D] w fun e w' => e = .returned (.string B) ∧ Below w.heap.size w w') (w : World) :
    Calls Try.prog 7 #[] w fun e w' => e = .returned (.bool true) ∧ Below w.heap.size w w' := by
  go_enter Try.func7, Try.ntmps7
  go_upto_region 2 with (first
    | (go_at_call_of 8 (Value.string { data := #[97, 98, 99] }); refine (c1 _).mono ?_; rintro e w1 ⟨rfl, b1⟩)
    | (go_at_call_of 8 (Value.string { data := #[] }); refine (c2 _).mono ?_; rintro e w3 ⟨rfl, b3⟩)
    | (go_at_call_of 11 C; refine (c3 _).mono ?_; rintro e w2 ⟨rfl, b2⟩)
    | (go_at_call_of 11 D; refine (c4 _).mono ?_; rintro e w4 ⟨rfl, b4⟩))
  have hb := b1.trans ((b2.mono b1.size).trans ((b3.mono (Nat.le_trans b1.size b2.size)).trans (b4.mono (Nat.le_trans b1.size (Nat.le_trans b2.size b3.size)))))
  clear b1 b2 b3 b4 c1 c2 c3 c4
  go_wp2_with fail
  go_ret
  exact ⟨rfl, hb⟩
theorem awake_any (w : World) : Calls Try.prog 7 #[] w fun e w' => e = .returned (.bool true) ∧ Below w.heap.size w w' :=
  awake_aux ⟨(hexL (sumL [97, 98, 99])).toArray⟩ ⟨(hexL (sumL [])).toArray⟩ ⟨(sumL [97, 98, 99]).toArray⟩ ⟨(sumL []).toArray⟩
    (by rw [size_toArray, hexL_length, sumL_length]) (by rw [size_toArray, hexL_length, sumL_length])
    (by rw [hex_abc]; exact head8 _ _ rfl) (by rw [hex_nil]; exact head8 _ _ rfl)
    (fun w => sum_any ⟨#[97, 98, 99]⟩ (by decide) w) (fun w => sum_any ⟨#[]⟩ (by decide) w)
    (fun w => hex_any _ (by rw [size_toArray, sumL_length]; omega) w) (fun w => hex_any _ (by rw [size_toArray, sumL_length]; omega) w) w
end Go.Proofs.Ythjldnglaookgaa
