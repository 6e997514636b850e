/-
  The walk of the law ShaHex.
-/
import Derived.Test.YthjldnglaookgaaDigits
namespace Go.Proofs.Ythjldnglaookgaa
open Go Go.RowKit

@[irreducible] def hexB (x : ByteArray) : ByteArray := ⟨(hexL x.data.toList).toArray⟩
@[irreducible] def unB (x : ByteArray) : ByteArray := ⟨(unhex x.data.toList).1.toArray⟩
@[irreducible] def unE (x : ByteArray) : Int := (unhex x.data.toList).2
theorem hexB_any (s : ByteArray) (hs : s.size ≤ 1000) (w : World) : Calls Try.prog 11 #[.string s] w fun e w' => e = .returned (.string (hexB s)) ∧ Below w.heap.size w w' := by
  unfold hexB
  exact hex_any s hs w
theorem refHexB_any (s : ByteArray) (hs : s.size ≤ 1000) (w : World) : Calls Try.prog 12 #[.string s] w fun e w' => e = .returned (.string (hexB s)) ∧ Below w.heap.size w w' := by
  unfold hexB
  exact refHex_any s hs w
theorem bytesB_any (s : ByteArray) (hs : s.size ≤ 1000) (w : World) : Calls Try.prog 10 #[.string s] w fun e w' => e = .returned (.tuple #[.string (unB s), .int .i64 (unE s)]) ∧ Below w.heap.size w w' := by
  unfold unB unE
  exact bytes_any s hs w
theorem hexB_size (x : ByteArray) : (hexB x).size = 2 * x.size := by
  unfold hexB
  rw [size_toArray, hexL_length, Array.length_toList]
  rfl
theorem unB_hexB (x : ByteArray) : unB (hexB x) = x := by
  unfold unB hexB
  rw [List.toList_toArray, unhex_hexL, Array.toArray_toList]
theorem unE_hexB (x : ByteArray) : unE (hexB x) = 0 := by
  unfold unE hexB
  rw [List.toList_toArray, unhex_hexL]
theorem unB_size (x : ByteArray) : (unB x).size ≤ x.size := by
  unfold unB
  rw [size_toArray]
  have h := unhex_short x.data.toList
  rw [Array.length_toList] at h
  exact h
def digsTo (x : ByteArray) (k : Nat) : Bool := (x.data.toList.take k).all isDig
theorem digsTo_succ (x : ByteArray) (k : Nat) (h : k < x.size) : digsTo x (k + 1) = (digsTo x k && isDig x[k]) := by
  unfold digsTo
  rw [take_succ_at x k h, List.all_append, List.all_cons, List.all_nil, Bool.and_true]
theorem digsTo_all (x : ByteArray) : digsTo x x.size = x.data.toList.all isDig := by
  unfold digsTo
  rw [List.take_of_length_le (by rw [Array.length_toList]; exact Nat.le_refl _)]
/-- what a text answers, in the three cases -/
theorem unB_cases (x : ByteArray) :
    (x.size % 2 = 1 ∧ unE x = 2 ∧ unB x = ⟨#[]⟩) ∨ (x.size % 2 = 0 ∧ digsTo x x.size = true ∧ unE x = 0 ∧ hexB (unB x) = x) ∨ (x.size % 2 = 0 ∧ digsTo x x.size = false ∧ unE x = 3 ∧ unB x = ⟨#[]⟩) := by
  have hl : x.data.toList.length = x.size := Array.length_toList
  by_cases h : x.size % 2 = 1
  · left
    have e := unhex_odd x.data.toList (by rw [hl]; exact h)
    unfold unE unB
    rw [e]
    exact ⟨h, rfl, rfl⟩
  · right
    by_cases ha : x.data.toList.all isDig = true
    · left
      obtain ⟨e1, e2⟩ := unhex_good x.data.toList (by rw [hl]; exact h) ha
      refine ⟨by omega, by rw [digsTo_all]; exact ha, ?_, ?_⟩
      · unfold unE
        exact e1
      · unfold hexB unB
        rw [List.toList_toArray, e2, Array.toArray_toList]
    · right
      have e := unhex_bad x.data.toList (by rw [hl]; exact h) ha
      refine ⟨by omega, by rw [digsTo_all]; simpa using ha, ?_, ?_⟩
      · unfold unE
        rw [e]
      · unfold unB
        rw [e]

theorem below3 {w a b : World} (h : Below w.heap.size w a) (k : Below a.heap.size a b) : Below w.heap.size w b := h.trans (k.mono h.size)

theorem shaHex_any (s : ByteArray) (w : World) : Calls Try.prog 5 #[.string s] w fun e w' => e = .returned (.bool true) ∧ Below w.heap.size w w' := by
  have hT : (cut s).size ≤ 300 := cut_size s
  have h1 := hexB_size (cut s)
  have h2 := unB_size (cut s)
  have a1 : (cut s).size ≤ 1000 := by omega
  have a2 : (hexB (cut s)).size ≤ 1000 := by omega
  have a3 : (unB (cut s)).size ≤ 1000 := by omega
  have e1 := unB_hexB (cut s)
  have e2 := unE_hexB (cut s)
  have hc := unB_cases (cut s)
  have HC := Hid.mk hc
  clear hc h1 h2
  have hb := Below.refl w.heap.size w
  go_enter Try.func5, Try.ntmps5
  go_upto_region 6 with (first
    | (go_at_call 6; refine (few_any _ _).mono ?_; rintro e w' ⟨rfl, hw⟩; rw [hw]; clear hw)
    | (go_at_call 11; refine (hexB_any _ (by assumption) _).mono ?_; rintro e w1 ⟨rfl, b1⟩; replace hb := below3 hb b1; clear b1)
    | (go_at_call 12; refine (refHexB_any _ (by assumption) _).mono ?_; rintro e w2 ⟨rfl, b1⟩; replace hb := below3 hb b1; clear b1)
    | (go_at_call 10; refine (bytesB_any _ (by assumption) _).mono ?_; rintro e w3 ⟨rfl, b1⟩; replace hb := below3 hb b1; clear b1)
    | (go_at_call 7; refine (awake_any _).mono ?_; rintro e w4 ⟨rfl, b1⟩; replace hb := below3 hb b1; clear b1))
  have HB := Hid.mk hb
  clear hb e1 e2 a1 a2
  generalize hE : unE (cut s) = E at *
  generalize hX : unB (cut s) = X at *
  generalize cut s = T at *
  have HE := Hid.mk (And.intro hE hX)
  clear hE hX
  go_wp2_with fail
  go_loop [8, 9] (fun v i => ∃ k : Nat, k ≤ T.size ∧ i = .int .i64 k ∧ v = .int .i64 (if digsTo T k then 0 else 3)) (fun _ i => T.size - (intOf i).toNat)
  case atStart => exact ⟨0, Nat.zero_le _, rfl, rfl⟩
  case round =>
    obtain ⟨k, hk, rfl, rfl⟩ := hrel
    by_cases hkT : k < T.size
    · have l0 := T[k].toNat_lt
      have hsucc := digsTo_succ T k hkT
      generalize hD : (if digsTo T k = true then (0 : Int) else 3) = D
      have HS := Hid.mk (And.intro hsucc hD)
      clear hsucc hD
      cases hdg : isDig T[k]
      · have hd2 := hdg
        unfold isDig digOk at hd2
        rw [Bool.or_eq_false_iff, decide_eq_false_iff_not, decide_eq_false_iff_not] at hd2
        obtain ⟨d1, d2⟩ := hd2
        have HD := Hid.mk hdg
        clear hdg
        by_cases a1 : (48 : Int) ≤ (T[k].toNat : Int)
        · have a2 : ¬ (T[k].toNat : Int) ≤ 57 := fun h => d1 ⟨a1, h⟩
          by_cases a3 : (97 : Int) ≤ (T[k].toNat : Int)
          · have a4 : ¬ (T[k].toNat : Int) ≤ 102 := fun h => d2 ⟨a3, h⟩
            clear d1 d2
            go_wp2_with fail
            refine ⟨⟨k + 1, by omega, by go_num, ?_⟩, by simp [intOf]; omega⟩
            rw [HS.out.1, HD.out, Bool.and_false]
            rfl
          · clear d1 d2
            go_wp2_with fail
            refine ⟨⟨k + 1, by omega, by go_num, ?_⟩, by simp [intOf]; omega⟩
            rw [HS.out.1, HD.out, Bool.and_false]
            rfl
        · have a3 : ¬ (97 : Int) ≤ (T[k].toNat : Int) := by omega
          clear d1 d2
          go_wp2_with fail
          refine ⟨⟨k + 1, by omega, by go_num, ?_⟩, by simp [intOf]; omega⟩
          rw [HS.out.1, HD.out, Bool.and_false]
          rfl
      · have hd2 := hdg
        unfold isDig digOk at hd2
        rw [Bool.or_eq_true, decide_eq_true_eq, decide_eq_true_eq] at hd2
        have HD := Hid.mk hdg
        clear hdg
        rcases hd2 with ⟨a1, a2⟩ | ⟨a3, a4⟩
        · go_wp2_with fail
          refine ⟨⟨k + 1, by omega, by go_num, ?_⟩, by simp [intOf]; omega⟩
          rw [HS.out.1, HD.out, Bool.and_true, HS.out.2]
        · have a1 : (48 : Int) ≤ (T[k].toNat : Int) := by omega
          have a2 : ¬ (T[k].toNat : Int) ≤ 57 := by omega
          go_wp2_with fail
          refine ⟨⟨k + 1, by omega, by go_num, ?_⟩, by simp [intOf]; omega⟩
          rw [HS.out.1, HD.out, Bool.and_true, HS.out.2]
    · have hk2 : k = T.size := by omega
      rw [hk2]
      have hc := HC.out
      have hem : (⟨#[]⟩ : ByteArray).toList.isEmpty = true := by rw [isEmpty_of]; rfl
      clear HC HE hkT hk hk2
      rcases hc with ⟨h0, rfl, rfl⟩ | ⟨h0, h1, rfl, h3⟩ | ⟨h0, h1, rfl, rfl⟩
      · generalize (if digsTo T T.size = true then (0 : Int) else 3) = v
        go_wp2_with fail
        go_ret
        exact ⟨rfl, HB.out⟩
      · have hb := HB.out
        rw [h1]
        go_wp2_with (first | (go_at_call 11; refine (hexB_any _ (by assumption) _).mono ?_; rintro e w1 ⟨rfl, b1⟩; replace hb := below3 hb b1; clear b1))
        go_ret
        exact ⟨rfl, hb⟩
      · rw [h1]
        go_wp2_with fail
        go_ret
        exact ⟨rfl, HB.out⟩
end Go.Proofs.Ythjldnglaookgaa
