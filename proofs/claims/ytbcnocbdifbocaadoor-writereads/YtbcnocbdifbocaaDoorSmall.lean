/-
  What only reads a chip, or is small: within, Check, hasBlock, refusesBlock, refusesPage, Off, Did, Geometry, Marked, Power; the same without a chip. No condition.
-/
import Derived.Test.YtbcnocbdifbocaaDoorChip
namespace Go.Proofs.YtbcnocbdifbocaaDoor
open Go Go.RowKit

def inR (n a b : Int) : Bool := decide (a ≤ n ∧ n ≤ b)
theorem within_any (n a b : Int) (w : World) : Calls Tryd.prog 70 #[.int .i64 n, .int .i64 a, .int .i64 b] w fun e w' => e = .returned (.bool (inR n a b)) ∧ w' = w := by
  unfold inR
  by_cases h : a ≤ n
  · by_cases h2 : n ≤ b
    · rw [show decide (a ≤ n ∧ n ≤ b) = true by simp [h, h2]]
      go_enter Tryd.func70, Tryd.ntmps70
      go_wp2
      go_ret
      exact ⟨rfl, rfl⟩
    · rw [show decide (a ≤ n ∧ n ≤ b) = false by simp [h2]]
      go_enter Tryd.func70, Tryd.ntmps70
      go_wp2
      go_ret
      exact ⟨rfl, rfl⟩
  · rw [show decide (a ≤ n ∧ n ≤ b) = false by simp [h]]
    go_enter Tryd.func70, Tryd.ntmps70
    go_wp2
    go_ret
    exact ⟨rfl, rfl⟩
def okG (B P Z : Int) : Bool := inR B 8 32 && inR P 4 16 && inR Z 64 256
theorem check_any (B P Z : Int) (w : World) : Calls Tryd.prog 47 #[.agg #[.int .i64 B, .int .i64 P, .int .i64 Z]] w fun e w' => e = .returned (.bool (okG B P Z)) ∧ Below w.heap.size w w' := by
  unfold okG
  have hb := Hid.mk ((Below.refl w.heap.size w).alloc (Nat.le_refl _) (.cells #[.int .i64 B, .int .i64 P, .int .i64 Z] 23))
  cases h1 : inR B 8 32 <;> cases h2 : inR P 4 16 <;> cases h3 : inR Z 99 256 <;>
  · go_enter Tryd.func47, Tryd.ntmps47
    go_wp2_with (go_at_call 70; refine (within_any _ _ _ _).mono ?_; rintro e w' ⟨rfl, rfl⟩)
    go_ret
    exact ⟨rfl, hb.out⟩
theorem has_any {w : World} {L C} (h : Chip w L C) (b : Int) : Calls Tryd.prog 48 #[.pointer (some ⟨L.a, 0, none⟩), .int .i64 b] w fun e w' => e = .returned (.bool (decide (0 ≤ b ∧ b < C.B))) ∧ w' = w := by
  obtain ⟨mc, mf, n, k, _, _, c0, c1, c2, c3, c4, c5, c6, c7, _⟩ := h.cellA
  have HH := Hid.mk h
  clear h
  by_cases h0 : 0 ≤ b
  · by_cases h2 : b < C.B
    · rw [show decide (0 ≤ b ∧ b < C.B) = true by simp [h0, h2]]
      go_enter Tryd.func48, Tryd.ntmps48
      go_wp2
      go_ret
      exact ⟨rfl, rfl⟩
    · rw [show decide (0 ≤ b ∧ b < C.B) = false by simp [h2]]
      go_enter Tryd.func48, Tryd.ntmps48
      go_wp2
      go_ret
      exact ⟨rfl, rfl⟩
  · rw [show decide (0 ≤ b ∧ b < C.B) = false by simp [h0]]
    go_enter Tryd.func48, Tryd.ntmps48
    go_wp2
    go_ret
    exact ⟨rfl, rfl⟩
/-- why nothing can be done with a block, and with a page -/
def refB (C : Ch) (b : Int) : Int := if C.off = true then 51 else if 0 ≤ b ∧ b < C.B then 0 else 50
def refP (C : Ch) (b p : Int) : Int := if refB C b = 0 then (if 0 ≤ p ∧ p < C.P then 0 else 50) else refB C b
theorem refB_zero {C : Ch} {b : Int} (h : refB C b = 0) : C.off = false ∧ ∃ n : Nat, b = n ∧ n < C.B := by
  unfold refB at h
  cases ho : C.off
  · rw [ho, if_neg (by decide)] at h
    by_cases hb : 0 ≤ b ∧ b < C.B
    · exact ⟨rfl, b.toNat, by omega, by omega⟩
    · rw [if_neg hb] at h
      exact absurd h (by decide)
  · rw [ho, if_pos rfl] at h
    exact absurd h (by decide)
theorem refP_zero {C : Ch} {b p : Int} (h : refP C b p = 0) : C.off = false ∧ (∃ n : Nat, b = n ∧ n < C.B) ∧ ∃ q : Nat, p = q ∧ q < C.P := by
  unfold refP at h
  by_cases h0 : refB C b = 0
  · rw [if_pos h0] at h
    by_cases hp : 0 ≤ p ∧ p < C.P
    · exact ⟨(refB_zero h0).1, (refB_zero h0).2, p.toNat, by omega, by omega⟩
    · rw [if_neg hp] at h
      exact absurd h (by decide)
  · rw [if_neg h0] at h
    exact absurd h h0
theorem refuse_any {w : World} {L C} (h : Chip w L C) (b : Int) : Calls Tryd.prog 44 #[.pointer (some ⟨L.a, 0, none⟩), .int .i64 b] w fun e w' => e = .returned (.int .i64 (refB C b)) ∧ w' = w := by
  obtain ⟨mc, mf, n, k, _, _, c0, c1, c2, c3, c4, c5, c6, c7, _⟩ := h.cellA
  have HH := Hid.mk h
  clear h
  unfold refB
  cases ho : C.off
  · rw [ho] at c7
    rw [if_neg (by decide)]
    by_cases h2 : 0 ≤ b ∧ b < C.B
    · rw [if_pos h2]
      have hd : decide (0 ≤ b ∧ b < C.B) = true := by simp [h2]
      clear h2
      go_enter Tryd.func44, Tryd.ntmps44
      go_wp2_with (go_at_call 48; refine (has_any HH.out _).mono ?_; rintro e w' ⟨rfl, rfl⟩; rw [hd])
      go_ret
      exact ⟨rfl, rfl⟩
    · rw [if_neg h2]
      have hd : decide (0 ≤ b ∧ b < C.B) = false := by simpa using h2
      clear h2
      go_enter Tryd.func44, Tryd.ntmps44
      go_wp2_with (go_at_call 48; refine (has_any HH.out _).mono ?_; rintro e w' ⟨rfl, rfl⟩; rw [hd])
      go_ret
      exact ⟨rfl, rfl⟩
  · rw [ho] at c7
    rw [if_pos rfl]
    go_enter Tryd.func44, Tryd.ntmps44
    go_wp2
    go_ret
    exact ⟨rfl, rfl⟩
theorem refusep_any {w : World} {L C} (h : Chip w L C) (b p : Int) : Calls Tryd.prog 67 #[.pointer (some ⟨L.a, 0, none⟩), .int .i64 b, .int .i64 p] w fun e w' => e = .returned (.int .i64 (refP C b p)) ∧ w' = w := by
  obtain ⟨mc, mf, n, k, _, _, c0, c1, c2, c3, c4, c5, c6, c7, _⟩ := h.cellA
  have HH := Hid.mk h
  clear h
  unfold refP
  by_cases h0 : refB C b = 0
  · rw [if_pos h0]
    by_cases h1 : 0 ≤ p
    · by_cases h2 : p < C.P
      · rw [if_pos ⟨h1, h2⟩]
        go_enter Tryd.func67, Tryd.ntmps67
        go_wp2_with (go_at_call 44; refine (refuse_any HH.out _).mono ?_; rintro e w' ⟨rfl, rfl⟩; rw [h0])
        go_ret
        exact ⟨rfl, rfl⟩
      · rw [if_neg (by omega)]
        go_enter Tryd.func67, Tryd.ntmps67
        go_wp2_with (go_at_call 44; refine (refuse_any HH.out _).mono ?_; rintro e w' ⟨rfl, rfl⟩; rw [h0])
        go_ret
        exact ⟨rfl, rfl⟩
    · rw [if_neg (by omega)]
      go_enter Tryd.func67, Tryd.ntmps67
      go_wp2_with (go_at_call 44; refine (refuse_any HH.out _).mono ?_; rintro e w' ⟨rfl, rfl⟩; rw [h0])
      go_ret
      exact ⟨rfl, rfl⟩
  · rw [if_neg h0]
    go_enter Tryd.func67, Tryd.ntmps67
    go_wp2_with (go_at_call 44; refine (refuse_any HH.out _).mono ?_; rintro e w' ⟨rfl, rfl⟩)
    go_ret
    exact ⟨rfl, rfl⟩
theorem power_any {w : World} {L C} (h : Chip w L C) : Calls Tryd.prog 26 #[.pointer (some ⟨L.a, 0, none⟩)] w fun e w' => e = .returned (.tuple #[]) ∧ Chip w' L { C with off := false } ∧ Kp (L.own C.B) w w' := by
  obtain ⟨mc, mf, n, k, _, _, c0, c1, c2, c3, c4, c5, c6, c7, hf⟩ := h.cellA
  have f7 := hf 7
  have HH := Hid.mk h
  clear h hf
  go_enter Tryd.func26, Tryd.ntmps26
  go_wp2
  go_end0
  exact ⟨rfl, HH.out.setOff false, (Kp.refl _ _).setCell (p := ⟨L.a, 7, none⟩) (Or.inl rfl) _⟩
theorem marked_any {w : World} {L C} (h : Chip w L C) (b : Int) : Calls Tryd.prog 22 #[.pointer (some ⟨L.a, 0, none⟩), .int .i64 b] w fun e w' => e = .returned (.tuple #[.bool (if refB C b = 0 then C.mark b.toNat else false), .int .i64 (refB C b)]) ∧ w' = w := by
  by_cases h0 : refB C b = 0
  · rw [if_pos h0]
    obtain ⟨_, b, rfl, hb⟩ := refB_zero h0
    obtain ⟨mc, mf, n, k, _, _, c0, c1, c2, c3, c4, c5, c6, c7, _⟩ := h.cellA
    obtain ⟨b0, b1, b2, b3⟩ := h.cellB b hb
    have HH := Hid.mk h
    have h0' := Hid.mk h0
    rw [h0]
    clear h h0
    rw [Int.toNat_natCast]
    have hb1 : (b : Int) < C.B := by omega
    go_enter Tryd.func22, Tryd.ntmps22
    go_wp2_with (go_at_call 44; refine (refuse_any HH.out _).mono ?_; rintro e w' ⟨rfl, rfl⟩; rw [h0'.out])
    go_ret2
    exact ⟨rfl, rfl⟩
  · rw [if_neg h0]
    have HH := Hid.mk h
    clear h
    go_enter Tryd.func22, Tryd.ntmps22
    go_wp2_with (go_at_call 44; refine (refuse_any HH.out _).mono ?_; rintro e w' ⟨rfl, rfl⟩)
    go_ret2
    exact ⟨rfl, rfl⟩
end Go.Proofs.YtbcnocbdifbocaaDoor
