/-
  What is left to take, page by page: said plainly. No condition.
-/
import Derived.Test.YtclpcodcfcegdaaPl
namespace Go.Proofs.Ytclpcodcfcegdaa
open Go Go.RowKit

theorem room_range {n k : Nat} {xs : List Int} {o nx : Int} (h : Ok n k xs o nx) (hn : n ≤ 16) (hk : k ≤ 8) : 0 ≤ roomL k xs o nx ∧ roomL k xs o nx ≤ 136 := by
  have h1 := h.nxr
  have h2 : 0 ≤ cnt xs 0 * (k : Int) ∧ cnt xs 0 * (k : Int) ≤ 16 * 8 := mul_range (by have := cnt_range xs 0; have := h.len; omega) (by omega)
  unfold roomL
  split <;> omega
theorem cnt_le {xs : List Int} {v : Int} : cnt xs v ≤ xs.length := (cnt_range xs v).2
/-- a free one is opened: as many as before -/
theorem room_opened {n k : Nat} {xs : List Int} {nx : Int} (h : Ok n k xs (-1) nx) (j : Nat) (hj : j < n) (hx : xs.getD j 0 = 0) : roomL k (xs.set j 1) j 0 = roomL k xs (-1) nx := by
  unfold roomL
  rw [cnt_set xs j (by rw [h.len]; exact hj), hx, if_pos rfl, if_neg (by decide), if_pos (by omega), if_neg (by decide), Int.add_zero, Int.sub_mul]
  omega
/-- a page is taken: one less -/
theorem room_taken {n k : Nat} {xs : List Int} {nx : Int} (j : Nat) (h : Ok n k xs j nx) : roomL k (tkX k xs j nx) (tkO k j nx) (nx + 1) = roomL k xs j nx - 1 := by
  obtain ⟨hj, hx⟩ := h.open_at j rfl
  unfold roomL tkX tkO
  by_cases he : nx + 1 = k
  · rw [if_pos he, if_pos he, cnt_set xs j (by rw [h.len]; exact hj), hx, if_neg (by decide), if_neg (by decide), if_neg (by decide), if_pos (by omega), Int.sub_zero, Int.add_zero, Int.add_zero]
    omega
  · rw [if_neg he, if_neg he, if_pos (by omega), if_pos (by omega)]
    omega
/-- none is open, and none free: none -/
theorem room_none {n k : Nat} {xs : List Int} {nx : Int} (h : Ok n k xs (-1) nx) (hx : ∀ i, i < n → xs.getD i 0 ≠ 0) : roomL k xs (-1) nx = 0 := by
  unfold roomL
  rw [cnt_zero xs 0 (fun i hi => hx i (by rw [← h.len]; exact hi)), if_neg (by decide)]
  omega
/-- one is open: at least one page -/
theorem room_some {n k : Nat} {xs : List Int} {o nx : Int} (h : Ok n k xs o nx) (ho : 0 ≤ o) : 1 ≤ roomL k xs o nx := by
  have h1 := h.nxo ho
  have h2 : 0 ≤ cnt xs 0 * (k : Int) := Int.mul_nonneg (cnt_range xs 0).1 (by omega)
  unfold roomL
  rw [if_pos ho]
  omega
theorem tk_ok {n k : Nat} {xs : List Int} {nx : Int} (j : Nat) (h : Ok n k xs j nx) : Ok n k (tkX k xs j nx) (tkO k j nx) (nx + 1) := by
  unfold tkX tkO
  have := h.nxo (by omega)
  by_cases he : nx + 1 = k
  · rw [if_pos he, if_pos he]; exact h.last j rfl he
  · rw [if_neg he, if_neg he]; exact h.more (by omega)
end Go.Proofs.Ytclpcodcfcegdaa
