/-
  Both sides take the same off whatever bytes there are; what is taken off has just its own bytes. No condition.
-/
import Derived.Test.YtdapoonojhfkkaaRtake
namespace Go.Proofs.Ytdapoonojhfkkaa
open Go Go.RowKit

/-- as many numbers as there are limits, each within its own -/
theorem tkGo_vals (fs : List Fl) (s : ByteArray) (e : Int) (h : ∀ f ∈ fs, 0 ≤ f.2.2) : (tkGo fs s e).2.2.length = fs.length ∧ ∀ j, j < fs.length → 0 ≤ (tkGo fs s e).2.2.getD j 0 ∧ (tkGo fs s e).2.2.getD j 0 ≤ (fs.getD j (0, 0, 0)).2.2 := by
  induction fs generalizing s e with
  | nil => exact ⟨rfl, fun j hj => by simp at hj⟩
  | cons f fs ih =>
    obtain ⟨h1, h2⟩ := ih (rN s e f.2.2).1 (rN s e f.2.2).2.1 (fun g hg => h g (by simp [hg]))
    have h0 := rN_le s e f.2.2 (h f (by simp))
    refine ⟨by rw [tkGo]; simp [h1], fun j hj => ?_⟩
    rw [tkGo]
    cases j with
    | zero => simp only [List.getD_cons_zero]; omega
    | succ j => simpa using h2 j (by simpa using hj)
/-- all numbers are at least so much -/
def geAll : List Int → List Int → Bool
  | v :: vs, m :: ms => decide (m ≤ v) && geAll vs ms
  | _, _ => true
theorem mustGo_err (vs ms : List Int) (q : ByteArray × Int) (h : q.2 ≠ 0) : mustGo vs ms q = q := by
  induction vs generalizing ms q with
  | nil => cases ms <;> rfl
  | cons v vs ih =>
    cases ms with
    | nil => rfl
    | cons m ms =>
      rw [mustGo]
      have e : must q (decide (m ≤ v)) = q := by unfold must; rw [if_neg (fun hh => h hh.1)]
      rw [e, ih ms q h]
theorem mustGo_ok (vs ms : List Int) (s : ByteArray) : mustGo vs ms (s, 0) = if geAll vs ms then (s, 0) else (⟨#[]⟩, 3) := by
  induction vs generalizing ms with
  | nil => cases ms <;> rfl
  | cons v vs ih =>
    cases ms with
    | nil => rfl
    | cons m ms =>
      rw [mustGo, geAll]
      by_cases h : m ≤ v
      · have e : must (s, 0) (decide (m ≤ v)) = (s, 0) := by unfold must; rw [if_neg (by simp [h])]
        rw [e, ih, decide_eq_true h, Bool.true_and]
      · have e : must (s, 0) (decide (m ≤ v)) = (⟨#[]⟩, 3) := by unfold must; rw [if_pos (by simp [h])]
        rw [e, mustGo_err _ _ _ (by decide), decide_eq_false h]
        rfl
/-- a record of numbers that are not too great may be, just if they are not too small -/
theorem chk_lay (K : Int) (vs : List Int) (hl : vs.length = (flds K).length) (h : ∀ j, j < (flds K).length → 0 ≤ vs.getD j 0 ∧ vs.getD j 0 ≤ ((flds K).getD j (0, 0, 0)).2.2) :
    chkL ((laySet (flds K) vs [K, 0, 0, 0, 0, 0]).getD 0 0) (laySet (flds K) vs [K, 0, 0, 0, 0, 0]) = (decide (0 < (flds K).length) && geAll vs (leasts (flds K))) := by
  rcases kinds K with rfl | rfl | rfl | rfl | rfl | rfl | rfl | rfl | rfl | ⟨h1, h2, h3, h4, h5, h6, h7, h8, h9⟩
  · match vs, hl with
    | [x, y, z], _ =>
      have q0 := h 0 (by decide)
      have q1 := h 1 (by decide)
      have q2 := h 2 (by decide)
      simp [flds] at q0 q1 q2
      show mayB 1 x y z 0 0 = _
      rw [Bool.eq_iff_iff, mayB_iff]
      simp [geAll, leasts, flds, mayR]
      omega
  · match vs, hl with
    | [x, y], _ =>
      have q0 := h 0 (by decide)
      have q1 := h 1 (by decide)
      simp [flds] at q0 q1
      show mayB 2 x y 0 0 0 = _
      rw [Bool.eq_iff_iff, mayB_iff]
      simp [geAll, leasts, flds, mayR]
      omega
  · match vs, hl with
    | [x, y], _ =>
      have q0 := h 0 (by decide)
      have q1 := h 1 (by decide)
      simp [flds] at q0 q1
      show mayB 3 0 0 x y 0 = _
      rw [Bool.eq_iff_iff, mayB_iff]
      simp [geAll, leasts, flds, mayR]
      omega
  · match vs, hl with
    | [x, y], _ =>
      have q0 := h 0 (by decide)
      have q1 := h 1 (by decide)
      simp [flds] at q0 q1
      show mayB 4 x 0 0 0 y = _
      rw [Bool.eq_iff_iff, mayB_iff]
      simp [geAll, leasts, flds, mayR]
      omega
  · match vs, hl with
    | [x], _ =>
      have q0 := h 0 (by decide)
      simp [flds] at q0
      show mayB 5 x 0 0 0 0 = _
      rw [Bool.eq_iff_iff, mayB_iff]
      simp [geAll, leasts, flds, mayR]
      omega
  · match vs, hl with
    | [x, y], _ =>
      have q0 := h 0 (by decide)
      have q1 := h 1 (by decide)
      simp [flds] at q0 q1
      show mayB 6 x 0 0 y 0 = _
      rw [Bool.eq_iff_iff, mayB_iff]
      simp [geAll, leasts, flds, mayR]
      omega
  · match vs, hl with
    | [x], _ =>
      have q0 := h 0 (by decide)
      simp [flds] at q0
      show mayB 7 x 0 0 0 0 = _
      rw [Bool.eq_iff_iff, mayB_iff]
      simp [geAll, leasts, flds, mayR]
      omega
  · match vs, hl with
    | [x], _ =>
      have q0 := h 0 (by decide)
      simp [flds] at q0
      show mayB 8 0 0 x 0 0 = _
      rw [Bool.eq_iff_iff, mayB_iff]
      simp [geAll, leasts, flds, mayR]
      omega
  · match vs, hl with
    | [x, y], _ =>
      have q0 := h 0 (by decide)
      have q1 := h 1 (by decide)
      simp [flds] at q0 q1
      show mayB 9 0 0 x 0 y = _
      rw [Bool.eq_iff_iff, mayB_iff]
      simp [geAll, leasts, flds, mayR]
      omega
  · rw [flds_none h1 h2 h3 h4 h5 h6 h7 h8 h9]
    have q : mayB K 0 0 0 0 0 = false := by
      rw [← Bool.not_eq_true]
      intro hh
      have := mayB_iff.1 hh
      simp [mayR, h1, h2, h3, h4, h5, h6, h7, h8, h9] at this
    exact q
/-- the error is the same -/
theorem rtQ_err (s : ByteArray) (e : Int) : (rtQ s e).2 = tkE s e := by
  have hv := tkGo_vals (flds (rF s e 1).2.2) (rF s e 1).1 (rF s e 1).2.1 (fun f hf => (flds_off _ f hf).2.2.2.1)
  have hc := chk_lay (rF s e 1).2.2 (tkQ s e).2.2 hv.1 hv.2
  unfold rtQ tkE
  by_cases he : (tkQ s e).2.1 = 0
  · rw [if_neg (by simpa using he)]
    have hc2 : chkL ((tkL s e).getD 0 0) (tkL s e) = _ := hc
    rw [hc2, he]
    cases hn : decide (0 < (flds (rF s e 1).2.2).length) with
    | false =>
      have e1 : must ((tkQ s e).1, 0) false = (⟨#[]⟩, 3) := by unfold must; rw [if_pos (by simp)]
      rw [e1, mustGo_err _ _ _ (by decide)]
      rfl
    | true =>
      have e1 : must ((tkQ s e).1, 0) true = ((tkQ s e).1, 0) := by unfold must; rw [if_neg (by simp)]
      rw [e1, mustGo_ok, Bool.true_and]
      split <;> rfl
  · rw [if_pos he]
    have e1 : must ((tkQ s e).1, (tkQ s e).2.1) (decide (0 < (flds (rF s e 1).2.2).length)) = ((tkQ s e).1, (tkQ s e).2.1) := by unfold must; rw [if_neg (fun h => he h.1)]
    rw [e1, mustGo_err _ _ _ he]
/-- so is the record -/
theorem rtL_same (s : ByteArray) (e : Int) : rtL s e = tkR s e := by
  unfold rtL tkR
  rw [rtQ_err]
/-- what is left is the same, where there is no error -/
theorem rtQ_left (s : ByteArray) (e : Int) (h : tkE s e = 0) : (rtQ s e).1 = (tkQ s e).1 := by
  have h2 := rtQ_err s e
  rw [h] at h2
  have he : (tkQ s e).2.1 = 0 := by
    unfold tkE at h
    split at h
    · rename_i hh
      exact absurd h hh
    · rename_i hh
      simpa using hh
  unfold rtQ at h2 ⊢
  rw [he] at h2 ⊢
  cases hn : decide (0 < (flds (rF s e 1).2.2).length) with
  | false =>
    rw [hn] at h2
    have e1 : must ((tkQ s e).1, 0) false = (⟨#[]⟩, 3) := by unfold must; rw [if_pos (by simp)]
    rw [e1, mustGo_err _ _ _ (by decide)] at h2
    cases h2
  | true =>
    rw [hn] at h2
    have e1 : must ((tkQ s e).1, 0) true = ((tkQ s e).1, 0) := by unfold must; rw [if_neg (by simp)]
    rw [e1, mustGo_ok] at h2 ⊢
    split at h2
    · rename_i hg
      rw [if_pos hg]
    · cases h2
end Go.Proofs.Ytdapoonojhfkkaa
