/-
  What blocks are, said plainly, and in memory: the block of a Life and the row of what its blocks are; what stores and calls leave of both. No condition.
-/
import Derived.Test.YtbcnocbdifbocaaDoorRows
import Derived.Test.YtbcnocbdifbocaaDoorMem
import Derived.Test.YtbcnocbdifbocaaDoorChip
import Derived.WalkSpells
import Derived.WalkLawsBesides
namespace Go.Proofs.YtbcnocbdifbocaaDoor.Lf
open Go Go.RowKit

/-- n blocks of k pages: what each is, which is open (below 0: none), its next page -/
structure Ok (n k : Nat) (xs : List Int) (o nx : Int) : Prop where
  len : xs.length = n
  nb : 1 ≤ n ∧ n ≤ 32
  kb : 1 ≤ k ∧ k ≤ 16
  kind : ∀ i, i < n → 0 ≤ xs.getD i 0 ∧ xs.getD i 0 ≤ 3
  opn : ∀ i : Nat, i < n → (xs.getD i 0 = 1 ↔ (i : Int) = o)
  or : -1 ≤ o ∧ o < n
  nxr : 0 ≤ nx ∧ nx ≤ k
  nxo : 0 ≤ o → nx < k
theorem getD_set (xs : List Int) (i j : Nat) (v : Int) (h : j < xs.length) : (xs.set j v).getD i 0 = if i = j then v else xs.getD i 0 := by
  rw [List.getD_eq_getElem?_getD, List.getD_eq_getElem?_getD, List.getElem?_set]
  by_cases e : j = i
  · subst e; simp [h]
  · rw [if_neg e, if_neg (fun x => e x.symm)]
/-- all free -/
theorem Ok.free (n k : Nat) (hn : 1 ≤ n ∧ n ≤ 32) (hk : 1 ≤ k ∧ k ≤ 16) : Ok n k (List.replicate n 0) (-1) 0 := by
  have hg : ∀ i, i < n → (List.replicate n (0 : Int)).getD i 0 = 0 := fun i hi => by simp [List.getD_eq_getElem?_getD, hi]
  exact ⟨by simp, hn, hk, fun i hi => by rw [hg i hi]; omega, fun i hi => by rw [hg i hi]; omega, by omega, by omega, by omega⟩
/-- a free one is opened -/
theorem Ok.opened {n k : Nat} {xs : List Int} {nx : Int} (h : Ok n k xs (-1) nx) (j : Nat) (hj : j < n) : Ok n k (xs.set j 1) j 0 := by
  have hkb := h.kb
  have hg := fun i => getD_set xs i j 1 (by rw [h.len]; exact hj)
  refine ⟨by simpa using h.len, h.nb, h.kb, fun i hi => ?_, fun i hi => ?_, by omega, by omega, by omega⟩
  · rw [hg i]; have := h.kind i hi; split <;> omega
  · rw [hg i]; have := h.opn i hi
    by_cases e : i = j
    · rw [if_pos e]; subst e; simp
    · rw [if_neg e]; omega
/-- one is let be something else -/
theorem Ok.laid {n k : Nat} {xs : List Int} {o nx : Int} (h : Ok n k xs o nx) (j : Nat) (hj : j < n) (v : Int) (hv : 0 ≤ v ∧ v ≤ 3) (h1 : v ≠ 1) : Ok n k (xs.set j v) (if o = j then -1 else o) nx := by
  have hg := fun i => getD_set xs i j v (by rw [h.len]; exact hj)
  have ho := h.or
  refine ⟨by simpa using h.len, h.nb, h.kb, fun i hi => ?_, fun i hi => ?_, by split <;> omega, h.nxr, fun hx => h.nxo (by split at hx <;> omega)⟩
  · rw [hg i]; have := h.kind i hi; split <;> omega
  · rw [hg i]; have := h.opn i hi
    by_cases e : i = j
    · rw [if_pos e]; subst e; split <;> omega
    · rw [if_neg e, this]; split <;> omega
/-- a page is taken, and it was not the last one -/
theorem Ok.more {n k : Nat} {xs : List Int} {o nx : Int} (h : Ok n k xs o nx) (hx : nx + 1 < k) : Ok n k xs o (nx + 1) := by
  have := h.nxr
  exact ⟨h.len, h.nb, h.kb, h.kind, h.opn, h.or, by omega, fun _ => hx⟩
/-- the last page is taken -/
theorem Ok.last {n k : Nat} {xs : List Int} {o nx : Int} (h : Ok n k xs o nx) (j : Nat) (ho : o = j) (hx : nx + 1 = k) : Ok n k (xs.set j 2) (-1) (nx + 1) := by
  have h1 := h.or
  have h2 := h.nxr
  have := h.laid j (by omega) 2 (by omega) (by omega)
  rw [if_pos ho] at this
  exact ⟨this.len, this.nb, this.kb, this.kind, this.opn, this.or, by omega, by omega⟩
theorem Ok.open_at {n k : Nat} {xs : List Int} {o nx : Int} (h : Ok n k xs o nx) (j : Nat) (ho : o = j) : j < n ∧ xs.getD j 0 = 1 := by
  have := h.or
  exact ⟨by omega, (h.opn j (by omega)).2 ho.symm⟩

/-- what a block is -/
def isL (xs : List Int) (b : Int) : Int := if 0 ≤ b ∧ b < xs.length then xs.getD b.toNat 0 else -1
theorem isL_in (xs : List Int) (j : Nat) (h : j < xs.length) : isL xs j = xs.getD j 0 := by
  unfold isL; rw [if_pos (by omega), Int.toNat_natCast]
theorem isL_out (xs : List Int) (b : Int) (h : ¬ (0 ≤ b ∧ b < xs.length)) : isL xs b = -1 := by unfold isL; rw [if_neg h]
/-- how many are something -/
def cnt (xs : List Int) (v : Int) : Int := (xs.countP (fun x => decide (x = v)) : Nat)
theorem cnt_range (xs : List Int) (v : Int) : 0 ≤ cnt xs v ∧ cnt xs v ≤ xs.length := by
  unfold cnt; have := List.countP_le_length (p := fun x => decide (x = v)) (l := xs); omega
theorem cnt_nil (v : Int) : cnt [] v = 0 := rfl
theorem cnt_snoc (xs : List Int) (x v : Int) : cnt (xs ++ [x]) v = cnt xs v + if x = v then 1 else 0 := by
  unfold cnt; rw [List.countP_append]; by_cases e : x = v <;> simp [e]
theorem take_snoc (xs : List Int) (i : Nat) (h : i < xs.length) : xs.take (i + 1) = xs.take i ++ [xs.getD i 0] := by
  rw [List.take_add_one, List.getElem?_eq_getElem h]; simp [List.getD_eq_getElem?_getD, h]
theorem cnt_take (xs : List Int) (i : Nat) (h : i < xs.length) (v : Int) : cnt (xs.take (i + 1)) v = cnt (xs.take i) v + if xs.getD i 0 = v then 1 else 0 := by
  rw [take_snoc xs i h, cnt_snoc]
theorem cnt_set (xs : List Int) (j : Nat) (h : j < xs.length) (v u : Int) : cnt (xs.set j v) u = cnt xs u - (if xs.getD j 0 = u then 1 else 0) + if v = u then 1 else 0 := by
  induction xs generalizing j with
  | nil => simp at h
  | cons x r ih =>
    cases j with
    | zero =>
      unfold cnt
      simp only [List.set_cons_zero, List.countP_cons, List.getD_cons_zero]
      by_cases e1 : x = u <;> by_cases e2 : v = u <;> simp [e1, e2] <;> omega
    | succ j =>
      have := ih j (by simpa using h)
      unfold cnt at this ⊢
      simp only [List.set_cons_succ, List.countP_cons, List.getD_cons_succ]
      generalize r.getD j 0 = y at this ⊢
      by_cases e1 : x = u <;> simp [e1] <;> omega
theorem cnt_zero (xs : List Int) (v : Int) (h : ∀ i, i < xs.length → xs.getD i 0 ≠ v) : cnt xs v = 0 := by
  unfold cnt
  have : xs.countP (fun x => decide (x = v)) = 0 := by
    rw [List.countP_eq_zero]
    intro x hx
    obtain ⟨i, hi, rfl⟩ := List.mem_iff_getElem.1 hx
    have := h i hi
    simpa [List.getD_eq_getElem?_getD, hi] using this
  omega
theorem cnt_pos (xs : List Int) (v : Int) (i : Nat) (hi : i < xs.length) (h : xs.getD i 0 = v) : 0 < cnt xs v := by
  unfold cnt
  have : 0 < xs.countP (fun x => decide (x = v)) := by
    rw [List.countP_pos_iff]
    refine ⟨xs[i], List.getElem_mem _, ?_⟩
    simpa [List.getD_eq_getElem?_getD, hi] using h
  omega
/-- is one open? -/
theorem Ok.cnt_one {n k : Nat} {xs : List Int} {o nx : Int} (h : Ok n k xs o nx) : 0 < cnt xs 1 ↔ 0 ≤ o := by
  have ho := h.or
  constructor
  · intro hc
    refine Decidable.byContradiction fun hn => ?_
    rw [cnt_zero xs 1 (fun i hi e => by have := (h.opn i (by rw [← h.len]; exact hi)).1 e; omega)] at hc
    omega
  · intro hp
    obtain ⟨j, hj⟩ := Int.eq_ofNat_of_zero_le hp
    obtain ⟨h1, h2⟩ := h.open_at j hj
    exact cnt_pos xs 1 j (by rw [h.len]; exact h1) h2
/-- how many pages can be taken -/
def roomL (k : Nat) (xs : List Int) (o nx : Int) : Int := cnt xs 0 * k + if 0 ≤ o then k - nx else 0
theorem mul_range {a b A B : Int} (ha : 0 ≤ a ∧ a ≤ A) (hb : 0 ≤ b ∧ b ≤ B) : 0 ≤ a * b ∧ a * b ≤ A * B :=
  ⟨Int.mul_nonneg ha.1 hb.1, Int.mul_le_mul ha.2 hb.2 hb.1 (by omega)⟩

/-- a Life in memory -/
structure Lif (w : World) (a g n k : Nat) (xs : List Int) (o nx : Int) : Prop where
  top : w.heap[a]? = some (.cells #[.slice (some ⟨g, 0, none⟩) n n, .int .i64 k, .int .i64 nx] 83 (0, 0))
  row : Row w g 3 .i64 xs
  ne : g ≠ a
  ok : Ok n k xs o nx
def ownL (a g : Nat) (i : Nat) : Prop := i = a ∨ i = g
theorem Lif.lt {w : World} {a g n k xs o nx} (h : Lif w a g n k xs o nx) : ∀ i, ownL a g i → i < w.heap.size := by
  rintro i (rfl | rfl)
  · exact (Array.getElem?_eq_some_iff.1 h.top).1
  · exact h.row.lt
theorem Lif.same {w w' : World} {a g n k xs o nx} (h : Lif w a g n k xs o nx) (e : ∀ i, ownL a g i → w'.heap[i]? = w.heap[i]?) : Lif w' a g n k xs o nx :=
  ⟨(e a (.inl rfl)).trans h.top, (e g (.inr rfl)).trans h.row, h.ne, h.ok⟩
theorem Lif.call {w w' : World} {a g n k xs o nx} (h : Lif w a g n k xs o nx) (b : Below w.heap.size w w') : Lif w' a g n k xs o nx := h.same (fun i hi => b.block i (h.lt i hi))
theorem Lif.drew {w : World} {a g n k xs o nx} (h : Lif w a g n k xs o nx) : Lif w.drew a g n k xs o nx := h.same (fun _ _ => rfl)
theorem Lif.drewN {w : World} {a g n k xs o nx} (h : Lif w a g n k xs o nx) (m : Nat) : Lif (w.drewN m) a g n k xs o nx := h.same (fun _ _ => rfl)
theorem Lif.cells {w : World} {a g n k xs o nx} (h : Lif w a g n k xs o nx) : w.cell? ⟨a, 0, none⟩ = some (.slice (some ⟨g, 0, none⟩) n n) ∧ w.cell? ⟨a, 1, none⟩ = some (.int .i64 k) ∧ w.cell? ⟨a, 2, none⟩ = some (.int .i64 nx) ∧ w.frozen? ⟨a, 2, none⟩ = false := by
  refine ⟨?_, ?_, ?_, frozen_of_row w a 2 _ 83 h.top⟩ <;> (rw [cell_of_row w a _ _ 83 _ h.top]; rfl)
theorem Lif.at {w : World} {a g n k xs o nx} (h : Lif w a g n k xs o nx) (j : Nat) (hj : j < n) : w.cell? ⟨g, j, none⟩ = some (.int .i64 (xs.getD j 0)) := h.row.cell j (by rw [h.ok.len]; exact hj)
/-- other blocks, the same row and open one -/
theorem Lif.set {w : World} {a g n k xs o nx} (h : Lif w a g n k xs o nx) (j : Nat) (v : Int) {o' nx' : Int} (hk : Ok n k (xs.set j v) o' nx') (e : nx' = nx) : Lif (w.setCell ⟨g, j, none⟩ (.int .i64 v)) a g n k (xs.set j v) o' nx' := by
  subst e
  refine ⟨(Below.heap_setCell w _ _ a (fun x => h.ne x.symm)).trans h.top, h.row.stored j v, h.ne, hk⟩
/-- another next page -/
theorem Lif.next {w : World} {a g n k xs o nx} (h : Lif w a g n k xs o nx) {o' nx' : Int} (hk : Ok n k xs o' nx') : Lif (w.setCell ⟨a, 2, none⟩ (.int .i64 nx')) a g n k xs o' nx' := by
  refine ⟨?_, h.row.other (a := ⟨a, 2, none⟩) (fun x => h.ne x.symm) _, h.ne, hk⟩
  exact heap_setCell_same w a 2 _ 83 _ h.top
/-- both, in either order -/
theorem Lif.both {w : World} {a g n k xs o nx} (h : Lif w a g n k xs o nx) (j : Nat) (v : Int) {o' nx' : Int} (hk : Ok n k (xs.set j v) o' nx') : Lif ((w.setCell ⟨g, j, none⟩ (.int .i64 v)).setCell ⟨a, 2, none⟩ (.int .i64 nx')) a g n k (xs.set j v) o' nx' := by
  refine ⟨?_, (h.row.stored j v).other (a := ⟨a, 2, none⟩) (fun x => h.ne x.symm) _, h.ne, hk⟩
  exact heap_setCell_same _ a 2 _ 83 _ ((Below.heap_setCell w _ _ a (fun x => h.ne x.symm)).trans h.top)
theorem Lif.both' {w : World} {a g n k xs o nx} (h : Lif w a g n k xs o nx) (j : Nat) (v : Int) {o' nx' : Int} (hk : Ok n k (xs.set j v) o' nx') : Lif ((w.setCell ⟨a, 2, none⟩ (.int .i64 nx')).setCell ⟨g, j, none⟩ (.int .i64 v)) a g n k (xs.set j v) o' nx' := by
  refine ⟨?_, (h.row.other (a := ⟨a, 2, none⟩) (fun x => h.ne x.symm) _).stored j v, h.ne, hk⟩
  exact (Below.heap_setCell _ _ _ a (fun x => h.ne x.symm)).trans (heap_setCell_same w a 2 _ 83 _ h.top)
end Go.Proofs.YtbcnocbdifbocaaDoor.Lf
