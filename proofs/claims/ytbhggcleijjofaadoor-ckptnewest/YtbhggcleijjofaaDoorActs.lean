/-
  What blocks are, said plainly, and in memory: the block of a Life and the row of what its blocks are; what stores and calls leave of both. No condition. The walks of what only reads a Life: Is, Count, slices.Index, At, Room; of New, and of all without a Life. No condition. The walks of Room, New, Open, let, Full, Free, Bad and Take; all of them without a Life. No condition.
-/
import Derived.Test.YtbhggcleijjofaaDoorRows
import Derived.Test.YtbhggcleijjofaaDoorMem
import Derived.Test.YtbhggcleijjofaaDoorChip
import Derived.WalkSpells
import Derived.WalkLawsBesides
import Derived.Deep.QuietTactic
import Derived.BigQuiet
import Derived.Deep.Cut
namespace Go.Proofs.YtbhggcleijjofaaDoor.Lf
open Go Go.RowKit

/-- n blocks of k pages: what each is, which is open (below 0: none), its next page -/
structure Ok (n k : Nat) (xs : List Int) (o nx : Int) : Prop where
  len : xs.length = n
  nb : 1 ≤ n ∧ n ≤ 32
  kb : 1 ≤ k ∧ k ≤ 16
  kind : ∀ i, i < n → 0 ≤ xs.getD i 0 ∧ xs.getD i 0 ≤ 3
  opn : ∀ i : Nat, i < n → (xs.getD i 0 = 1 ↔ (i : Int) = o)
  or : -1 ≤ o ∧ o < n
  nxr : 0 ≤ nx ∧ nx ≤ k
  nxo : 0 ≤ o → nx < k
theorem getD_set (xs : List Int) (i j : Nat) (v : Int) (h : j < xs.length) : (xs.set j v).getD i 0 = if i = j then v else xs.getD i 0 := by
  rw [List.getD_eq_getElem?_getD, List.getD_eq_getElem?_getD, List.getElem?_set]
  by_cases e : j = i
  · subst e; simp [h]
  · rw [if_neg e, if_neg (fun x => e x.symm)]
/-- all free -/
theorem Ok.free (n k : Nat) (hn : 1 ≤ n ∧ n ≤ 32) (hk : 1 ≤ k ∧ k ≤ 16) : Ok n k (List.replicate n 0) (-1) 0 := by
  have hg : ∀ i, i < n → (List.replicate n (0 : Int)).getD i 0 = 0 := fun i hi => by simp [List.getD_eq_getElem?_getD, hi]
  exact ⟨by simp, hn, hk, fun i hi => by rw [hg i hi]; omega, fun i hi => by rw [hg i hi]; omega, by omega, by omega, by omega⟩
/-- a free one is opened -/
theorem Ok.opened {n k : Nat} {xs : List Int} {nx : Int} (h : Ok n k xs (-1) nx) (j : Nat) (hj : j < n) : Ok n k (xs.set j 1) j 0 := by
  have hkb := h.kb
  have hg := fun i => getD_set xs i j 1 (by rw [h.len]; exact hj)
  refine ⟨by simpa using h.len, h.nb, h.kb, fun i hi => ?_, fun i hi => ?_, by omega, by omega, by omega⟩
  · rw [hg i]; have := h.kind i hi; split <;> omega
  · rw [hg i]; have := h.opn i hi
    by_cases e : i = j
    · rw [if_pos e]; subst e; simp
    · rw [if_neg e]; omega
/-- one is let be something else -/
theorem Ok.laid {n k : Nat} {xs : List Int} {o nx : Int} (h : Ok n k xs o nx) (j : Nat) (hj : j < n) (v : Int) (hv : 0 ≤ v ∧ v ≤ 3) (h1 : v ≠ 1) : Ok n k (xs.set j v) (if o = j then -1 else o) nx := by
  have hg := fun i => getD_set xs i j v (by rw [h.len]; exact hj)
  have ho := h.or
  refine ⟨by simpa using h.len, h.nb, h.kb, fun i hi => ?_, fun i hi => ?_, by split <;> omega, h.nxr, fun hx => h.nxo (by split at hx <;> omega)⟩
  · rw [hg i]; have := h.kind i hi; split <;> omega
  · rw [hg i]; have := h.opn i hi
    by_cases e : i = j
    · rw [if_pos e]; subst e; split <;> omega
    · rw [if_neg e, this]; split <;> omega
/-- a page is taken, and it was not the last one -/
theorem Ok.more {n k : Nat} {xs : List Int} {o nx : Int} (h : Ok n k xs o nx) (hx : nx + 1 < k) : Ok n k xs o (nx + 1) := by
  have := h.nxr
  exact ⟨h.len, h.nb, h.kb, h.kind, h.opn, h.or, by omega, fun _ => hx⟩
/-- the last page is taken -/
theorem Ok.last {n k : Nat} {xs : List Int} {o nx : Int} (h : Ok n k xs o nx) (j : Nat) (ho : o = j) (hx : nx + 1 = k) : Ok n k (xs.set j 2) (-1) (nx + 1) := by
  have h1 := h.or
  have h2 := h.nxr
  have := h.laid j (by omega) 2 (by omega) (by omega)
  rw [if_pos ho] at this
  exact ⟨this.len, this.nb, this.kb, this.kind, this.opn, this.or, by omega, by omega⟩
theorem Ok.open_at {n k : Nat} {xs : List Int} {o nx : Int} (h : Ok n k xs o nx) (j : Nat) (ho : o = j) : j < n ∧ xs.getD j 0 = 1 := by
  have := h.or
  exact ⟨by omega, (h.opn j (by omega)).2 ho.symm⟩

/-- what a block is -/
def isL (xs : List Int) (b : Int) : Int := if 0 ≤ b ∧ b < xs.length then xs.getD b.toNat 0 else -1
theorem isL_in (xs : List Int) (j : Nat) (h : j < xs.length) : isL xs j = xs.getD j 0 := by
  unfold isL; rw [if_pos (by omega), Int.toNat_natCast]
theorem isL_out (xs : List Int) (b : Int) (h : ¬ (0 ≤ b ∧ b < xs.length)) : isL xs b = -1 := by unfold isL; rw [if_neg h]
/-- how many are something -/
def cnt (xs : List Int) (v : Int) : Int := (xs.countP (fun x => decide (x = v)) : Nat)
theorem cnt_range (xs : List Int) (v : Int) : 0 ≤ cnt xs v ∧ cnt xs v ≤ xs.length := by
  unfold cnt; have := List.countP_le_length (p := fun x => decide (x = v)) (l := xs); omega
theorem cnt_nil (v : Int) : cnt [] v = 0 := rfl
theorem cnt_snoc (xs : List Int) (x v : Int) : cnt (xs ++ [x]) v = cnt xs v + if x = v then 1 else 0 := by
  unfold cnt; rw [List.countP_append]; by_cases e : x = v <;> simp [e]
theorem take_snoc (xs : List Int) (i : Nat) (h : i < xs.length) : xs.take (i + 1) = xs.take i ++ [xs.getD i 0] := by
  rw [List.take_add_one, List.getElem?_eq_getElem h]; simp [List.getD_eq_getElem?_getD, h]
theorem cnt_take (xs : List Int) (i : Nat) (h : i < xs.length) (v : Int) : cnt (xs.take (i + 1)) v = cnt (xs.take i) v + if xs.getD i 0 = v then 1 else 0 := by
  rw [take_snoc xs i h, cnt_snoc]
theorem cnt_set (xs : List Int) (j : Nat) (h : j < xs.length) (v u : Int) : cnt (xs.set j v) u = cnt xs u - (if xs.getD j 0 = u then 1 else 0) + if v = u then 1 else 0 := by
  induction xs generalizing j with
  | nil => simp at h
  | cons x r ih =>
    cases j with
    | zero =>
      unfold cnt
      simp only [List.set_cons_zero, List.countP_cons, List.getD_cons_zero]
      by_cases e1 : x = u <;> by_cases e2 : v = u <;> simp [e1, e2] <;> omega
    | succ j =>
      have := ih j (by simpa using h)
      unfold cnt at this ⊢
      simp only [List.set_cons_succ, List.countP_cons, List.getD_cons_succ]
      generalize r.getD j 0 = y at this ⊢
      by_cases e1 : x = u <;> simp [e1] <;> omega
theorem cnt_zero (xs : List Int) (v : Int) (h : ∀ i, i < xs.length → xs.getD i 0 ≠ v) : cnt xs v = 0 := by
  unfold cnt
  have : xs.countP (fun x => decide (x = v)) = 0 := by
    rw [List.countP_eq_zero]
    intro x hx
    obtain ⟨i, hi, rfl⟩ := List.mem_iff_getElem.1 hx
    have := h i hi
    simpa [List.getD_eq_getElem?_getD, hi] using this
  omega
theorem cnt_pos (xs : List Int) (v : Int) (i : Nat) (hi : i < xs.length) (h : xs.getD i 0 = v) : 0 < cnt xs v := by
  unfold cnt
  have : 0 < xs.countP (fun x => decide (x = v)) := by
    rw [List.countP_pos_iff]
    refine ⟨xs[i], List.getElem_mem _, ?_⟩
    simpa [List.getD_eq_getElem?_getD, hi] using h
  omega
/-- is one open? -/
theorem Ok.cnt_one {n k : Nat} {xs : List Int} {o nx : Int} (h : Ok n k xs o nx) : 0 < cnt xs 1 ↔ 0 ≤ o := by
  have ho := h.or
  constructor
  · intro hc
    refine Decidable.byContradiction fun hn => ?_
    rw [cnt_zero xs 1 (fun i hi e => by have := (h.opn i (by rw [← h.len]; exact hi)).1 e; omega)] at hc
    omega
  · intro hp
    obtain ⟨j, hj⟩ := Int.eq_ofNat_of_zero_le hp
    obtain ⟨h1, h2⟩ := h.open_at j hj
    exact cnt_pos xs 1 j (by rw [h.len]; exact h1) h2
/-- how many pages can be taken -/
def roomL (k : Nat) (xs : List Int) (o nx : Int) : Int := cnt xs 0 * k + if 0 ≤ o then k - nx else 0
theorem mul_range {a b A B : Int} (ha : 0 ≤ a ∧ a ≤ A) (hb : 0 ≤ b ∧ b ≤ B) : 0 ≤ a * b ∧ a * b ≤ A * B :=
  ⟨Int.mul_nonneg ha.1 hb.1, Int.mul_le_mul ha.2 hb.2 hb.1 (by omega)⟩

/-- a Life in memory -/
structure Lif (w : World) (a g n k : Nat) (xs : List Int) (o nx : Int) : Prop where
  top : w.heap[a]? = some (.cells #[.slice (some ⟨g, 0, none⟩) n n, .int .i64 k, .int .i64 nx] 109 (0, 0))
  row : Row w g 3 .i64 xs
  ne : g ≠ a
  ok : Ok n k xs o nx
def ownL (a g : Nat) (i : Nat) : Prop := i = a ∨ i = g
theorem Lif.lt {w : World} {a g n k xs o nx} (h : Lif w a g n k xs o nx) : ∀ i, ownL a g i → i < w.heap.size := by
  rintro i (rfl | rfl)
  · exact (Array.getElem?_eq_some_iff.1 h.top).1
  · exact h.row.lt
theorem Lif.same {w w' : World} {a g n k xs o nx} (h : Lif w a g n k xs o nx) (e : ∀ i, ownL a g i → w'.heap[i]? = w.heap[i]?) : Lif w' a g n k xs o nx :=
  ⟨(e a (.inl rfl)).trans h.top, (e g (.inr rfl)).trans h.row, h.ne, h.ok⟩
theorem Lif.call {w w' : World} {a g n k xs o nx} (h : Lif w a g n k xs o nx) (b : Below w.heap.size w w') : Lif w' a g n k xs o nx := h.same (fun i hi => b.block i (h.lt i hi))
theorem Lif.drew {w : World} {a g n k xs o nx} (h : Lif w a g n k xs o nx) : Lif w.drew a g n k xs o nx := h.same (fun _ _ => rfl)
theorem Lif.drewN {w : World} {a g n k xs o nx} (h : Lif w a g n k xs o nx) (m : Nat) : Lif (w.drewN m) a g n k xs o nx := h.same (fun _ _ => rfl)
theorem Lif.cells {w : World} {a g n k xs o nx} (h : Lif w a g n k xs o nx) : w.cell? ⟨a, 0, none⟩ = some (.slice (some ⟨g, 0, none⟩) n n) ∧ w.cell? ⟨a, 1, none⟩ = some (.int .i64 k) ∧ w.cell? ⟨a, 2, none⟩ = some (.int .i64 nx) ∧ w.frozen? ⟨a, 2, none⟩ = false := by
  refine ⟨?_, ?_, ?_, frozen_of_row w a 2 _ 109 h.top⟩ <;> (rw [cell_of_row w a _ _ 109 _ h.top]; rfl)
theorem Lif.at {w : World} {a g n k xs o nx} (h : Lif w a g n k xs o nx) (j : Nat) (hj : j < n) : w.cell? ⟨g, j, none⟩ = some (.int .i64 (xs.getD j 0)) := h.row.cell j (by rw [h.ok.len]; exact hj)
/-- other blocks, the same row and open one -/
theorem Lif.set {w : World} {a g n k xs o nx} (h : Lif w a g n k xs o nx) (j : Nat) (v : Int) {o' nx' : Int} (hk : Ok n k (xs.set j v) o' nx') (e : nx' = nx) : Lif (w.setCell ⟨g, j, none⟩ (.int .i64 v)) a g n k (xs.set j v) o' nx' := by
  subst e
  refine ⟨(Below.heap_setCell w _ _ a (fun x => h.ne x.symm)).trans h.top, h.row.stored j v, h.ne, hk⟩
/-- another next page -/
theorem Lif.next {w : World} {a g n k xs o nx} (h : Lif w a g n k xs o nx) {o' nx' : Int} (hk : Ok n k xs o' nx') : Lif (w.setCell ⟨a, 2, none⟩ (.int .i64 nx')) a g n k xs o' nx' := by
  refine ⟨?_, h.row.other (a := ⟨a, 2, none⟩) (fun x => h.ne x.symm) _, h.ne, hk⟩
  exact heap_setCell_same w a 2 _ 109 _ h.top
/-- both, in either order -/
theorem Lif.both {w : World} {a g n k xs o nx} (h : Lif w a g n k xs o nx) (j : Nat) (v : Int) {o' nx' : Int} (hk : Ok n k (xs.set j v) o' nx') : Lif ((w.setCell ⟨g, j, none⟩ (.int .i64 v)).setCell ⟨a, 2, none⟩ (.int .i64 nx')) a g n k (xs.set j v) o' nx' := by
  refine ⟨?_, (h.row.stored j v).other (a := ⟨a, 2, none⟩) (fun x => h.ne x.symm) _, h.ne, hk⟩
  exact heap_setCell_same _ a 2 _ 109 _ ((Below.heap_setCell w _ _ a (fun x => h.ne x.symm)).trans h.top)
theorem Lif.both' {w : World} {a g n k xs o nx} (h : Lif w a g n k xs o nx) (j : Nat) (v : Int) {o' nx' : Int} (hk : Ok n k (xs.set j v) o' nx') : Lif ((w.setCell ⟨a, 2, none⟩ (.int .i64 nx')).setCell ⟨g, j, none⟩ (.int .i64 v)) a g n k (xs.set j v) o' nx' := by
  refine ⟨?_, (h.row.other (a := ⟨a, 2, none⟩) (fun x => h.ne x.symm) _).stored j v, h.ne, hk⟩
  exact (Below.heap_setCell _ _ _ a (fun x => h.ne x.symm)).trans (heap_setCell_same w a 2 _ 109 _ h.top)
theorem is_any {w : World} {a g n k xs o nx} (h : Lif w a g n k xs o nx) (b : Int) : Calls Tryd.prog 77 #[.pointer (some ⟨a, 0, none⟩), .int .i64 b] w fun e w' => e = .returned (.int .i64 (isL xs b)) ∧ w' = w := by
  obtain ⟨c0, c1, c2, f2⟩ := h.cells
  have hl := h.ok.len
  have hnb := h.ok.nb
  by_cases h0 : 0 ≤ b
  · by_cases h1 : b < n
    · obtain ⟨j, rfl⟩ := Int.eq_ofNat_of_zero_le h0
      have hj : j < n := by omega
      have cj := h.at j hj
      rw [isL_in xs j (by omega)]
      generalize xs.getD j 0 = x at *
      clear h hl
      go_enter Tryd.func77, Tryd.ntmps77
      go_wp2
      go_ret
      exact ⟨rfl, rfl⟩
    · rw [isL_out xs b (by omega)]
      clear h hl
      go_enter Tryd.func77, Tryd.ntmps77
      go_wp2
      go_ret
      exact ⟨rfl, rfl⟩
  · rw [isL_out xs b (by omega)]
    clear h hl
    go_enter Tryd.func77, Tryd.ntmps77
    go_wp2
    go_ret
    exact ⟨rfl, rfl⟩
theorem ret_int {k : IntKind} {a b : Int} (h : a = b) : Ending.returned (.int k a) = .returned (.int k b) := by rw [h]
theorem count_any {w : World} {a g n k xs o nx} (h : Lif w a g n k xs o nx) (v : Int) : Calls Tryd.prog 78 #[.pointer (some ⟨a, 0, none⟩), .int .i64 v] w fun e w' => e = .returned (.int .i64 (cnt xs v)) ∧ w' = w := by
  obtain ⟨c0, c1, c2, f2⟩ := h.cells
  have hl := h.ok.len
  have hnb := h.ok.nb
  have H := Hid.mk h
  have HL := Hid.mk hl
  clear h hl
  go_enter Tryd.func78, Tryd.ntmps78
  go_wp2
  go_loop [5, 15] (fun s i => ∃ j : Nat, j ≤ n ∧ i = .int .i64 j ∧ s = .int .i64 (cnt (xs.take j) v)) (fun _ i => n - (intOf i).toNat)
  case atStart => exact ⟨0, Nat.zero_le _, rfl, rfl⟩
  case round =>
    obtain ⟨j, hj, rfl, rfl⟩ := hrel
    by_cases hlt : j < n
    · have cj := H.out.at j hlt
      have hr := cnt_range (xs.take j) v
      have hr2 : (xs.take j).length ≤ 32 := by rw [List.length_take, HL.out]; omega
      have hs := Hid.mk (cnt_take xs j (by rw [HL.out]; exact hlt) v)
      generalize xs.getD j 0 = x at *
      have hlt1 : (j : Int) < n := by omega
      by_cases hx : x = v
      · rw [if_pos hx] at hs
        subst hx
        generalize cnt (List.take j xs) x = c at *
        go_wp2
        refine ⟨⟨j + 1, by omega, by go_num, ?_⟩, by simp [intOf]; omega⟩
        rw [hs.out]
      · rw [if_neg hx] at hs
        generalize cnt (List.take j xs) v = c at *
        go_wp2
        refine ⟨⟨j + 1, by omega, by go_num, ?_⟩, by simp [intOf]; omega⟩
        rw [hs.out, Int.add_zero]
    · have hlt1 : ¬ (j : Int) < n := by omega
      go_wp2
      go_ret
      exact ⟨ret_int (by rw [List.take_of_length_le (by rw [HL.out]; omega)]), rfl⟩
theorem index_any {w : World} {a g n k xs o nx} (h : Lif w a g n k xs o nx) : Calls Tryd.prog 75 #[.slice (some ⟨g, 0, none⟩) n n, .int .i64 1] w fun e w' => e = .returned (.int .i64 o) ∧ w' = w := by
  have hnb := h.ok.nb
  have ho := h.ok.or
  have H := Hid.mk h
  clear h
  go_enter Tryd.func75, Tryd.ntmps75
  go_wp2
  go_loop [8] (fun i => ∃ j : Nat, j ≤ n ∧ i = .int .i64 j ∧ (o < 0 ∨ (j : Int) ≤ o)) (fun i => n - (intOf i).toNat)
  case atStart => exact ⟨0, Nat.zero_le _, rfl, by omega⟩
  case round =>
    obtain ⟨j, hj, rfl, hjo⟩ := hrel
    by_cases hlt : j < n
    · have cj := H.out.at j hlt
      have hp := H.out.ok.opn j hlt
      generalize xs.getD j 0 = x at *
      have hlt1 : (j : Int) < n := by omega
      by_cases hx : x = 1
      · subst hx
        have hq : (j : Int) = o := hp.1 rfl
        clear hp
        subst hq
        go_wp2
        go_ret
        exact ⟨rfl, rfl⟩
      · have hx2 : ¬ (1 : Int) = x := fun e => hx e.symm
        have hq : ¬ (j : Int) = o := fun e => hx (hp.2 e)
        clear hp
        go_wp2
        exact ⟨⟨j + 1, by omega, by go_num, by omega⟩, by simp [intOf]; omega⟩
    · have hlt1 : ¬ (j : Int) < n := by omega
      have hq : o = -1 := by omega
      subst hq
      go_wp2
      go_ret
      exact ⟨rfl, rfl⟩
theorem at_some {w : World} {a g n k xs o nx} (h : Lif w a g n k xs o nx) (ho : 0 ≤ o) : Calls Tryd.prog 62 #[.pointer (some ⟨a, 0, none⟩)] w fun e w' => e = .returned (.tuple #[.int .i64 o, .int .i64 nx, .bool true]) ∧ ∃ m, w' = w.drewN m := by
  obtain ⟨c0, c1, c2, f2⟩ := h.cells
  have H := Hid.mk h
  clear h
  go_enter Tryd.func62, Tryd.ntmps62
  go_wp2_with (go_at_call 75; refine (index_any H.out).mono ?_; rintro e w' ⟨rfl, rfl⟩)
  go_region
  go_wp2
  go_ret3
  exact ⟨rfl, _, rfl⟩
theorem at_none {w : World} {a g n k xs o nx} (h : Lif w a g n k xs o nx) (ho : o = -1) : Calls Tryd.prog 62 #[.pointer (some ⟨a, 0, none⟩)] w fun e w' => e = .returned (.tuple #[.int .i64 0, .int .i64 0, .bool false]) ∧ w' = w := by
  subst ho
  obtain ⟨c0, c1, c2, f2⟩ := h.cells
  have H := Hid.mk h
  clear h
  go_enter Tryd.func62, Tryd.ntmps62
  go_wp2_with (go_at_call 75; refine (index_any H.out).mono ?_; rintro e w' ⟨rfl, rfl⟩)
  go_ret3
  exact ⟨rfl, rfl⟩
theorem drewN_drewN (w : World) (a b : Nat) : (w.drewN a).drewN b = w.drewN (a + b) := by
  induction b with
  | zero => rfl
  | succ b ih => show ((w.drewN a).drewN b).drew = (w.drewN (a + b)).drew; rw [ih]
theorem Tryd.info3 : (Tryd.prog.info? 3).map (fun i => (i.zero, i.size, i.bytes)) = some (some (.int .i64 0), 1, 8) := by kernel_rfl
theorem madeRow (n : Nat) : madeCells #[.int .i64 0] n = cellsOf .i64 (List.replicate n 0) := by
  unfold madeCells cellsOf
  apply Array.ext
  · simp
  · intro i h1 h2
    simp [Nat.mod_one]
theorem new_any (n k : Nat) (hn : 1 ≤ n ∧ n ≤ 32) (hk : 1 ≤ k ∧ k ≤ 16) (w : World) : Calls Tryd.prog 21 #[.int .i64 n, .int .i64 k] w fun e w' =>
    ∃ a g, e = .returned (.tuple #[.pointer (some ⟨a, 0, none⟩), .int .i64 0]) ∧ Lif w' a g n k (List.replicate n 0) (-1) 0 ∧ Below w.heap.size w w' ∧ ∀ i, ownL a g i → w.heap.size ≤ i := by
  have hmk := run_make_row' (P := Tryd.prog) 31 3 (.int .i64 0) 8 Tryd.underlying31 Tryd.info3 rfl .i64 .i64 n (by omega) (by omega)
  rw [madeRow] at hmk
  go_enter Tryd.func21, Tryd.ntmps21
  go_wp2
  go_ret2
  have hr := Row.fresh w 3 .i64 (List.replicate n 0)
  have hb := (Below.refl w.heap.size w).alloc (Nat.le_refl _) (.cells (cellsOf .i64 (List.replicate n 0)) 3)
  have hz := size_alloc w (.cells (cellsOf .i64 (List.replicate n 0)) 3)
  generalize w.alloc (.cells (cellsOf .i64 (List.replicate n 0)) 3) = W at *
  refine ⟨w.heap.size + 1, w.heap.size, rfl, ⟨?_, hr.alloc _, by omega, Ok.free n k hn hk⟩, hb.alloc hb.size _, ?_⟩
  · rw [← hz]; exact heap_alloc_new W _
  · rintro i (rfl | rfl) <;> omega
theorem new_no (n k : Int) (h : ¬ ((1 ≤ n ∧ n ≤ 32) ∧ 1 ≤ k ∧ k ≤ 16)) (w : World) : Calls Tryd.prog 21 #[.int .i64 n, .int .i64 k] w fun e w' => e = .returned (.tuple #[.pointer none, .int .i64 1]) ∧ w' = w := by
  by_cases h1 : n < 1
  · go_enter Tryd.func21, Tryd.ntmps21
    go_wp2
    go_ret2
    exact ⟨rfl, rfl⟩
  · by_cases h2 : 32 < n
    · go_enter Tryd.func21, Tryd.ntmps21
      go_wp2
      go_ret2
      exact ⟨rfl, rfl⟩
    · by_cases h3 : k < 1
      · go_enter Tryd.func21, Tryd.ntmps21
        go_wp2
        go_ret2
        exact ⟨rfl, rfl⟩
      · have h4 : 16 < k := by omega
        clear h
        go_enter Tryd.func21, Tryd.ntmps21
        go_wp2
        go_ret2
        exact ⟨rfl, rfl⟩
theorem open_yes {w : World} {a g n k xs o nx} (h : Lif w a g n k xs o nx) (j : Nat) (hj : j < n) (hx : xs.getD j 0 = 0) (ho : o = -1) : Calls Tryd.prog 65 #[.pointer (some ⟨a, 0, none⟩), .int .i64 j] w fun e w' =>
    e = .returned (.bool true) ∧ Lif w' a g n k (xs.set j 1) j 0 ∧ Kp (ownL a g) w w' := by
  subst ho
  obtain ⟨c0, c1, c2, f2⟩ := h.cells
  have hnb := h.ok.nb
  have hi := is_any h j
  rw [isL_in xs j (by rw [h.ok.len]; exact hj), hx] at hi
  have hc := count_any h 1
  have hc0 : cnt xs 1 = 0 := by have := h.ok.cnt_one; have := cnt_range xs 1; omega
  rw [hc0] at hc
  have cj := h.at j hj
  have fj := h.row.frozen j
  have hne := h.ne
  have H := Hid.mk h
  have HI := Hid.mk hi
  have HC := Hid.mk hc
  clear h hi hc hc0
  have hj1 : (j : Int) < n := by omega
  rw [hx] at cj
  clear hx
  go_enter Tryd.func65, Tryd.ntmps65
  go_wp2_with (first
    | (go_at_call 77; refine HI.out.mono ?_; rintro e w' ⟨rfl, rfl⟩)
    | (go_at_call 78; refine HC.out.mono ?_; rintro e w' ⟨rfl, rfl⟩))
  go_ret
  refine ⟨rfl, ?_, ?_⟩
  · exact H.out.both j 1 (H.out.ok.opened j hj)
  · exact ((Kp.refl _ _).setCell (p := ⟨g, j, none⟩) (Or.inr rfl) _).setCell (p := ⟨a, 2, none⟩) (Or.inl rfl) _
theorem open_no {w : World} {a g n k xs o nx} (h : Lif w a g n k xs o nx) (b : Int) (hx : isL xs b ≠ 0 ∨ 0 ≤ o) : Calls Tryd.prog 65 #[.pointer (some ⟨a, 0, none⟩), .int .i64 b] w fun e w' => e = .returned (.bool false) ∧ w' = w := by
  have HI := Hid.mk (is_any h b)
  have HC := Hid.mk (count_any h 1)
  have hc := h.ok.cnt_one
  clear h
  generalize isL xs b = x at *
  generalize cnt xs 1 = c at *
  by_cases h0 : x = 0
  · have hc1 : 0 < c := by omega
    clear hc hx
    subst h0
    go_enter Tryd.func65, Tryd.ntmps65
    go_wp2_with (first
      | (go_at_call 77; refine HI.out.mono ?_; rintro e w' ⟨rfl, rfl⟩)
      | (go_at_call 78; refine HC.out.mono ?_; rintro e w' ⟨rfl, rfl⟩))
    go_ret
    exact ⟨rfl, rfl⟩
  · clear hc hx
    go_enter Tryd.func65, Tryd.ntmps65
    go_wp2_with (first
      | (go_at_call 77; refine HI.out.mono ?_; rintro e w' ⟨rfl, rfl⟩)
      | (go_at_call 78; refine HC.out.mono ?_; rintro e w' ⟨rfl, rfl⟩))
    go_ret
    exact ⟨rfl, rfl⟩
theorem let_yes {w : World} {a g n k xs o nx} (h : Lif w a g n k xs o nx) (j : Nat) (hj : j < n) (hx : xs.getD j 0 ≠ 3) (v : Int) (hv : 0 ≤ v ∧ v ≤ 3) (h1 : v ≠ 1) : Calls Tryd.prog 85 #[.pointer (some ⟨a, 0, none⟩), .int .i64 j, .int .i64 v] w fun e w' =>
    e = .returned (.bool true) ∧ Lif w' a g n k (xs.set j v) (if o = j then -1 else o) nx ∧ Kp (ownL a g) w w' := by
  obtain ⟨c0, c1, c2, f2⟩ := h.cells
  have hnb := h.ok.nb
  have hi := is_any h j
  rw [isL_in xs j (by rw [h.ok.len]; exact hj)] at hi
  have hk := h.ok.kind j hj
  have cj := h.at j hj
  have fj := h.row.frozen j
  have hne := h.ne
  have HL := Hid.mk (h.ok.laid j hj v hv h1)
  have H := Hid.mk h
  have HI := Hid.mk hi
  clear h hi h1
  generalize (if o = (j : Int) then (-1 : Int) else o) = o' at *
  have hj1 : (j : Int) < n := by omega
  generalize xs.getD j 0 = x at *
  have hx0 : ¬ x < 0 := by omega
  replace hx : (x == 3) = false := by simpa using hx
  clear hk hv
  go_enter Tryd.func85, Tryd.ntmps85
  go_wp2_with (go_at_call 77; refine HI.out.mono ?_; rintro e w' ⟨rfl, rfl⟩)
  go_ret
  exact ⟨rfl, H.out.set j v HL.out rfl, (Kp.refl _ _).setCell (p := ⟨g, j, none⟩) (Or.inr rfl) _⟩
theorem let_no {w : World} {a g n k xs o nx} (h : Lif w a g n k xs o nx) (b : Int) (hx : isL xs b < 0 ∨ isL xs b = 3) (v : Int) : Calls Tryd.prog 85 #[.pointer (some ⟨a, 0, none⟩), .int .i64 b, .int .i64 v] w fun e w' => e = .returned (.bool false) ∧ w' = w := by
  have HI := Hid.mk (is_any h b)
  clear h
  generalize isL xs b = x at *
  by_cases h0 : x < 0
  · clear hx
    go_enter Tryd.func85, Tryd.ntmps85
    go_wp2_with (go_at_call 77; refine HI.out.mono ?_; rintro e w' ⟨rfl, rfl⟩)
    go_ret
    exact ⟨rfl, rfl⟩
  · have h3 : x = 3 := by omega
    clear hx h0
    subst h3
    go_enter Tryd.func85, Tryd.ntmps85
    go_wp2_with (go_at_call 77; refine HI.out.mono ?_; rintro e w' ⟨rfl, rfl⟩)
    go_ret
    exact ⟨rfl, rfl⟩
theorem full_of {p : Value} {b : Int} {w : World} {R : Bool} {Q : World → Prop} (h : Calls Tryd.prog 85 #[p, .int .i64 b, .int .i64 2] w fun e w' => e = .returned (.bool R) ∧ Q w') : Calls Tryd.prog 70 #[p, .int .i64 b] w fun e w' => e = .returned (.bool R) ∧ Q w' := by
  have H := Hid.mk h
  clear h
  go_enter Tryd.func70, Tryd.ntmps70
  go_wp2_with (go_at_call 85; refine H.out.mono ?_; rintro e w' ⟨rfl, hq⟩)
  go_ret
  exact ⟨rfl, hq⟩
theorem bad_of {p : Value} {b : Int} {w : World} {R : Bool} {Q : World → Prop} (h : Calls Tryd.prog 85 #[p, .int .i64 b, .int .i64 3] w fun e w' => e = .returned (.bool R) ∧ Q w') : Calls Tryd.prog 83 #[p, .int .i64 b] w fun e w' => e = .returned (.bool R) ∧ Q w' := by
  have H := Hid.mk h
  clear h
  go_enter Tryd.func83, Tryd.ntmps83
  go_wp2_with (go_at_call 85; refine H.out.mono ?_; rintro e w' ⟨rfl, hq⟩)
  go_ret
  exact ⟨rfl, hq⟩
theorem take_none {w : World} {a g n k xs o nx} (h : Lif w a g n k xs o nx) (ho : o = -1) : Calls Tryd.prog 66 #[.pointer (some ⟨a, 0, none⟩)] w fun e w' => e = .returned (.tuple #[.int .i64 0, .int .i64 0, .bool false]) ∧ w' = w := by
  have H := Hid.mk (at_none h ho)
  clear h
  go_enter Tryd.func66, Tryd.ntmps66
  go_wp2_with (go_at_call 62; refine H.out.mono ?_; rintro e w' ⟨rfl, rfl⟩)
  go_ret3
  exact ⟨rfl, rfl⟩
/-- what a page that is taken leaves -/
def tkX (k : Nat) (xs : List Int) (j : Nat) (nx : Int) : List Int := if nx + 1 = k then xs.set j 2 else xs
def tkO (k : Nat) (j : Nat) (nx : Int) : Int := if nx + 1 = k then -1 else j
theorem take_some {w : World} {a g n k xs o nx} (h : Lif w a g n k xs o nx) (j : Nat) (ho : o = j) : Calls Tryd.prog 66 #[.pointer (some ⟨a, 0, none⟩)] w fun e w' =>
    e = .returned (.tuple #[.int .i64 j, .int .i64 nx, .bool true]) ∧ Lif w' a g n k (tkX k xs j nx) (tkO k j nx) (nx + 1) ∧ Kp (ownL a g) w w' := by
  subst ho
  obtain ⟨c0, c1, c2, f2⟩ := h.cells
  have hkb := h.ok.kb
  have hnx := h.ok.nxr
  have hno := h.ok.nxo (by omega)
  obtain ⟨hj, hx⟩ := h.ok.open_at j rfl
  have cj := h.at j hj
  rw [hx] at cj
  have fj := h.row.frozen j
  have hne := h.ne
  have hj1 : (j : Int) < n := by omega
  have hnb := h.ok.nb
  have HA := Hid.mk (at_some h (by omega))
  unfold tkX tkO
  by_cases he : nx + 1 = k
  · rw [if_pos he, if_pos he]
    have HL := Hid.mk (h.ok.last j rfl he)
    have H := Hid.mk h
    clear h hx
    go_enter Tryd.func66, Tryd.ntmps66
    go_upto_region 5 with (go_at_call 62; refine HA.out.mono ?_; rintro e w' ⟨rfl, m, rfl⟩)
    have hq := (H.out.drewN m).both' j 2 HL.out
    have HK := Hid.mk (((Kp.refl (ownL a g) w).drewN m).setCell (p := ⟨a, 2, none⟩) (Or.inl rfl) (.int .i64 k))
    rw [he] at hq
    go_region
    go_wp2
    go_ret3
    exact ⟨rfl, by rw [he]; exact hq.drew, (HK.out.setCell (p := ⟨g, j, none⟩) (Or.inr rfl) _).drew⟩
  · rw [if_neg he, if_neg he]
    have HL := Hid.mk (h.ok.more (by omega))
    have H := Hid.mk h
    clear h hx
    go_enter Tryd.func66, Tryd.ntmps66
    go_upto_region 5 with (go_at_call 62; refine HA.out.mono ?_; rintro e w' ⟨rfl, m, rfl⟩)
    go_region
    go_wp2
    go_ret3
    exact ⟨rfl, ((H.out.drewN m).next HL.out).drew, (((Kp.refl (ownL a g) w).drewN m).setCell (p := ⟨a, 2, none⟩) (Or.inl rfl) _).drew⟩
/-! without a Life -/
theorem is_nil (b : Int) (w : World) : Calls Tryd.prog 77 #[.pointer none, .int .i64 b] w fun e w' => e = .returned (.int .i64 (-1)) ∧ w' = w := by
  go_enter Tryd.func77, Tryd.ntmps77
  go_wp2
  go_ret
  exact ⟨rfl, rfl⟩
theorem count_nil (v : Int) (w : World) : Calls Tryd.prog 78 #[.pointer none, .int .i64 v] w fun e w' => e = .returned (.int .i64 0) ∧ w' = w := by
  go_enter Tryd.func78, Tryd.ntmps78
  go_wp2
  go_ret
  exact ⟨rfl, rfl⟩
theorem at_nil (w : World) : Calls Tryd.prog 62 #[.pointer none] w fun e w' => e = .returned (.tuple #[.int .i64 0, .int .i64 0, .bool false]) ∧ w' = w := by
  go_enter Tryd.func62, Tryd.ntmps62
  go_wp2
  go_ret3
  exact ⟨rfl, rfl⟩
theorem take_nil (w : World) : Calls Tryd.prog 66 #[.pointer none] w fun e w' => e = .returned (.tuple #[.int .i64 0, .int .i64 0, .bool false]) ∧ w' = w := by
  go_enter Tryd.func66, Tryd.ntmps66
  go_wp2_with (go_at_call 62; refine (at_nil _).mono ?_; rintro e w' ⟨rfl, rfl⟩)
  go_ret3
  exact ⟨rfl, rfl⟩
theorem open_nil (b : Int) (w : World) : Calls Tryd.prog 65 #[.pointer none, .int .i64 b] w fun e w' => e = .returned (.bool false) ∧ w' = w := by
  go_enter Tryd.func65, Tryd.ntmps65
  go_wp2_with (first
    | (go_at_call 77; refine (is_nil _ _).mono ?_; rintro e w' ⟨rfl, rfl⟩)
    | (go_at_call 78; refine (count_nil _ _).mono ?_; rintro e w' ⟨rfl, rfl⟩))
  go_ret
  exact ⟨rfl, rfl⟩
theorem let_nil (b v : Int) (w : World) : Calls Tryd.prog 85 #[.pointer none, .int .i64 b, .int .i64 v] w fun e w' => e = .returned (.bool false) ∧ w' = w := by
  go_enter Tryd.func85, Tryd.ntmps85
  go_wp2_with (go_at_call 77; refine (is_nil _ _).mono ?_; rintro e w' ⟨rfl, rfl⟩)
  go_ret
  exact ⟨rfl, rfl⟩
end Go.Proofs.YtbhggcleijjofaaDoor.Lf
