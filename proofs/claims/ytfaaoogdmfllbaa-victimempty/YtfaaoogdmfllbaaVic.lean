/-
  Blocks in memory, what each is worth, and which is worth most: the walks of worth, score.Best, Choose and Empty. No condition.
-/
import Derived.Test.YtfaaoogdmfllbaaOpr
import Derived.Test.YtfaaoogdmfllbaaMem
import Derived.WalkSpells
import Derived.Deep.Cut
import Derived.Deep.QuietTactic
import Derived.BigQuiet
namespace Go.Proofs.Ytfaaoogdmfllbaa
open Go Go.RowKit

theorem Hid.mk {p : Prop} (h : p) : Hid p := h
/-- a number, or none -/
def WIs (o : Option Nat) (r : Nat) : Prop := r < 18446744073709551616 ∧ match o with
  | some v => r = v ∧ nanB v = false
  | none => nanB r = true
def okO (o : Option Nat) : Option Nat := match o with
  | some v => if nanB v = true then none else some v
  | none => none
theorem Is.ok {o : Option Nat} {r : Nat} (h : Is o r) : WIs (okO o) r := by
  cases o with
  | none => exact h
  | some v =>
    obtain ⟨h1, rfl⟩ := h
    unfold okO
    by_cases hn : nanB r = true
    · simp only [hn, if_true]; exact ⟨h1, hn⟩
    · simp only [hn]; exact ⟨h1, rfl, by simpa using hn⟩
/-- a block: its number, how many pages live, how many there are, its age -/
abbrev Q4 := Int × Int × Int × Int
/-- what it is worth; none: it may not be chosen -/
def wq (q : Q4) : Option Nat := if q.2.2.1 ≤ q.2.1 then none else okO (ofO q.2.1 q.2.2.1 q.2.2.2)
/-- the place of the one that is worth most among the first so many -/
def bst (q : Nat → Option Nat) : Nat → Int
  | 0 => -1
  | k + 1 => match q k with
    | none => bst q k
    | some v => if bst q k < 0 ∨ 0 < ordF v ((q (bst q k).toNat).getD 0) then (k : Int) else bst q k
theorem bst_none {q : Nat → Option Nat} {k : Nat} (h : q k = none) : bst q (k + 1) = bst q k := by rw [bst, h]
theorem bst_one {q : Nat → Option Nat} {k v : Nat} (h : q k = some v) : bst q (k + 1) = if bst q k < 0 ∨ 0 < ordF v ((q (bst q k).toNat).getD 0) then (k : Int) else bst q k := by rw [bst, h]
theorem bst_range (q : Nat → Option Nat) (k : Nat) : -1 ≤ bst q k ∧ bst q k < k := by
  induction k with
  | zero => show (-1 : Int) ≤ -1 ∧ (-1 : Int) < 0; omega
  | succ k ih =>
    cases h : q k with
    | none => rw [bst_none h]; omega
    | some v => rw [bst_one h]; split <;> omega
theorem bst_some (q : Nat → Option Nat) (k : Nat) (h0 : 0 ≤ bst q k) : ∃ v, q (bst q k).toNat = some v := by
  induction k with
  | zero => exact absurd h0 (show ¬ (0 : Int) ≤ -1 by decide)
  | succ k ih =>
    cases h : q k with
    | none => rw [bst_none h] at h0 ⊢; exact ih h0
    | some v =>
      rw [bst_one h] at h0 ⊢
      by_cases hc : bst q k < 0 ∨ 0 < ordF v ((q (bst q k).toNat).getD 0)
      · rw [if_pos hc, Int.toNat_natCast]; exact ⟨v, h⟩
      · rw [if_neg hc] at h0 ⊢; exact ih h0

/-- the place of the greatest of the first k -/
def best (xs : Nat → Nat) : Nat → Int
  | 0 => -1
  | k + 1 => if nanB (xs k) then best xs k else if best xs k < 0 ∨ 0 < ordF (xs k) (xs (best xs k).toNat) then k else best xs k
theorem best_range (xs : Nat → Nat) (k : Nat) : -1 ≤ best xs k ∧ best xs k < k := by
  induction k with
  | zero => simp [best]
  | succ k ih =>
    unfold best
    split
    · omega
    · split <;> omega
theorem best_is (q : Nat → Option Nat) (xs : Nat → Nat) (n : Nat) (h : ∀ i, i < n → WIs (q i) (xs i)) : best xs n = bst q n := by
  induction n with
  | zero => rfl
  | succ n ih =>
    have e := ih fun i hi => h i (by omega)
    have hw := (h n (by omega)).2
    cases hq : q n with
    | none =>
      rw [hq] at hw
      simp only at hw
      rw [bst_none hq, best, if_pos hw, e]
    | some v =>
      rw [hq] at hw
      obtain ⟨h1, h2⟩ := hw
      rw [bst_one hq, best, h1, h2, e]
      simp only [Bool.false_eq_true, if_false]
      by_cases h0 : bst q n < 0
      · rw [if_pos (.inl h0), if_pos (.inl h0)]
      · obtain ⟨u, hu⟩ := bst_some q n (by omega)
        have hr := bst_range q n
        have hx := (h (bst q n).toNat (by omega)).2
        rw [hu] at hx
        rw [hx.1, hu]
        rfl

set_option maxHeartbeats 400000 in
theorem best_any (a : Addr) (len cap : Nat) (xs : Nat → Nat) (w : World) (hl : len ≤ cap) (hm : cap ≤ maxLen)
    (hc : ∀ i, i < len → w.cell? (a.add i) = some (.float .f64 (xs i))) (hx : ∀ i, xs i < 18446744073709551616) :
    Calls Try.prog 17 #[.slice (some a) len cap] w fun e w' => e = .returned (.int .i64 (best xs len)) ∧ w' = w := by
  unfold maxLen at hm
  go_enter Try.func17, Try.ntmps17
  go_wp2
  go_loop [3, 8] (fun b i => ∃ k : Nat, k ≤ len ∧ i = .int .i64 k ∧ b = .int .i64 (best xs k))
     (fun _ i => len - (intOf i).toNat)
  case atStart => exact ⟨0, Nat.zero_le _, rfl, rfl⟩
  case round =>
    obtain ⟨k, hk, rfl, rfl⟩ := hrel
    have hr := best_range xs k
    go_wp2_with (first
      | (go_at_call 8; refine (isNaN_any _ _).mono ?_; rintro e w' ⟨rfl, rfl⟩)
      | (go_at_call 9; refine (order_any _ _ _ (hx _) (hx _)).mono ?_; rintro e w' ⟨rfl, rfl⟩))
    all_goals try
      refine ⟨⟨k + 1, by omega, by go_num, ?_⟩, by simp [intOf]; omega⟩
    · simp_all [best]
    · simp_all [best]
    · simp_all [best]
      intro _
      omega
    · simp_all [best]
    · have he : k = len := by omega
      subst he
      go_ret
      exact ⟨rfl, rfl⟩

/-- from this address on lie so many blocks -/
def Ss (w : World) (a : Option Addr) (n : Nat) (f : Nat → Q4) : Prop := ∀ i, i < n → ∃ g o, a = some ⟨g, o, none⟩ ∧ g < w.heap.size ∧
  w.cell? ⟨g, o + i * 4, none⟩ = some (.int .i64 (f i).1) ∧ w.cell? ⟨g, o + i * 4 + 1, none⟩ = some (.int .i64 (f i).2.1) ∧ w.cell? ⟨g, o + i * 4 + 2, none⟩ = some (.int .i64 (f i).2.2.1) ∧ w.cell? ⟨g, o + i * 4 + 3, none⟩ = some (.int .i64 (f i).2.2.2)
theorem Ss.call {w w' : World} {a : Option Addr} {n : Nat} {f : Nat → Q4} (h : Ss w a n f) (b : Below w.heap.size w w') : Ss w' a n f := by
  intro i hi
  obtain ⟨g, o, ha, hg, h1, h2, h3, h4⟩ := h i hi
  refine ⟨g, o, ha, Nat.lt_of_lt_of_le hg b.size, ?_, ?_, ?_, ?_⟩
  · rw [b.cell (p := ⟨g, o + i * 4, none⟩) hg]; exact h1
  · rw [b.cell (p := ⟨g, o + i * 4 + 1, none⟩) hg]; exact h2
  · rw [b.cell (p := ⟨g, o + i * 4 + 2, none⟩) hg]; exact h3
  · rw [b.cell (p := ⟨g, o + i * 4 + 3, none⟩) hg]; exact h4
theorem Ss.less {w : World} {a : Option Addr} {n m : Nat} {f : Nat → Q4} (h : Ss w a n f) (hm : m ≤ n) : Ss w a m f := fun i hi => h i (by omega)

/-- floats as cells -/
def cellsF (l : List Nat) : Array Value := (l.map (Value.float .f64)).toArray
/-- block g is the row of these floats -/
def FRow (w : World) (g : Nat) (l : List Nat) : Prop := w.heap[g]? = some (.cells (cellsF l) 24 (0, 0))
theorem FRow.lt {w : World} {g l} (h : FRow w g l) : g < w.heap.size := (Array.getElem?_eq_some_iff.1 h).1
theorem FRow.cell {w : World} {g l} (h : FRow w g l) (j : Nat) (hj : j < l.length) : w.cell? ⟨g, j, none⟩ = some (.float .f64 (l.getD j 0)) := by
  rw [cell_of_row w g j _ 24 _ h]
  simp [cellsF, List.getD_eq_getElem?_getD, hj]
theorem FRow.frozen {w : World} {g l} (h : FRow w g l) (j : Nat) : w.frozen? ⟨g, j, none⟩ = false := frozen_of_row w g j _ 24 h
theorem FRow.call {g : Nat} {w w' : World} {l} (h : FRow w g l) (b : Below w.heap.size w w') : FRow w' g l := by
  unfold FRow
  rw [b.block g h.lt]
  exact h
theorem FRow.fresh (w : World) (l : List Nat) : FRow (w.alloc (.cells (cellsF l) 24)) w.heap.size l := heap_alloc_new w _
theorem FRow.stored {w : World} {g l} (h : FRow w g l) (j : Nat) (v : Nat) : FRow (w.setCell ⟨g, j, none⟩ (.float .f64 v)) g (l.set j v) := by
  have := heap_setCell_same w g j _ 24 (.float .f64 v) h
  have e : (cellsF l).setIfInBounds j (.float .f64 v) = cellsF (l.set j v) := by simp [cellsF, List.map_set]
  rw [e] at this
  exact this

theorem worth_any (q : Q4) (w : World) :
    Calls Try.prog 16 #[.agg #[.int .i64 q.1, .int .i64 q.2.1, .int .i64 q.2.2.1, .int .i64 q.2.2.2]] w fun e w' => ∃ r, e = .returned (.float .f64 r) ∧ WIs (wq q) r ∧ Below w.heap.size w w' := by
  obtain ⟨b, live, pages, age⟩ := q
  unfold wq
  simp only
  by_cases h : pages ≤ live
  · rw [if_pos h]
    go_enter Try.func16, Try.ntmps16
    go_wp2_with (go_at_call 13; refine (nan_any _).mono ?_; rintro e w' ⟨rfl, rfl⟩)
    go_ret
    exact ⟨_, rfl, ⟨by decide, show nanB 9221120237041090561 = true by kernel_rfl⟩, (Below.refl _ _).alloc (Nat.le_refl _) _⟩
  · rw [if_neg h]
    have hO := Hid.mk (of_any live pages age)
    go_enter Try.func16, Try.ntmps16
    go_wp2_with (go_at_call 7; refine (hO.out _).mono ?_; rintro e w' ⟨r, rfl, hr, b1⟩)
    go_ret
    exact ⟨_, rfl, hr.ok, below3 ((Below.refl _ _).alloc (Nat.le_refl _) _) b1⟩
end Go.Proofs.Ytfaaoogdmfllbaa
