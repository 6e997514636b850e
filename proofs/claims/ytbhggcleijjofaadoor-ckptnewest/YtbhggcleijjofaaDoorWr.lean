/-
  Blocks and how often they were erased, in memory: which is the least one, and the greatest count; the walks of Least, greatest, above, Spread. No condition.
-/
import Derived.Test.YtbhggcleijjofaaDoorRows
import Derived.Test.YtbhggcleijjofaaDoorMem
import Derived.Test.YtbhggcleijjofaaDoorChip
import Derived.WalkSpells
import Derived.WalkLawsBesides
import Derived.Deep.Cut
import Derived.Deep.QuietTactic
import Derived.BigQuiet
namespace Go.Proofs.YtbhggcleijjofaaDoor.We
open Go Go.RowKit

theorem ret_int {k : IntKind} {a b : Int} (h : a = b) : Ending.returned (.int k a) = .returned (.int k b) := by rw [h]
/-- from this address on lie so many blocks with their counts -/
def Ws (w : World) (a : Option Addr) (n : Nat) (f : Nat → Int × Int) : Prop := ∀ i, i < n → ∃ g o, a = some ⟨g, o, none⟩ ∧ g < w.heap.size ∧
  w.cell? ⟨g, o + i * 2, none⟩ = some (.int .i64 (f i).1) ∧ w.cell? ⟨g, o + i * 2 + 1, none⟩ = some (.int .i64 (f i).2)
theorem Ws.call {w w' : World} {a : Option Addr} {n : Nat} {f : Nat → Int × Int} (h : Ws w a n f) (b : Below w.heap.size w w') : Ws w' a n f := by
  intro i hi
  obtain ⟨g, o, ha, hg, h1, h2⟩ := h i hi
  refine ⟨g, o, ha, Nat.lt_of_lt_of_le hg b.size, ?_, ?_⟩
  · rw [b.cell (p := ⟨g, o + i * 2, none⟩) hg]; exact h1
  · rw [b.cell (p := ⟨g, o + i * 2 + 1, none⟩) hg]; exact h2
/-- the place of the least count among the first so many; below 0: none -/
def lst (f : Nat → Int × Int) : Nat → Int
  | 0 => -1
  | j + 1 => if lst f j < 0 ∨ (f j).2 < (f (lst f j).toNat).2 then (j : Int) else lst f j
theorem lst_succ (f : Nat → Int × Int) (j : Nat) : lst f (j + 1) = if lst f j < 0 ∨ (f j).2 < (f (lst f j).toNat).2 then (j : Int) else lst f j := rfl
theorem lst_range (f : Nat → Int × Int) (j : Nat) : -1 ≤ lst f j ∧ lst f j < j := by
  induction j with
  | zero => show (-1 : Int) ≤ -1 ∧ (-1 : Int) < 0; omega
  | succ j ih => rw [lst_succ]; split <;> omega
theorem lst_pos (f : Nat → Int × Int) (j : Nat) (h : 0 < j) : 0 ≤ lst f j := by
  induction j with
  | zero => omega
  | succ j ih =>
    rw [lst_succ]
    by_cases hj : 0 < j
    · have := ih hj; split <;> omega
    · split
      · omega
      · next h2 => exact Decidable.byContradiction fun h3 => h2 (.inl (by omega))
theorem lst_le (f : Nat → Int × Int) (j : Nat) : ∀ i, i < j → (f (lst f j).toNat).2 ≤ (f i).2 := by
  induction j with
  | zero => intro i hi; omega
  | succ j ih =>
    intro i hi
    rw [lst_succ]
    by_cases hj : 0 < j
    · have hp := lst_pos f j hj
      have hl := ih
      by_cases hc : (f j).2 < (f (lst f j).toNat).2
      · rw [if_pos (.inr hc), Int.toNat_natCast]
        by_cases e : i = j
        · subst e; omega
        · have := ih i (by omega); omega
      · rw [if_neg (by omega)]
        by_cases e : i = j
        · subst e; omega
        · exact ih i (by omega)
    · have e1 : j = 0 := by omega
      subst e1
      have e2 : i = 0 := by omega
      subst e2
      rw [if_pos (.inl (show (-1 : Int) < 0 by decide))]
      exact Int.le_refl _
/-- the greatest count among the first so many, from z on -/
def grt (f : Nat → Int × Int) (z : Int) : Nat → Int
  | 0 => z
  | j + 1 => max (grt f z j) (f j).2
theorem grt_succ (f : Nat → Int × Int) (z : Int) (j : Nat) : grt f z (j + 1) = max (grt f z j) (f j).2 := rfl
theorem grt_ge (f : Nat → Int × Int) (z : Int) (j : Nat) : z ≤ grt f z j ∧ ∀ i, i < j → (f i).2 ≤ grt f z j := by
  induction j with
  | zero => exact ⟨Int.le_refl _, fun i hi => by omega⟩
  | succ j ih =>
    rw [grt_succ]
    refine ⟨by have := ih.1; omega, fun i hi => ?_⟩
    by_cases e : i = j
    · subst e; omega
    · have := ih.2 i (by omega); omega
theorem grt_one (f : Nat → Int × Int) (z : Int) (j : Nat) : grt f z j = z ∨ ∃ i, i < j ∧ grt f z j = (f i).2 := by
  induction j with
  | zero => exact .inl rfl
  | succ j ih =>
    rw [grt_succ]
    by_cases h : grt f z j ≤ (f j).2
    · exact .inr ⟨j, by omega, by omega⟩
    · rw [show max (grt f z j) (f j).2 = grt f z j by omega]
      rcases ih with ih | ⟨i, hi, ih⟩
      · exact .inl ih
      · exact .inr ⟨i, by omega, ih⟩

theorem least_any {w : World} {a : Option Addr} {n cap : Nat} {f : Nat → Int × Int} (h : Ws w a n f) (hn : n ≤ 1000) : Calls Tryd.prog 64 #[.slice a n cap] w fun e w' => e = .returned (.int .i64 (lst f n)) ∧ Below w.heap.size w w' := by
  have H := Hid.mk h
  clear h
  go_enter Tryd.func64, Tryd.ntmps64
  go_wp2
  go_loopw [3, 8] (fun l i wr => ∃ j : Nat, j ≤ n ∧ i = .int .i64 j ∧ l = .int .i64 (lst f j) ∧ Below w.heap.size w wr) (fun _ i _ => n - (intOf i).toNat)
  case atStart => exact ⟨0, Nat.zero_le _, rfl, rfl, Below.refl _ _⟩
  case round =>
    obtain ⟨j, hj, rfl, rfl, hb⟩ := hrel
    have HB := Hid.mk hb
    clear hb
    by_cases hlt : j < n
    · have hlt1 : (j : Int) < n := by omega
      have H2 := Hid.mk (H.out.call HB.out)
      obtain ⟨g, o, rfl, hg, c0, c1⟩ := H2.out j hlt
      have hs := Hid.mk (lst_succ f j)
      have hr := lst_range f j
      by_cases h0 : lst f j < 0
      · replace hs := Hid.mk (hs.out.trans (if_pos (.inl h0)))
        generalize lst f j = x at *
        generalize hfj : f j = q at *
        clear hfj
        obtain ⟨q0, q1⟩ := q
        simp only at c0 c1
        go_upto_region 5 with fail
        go_quiet (fail)
        go_wp2
        exact ⟨⟨j + 1, by omega, by go_num, by rw [hs.out], below_drewN (HB.out.alloc HB.out.size _)⟩, by simp [intOf]; omega⟩
      · obtain ⟨m, hm⟩ : ∃ m : Nat, lst f j = m := ⟨(lst f j).toNat, by omega⟩
        rw [hm] at hs hr ⊢
        rw [Int.toNat_natCast] at hs
        have hmn : m < n := by omega
        obtain ⟨g', o', e, hg', d0, d1⟩ := H2.out m hmn
        cases e
        have hm0 : ¬ (m : Int) < 0 := by omega
        have hd : Hid (((f j).2 < (f m).2) ∨ ¬ ((f j).2 < (f m).2)) := Decidable.em _
        generalize hfj : f j = q at *
        generalize hfm : f m = r at *
        clear hfj hfm hm h0
        obtain ⟨q0, q1⟩ := q
        obtain ⟨r0, r1⟩ := r
        simp only at c0 c1 d0 d1 hs hd
        have hmn1 : (m : Int) < n := by omega
        go_upto_region 5 with fail
        rcases hd.out with hq | hq
        · replace hs := Hid.mk (hs.out.trans (if_pos (.inr hq)))
          go_quiet (fail)
          go_wp2
          exact ⟨⟨j + 1, by omega, by go_num, by rw [hs.out], below_drewN (HB.out.alloc HB.out.size _)⟩, by simp [intOf]; omega⟩
        · replace hs := Hid.mk (hs.out.trans (if_neg (by omega)))
          go_quiet (fail)
          go_wp2
          exact ⟨⟨j + 1, by omega, by go_num, by rw [hs.out], below_drewN (HB.out.alloc HB.out.size _)⟩, by simp [intOf]; omega⟩
    · have hlt1 : ¬ (j : Int) < n := by omega
      have hjn : j = n := by omega
      subst hjn
      go_wp2
      go_ret
      exact ⟨rfl, HB.out⟩
/-- by how much the greatest is above the least -/
def spr (f : Nat → Int × Int) (n : Nat) : Int := if n = 0 then 0 else grt f (f 0).2 n - (f (lst f n).toNat).2
end Go.Proofs.YtbhggcleijjofaaDoor.We
