/-
  Records: which numbers a kind has, their limits; the walk of the program's list of them. No condition.
-/
import Derived.Test.YtacgemibaojbaaaOwn
import Derived.Test.YtacgemibaojbaaaChecked
import Derived.Lib.SmallJoins
import Derived.Deep.RegionHeld3
namespace Go.Proofs.Ytacgemibaojbaaa
open Go Go.RowKit

/-- a number of a record: where it stands, the least, the most -/
abbrev Fl := Nat × Int × Int
/-- the numbers that a kind has -/
def flds (K : Int) : List Fl :=
  if K = 1 then [(1, 1, 15), (2, 0, 1023), (3, 0, 511)] else if K = 2 then [(1, 1, 15), (2, 0, 1023)] else if K = 3 then [(3, 0, 511), (4, 0, 511)]
  else if K = 4 then [(1, 1, 15), (5, 1, 1024)] else if K = 5 then [(1, 1, 15)] else if K = 6 then [(1, 1, 15), (4, 1, 15)] else if K = 7 then [(1, 1, 15)]
  else if K = 8 then [(3, 0, 31)] else if K = 9 then [(3, 0, 31), (5, 0, 1073741824)] else []
theorem flds_none {K : Int} (h1 : ¬ K = 1) (h2 : ¬ K = 2) (h3 : ¬ K = 3) (h4 : ¬ K = 4) (h5 : ¬ K = 5) (h6 : ¬ K = 6) (h7 : ¬ K = 7) (h8 : ¬ K = 8) (h9 : ¬ K = 9) : flds K = [] := by
  unfold flds
  rw [if_neg h1, if_neg h2, if_neg h3, if_neg h4, if_neg h5, if_neg h6, if_neg h7, if_neg h8, if_neg h9]
theorem kinds (K : Int) : K = 1 ∨ K = 2 ∨ K = 3 ∨ K = 4 ∨ K = 5 ∨ K = 6 ∨ K = 7 ∨ K = 8 ∨ K = 9 ∨ (¬ K = 1 ∧ ¬ K = 2 ∧ ¬ K = 3 ∧ ¬ K = 4 ∧ ¬ K = 5 ∧ ¬ K = 6 ∧ ¬ K = 7 ∧ ¬ K = 8 ∧ ¬ K = 9) := by omega
/-- the cells of a list of numbers of the record in block R -/
def flCells (R : Nat) : List Fl → List Value
  | [] => []
  | f :: fs => .pointer (some ⟨R, f.1, none⟩) :: .int .i64 f.2.1 :: .int .i64 f.2.2 :: flCells R fs
theorem flCells_get (R : Nat) (fs : List Fl) (j : Nat) (h : j < fs.length) :
    (flCells R fs)[j * 3]? = some (.pointer (some ⟨R, (fs.getD j (0, 0, 0)).1, none⟩)) ∧ (flCells R fs)[j * 3 + 1]? = some (.int .i64 (fs.getD j (0, 0, 0)).2.1) ∧ (flCells R fs)[j * 3 + 2]? = some (.int .i64 (fs.getD j (0, 0, 0)).2.2) := by
  induction fs generalizing j with
  | nil => simp at h
  | cons f fs ih =>
    cases j with
    | zero => simp [flCells]
    | succ j =>
      have := ih j (by simpa using h)
      rw [show (j + 1) * 3 = j * 3 + 1 + 1 + 1 by omega]
      simpa [flCells] using this
/-- a list of numbers of the record in block R, in a block of its own from B on -/
def NumsAt (w : World) (B R : Nat) (a : Option Addr) (fs : List Fl) : Prop :=
  0 < fs.length → ∃ g, a = some ⟨g, 0, none⟩ ∧ B ≤ g ∧ w.heap[g]? = some (.cells (flCells R fs).toArray 121 (0, 0))
theorem NumsAt.same {w w' : World} {B R a fs} (h : NumsAt w B R a fs) (hh : ∀ g, g < w.heap.size → B ≤ g → w'.heap[g]? = w.heap[g]?) : NumsAt w' B R a fs := by
  intro h0
  obtain ⟨g, ha, hg, hb⟩ := h h0
  exact ⟨g, ha, hg, (hh g (Array.getElem?_eq_some_iff.1 hb).1 hg).trans hb⟩
theorem NumsAt.call {w w' : World} {B R a fs} (h : NumsAt w B R a fs) (b : Below w.heap.size w w') : NumsAt w' B R a fs := h.same fun g hg _ => b.block g hg
theorem NumsAt.alloc {w : World} {B R a fs} (h : NumsAt w B R a fs) (o : Obj) : NumsAt (w.alloc o) B R a fs := h.same fun g hg _ => Below.heap_alloc w o g hg
theorem NumsAt.drew {w : World} {B R a fs} (h : NumsAt w B R a fs) : NumsAt w.drew B R a fs := h
theorem NumsAt.set {w : World} {B R a fs} (h : NumsAt w B R a fs) {p : Addr} (hp : p.block < B) (v : Value) : NumsAt (w.setCell p v) B R a fs :=
  h.same fun g _ hg => heap_setCell_other w p g v (fun e => by rw [← e] at hp; omega)
theorem NumsAt.kept {w w' : World} {B R a fs} (h : NumsAt w B R a fs) {g0 : Nat} (b : w.grownBy w' (some g0)) (h0 : g0 < B) : NumsAt w' B R a fs :=
  h.same fun g hg hB => b.block g hg (by simp; omega)
theorem NumsAt.cells {w : World} {B R a fs} (h : NumsAt w B R a fs) (j : Nat) (hj : j < fs.length) : ∃ g, a = some ⟨g, 0, none⟩ ∧ B ≤ g ∧ g < w.heap.size ∧
    w.cell? ⟨g, j * 3, none⟩ = some (.pointer (some ⟨R, (fs.getD j (0, 0, 0)).1, none⟩)) ∧ w.cell? ⟨g, j * 3 + 1, none⟩ = some (.int .i64 (fs.getD j (0, 0, 0)).2.1) ∧ w.cell? ⟨g, j * 3 + 2, none⟩ = some (.int .i64 (fs.getD j (0, 0, 0)).2.2) := by
  obtain ⟨g, ha, hg, hb⟩ := h (by omega)
  obtain ⟨c0, c1, c2⟩ := flCells_get R fs j hj
  refine ⟨g, ha, hg, (Array.getElem?_eq_some_iff.1 hb).1, ?_, ?_, ?_⟩
  · rw [cell_of_row w g _ _ 121 _ hb]; simpa using c0
  · rw [cell_of_row w g _ _ 121 _ hb]; simpa using c1
  · rw [cell_of_row w g _ _ 121 _ hb]; simpa using c2
/-- what numbers answers -/
def numsPost (w : World) (R : Nat) (fs : List Fl) (e : Ending) (w' : World) : Prop :=
  ∃ a, e = .returned (.slice a fs.length fs.length) ∧ Below w.heap.size w w' ∧ NumsAt w' w.heap.size R a fs
theorem below_four (w : World) (o1 o2 o3 o4 : Obj) : Below w.heap.size w ((((w.alloc o1).alloc o2).alloc o3).alloc o4) :=
  (((((Below.refl w.heap.size w).alloc (Nat.le_refl _) o1).alloc (by rw [size_alloc]; omega) o2).alloc (by rw [size_alloc, size_alloc]; omega) o3).alloc (by rw [size_alloc, size_alloc, size_alloc]; omega) o4)
theorem nums_done (w W : World) (R : Nat) (fs : List Fl) (cs : Array Value) (g : Nat) (n : Nat) (hb : Below w.heap.size w W) (hc : cs = (flCells R fs).toArray) (hg : g = W.heap.size) (hn : n = fs.length) :
    numsPost w R fs (.returned (.slice (some ⟨g, 0, none⟩) n n)) (W.alloc (.cells cs 121)) := by
  subst hg hc hn
  exact ⟨_, rfl, hb.alloc hb.size _, fun _ => ⟨_, rfl, hb.size, heap_alloc_new W _⟩⟩
theorem size_four (w : World) (o1 o2 o3 o4 : Obj) : ((((w.alloc o1).alloc o2).alloc o3).alloc o4).heap.size = w.heap.size + 1 + 1 + 1 + 1 := by simp only [size_alloc]
theorem cell_four {w : World} {R : Nat} {v : Value} (hR : R < w.heap.size) (c0 : w.cell? ⟨R, 0, none⟩ = some v) (o1 o2 o3 o4 : Obj) : ((((w.alloc o1).alloc o2).alloc o3).alloc o4).cell? ⟨R, 0, none⟩ = some v := by
  rw [(below_four w o1 o2 o3 o4).cell (p := ⟨R, 0, none⟩) hR]
  exact c0
theorem numbers_1 (R : Nat) (w : World) (hR : R < w.heap.size) (c0 : w.cell? ⟨R, 0, none⟩ = some (.int .i64 1)) : Calls Try.prog 63 #[.pointer (some ⟨R, 0, none⟩)] w (numsPost w R (flds 1)) := by
  have c4 := cell_four hR c0
  go_enter Try.func63, Try.ntmps63
  go_wp2_with fail
  go_ret
  exact nums_done w _ R [(1, 1, 15), (2, 0, 1023), (3, 0, 511)] _ _ _ (below_four w _ _ _ _) rfl (size_four w _ _ _ _).symm rfl
theorem numbers_2 (R : Nat) (w : World) (hR : R < w.heap.size) (c0 : w.cell? ⟨R, 0, none⟩ = some (.int .i64 2)) : Calls Try.prog 63 #[.pointer (some ⟨R, 0, none⟩)] w (numsPost w R (flds 2)) := by
  have c4 := cell_four hR c0
  go_enter Try.func63, Try.ntmps63
  go_wp2_with fail
  go_ret
  exact nums_done w _ R [(1, 1, 15), (2, 0, 1023)] _ _ _ (below_four w _ _ _ _) rfl (size_four w _ _ _ _).symm rfl
theorem numbers_3 (R : Nat) (w : World) (hR : R < w.heap.size) (c0 : w.cell? ⟨R, 0, none⟩ = some (.int .i64 3)) : Calls Try.prog 63 #[.pointer (some ⟨R, 0, none⟩)] w (numsPost w R (flds 3)) := by
  have c4 := cell_four hR c0
  go_enter Try.func63, Try.ntmps63
  go_wp2_with fail
  go_region
  go_wp2_with fail
  go_ret
  exact nums_done w _ R [(3, 0, 511), (4, 0, 511)] _ _ _ (below_four w _ _ _ _).drew rfl (size_four w _ _ _ _).symm rfl
theorem numbers_4 (R : Nat) (w : World) (hR : R < w.heap.size) (c0 : w.cell? ⟨R, 0, none⟩ = some (.int .i64 4)) : Calls Try.prog 63 #[.pointer (some ⟨R, 0, none⟩)] w (numsPost w R (flds 4)) := by
  have c4 := cell_four hR c0
  go_enter Try.func63, Try.ntmps63
  go_wp2_with fail
  go_region
  go_wp2_with fail
  go_ret
  exact nums_done w _ R [(1, 1, 15), (5, 1, 1024)] _ _ _ (below_four w _ _ _ _).drew rfl (size_four w _ _ _ _).symm rfl
theorem numbers_5 (R : Nat) (w : World) (hR : R < w.heap.size) (c0 : w.cell? ⟨R, 0, none⟩ = some (.int .i64 5)) : Calls Try.prog 63 #[.pointer (some ⟨R, 0, none⟩)] w (numsPost w R (flds 5)) := by
  have c4 := cell_four hR c0
  go_enter Try.func63, Try.ntmps63
  go_wp2_with fail
  go_ret
  exact nums_done w _ R [(1, 1, 15)] _ _ _ (below_four w _ _ _ _) rfl (size_four w _ _ _ _).symm rfl
theorem numbers_6 (R : Nat) (w : World) (hR : R < w.heap.size) (c0 : w.cell? ⟨R, 0, none⟩ = some (.int .i64 6)) : Calls Try.prog 63 #[.pointer (some ⟨R, 0, none⟩)] w (numsPost w R (flds 6)) := by
  have c4 := cell_four hR c0
  go_enter Try.func63, Try.ntmps63
  go_wp2_with fail
  go_region
  go_wp2_with fail
  go_ret
  exact nums_done w _ R [(1, 1, 15), (4, 1, 15)] _ _ _ (below_four w _ _ _ _).drew rfl (size_four w _ _ _ _).symm rfl
theorem numbers_7 (R : Nat) (w : World) (hR : R < w.heap.size) (c0 : w.cell? ⟨R, 0, none⟩ = some (.int .i64 7)) : Calls Try.prog 63 #[.pointer (some ⟨R, 0, none⟩)] w (numsPost w R (flds 7)) := by
  have c4 := cell_four hR c0
  go_enter Try.func63, Try.ntmps63
  go_wp2_with fail
  go_ret
  exact nums_done w _ R [(1, 1, 15)] _ _ _ (below_four w _ _ _ _) rfl (size_four w _ _ _ _).symm rfl
theorem numbers_8 (R : Nat) (w : World) (hR : R < w.heap.size) (c0 : w.cell? ⟨R, 0, none⟩ = some (.int .i64 8)) : Calls Try.prog 63 #[.pointer (some ⟨R, 0, none⟩)] w (numsPost w R (flds 8)) := by
  have c4 := cell_four hR c0
  go_enter Try.func63, Try.ntmps63
  go_wp2_with fail
  go_ret
  exact nums_done w _ R [(3, 0, 31)] _ _ _ (below_four w _ _ _ _) rfl (size_four w _ _ _ _).symm rfl
theorem numbers_9 (R : Nat) (w : World) (hR : R < w.heap.size) (c0 : w.cell? ⟨R, 0, none⟩ = some (.int .i64 9)) : Calls Try.prog 63 #[.pointer (some ⟨R, 0, none⟩)] w (numsPost w R (flds 9)) := by
  have c4 := cell_four hR c0
  go_enter Try.func63, Try.ntmps63
  go_wp2_with fail
  go_region
  go_wp2_with fail
  go_ret
  exact nums_done w _ R [(3, 0, 31), (5, 0, 1073741824)] _ _ _ (below_four w _ _ _ _).drew rfl (size_four w _ _ _ _).symm rfl
theorem numbers_0 (R : Nat) (K : Int) (w : World) (hR : R < w.heap.size) (c0 : w.cell? ⟨R, 0, none⟩ = some (.int .i64 K)) (h1 : ¬ K = 1) (h2 : ¬ K = 2) (h3 : ¬ K = 3) (h4 : ¬ K = 4) (h5 : ¬ K = 5) (h6 : ¬ K = 6) (h7 : ¬ K = 7) (h8 : ¬ K = 8) (h9 : ¬ K = 9) :
    Calls Try.prog 63 #[.pointer (some ⟨R, 0, none⟩)] w (numsPost w R (flds K)) := by
  rw [flds_none h1 h2 h3 h4 h5 h6 h7 h8 h9]
  have c4 := cell_four hR c0
  go_enter Try.func63, Try.ntmps63
  go_wp2_with fail
  go_ret
  exact ⟨none, rfl, below_four w _ _ _ _, fun h => by simp at h⟩
theorem numbers_any {w : World} {R : Nat} {K : Int} (hR : R < w.heap.size) (c0 : w.cell? ⟨R, 0, none⟩ = some (.int .i64 K)) : Calls Try.prog 63 #[.pointer (some ⟨R, 0, none⟩)] w (numsPost w R (flds K)) := by
  rcases kinds K with rfl | rfl | rfl | rfl | rfl | rfl | rfl | rfl | rfl | ⟨h1, h2, h3, h4, h5, h6, h7, h8, h9⟩
  · exact numbers_1 R w hR c0
  · exact numbers_2 R w hR c0
  · exact numbers_3 R w hR c0
  · exact numbers_4 R w hR c0
  · exact numbers_5 R w hR c0
  · exact numbers_6 R w hR c0
  · exact numbers_7 R w hR c0
  · exact numbers_8 R w hR c0
  · exact numbers_9 R w hR c0
  · exact numbers_0 R K w hR c0 h1 h2 h3 h4 h5 h6 h7 h8 h9
end Go.Proofs.Ytacgemibaojbaaa
