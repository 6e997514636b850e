/-
  A block that is one row of numbers: what its cells hold, and what loads, stores, and calls leave of it. No condition. A slice of numbers that the call itself made, at the head of a block of its own: append, in place or to a new block; what calls and other appends leave of it. No condition. Records: which numbers a kind has, their limits; the walk of the program's list of them. No condition. Which records may be: the walk of the program's Check. No condition. The answer's lists of a record's numbers, of their least and of their most; the record of such a list: the walks of row and of. No condition. The record of a kind with these numbers: the walk of the answer's of. No condition. Which records may be, as the answer reckons it: the walk of its Check. No condition. Which records may be, said plainly: both sides' Checks answer just that. No condition.
-/
import Derived.WalkKit
import Derived.Laws.Rows
import Derived.Deep.WholeRow
import Derived.Laws.IdiomStrings
import Derived.BigQuiet
import Derived.Deep.OwnRows
import Derived.Laws.AppendOwn
import Derived.OwnWalk
import Derived.ArgAppend
import Derived.Laws.IdiomCopy
import Derived.Test.YtaphpdmfjnhlaaaGreatDoorChecked
import Derived.Lib.SmallJoins
import Derived.Deep.RegionHeld3
import Derived.Deep.Cut
import Derived.Deep.RegionWith
import Derived.Laws.ResultCell
import Derived.Laws.NewBlocks
import Derived.Laws.Closers25
import Derived.WalkSpells
import Derived.Deep.RegionLaw
namespace Go.Proofs.YtaphpdmfjnhlaaaGreatDoor.S8
open Go Go.RowKit
def cellsOf (k : IntKind) (l : List Int) : Array Value := (l.map (Value.int k)).toArray
theorem cellsOf_set (k : IntKind) (l : List Int) (j : Nat) (v : Int) : (cellsOf k l).setIfInBounds j (.int k v) = cellsOf k (l.set j v) := by
 simp [cellsOf, List.map_set]
def Row (w : World) (g : Nat) (t : TypeId) (k : IntKind) (l : List Int) : Prop := w.heap[g]? = some (.cells (cellsOf k l) t (0, 0))
theorem Row.lt {w : World} {g t k l} (h : Row w g t k l) : g < w.heap.size := (Array.getElem?_eq_some_iff.1 h).1
theorem Row.cell {w : World} {g t k l} (h : Row w g t k l) (j : Nat) (hj : j < l.length) : w.cell? ⟨g, j, none⟩ = some (.int k (l.getD j 0)) := by
 rw [cell_of_row w g j _ t _ h]
 simp [cellsOf, List.getD_eq_getElem?_getD, hj]
theorem Row.frozen {w : World} {g t k l} (h : Row w g t k l) (j : Nat) : w.frozen? ⟨g, j, none⟩ = false := frozen_of_row w g j _ t h
theorem Row.drew {w : World} {g t k l} (h : Row w g t k l) : Row w.drew g t k l := h
theorem Row.below {B g : Nat} {w w' : World} {t k l} (h : Row w g t k l) (b : Below B w w') (hg : g < B) : Row w' g t k l := by
 unfold Row
 rw [b.block g hg]
 exact h
theorem Row.call {g : Nat} {w w' : World} {t k l} (h : Row w g t k l) (b : Below w.heap.size w w') : Row w' g t k l := h.below b h.lt
theorem Row.alloc {w : World} {g t k l} (h : Row w g t k l) (o : Obj) : Row (w.alloc o) g t k l := (Below.heap_alloc w o g h.lt).trans h
theorem Row.fresh (w : World) (t : TypeId) (k : IntKind) (l : List Int) : Row (w.alloc (.cells (cellsOf k l) t)) w.heap.size t k l := heap_alloc_new w _
theorem Row.stored {w : World} {g t k l} (h : Row w g t k l) (j : Nat) (v : Int) : Row (w.setCell ⟨g, j, none⟩ (.int k v)) g t k (l.set j v) := by
 have := heap_setCell_same w g j _ t (.int k v) h
 rw [cellsOf_set] at this
 exact this
theorem Row.other {w : World} {g t k l} (h : Row w g t k l) {a : Addr} (ha : a.block ≠ g) (v : Value) : Row (w.setCell a v) g t k l :=
 (heap_setCell_other w a g v (fun e => ha e.symm)).trans h
theorem below3 {w a b : World} (h : Below w.heap.size w a) (k : Below a.heap.size a b) : Below w.heap.size w b := h.trans (k.mono h.size)
theorem size_alloc (w : World) (o : Obj) : (w.alloc o).heap.size = w.heap.size + 1 := by simp
theorem Row.fresh1 (w : World) (o : Obj) (t : TypeId) (k : IntKind) (l : List Int) : Row ((w.alloc o).alloc (.cells (cellsOf k l) t)) (w.heap.size + 1) t k l := by
 have h := Row.fresh (w.alloc o) t k l
 rwa [size_alloc] at h
variable {P : Program}
end Go.Proofs.YtaphpdmfjnhlaaaGreatDoor.S8
namespace Go.Proofs.YtaphpdmfjnhlaaaGreatDoor.S8
open Go Go.RowKit
def Sl (w : World) (_e : TypeId) (k : IntKind) (v : Value) (g : Nat) (l : List Int) : Prop :=
 g < w.heap.size /\ ∃ cap : Nat, v = .slice (some ⟨g, 0, none⟩) l.length cap /\ l.length <= cap /\ (∀ j, j < cap -> (w.cell? ⟨g, j, none⟩).isSome = true /\ w.frozen? ⟨g, j, none⟩ = false) ∧
  ∀ j, j < l.length -> w.cell? ⟨g, j, none⟩ = some (.int k (l.getD j 0))
variable {P : Program}
end Go.Proofs.YtaphpdmfjnhlaaaGreatDoor.S8
namespace Go.Proofs.YtaphpdmfjnhlaaaGreatDoor.S8
open Go Go.RowKit
abbrev Fl := Nat × Int × Int
def flds (K : Int) : List Fl :=
 if K = 1 then [(1, 1, 15), (2, 0, 1023), (3, 0, 511)] else if K = 2 then [(1, 1, 15), (2, 0, 1023)] else if K = 3 then [(3, 0, 511), (4, 0, 511)]
 else if K = 4 then [(1, 1, 15), (5, 1, 1024)] else if K = 5 then [(1, 1, 15)] else if K = 6 then [(1, 1, 15), (4, 1, 15)] else if K = 7 then [(1, 1, 15)]
 else if K = 8 then [(3, 0, 31)] else if K = 9 then [(3, 0, 31), (5, 0, 1073741824)] else []
theorem flds_none {K : Int} (h1 : ¬ K = 1) (h2 : ¬ K = 2) (h3 : ¬ K = 3) (h4 : ¬ K = 4) (h5 : ¬ K = 5) (h6 : ¬ K = 6) (h7 : ¬ K = 7) (h8 : ¬ K = 8) (h9 : ¬ K = 9) : flds K = [] := by
 unfold flds
 rw [if_neg h1, if_neg h2, if_neg h3, if_neg h4, if_neg h5, if_neg h6, if_neg h7, if_neg h8, if_neg h9]
theorem kinds (K : Int) : K = 1 \/ K = 2 \/ K = 3 \/ K = 4 \/ K = 5 \/ K = 6 \/ K = 7 \/ K = 8 \/ K = 9 \/ (¬ K = 1 /\ ¬ K = 2 /\ ¬ K = 3 /\ ¬ K = 4 /\ ¬ K = 5 /\ ¬ K = 6 /\ ¬ K = 7 /\ ¬ K = 8 /\ ¬ K = 9) := by omega
def flCells (R : Nat) : List Fl -> List Value
 | [] => []
 | f :: fs => .pointer (some ⟨R, f.1, none⟩) :: .int .i64 f.2.1 :: .int .i64 f.2.2 :: flCells R fs
theorem flCells_get (R : Nat) (fs : List Fl) (j : Nat) (h : j < fs.length) :
  (flCells R fs)[j * 3]? = some (.pointer (some ⟨R, (fs.getD j (0, 0, 0)).1, none⟩)) /\ (flCells R fs)[j * 3 + 1]? = some (.int .i64 (fs.getD j (0, 0, 0)).2.1) /\ (flCells R fs)[j * 3 + 2]? = some (.int .i64 (fs.getD j (0, 0, 0)).2.2) := by
 induction fs generalizing j with
 | nil => simp at h
 | cons f fs ih =>
  cases j with
  | zero => simp [flCells]
  | succ j =>
   have := ih j (by simpa using h)
   rw [show (j + 1) * 3 = j * 3 + 1 + 1 + 1 by omega]
   simpa [flCells] using this
def NumsAt (w : World) (B R : Nat) (a : Option Addr) (fs : List Fl) : Prop :=
 0 < fs.length -> ∃ g, a = some ⟨g, 0, none⟩ /\ B <= g /\ w.heap[g]? = some (.cells (flCells R fs).toArray 228 (0, 0))
theorem NumsAt.same {w w' : World} {B R a fs} (h : NumsAt w B R a fs) (hh : ∀ g, g < w.heap.size -> B <= g -> w'.heap[g]? = w.heap[g]?) : NumsAt w' B R a fs := by
 intro h0
 obtain ⟨g, ha, hg, hb⟩ := h h0
 exact ⟨g, ha, hg, (hh g (Array.getElem?_eq_some_iff.1 hb).1 hg).trans hb⟩
theorem NumsAt.alloc {w : World} {B R a fs} (h : NumsAt w B R a fs) (o : Obj) : NumsAt (w.alloc o) B R a fs := h.same fun g hg _ => Below.heap_alloc w o g hg
theorem NumsAt.drew {w : World} {B R a fs} (h : NumsAt w B R a fs) : NumsAt w.drew B R a fs := h
theorem NumsAt.set {w : World} {B R a fs} (h : NumsAt w B R a fs) {p : Addr} (hp : p.block < B) (v : Value) : NumsAt (w.setCell p v) B R a fs :=
 h.same fun g _ hg => heap_setCell_other w p g v (fun e => by rw [<- e] at hp; omega)
theorem NumsAt.cells {w : World} {B R a fs} (h : NumsAt w B R a fs) (j : Nat) (hj : j < fs.length) : ∃ g, a = some ⟨g, 0, none⟩ /\ B <= g /\ g < w.heap.size ∧
  w.cell? ⟨g, j * 3, none⟩ = some (.pointer (some ⟨R, (fs.getD j (0, 0, 0)).1, none⟩)) /\ w.cell? ⟨g, j * 3 + 1, none⟩ = some (.int .i64 (fs.getD j (0, 0, 0)).2.1) /\ w.cell? ⟨g, j * 3 + 2, none⟩ = some (.int .i64 (fs.getD j (0, 0, 0)).2.2) := by
 obtain ⟨g, ha, hg, hb⟩ := h (by omega)
 obtain ⟨c0, c1, c2⟩ := flCells_get R fs j hj
 refine ⟨g, ha, hg, (Array.getElem?_eq_some_iff.1 hb).1, ?_, ?_, ?_⟩
 ·rw [cell_of_row w g _ _ 228 _ hb]; simpa using c0
 ·rw [cell_of_row w g _ _ 228 _ hb]; simpa using c1
 ·rw [cell_of_row w g _ _ 228 _ hb]; simpa using c2
def numsPost (w : World) (R : Nat) (fs : List Fl) (e : Ending) (w' : World) : Prop :=
 ∃ a, e = .returned (.slice a fs.length fs.length) /\ Below w.heap.size w w' /\ NumsAt w' w.heap.size R a fs
theorem below_four (w : World) (o1 o2 o3 o4 : Obj) : Below w.heap.size w ((((w.alloc o1).alloc o2).alloc o3).alloc o4) :=
 (((((Below.refl w.heap.size w).alloc (Nat.le_refl _) o1).alloc (by rw [size_alloc]; omega) o2).alloc (by rw [size_alloc, size_alloc]; omega) o3).alloc (by rw [size_alloc, size_alloc, size_alloc]; omega) o4)
theorem nums_done (w W : World) (R : Nat) (fs : List Fl) (cs : Array Value) (g : Nat) (n : Nat) (hb : Below w.heap.size w W) (hc : cs = (flCells R fs).toArray) (hg : g = W.heap.size) (hn : n = fs.length) :
  numsPost w R fs (.returned (.slice (some ⟨g, 0, none⟩) n n)) (W.alloc (.cells cs 228)) := by
 subst hg hc hn
 exact ⟨_, rfl, hb.alloc hb.size _, fun _ => ⟨_, rfl, hb.size, heap_alloc_new W _⟩⟩
theorem size_four (w : World) (o1 o2 o3 o4 : Obj) : ((((w.alloc o1).alloc o2).alloc o3).alloc o4).heap.size = w.heap.size + 1 + 1 + 1 + 1 := by simp only [size_alloc]
theorem cell_four {w : World} {R : Nat} {v : Value} (hR : R < w.heap.size) (c0 : w.cell? ⟨R, 0, none⟩ = some v) (o1 o2 o3 o4 : Obj) : ((((w.alloc o1).alloc o2).alloc o3).alloc o4).cell? ⟨R, 0, none⟩ = some v := by
 rw [(below_four w o1 o2 o3 o4).cell (p := ⟨R, 0, none⟩) hR]
 exact c0
theorem numbers_1 (R : Nat) (w : World) (hR : R < w.heap.size) (c0 : w.cell? ⟨R, 0, none⟩ = some (.int .i64 1)) : Calls Tryz.prog 134 #[.pointer (some ⟨R, 0, none⟩)] w (numsPost w R (flds 1)) := by
 have c4 := cell_four hR c0
 go_enter Tryz.func134, Tryz.ntmps134
 go_wp2_with fail
 go_ret
 exact nums_done w _ R [(1, 1, 15), (2, 0, 1023), (3, 0, 511)] _ _ _ (below_four w _ _ _ _) rfl (size_four w _ _ _ _).symm rfl
theorem numbers_2 (R : Nat) (w : World) (hR : R < w.heap.size) (c0 : w.cell? ⟨R, 0, none⟩ = some (.int .i64 2)) : Calls Tryz.prog 134 #[.pointer (some ⟨R, 0, none⟩)] w (numsPost w R (flds 2)) := by
 have c4 := cell_four hR c0
 go_enter Tryz.func134, Tryz.ntmps134
 go_wp2_with fail
 go_ret
 exact nums_done w _ R [(1, 1, 15), (2, 0, 1023)] _ _ _ (below_four w _ _ _ _) rfl (size_four w _ _ _ _).symm rfl
theorem numbers_3 (R : Nat) (w : World) (hR : R < w.heap.size) (c0 : w.cell? ⟨R, 0, none⟩ = some (.int .i64 3)) : Calls Tryz.prog 134 #[.pointer (some ⟨R, 0, none⟩)] w (numsPost w R (flds 3)) := by
 have c4 := cell_four hR c0
 go_enter Tryz.func134, Tryz.ntmps134
 go_wp2_with fail
 go_region
 go_wp2_with fail
 go_ret
 exact nums_done w _ R [(3, 0, 511), (4, 0, 511)] _ _ _ (below_four w _ _ _ _).drew rfl (size_four w _ _ _ _).symm rfl
theorem numbers_4 (R : Nat) (w : World) (hR : R < w.heap.size) (c0 : w.cell? ⟨R, 0, none⟩ = some (.int .i64 4)) : Calls Tryz.prog 134 #[.pointer (some ⟨R, 0, none⟩)] w (numsPost w R (flds 4)) := by
 have c4 := cell_four hR c0
 go_enter Tryz.func134, Tryz.ntmps134
 go_wp2_with fail
 go_region
 go_wp2_with fail
 go_ret
 exact nums_done w _ R [(1, 1, 15), (5, 1, 1024)] _ _ _ (below_four w _ _ _ _).drew rfl (size_four w _ _ _ _).symm rfl
theorem numbers_5 (R : Nat) (w : World) (hR : R < w.heap.size) (c0 : w.cell? ⟨R, 0, none⟩ = some (.int .i64 5)) : Calls Tryz.prog 134 #[.pointer (some ⟨R, 0, none⟩)] w (numsPost w R (flds 5)) := by
 have c4 := cell_four hR c0
 go_enter Tryz.func134, Tryz.ntmps134
 go_wp2_with fail
 go_ret
 exact nums_done w _ R [(1, 1, 15)] _ _ _ (below_four w _ _ _ _) rfl (size_four w _ _ _ _).symm rfl
theorem numbers_6 (R : Nat) (w : World) (hR : R < w.heap.size) (c0 : w.cell? ⟨R, 0, none⟩ = some (.int .i64 6)) : Calls Tryz.prog 134 #[.pointer (some ⟨R, 0, none⟩)] w (numsPost w R (flds 6)) := by
 have c4 := cell_four hR c0
 go_enter Tryz.func134, Tryz.ntmps134
 go_wp2_with fail
 go_region
 go_wp2_with fail
 go_ret
 exact nums_done w _ R [(1, 1, 15), (4, 1, 15)] _ _ _ (below_four w _ _ _ _).drew rfl (size_four w _ _ _ _).symm rfl
theorem numbers_7 (R : Nat) (w : World) (hR : R < w.heap.size) (c0 : w.cell? ⟨R, 0, none⟩ = some (.int .i64 7)) : Calls Tryz.prog 134 #[.pointer (some ⟨R, 0, none⟩)] w (numsPost w R (flds 7)) := by
 have c4 := cell_four hR c0
 go_enter Tryz.func134, Tryz.ntmps134
 go_wp2_with fail
 go_ret
 exact nums_done w _ R [(1, 1, 15)] _ _ _ (below_four w _ _ _ _) rfl (size_four w _ _ _ _).symm rfl
theorem numbers_8 (R : Nat) (w : World) (hR : R < w.heap.size) (c0 : w.cell? ⟨R, 0, none⟩ = some (.int .i64 8)) : Calls Tryz.prog 134 #[.pointer (some ⟨R, 0, none⟩)] w (numsPost w R (flds 8)) := by
 have c4 := cell_four hR c0
 go_enter Tryz.func134, Tryz.ntmps134
 go_wp2_with fail
 go_ret
 exact nums_done w _ R [(3, 0, 31)] _ _ _ (below_four w _ _ _ _) rfl (size_four w _ _ _ _).symm rfl
theorem numbers_9 (R : Nat) (w : World) (hR : R < w.heap.size) (c0 : w.cell? ⟨R, 0, none⟩ = some (.int .i64 9)) : Calls Tryz.prog 134 #[.pointer (some ⟨R, 0, none⟩)] w (numsPost w R (flds 9)) := by
 have c4 := cell_four hR c0
 go_enter Tryz.func134, Tryz.ntmps134
 go_wp2_with fail
 go_region
 go_wp2_with fail
 go_ret
 exact nums_done w _ R [(3, 0, 31), (5, 0, 1073741824)] _ _ _ (below_four w _ _ _ _).drew rfl (size_four w _ _ _ _).symm rfl
theorem numbers_0 (R : Nat) (K : Int) (w : World) (hR : R < w.heap.size) (c0 : w.cell? ⟨R, 0, none⟩ = some (.int .i64 K)) (h1 : ¬ K = 1) (h2 : ¬ K = 2) (h3 : ¬ K = 3) (h4 : ¬ K = 4) (h5 : ¬ K = 5) (h6 : ¬ K = 6) (h7 : ¬ K = 7) (h8 : ¬ K = 8) (h9 : ¬ K = 9) :
  Calls Tryz.prog 134 #[.pointer (some ⟨R, 0, none⟩)] w (numsPost w R (flds K)) := by
 rw [flds_none h1 h2 h3 h4 h5 h6 h7 h8 h9]
 have c4 := cell_four hR c0
 go_enter Tryz.func134, Tryz.ntmps134
 go_wp2_with fail
 go_ret
 exact ⟨none, rfl, below_four w _ _ _ _, fun h => by simp at h⟩
theorem numbers_any {w : World} {R : Nat} {K : Int} (hR : R < w.heap.size) (c0 : w.cell? ⟨R, 0, none⟩ = some (.int .i64 K)) : Calls Tryz.prog 134 #[.pointer (some ⟨R, 0, none⟩)] w (numsPost w R (flds K)) := by
 rcases kinds K with rfl | rfl | rfl | rfl | rfl | rfl | rfl | rfl | rfl | ⟨h1, h2, h3, h4, h5, h6, h7, h8, h9⟩
 ·exact numbers_1 R w hR c0
 ·exact numbers_2 R w hR c0
 ·exact numbers_3 R w hR c0
 ·exact numbers_4 R w hR c0
 ·exact numbers_5 R w hR c0
 ·exact numbers_6 R w hR c0
 ·exact numbers_7 R w hR c0
 ·exact numbers_8 R w hR c0
 ·exact numbers_9 R w hR c0
 ·exact numbers_0 R K w hR c0 h1 h2 h3 h4 h5 h6 h7 h8 h9
end Go.Proofs.YtaphpdmfjnhlaaaGreatDoor.S8
namespace Go.Proofs.YtaphpdmfjnhlaaaGreatDoor.S8
open Go Go.RowKit
theorem Hid.mk {p : Prop} (h : p) : Hid p := h
theorem below_two (w : World) (o1 o2 : Obj) : Below w.heap.size w ((w.alloc o1).alloc o2) := by
 refine ((Below.refl w.heap.size w).alloc (Nat.le_refl _) o1).alloc ?_ o2
 rw [size_alloc]
 omega
def chkGo : List Fl -> List Int -> Option (List Int)
 | [], l => some l
 | f :: fs, l => if l.getD f.1 0 < f.2.1 \/ f.2.2 < l.getD f.1 0 then none else chkGo fs (l.set f.1 0)
def chkL (K : Int) (l : List Int) : Bool :=
 match chkGo (flds K) l with
 | none => false
 | some m => decide (0 < (flds K).length /\ m = [K, 0, 0, 0, 0, 0])
theorem flds_off (K : Int) : ∀ f ∈ flds K, 1 <= f.1 /\ f.1 <= 5 /\ 0 <= f.2.1 /\ 0 <= f.2.2 /\ f.2.2 <= 1073741824 := by
 rcases kinds K with rfl | rfl | rfl | rfl | rfl | rfl | rfl | rfl | rfl | ⟨h1, h2, h3, h4, h5, h6, h7, h8, h9⟩
 all_goals first
 | (rw [flds_none h1 h2 h3 h4 h5 h6 h7 h8 h9]; intro f hf; cases hf)
 | (intro f hf; simp [flds] at hf; rcases hf with rfl | rfl | rfl <;> simp)
 | (intro f hf; simp [flds] at hf; rcases hf with rfl | rfl <;> simp)
 | (intro f hf; simp [flds] at hf; subst hf; simp)
theorem flds_len (K : Int) : (flds K).length <= 3 := by
 rcases kinds K with rfl | rfl | rfl | rfl | rfl | rfl | rfl | rfl | rfl | ⟨h1, h2, h3, h4, h5, h6, h7, h8, h9⟩
 all_goals first
 | (rw [flds_none h1 h2 h3 h4 h5 h6 h7 h8 h9]; simp)
 | simp [flds]
theorem drop_getD (fs : List Fl) (k : Nat) (h : k < fs.length) : fs.drop k = fs.getD k (0, 0, 0) :: fs.drop (k + 1) := by
 rw [List.drop_eq_getElem_cons h]
 simp [List.getD_eq_getElem?_getD, h]
theorem getD_mem (fs : List Fl) (k : Nat) (h : k < fs.length) : fs.getD k (0, 0, 0) ∈ fs := by
 simp [List.getD_eq_getElem?_getD, h]
def rv (K S P A T N : Int) : Value := .agg #[.int .i64 K, .int .i64 S, .int .i64 P, .int .i64 A, .int .i64 T, .int .i64 N]
def ChkS (w : World) (K : Int) (a : Option Addr) (R0 : Option (List Int)) (k : Nat) (lk : List Int) (wr : World) : Prop :=
 lk.length = 6 /\ Row wr w.heap.size 87 .i64 lk /\ Row wr (w.heap.size + 1) 87 .i64 [K, 0, 0, 0, 0, 0] /\ NumsAt wr (w.heap.size + 2) w.heap.size a (flds K) /\ chkGo ((flds K).drop k) lk = R0 /\ Below w.heap.size w wr
theorem three_cells {W : World} {g : Nat} {x y z : Value} (h : W.heap[g]? = some (.cells #[x, y, z] 228 (0, 0))) : W.cell? ⟨g, 0, none⟩ = some x /\ W.cell? ⟨g, 1, none⟩ = some y /\ W.cell? ⟨g, 2, none⟩ = some z := by
 refine ⟨?_, ?_, ?_⟩ <;> (rw [cell_of_row W g _ _ 228 _ h]; rfl)
theorem ChkS.alloc {w : World} {K a R0 k lk wr} (h : ChkS w K a R0 k lk wr) (o : Obj) : ChkS w K a R0 k lk (wr.alloc o) :=
 ⟨h.1, h.2.1.alloc o, h.2.2.1.alloc o, h.2.2.2.1.alloc o, h.2.2.2.2.1, h.2.2.2.2.2.alloc h.2.2.2.2.2.size o⟩
theorem ChkS.drew {w : World} {K a R0 k lk wr} (h : ChkS w K a R0 k lk wr) : ChkS w K a R0 k lk wr.drew :=
 ⟨h.1, h.2.1.drew, h.2.2.1.drew, h.2.2.2.1.drew, h.2.2.2.2.1, h.2.2.2.2.2.drew⟩
theorem ChkS.next {w : World} {K a R0 k lk wr} (h : ChkS w K a R0 k lk wr) (o : Nat) (hgo : chkGo ((flds K).drop (k + 1)) (lk.set o 0) = R0) : ChkS w K a R0 (k + 1) (lk.set o 0) (wr.setCell ⟨w.heap.size, o, none⟩ (.int .i64 0)) :=
 ⟨by rw [List.length_set]; exact h.1, h.2.1.stored o 0, h.2.2.1.other (by show w.heap.size ≠ w.heap.size + 1; omega) _, h.2.2.2.1.set (by show w.heap.size < w.heap.size + 2; omega) _, hgo, h.2.2.2.2.2.setCell (Nat.le_refl _) _⟩
theorem six {l : List Int} (h : l.length = 6) : ∃ a b c d e f, l = [a, b, c, d, e, f] := by
 match l, h with
 | [a, b, c, d, e, f], _ => exact ⟨a, b, c, d, e, f, rfl⟩
theorem Row.six {w : World} {g : Nat} {a b c d e f : Int} (h : Row w g 87 .i64 [a, b, c, d, e, f]) : w.cell? ⟨g, 0, none⟩ = some (.int .i64 a) /\ w.cell? ⟨g, 1, none⟩ = some (.int .i64 b) /\ w.cell? ⟨g, 2, none⟩ = some (.int .i64 c) ∧
  w.cell? ⟨g, 3, none⟩ = some (.int .i64 d) /\ w.cell? ⟨g, 4, none⟩ = some (.int .i64 e) /\ w.cell? ⟨g, 5, none⟩ = some (.int .i64 f) :=
 ⟨h.cell 0 (by simp), h.cell 1 (by simp), h.cell 2 (by simp), h.cell 3 (by simp), h.cell 4 (by simp), h.cell 5 (by simp)⟩
theorem check_any (K S P A T N : Int) (w : World) : Calls Tryz.prog 111 #[rv K S P A T N] w fun e w' => e = .returned (.bool (chkL K [K, S, P, A, T, N])) /\ Below w.heap.size w w' := by
 unfold rv chkL
 generalize hR0 : chkGo (flds K) [K, S, P, A, T, N] = R0
 go_enter Tryz.func111, Tryz.ntmps111
 go_upto_region 2 with fail
 have p1 : Row ((w.alloc (.cells #[.int .i64 K, .int .i64 S, .int .i64 P, .int .i64 A, .int .i64 T, .int .i64 N] 87)).alloc (.cells #[.int .i64 K, .int .i64 0, .int .i64 0, .int .i64 0, .int .i64 0, .int .i64 0] 87)) w.heap.size 87 .i64 [K, S, P, A, T, N] := (Row.fresh w 87 .i64 [K, S, P, A, T, N]).alloc _
 have p2 : Row ((w.alloc (.cells #[.int .i64 K, .int .i64 S, .int .i64 P, .int .i64 A, .int .i64 T, .int .i64 N] 87)).alloc (.cells #[.int .i64 K, .int .i64 0, .int .i64 0, .int .i64 0, .int .i64 0, .int .i64 0] 87)) (w.heap.size + 1) 87 .i64 [K, 0, 0, 0, 0, 0] := Row.fresh1 w _ 87 .i64 [K, 0, 0, 0, 0, 0]
 have p3 := below_two w (.cells #[.int .i64 K, .int .i64 S, .int .i64 P, .int .i64 A, .int .i64 T, .int .i64 N] 87) (.cells #[.int .i64 K, .int .i64 0, .int .i64 0, .int .i64 0, .int .i64 0, .int .i64 0] 87)
 have p4 : ((w.alloc (.cells #[.int .i64 K, .int .i64 S, .int .i64 P, .int .i64 A, .int .i64 T, .int .i64 N] 87)).alloc (.cells #[.int .i64 K, .int .i64 0, .int .i64 0, .int .i64 0, .int .i64 0, .int .i64 0] 87)).heap.size = w.heap.size + 2 := by rw [size_alloc, size_alloc]
 generalize ((w.alloc (.cells #[.int .i64 K, .int .i64 S, .int .i64 P, .int .i64 A, .int .i64 T, .int .i64 N] 87)).alloc (.cells #[.int .i64 K, .int .i64 0, .int .i64 0, .int .i64 0, .int .i64 0, .int .i64 0] 87)) = W at *
 have H := Hid.mk (And.intro p1 (And.intro p2 (And.intro p3 p4)))
 clear p1 p2 p3 p4
 go_upto_region 4 with (go_at_call 134; refine (numbers_any (K := K) H.out.1.lt (H.out.1.cell 0 (by simp))).mono ?_; rintro e w1 ⟨a, rfl, b1, n1⟩)
 have hn3 := flds_len K
 rw [H.out.2.2.2] at n1
 have S0 : ChkS w K a R0 0 [K, S, P, A, T, N] w1 := ⟨rfl, H.out.1.call b1, H.out.2.1.call b1, n1, hR0, below3 H.out.2.2.1 b1⟩
 replace S0 := Hid.mk S0
 clear H n1 b1 hR0
 generalize hn : (flds K).length = n at *
 replace hn := Hid.mk hn
 go_loopw [13] (fun i wr => ∃ (k : Nat) (lk : List Int), k <= n /\ i = .int .i64 k /\ ChkS w K a R0 k lk wr) (fun i _ => n - (intOf i).toNat)
 case atStart => exact ⟨0, _, Nat.zero_le _, rfl, S0.out⟩
 case round =>
  clear S0
  obtain ⟨k, lk, hk, rfl, hs⟩ := hrel
  by_cases hkn : k < n
  ·have hkl : k < (flds K).length := by rw [hn.out]; exact hkn
   obtain ⟨g, rfl, hg, hgl, c0, c1, c2⟩ := hs.2.2.2.1.cells k hkl
   have hoff := flds_off K _ (getD_mem _ k hkl)
   have hgo := hs.2.2.2.2.1
   rw [drop_getD _ k hkl, chkGo] at hgo
   generalize (flds K).getD k (0, 0, 0) = f at *
   obtain ⟨o, lo, hi⟩ := f
   simp only at c0 c1 c2 hoff hgo
   generalize hx : lk.getD o 0 = x at *
   have hx2 := hs.2.1.cell o (by rw [hs.1]; omega)
   rw [hx] at hx2
   have HS := Hid.mk (And.intro hs (And.intro hoff hx2))
   clear hs hx hoff hx2
   go_upto_region 6 with fail
   have p1 := HS.out.1.alloc (.cells #[.pointer (some ⟨w.heap.size, o, none⟩), .int .i64 lo, .int .i64 hi] 228)
   have p2 := three_cells (heap_alloc_new wr (.cells #[.pointer (some ⟨w.heap.size, o, none⟩), .int .i64 lo, .int .i64 hi] 228))
   have p3 : (wr.alloc (.cells #[.pointer (some ⟨w.heap.size, o, none⟩), .int .i64 lo, .int .i64 hi] 228)).cell? ⟨w.heap.size, o, none⟩ = some (.int .i64 x) := (((Below.refl _ wr).alloc (Nat.le_refl _) _).cell (p := ⟨w.heap.size, o, none⟩) HS.out.1.2.1.lt).trans HS.out.2.2
   have p4 := p1.2.1.frozen o
   generalize (wr.alloc (.cells #[.pointer (some ⟨w.heap.size, o, none⟩), .int .i64 lo, .int .i64 hi] 228)) = W2 at *
   generalize wr.heap.size = G at *
   obtain ⟨d0, d1, d2⟩ := p2
   replace HS := Hid.mk (And.intro p1 HS.out.2.1)
   clear p1 c0 c1 c2
   by_cases hlo : x < lo
   ·rw [if_pos (Or.inl hlo)] at hgo
    subst hgo
    go_region
    go_wp2_with fail
    go_ret
    exact ⟨rfl, HS.out.1.2.2.2.2.2.drew⟩
   ·by_cases hhi : hi < x
    ·rw [if_pos (Or.inr hhi)] at hgo
     subst hgo
     go_region
     go_wp2_with fail
     go_ret
     exact ⟨rfl, HS.out.1.2.2.2.2.2.drew⟩
    ·rw [if_neg (by omega)] at hgo
     replace hgo := Hid.mk hgo
     go_region
     go_wp2_with fail
     exact ⟨⟨k + 1, _, by omega, by go_num, HS.out.1.drew.next o hgo.out⟩, by simp [intOf]; omega⟩
  ·have hk2 : k = n := by omega
   obtain ⟨hl, hr, hr2, hna, hgo, hb⟩ := hs
   rw [hk2, <- hn.out, List.drop_length, chkGo] at hgo
   subst hgo
   obtain ⟨x0, x1, x2, x3, x4, x5, rfl⟩ := six hl
   obtain ⟨c0, c1, c2, c3, c4, c5⟩ := hr.six
   obtain ⟨e0, e1, e2, e3, e4, e5⟩ := hr2.six
   have HB := Hid.mk hb
   have HN := Hid.mk hn.out
   clear hr hr2 hna hb hl hk2 hn
   by_cases h0 : 0 < n
   ·have hd : decide (0 < (flds K).length) = true := decide_eq_true (by rw [HN.out]; exact h0)
    go_wp2_with fail
    all_goals
     go_ret
     exact ⟨rfl, HB.out⟩
   ·have hd : decide (0 < (flds K).length) = false := decide_eq_false (by rw [HN.out]; exact h0)
    go_wp2_with fail
    all_goals
     go_ret
     exact ⟨rfl, HB.out⟩
end Go.Proofs.YtaphpdmfjnhlaaaGreatDoor.S8
namespace Go.Proofs.YtaphpdmfjnhlaaaGreatDoor.S8
open Go Go.RowKit
end Go.Proofs.YtaphpdmfjnhlaaaGreatDoor.S8
namespace Go.Proofs.YtaphpdmfjnhlaaaGreatDoor.S8
open Go Go.RowKit
end Go.Proofs.YtaphpdmfjnhlaaaGreatDoor.S8
namespace Go.Proofs.YtaphpdmfjnhlaaaGreatDoor.S8
open Go Go.RowKit
end Go.Proofs.YtaphpdmfjnhlaaaGreatDoor.S8
namespace Go.Proofs.YtaphpdmfjnhlaaaGreatDoor.S8
open Go Go.RowKit
def mayR (K S P A T N : Int) : Prop :=
 (K = 1 /\ 1 <= S /\ S <= 15 /\ 0 <= P /\ P <= 1023 /\ 0 <= A /\ A <= 511 /\ T = 0 /\ N = 0) \/ (K = 2 /\ 1 <= S /\ S <= 15 /\ 0 <= P /\ P <= 1023 /\ A = 0 /\ T = 0 /\ N = 0) ∨
 (K = 3 /\ S = 0 /\ P = 0 /\ 0 <= A /\ A <= 511 /\ 0 <= T /\ T <= 511 /\ N = 0) \/ (K = 4 /\ 1 <= S /\ S <= 15 /\ P = 0 /\ A = 0 /\ T = 0 /\ 1 <= N /\ N <= 1024) ∨
 (K = 5 /\ 1 <= S /\ S <= 15 /\ P = 0 /\ A = 0 /\ T = 0 /\ N = 0) \/ (K = 6 /\ 1 <= S /\ S <= 15 /\ P = 0 /\ A = 0 /\ 1 <= T /\ T <= 15 /\ N = 0) ∨
 (K = 7 /\ 1 <= S /\ S <= 15 /\ P = 0 /\ A = 0 /\ T = 0 /\ N = 0) \/ (K = 8 /\ S = 0 /\ P = 0 /\ 0 <= A /\ A <= 31 /\ T = 0 /\ N = 0) ∨
 (K = 9 /\ S = 0 /\ P = 0 /\ 0 <= A /\ A <= 31 /\ T = 0 /\ 0 <= N /\ N <= 1073741824)
theorem chk_iff (K S P A T N : Int) : chkL K [K, S, P, A, T, N] = true ↔ mayR K S P A T N := by
 rcases kinds K with rfl | rfl | rfl | rfl | rfl | rfl | rfl | rfl | rfl | ⟨h1, h2, h3, h4, h5, h6, h7, h8, h9⟩
 case inr.inr.inr.inr.inr.inr.inr.inr.inr =>
  unfold chkL
  rw [flds_none h1 h2 h3 h4 h5 h6 h7 h8 h9]
  simp [chkGo, mayR, h1, h2, h3, h4, h5, h6, h7, h8, h9]
 all_goals
  unfold chkL
  split
  ·rename_i hq
   simp [flds, chkGo] at hq
   simp [mayR]
   omega
  ·rename_i m hq
   simp [flds, chkGo] at hq
   simp [flds, mayR]
   first
   | obtain ⟨h1, h2, h3, rfl⟩ := hq
   | obtain ⟨h1, h2, rfl⟩ := hq
   | obtain ⟨h1, rfl⟩ := hq
   simp
   omega
def mayB (K S P A T N : Int) : Bool := chkL K [K, S, P, A, T, N]
theorem mayB_iff {K S P A T N : Int} : mayB K S P A T N = true ↔ mayR K S P A T N := chk_iff K S P A T N
theorem checkB_any (K S P A T N : Int) (w : World) : Calls Tryz.prog 111 #[rv K S P A T N] w fun e w' => e = .returned (.bool (mayB K S P A T N)) /\ Below w.heap.size w w' := check_any K S P A T N w
end Go.Proofs.YtaphpdmfjnhlaaaGreatDoor.S8
