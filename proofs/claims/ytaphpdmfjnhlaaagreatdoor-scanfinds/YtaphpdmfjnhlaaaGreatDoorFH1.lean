/-
  A block that is one row of numbers: what its cells hold, and what loads, stores, and calls leave of it. No condition. A slice of numbers that the call itself made, at the head of a block of its own: append, in place or to a new block; what calls and other appends leave of it. No condition. Records: which numbers a kind has, their limits; the walk of the program's list of them. No condition. Which records may be: the walk of the program's Check. No condition. The answer's lists of a record's numbers, of their least and of their most; the record of such a list: the walks of row and of. No condition. The record of a kind with these numbers: the walk of the answer's of. No condition. Which records may be, as the answer reckons it: the walk of its Check. No condition. Which records may be, said plainly: both sides' Checks answer just that. No condition.
-/
import Derived.WalkKit
import Derived.Laws.Rows
import Derived.Deep.WholeRow
import Derived.Laws.IdiomStrings
import Derived.BigQuiet
import Derived.Deep.OwnRows
import Derived.Laws.AppendOwn
import Derived.OwnWalk
import Derived.ArgAppend
import Derived.Laws.IdiomCopy
import Derived.Test.YtaphpdmfjnhlaaaGreatDoorChecked
import Derived.Lib.SmallJoins
import Derived.Deep.RegionHeld3
import Derived.Deep.Cut
import Derived.Deep.RegionWith
import Derived.Laws.ResultCell
import Derived.Laws.NewBlocks
import Derived.Laws.Closers25
import Derived.WalkSpells
import Derived.Deep.RegionLaw
namespace Go.Proofs.YtaphpdmfjnhlaaaGreatDoor.S8
open Go Go.RowKit
def cellsOf (k : IntKind) (l : List Int) : Array Value:=(l.map (Value.int k)).toArray
theorem cellsOf_set (k : IntKind) (l : List Int) (j : Nat) (v : Int) : (cellsOf k l).setIfInBounds j (.int k v) = cellsOf k (l.set j v):=by
 simp [cellsOf,List.map_set]
def Row (w : World) (g : Nat) (t : TypeId) (k : IntKind) (l : List Int) : Prop:=w.heap[g]? = some (.cells (cellsOf k l) t (0,0))
theorem Row.lt {w : World} {g t k l} (h : Row w g t k l) : g < w.heap.size:=(Array.getElem?_eq_some_iff.1 h).1
theorem Row.cell {w : World} {g t k l} (h : Row w g t k l) (j : Nat) (hj : j < l.length) : w.cell? ⟨g,j,none⟩ = some (.int k (l.getD j 0)):=by
 rw [cell_of_row w g j _ t _ h]
 simp [cellsOf,List.getD_eq_getElem?_getD,hj]
theorem Row.frozen {w : World} {g t k l} (h : Row w g t k l) (j : Nat) : w.frozen? ⟨g,j,none⟩ = false:=frozen_of_row w g j _ t h
theorem Row.drew {w : World} {g t k l} (h : Row w g t k l) : Row w.drew g t k l:=h
theorem Row.below {B g : Nat} {w w' : World} {t k l} (h : Row w g t k l) (b : Below B w w') (hg : g < B) : Row w' g t k l:=by
 unfold Row
 rw [b.block g hg]
 exact h
theorem Row.call {g : Nat} {w w' : World} {t k l} (h : Row w g t k l) (b : Below w.heap.size w w') : Row w' g t k l:=h.below b h.lt
theorem Row.alloc {w : World} {g t k l} (h : Row w g t k l) (o : Obj) : Row (w.alloc o) g t k l:=(Below.heap_alloc w o g h.lt).trans h
theorem Row.fresh (w : World) (t : TypeId) (k : IntKind) (l : List Int) : Row (w.alloc (.cells (cellsOf k l) t)) w.heap.size t k l:=heap_alloc_new w _
theorem Row.stored {w : World} {g t k l} (h : Row w g t k l) (j : Nat) (v : Int) : Row (w.setCell ⟨g,j,none⟩ (.int k v)) g t k (l.set j v):=by
 have:=heap_setCell_same w g j _ t (.int k v) h
 rw [cellsOf_set] at this
 exact this
theorem Row.other {w : World} {g t k l} (h : Row w g t k l) {a : Addr} (ha : a.block ≠ g) (v : Value) : Row (w.setCell a v) g t k l :=
 (heap_setCell_other w a g v (fun e => ha e.symm)).trans h
theorem below3 {w a b : World} (h : Below w.heap.size w a) (k : Below a.heap.size a b) : Below w.heap.size w b:=h.trans (k.mono h.size)
theorem below_drewN {B n : Nat} {w w' : World} (h : Below B w w') : Below B w (w'.drewN n):=⟨h.os,h.tape,h.output,h.size,h.block⟩
theorem size_alloc (w : World) (o : Obj) : (w.alloc o).heap.size = w.heap.size + 1:=by simp
theorem Row.fresh1 (w : World) (o : Obj) (t : TypeId) (k : IntKind) (l : List Int) : Row ((w.alloc o).alloc (.cells (cellsOf k l) t)) (w.heap.size + 1) t k l:=by
 have h:=Row.fresh (w.alloc o) t k l
 rwa [size_alloc] at h
theorem Row.fresh2 (w : World) (o o' : Obj) (t : TypeId) (k : IntKind) (l : List Int) : Row (((w.alloc o).alloc o').alloc (.cells (cellsOf k l) t)) (w.heap.size + 1 + 1) t k l:=by
 have h:=Row.fresh1 (w.alloc o) o' t k l
 rwa [size_alloc] at h
variable {P : Program}
def HasBytes (w : World) (g : Nat) (l : List UInt8) : Prop :=
 ∀ j,j < l.length -> w.cell? ⟨g,j,none⟩ = some (.int .u8 ((l.getD j 0).toNat : Int))/\w.frozen? ⟨g,j,none⟩ = false
end Go.Proofs.YtaphpdmfjnhlaaaGreatDoor.S8
namespace Go.Proofs.YtaphpdmfjnhlaaaGreatDoor.S8
open Go Go.RowKit
def Sl (w : World) (_e : TypeId) (k : IntKind) (v : Value) (g : Nat) (l : List Int) : Prop :=
 g < w.heap.size /\ ∃ cap : Nat,v = .slice (some ⟨g,0,none⟩) l.length cap/\l.length <= cap/\(∀ j,j < cap -> (w.cell? ⟨g,j,none⟩).isSome = true/\w.frozen? ⟨g,j,none⟩ = false) ∧
  ∀ j,j < l.length -> w.cell? ⟨g,j,none⟩ = some (.int k (l.getD j 0))
theorem Sl.lt {w : World} {e k v g l} (h : Sl w e k v g l) : g < w.heap.size:=h.1
theorem Sl.same {w w' : World} {e k v g l} (h : Sl w e k v g l) (hz : w.heap.size <= w'.heap.size) (hh : w'.heap[g]? = w.heap[g]?) : Sl w' e k v g l:=by
 obtain ⟨hg,cap,hv,hc,h1,h2⟩:=h
 refine ⟨by omega,cap,hv,hc,fun j hj => ?_,fun j hj => ?_⟩
 ·rw [World.cell?_of_block (a:=⟨g,j,none⟩) hh,World.frozen?_of_block (a:=⟨g,j,none⟩) hh]
  exact h1 j hj
 ·rw [World.cell?_of_block (a:=⟨g,j,none⟩) hh]
  exact h2 j hj
theorem Sl.alloc {w : World} {e k v g l} (h : Sl w e k v g l) (o : Obj) : Sl (w.alloc o) e k v g l:=h.same (by rw [size_alloc]; omega) (Below.heap_alloc w o g h.lt)
variable {P : Program}
structure Ent where
 e : TypeId
 k : IntKind
 v : Value
 g : Nat
 l : List Int
def Ent.In (f : Ent) (w : World) : Prop:=Sl w f.e f.k f.v f.g f.l
def All (w wx : World) (fs : List Ent) : Prop:=(∀ f ∈ fs,f.In wx/\w.heap.size <= f.g)/\Below w.heap.size w wx
end Go.Proofs.YtaphpdmfjnhlaaaGreatDoor.S8
namespace Go.Proofs.YtaphpdmfjnhlaaaGreatDoor.S8
open Go Go.RowKit
abbrev Fl:=Nat × Int × Int
def flds (K : Int) : List Fl :=
 if K = 1 then [(1,1,15),(2,0,1023),(3,0,511)] else if K = 2 then [(1,1,15),(2,0,1023)] else if K = 3 then [(3,0,511),(4,0,511)]
 else if K = 4 then [(1,1,15),(5,1,1024)] else if K = 5 then [(1,1,15)] else if K = 6 then [(1,1,15),(4,1,15)] else if K = 7 then [(1,1,15)]
 else if K = 8 then [(3,0,31)] else if K = 9 then [(3,0,31),(5,0,1073741824)] else []
theorem flds_none {K : Int} (h1 : ¬ K = 1) (h2 : ¬ K = 2) (h3 : ¬ K = 3) (h4 : ¬ K = 4) (h5 : ¬ K = 5) (h6 : ¬ K = 6) (h7 : ¬ K = 7) (h8 : ¬ K = 8) (h9 : ¬ K = 9) : flds K = []:=by
 unfold flds
 rw [if_neg h1,if_neg h2,if_neg h3,if_neg h4,if_neg h5,if_neg h6,if_neg h7,if_neg h8,if_neg h9]
theorem kinds (K : Int) : K = 1 \/ K = 2 \/ K = 3 \/ K = 4 \/ K = 5 \/ K = 6 \/ K = 7 \/ K = 8 \/ K = 9 \/ (¬ K = 1 /\ ¬ K = 2 /\ ¬ K = 3 /\ ¬ K = 4 /\ ¬ K = 5 /\ ¬ K = 6 /\ ¬ K = 7 /\ ¬ K = 8 /\ ¬ K = 9):=by omega
def flCells (R : Nat) : List Fl -> List Value
 | [] => []
 | f :: fs => .pointer (some ⟨R,f.1,none⟩) :: .int .i64 f.2.1 :: .int .i64 f.2.2 :: flCells R fs
theorem flCells_get (R : Nat) (fs : List Fl) (j : Nat) (h : j < fs.length) :
  (flCells R fs)[j * 3]? = some (.pointer (some ⟨R,(fs.getD j (0,0,0)).1,none⟩))/\(flCells R fs)[j * 3 + 1]? = some (.int .i64 (fs.getD j (0,0,0)).2.1)/\(flCells R fs)[j * 3 + 2]? = some (.int .i64 (fs.getD j (0,0,0)).2.2):=by
 induction fs generalizing j with
 | nil => simp at h
 | cons f fs ih =>
  cases j with
  | zero => simp [flCells]
  | succ j =>
   have:=ih j (by simpa using h)
   rw [show (j + 1) * 3 = j * 3 + 1 + 1 + 1 by omega]
   simpa [flCells] using this
def NumsAt (w : World) (B R : Nat) (a : Option Addr) (fs : List Fl) : Prop :=
 0 < fs.length -> ∃ g,a = some ⟨g,0,none⟩/\B <= g/\w.heap[g]? = some (.cells (flCells R fs).toArray 228 (0,0))
theorem NumsAt.same {w w' : World} {B R a fs} (h : NumsAt w B R a fs) (hh : ∀ g,g < w.heap.size -> B <= g -> w'.heap[g]? = w.heap[g]?) : NumsAt w' B R a fs:=by
 intro h0
 obtain ⟨g,ha,hg,hb⟩:=h h0
 exact ⟨g,ha,hg,(hh g (Array.getElem?_eq_some_iff.1 hb).1 hg).trans hb⟩
theorem NumsAt.alloc {w : World} {B R a fs} (h : NumsAt w B R a fs) (o : Obj) : NumsAt (w.alloc o) B R a fs:=h.same fun g hg _ => Below.heap_alloc w o g hg
theorem NumsAt.drew {w : World} {B R a fs} (h : NumsAt w B R a fs) : NumsAt w.drew B R a fs:=h
theorem NumsAt.set {w : World} {B R a fs} (h : NumsAt w B R a fs) {p : Addr} (hp : p.block < B) (v : Value) : NumsAt (w.setCell p v) B R a fs :=
 h.same fun g _ hg => heap_setCell_other w p g v (fun e => by rw [<- e] at hp; omega)
theorem NumsAt.cells {w : World} {B R a fs} (h : NumsAt w B R a fs) (j : Nat) (hj : j < fs.length) : ∃ g,a = some ⟨g,0,none⟩/\B <= g/\g < w.heap.size ∧
  w.cell? ⟨g,j * 3,none⟩ = some (.pointer (some ⟨R,(fs.getD j (0,0,0)).1,none⟩))/\w.cell? ⟨g,j * 3 + 1,none⟩ = some (.int .i64 (fs.getD j (0,0,0)).2.1)/\w.cell? ⟨g,j * 3 + 2,none⟩ = some (.int .i64 (fs.getD j (0,0,0)).2.2):=by
 obtain ⟨g,ha,hg,hb⟩:=h (by omega)
 obtain ⟨c0,c1,c2⟩:=flCells_get R fs j hj
 refine ⟨g,ha,hg,(Array.getElem?_eq_some_iff.1 hb).1,?_,?_,?_⟩
 ·rw [cell_of_row w g _ _ 228 _ hb]; simpa using c0
 ·rw [cell_of_row w g _ _ 228 _ hb]; simpa using c1
 ·rw [cell_of_row w g _ _ 228 _ hb]; simpa using c2
def numsPost (w : World) (R : Nat) (fs : List Fl) (e : Ending) (w' : World) : Prop :=
 ∃ a,e = .returned (.slice a fs.length fs.length)/\Below w.heap.size w w'/\NumsAt w' w.heap.size R a fs
theorem below_four (w : World) (o1 o2 o3 o4 : Obj) : Below w.heap.size w ((((w.alloc o1).alloc o2).alloc o3).alloc o4) :=
 (((((Below.refl w.heap.size w).alloc (Nat.le_refl _) o1).alloc (by rw [size_alloc]; omega) o2).alloc (by rw [size_alloc,size_alloc]; omega) o3).alloc (by rw [size_alloc,size_alloc,size_alloc]; omega) o4)
theorem nums_done (w W : World) (R : Nat) (fs : List Fl) (cs : Array Value) (g : Nat) (n : Nat) (hb : Below w.heap.size w W) (hc : cs = (flCells R fs).toArray) (hg : g = W.heap.size) (hn : n = fs.length) :
  numsPost w R fs (.returned (.slice (some ⟨g,0,none⟩) n n)) (W.alloc (.cells cs 228)):=by
 subst hg hc hn
 exact ⟨_,rfl,hb.alloc hb.size _,fun _ => ⟨_,rfl,hb.size,heap_alloc_new W _⟩⟩
theorem size_four (w : World) (o1 o2 o3 o4 : Obj) : ((((w.alloc o1).alloc o2).alloc o3).alloc o4).heap.size = w.heap.size + 1 + 1 + 1 + 1:=by simp only [size_alloc]
theorem cell_four {w : World} {R : Nat} {v : Value} (hR : R < w.heap.size) (c0 : w.cell? ⟨R,0,none⟩ = some v) (o1 o2 o3 o4 : Obj) : ((((w.alloc o1).alloc o2).alloc o3).alloc o4).cell? ⟨R,0,none⟩ = some v:=by
 rw [(below_four w o1 o2 o3 o4).cell (p:=⟨R,0,none⟩) hR]
 exact c0
theorem numbers_1 (R : Nat) (w : World) (hR : R < w.heap.size) (c0 : w.cell? ⟨R,0,none⟩ = some (.int .i64 1)) : Calls Tryz.prog 134 #[.pointer (some ⟨R,0,none⟩)] w (numsPost w R (flds 1)):=by
 have c4:=cell_four hR c0
 go_enter Tryz.func134,Tryz.ntmps134
 go_wp2_with fail
 go_ret
 exact nums_done w _ R [(1,1,15),(2,0,1023),(3,0,511)] _ _ _ (below_four w _ _ _ _) rfl (size_four w _ _ _ _).symm rfl
theorem numbers_2 (R : Nat) (w : World) (hR : R < w.heap.size) (c0 : w.cell? ⟨R,0,none⟩ = some (.int .i64 2)) : Calls Tryz.prog 134 #[.pointer (some ⟨R,0,none⟩)] w (numsPost w R (flds 2)):=by
 have c4:=cell_four hR c0
 go_enter Tryz.func134,Tryz.ntmps134
 go_wp2_with fail
 go_ret
 exact nums_done w _ R [(1,1,15),(2,0,1023)] _ _ _ (below_four w _ _ _ _) rfl (size_four w _ _ _ _).symm rfl
theorem numbers_3 (R : Nat) (w : World) (hR : R < w.heap.size) (c0 : w.cell? ⟨R,0,none⟩ = some (.int .i64 3)) : Calls Tryz.prog 134 #[.pointer (some ⟨R,0,none⟩)] w (numsPost w R (flds 3)):=by
 have c4:=cell_four hR c0
 go_enter Tryz.func134,Tryz.ntmps134
 go_wp2_with fail
 go_region
 go_wp2_with fail
 go_ret
 exact nums_done w _ R [(3,0,511),(4,0,511)] _ _ _ (below_four w _ _ _ _).drew rfl (size_four w _ _ _ _).symm rfl
theorem numbers_4 (R : Nat) (w : World) (hR : R < w.heap.size) (c0 : w.cell? ⟨R,0,none⟩ = some (.int .i64 4)) : Calls Tryz.prog 134 #[.pointer (some ⟨R,0,none⟩)] w (numsPost w R (flds 4)):=by
 have c4:=cell_four hR c0
 go_enter Tryz.func134,Tryz.ntmps134
 go_wp2_with fail
 go_region
 go_wp2_with fail
 go_ret
 exact nums_done w _ R [(1,1,15),(5,1,1024)] _ _ _ (below_four w _ _ _ _).drew rfl (size_four w _ _ _ _).symm rfl
theorem numbers_5 (R : Nat) (w : World) (hR : R < w.heap.size) (c0 : w.cell? ⟨R,0,none⟩ = some (.int .i64 5)) : Calls Tryz.prog 134 #[.pointer (some ⟨R,0,none⟩)] w (numsPost w R (flds 5)):=by
 have c4:=cell_four hR c0
 go_enter Tryz.func134,Tryz.ntmps134
 go_wp2_with fail
 go_ret
 exact nums_done w _ R [(1,1,15)] _ _ _ (below_four w _ _ _ _) rfl (size_four w _ _ _ _).symm rfl
theorem numbers_6 (R : Nat) (w : World) (hR : R < w.heap.size) (c0 : w.cell? ⟨R,0,none⟩ = some (.int .i64 6)) : Calls Tryz.prog 134 #[.pointer (some ⟨R,0,none⟩)] w (numsPost w R (flds 6)):=by
 have c4:=cell_four hR c0
 go_enter Tryz.func134,Tryz.ntmps134
 go_wp2_with fail
 go_region
 go_wp2_with fail
 go_ret
 exact nums_done w _ R [(1,1,15),(4,1,15)] _ _ _ (below_four w _ _ _ _).drew rfl (size_four w _ _ _ _).symm rfl
theorem numbers_7 (R : Nat) (w : World) (hR : R < w.heap.size) (c0 : w.cell? ⟨R,0,none⟩ = some (.int .i64 7)) : Calls Tryz.prog 134 #[.pointer (some ⟨R,0,none⟩)] w (numsPost w R (flds 7)):=by
 have c4:=cell_four hR c0
 go_enter Tryz.func134,Tryz.ntmps134
 go_wp2_with fail
 go_ret
 exact nums_done w _ R [(1,1,15)] _ _ _ (below_four w _ _ _ _) rfl (size_four w _ _ _ _).symm rfl
theorem numbers_8 (R : Nat) (w : World) (hR : R < w.heap.size) (c0 : w.cell? ⟨R,0,none⟩ = some (.int .i64 8)) : Calls Tryz.prog 134 #[.pointer (some ⟨R,0,none⟩)] w (numsPost w R (flds 8)):=by
 have c4:=cell_four hR c0
 go_enter Tryz.func134,Tryz.ntmps134
 go_wp2_with fail
 go_ret
 exact nums_done w _ R [(3,0,31)] _ _ _ (below_four w _ _ _ _) rfl (size_four w _ _ _ _).symm rfl
theorem numbers_9 (R : Nat) (w : World) (hR : R < w.heap.size) (c0 : w.cell? ⟨R,0,none⟩ = some (.int .i64 9)) : Calls Tryz.prog 134 #[.pointer (some ⟨R,0,none⟩)] w (numsPost w R (flds 9)):=by
 have c4:=cell_four hR c0
 go_enter Tryz.func134,Tryz.ntmps134
 go_wp2_with fail
 go_region
 go_wp2_with fail
 go_ret
 exact nums_done w _ R [(3,0,31),(5,0,1073741824)] _ _ _ (below_four w _ _ _ _).drew rfl (size_four w _ _ _ _).symm rfl
theorem numbers_0 (R : Nat) (K : Int) (w : World) (hR : R < w.heap.size) (c0 : w.cell? ⟨R,0,none⟩ = some (.int .i64 K)) (h1 : ¬ K = 1) (h2 : ¬ K = 2) (h3 : ¬ K = 3) (h4 : ¬ K = 4) (h5 : ¬ K = 5) (h6 : ¬ K = 6) (h7 : ¬ K = 7) (h8 : ¬ K = 8) (h9 : ¬ K = 9) :
  Calls Tryz.prog 134 #[.pointer (some ⟨R,0,none⟩)] w (numsPost w R (flds K)):=by
 rw [flds_none h1 h2 h3 h4 h5 h6 h7 h8 h9]
 have c4:=cell_four hR c0
 go_enter Tryz.func134,Tryz.ntmps134
 go_wp2_with fail
 go_ret
 exact ⟨none,rfl,below_four w _ _ _ _,fun h => by simp at h⟩
theorem numbers_any {w : World} {R : Nat} {K : Int} (hR : R < w.heap.size) (c0 : w.cell? ⟨R,0,none⟩ = some (.int .i64 K)) : Calls Tryz.prog 134 #[.pointer (some ⟨R,0,none⟩)] w (numsPost w R (flds K)):=by
 rcases kinds K with rfl | rfl | rfl | rfl | rfl | rfl | rfl | rfl | rfl | ⟨h1,h2,h3,h4,h5,h6,h7,h8,h9⟩
 ·exact numbers_1 R w hR c0
 ·exact numbers_2 R w hR c0
 ·exact numbers_3 R w hR c0
 ·exact numbers_4 R w hR c0
 ·exact numbers_5 R w hR c0
 ·exact numbers_6 R w hR c0
 ·exact numbers_7 R w hR c0
 ·exact numbers_8 R w hR c0
 ·exact numbers_9 R w hR c0
 ·exact numbers_0 R K w hR c0 h1 h2 h3 h4 h5 h6 h7 h8 h9
end Go.Proofs.YtaphpdmfjnhlaaaGreatDoor.S8
namespace Go.Proofs.YtaphpdmfjnhlaaaGreatDoor.S8
open Go Go.RowKit
theorem Hid.mk {p : Prop} (h : p) : Hid p:=h
theorem below_two (w : World) (o1 o2 : Obj) : Below w.heap.size w ((w.alloc o1).alloc o2):=by
 refine ((Below.refl w.heap.size w).alloc (Nat.le_refl _) o1).alloc ?_ o2
 rw [size_alloc]
 omega
def chkGo : List Fl -> List Int -> Option (List Int)
 | [],l => some l
 | f :: fs,l => if l.getD f.1 0 < f.2.1 \/ f.2.2 < l.getD f.1 0 then none else chkGo fs (l.set f.1 0)
def chkL (K : Int) (l : List Int) : Bool :=
 match chkGo (flds K) l with
 | none => false
 | some m => decide (0 < (flds K).length/\m = [K,0,0,0,0,0])
theorem flds_off (K : Int) : ∀ f ∈ flds K,1 <= f.1/\f.1 <= 5/\0 <= f.2.1/\0 <= f.2.2/\f.2.2 <= 1073741824:=by
 rcases kinds K with rfl | rfl | rfl | rfl | rfl | rfl | rfl | rfl | rfl | ⟨h1,h2,h3,h4,h5,h6,h7,h8,h9⟩
 all_goals first
 | (rw [flds_none h1 h2 h3 h4 h5 h6 h7 h8 h9]; intro f hf; cases hf)
 | (intro f hf; simp [flds] at hf; rcases hf with rfl | rfl | rfl <;> simp)
 | (intro f hf; simp [flds] at hf; rcases hf with rfl | rfl <;> simp)
 | (intro f hf; simp [flds] at hf; subst hf; simp)
theorem flds_len (K : Int) : (flds K).length <= 3:=by
 rcases kinds K with rfl | rfl | rfl | rfl | rfl | rfl | rfl | rfl | rfl | ⟨h1,h2,h3,h4,h5,h6,h7,h8,h9⟩
 all_goals first
 | (rw [flds_none h1 h2 h3 h4 h5 h6 h7 h8 h9]; simp)
 | simp [flds]
theorem drop_getD (fs : List Fl) (k : Nat) (h : k < fs.length) : fs.drop k = fs.getD k (0,0,0) :: fs.drop (k + 1):=by
 rw [List.drop_eq_getElem_cons h]
 simp [List.getD_eq_getElem?_getD,h]
theorem getD_mem (fs : List Fl) (k : Nat) (h : k < fs.length) : fs.getD k (0,0,0) ∈ fs:=by
 simp [List.getD_eq_getElem?_getD,h]
def rv (K S P A T N : Int) : Value := .agg #[.int .i64 K,.int .i64 S,.int .i64 P,.int .i64 A,.int .i64 T,.int .i64 N]
def ChkS (w : World) (K : Int) (a : Option Addr) (R0 : Option (List Int)) (k : Nat) (lk : List Int) (wr : World) : Prop :=
 lk.length = 6/\Row wr w.heap.size 87 .i64 lk/\Row wr (w.heap.size + 1) 87 .i64 [K,0,0,0,0,0]/\NumsAt wr (w.heap.size + 2) w.heap.size a (flds K)/\chkGo ((flds K).drop k) lk = R0/\Below w.heap.size w wr
theorem three_cells {W : World} {g : Nat} {x y z : Value} (h : W.heap[g]? = some (.cells #[x,y,z] 228 (0,0))) : W.cell? ⟨g,0,none⟩ = some x/\W.cell? ⟨g,1,none⟩ = some y/\W.cell? ⟨g,2,none⟩ = some z:=by
 refine ⟨?_,?_,?_⟩ <;> (rw [cell_of_row W g _ _ 228 _ h]; rfl)
theorem ChkS.alloc {w : World} {K a R0 k lk wr} (h : ChkS w K a R0 k lk wr) (o : Obj) : ChkS w K a R0 k lk (wr.alloc o) :=
 ⟨h.1,h.2.1.alloc o,h.2.2.1.alloc o,h.2.2.2.1.alloc o,h.2.2.2.2.1,h.2.2.2.2.2.alloc h.2.2.2.2.2.size o⟩
theorem ChkS.drew {w : World} {K a R0 k lk wr} (h : ChkS w K a R0 k lk wr) : ChkS w K a R0 k lk wr.drew :=
 ⟨h.1,h.2.1.drew,h.2.2.1.drew,h.2.2.2.1.drew,h.2.2.2.2.1,h.2.2.2.2.2.drew⟩
theorem ChkS.next {w : World} {K a R0 k lk wr} (h : ChkS w K a R0 k lk wr) (o : Nat) (hgo : chkGo ((flds K).drop (k + 1)) (lk.set o 0) = R0) : ChkS w K a R0 (k + 1) (lk.set o 0) (wr.setCell ⟨w.heap.size,o,none⟩ (.int .i64 0)) :=
 ⟨by rw [List.length_set]; exact h.1,h.2.1.stored o 0,h.2.2.1.other (by show w.heap.size ≠ w.heap.size + 1; omega) _,h.2.2.2.1.set (by show w.heap.size < w.heap.size + 2; omega) _,hgo,h.2.2.2.2.2.setCell (Nat.le_refl _) _⟩
theorem six {l : List Int} (h : l.length = 6) : ∃ a b c d e f,l = [a,b,c,d,e,f]:=by
 match l,h with
 | [a,b,c,d,e,f],_ => exact ⟨a,b,c,d,e,f,rfl⟩
theorem Row.six {w : World} {g : Nat} {a b c d e f : Int} (h : Row w g 87 .i64 [a,b,c,d,e,f]) : w.cell? ⟨g,0,none⟩ = some (.int .i64 a)/\w.cell? ⟨g,1,none⟩ = some (.int .i64 b)/\w.cell? ⟨g,2,none⟩ = some (.int .i64 c) ∧
  w.cell? ⟨g,3,none⟩ = some (.int .i64 d)/\w.cell? ⟨g,4,none⟩ = some (.int .i64 e)/\w.cell? ⟨g,5,none⟩ = some (.int .i64 f) :=
 ⟨h.cell 0 (by simp),h.cell 1 (by simp),h.cell 2 (by simp),h.cell 3 (by simp),h.cell 4 (by simp),h.cell 5 (by simp)⟩
theorem check_any (K S P A T N : Int) (w : World) : Calls Tryz.prog 111 #[rv K S P A T N] w fun e w' => e = .returned (.bool (chkL K [K,S,P,A,T,N]))/\Below w.heap.size w w':=by
 unfold rv chkL
 generalize hR0 : chkGo (flds K) [K,S,P,A,T,N] = R0
 go_enter Tryz.func111,Tryz.ntmps111
 go_upto_region 2 with fail
 have p1 : Row ((w.alloc (.cells #[.int .i64 K,.int .i64 S,.int .i64 P,.int .i64 A,.int .i64 T,.int .i64 N] 87)).alloc (.cells #[.int .i64 K,.int .i64 0,.int .i64 0,.int .i64 0,.int .i64 0,.int .i64 0] 87)) w.heap.size 87 .i64 [K,S,P,A,T,N]:=(Row.fresh w 87 .i64 [K,S,P,A,T,N]).alloc _
 have p2 : Row ((w.alloc (.cells #[.int .i64 K,.int .i64 S,.int .i64 P,.int .i64 A,.int .i64 T,.int .i64 N] 87)).alloc (.cells #[.int .i64 K,.int .i64 0,.int .i64 0,.int .i64 0,.int .i64 0,.int .i64 0] 87)) (w.heap.size + 1) 87 .i64 [K,0,0,0,0,0]:=Row.fresh1 w _ 87 .i64 [K,0,0,0,0,0]
 have p3:=below_two w (.cells #[.int .i64 K,.int .i64 S,.int .i64 P,.int .i64 A,.int .i64 T,.int .i64 N] 87) (.cells #[.int .i64 K,.int .i64 0,.int .i64 0,.int .i64 0,.int .i64 0,.int .i64 0] 87)
 have p4 : ((w.alloc (.cells #[.int .i64 K,.int .i64 S,.int .i64 P,.int .i64 A,.int .i64 T,.int .i64 N] 87)).alloc (.cells #[.int .i64 K,.int .i64 0,.int .i64 0,.int .i64 0,.int .i64 0,.int .i64 0] 87)).heap.size = w.heap.size + 2:=by rw [size_alloc,size_alloc]
 generalize ((w.alloc (.cells #[.int .i64 K,.int .i64 S,.int .i64 P,.int .i64 A,.int .i64 T,.int .i64 N] 87)).alloc (.cells #[.int .i64 K,.int .i64 0,.int .i64 0,.int .i64 0,.int .i64 0,.int .i64 0] 87)) = W at *
 have H:=Hid.mk (And.intro p1 (And.intro p2 (And.intro p3 p4)))
 clear p1 p2 p3 p4
 go_upto_region 4 with (go_at_call 134; refine (numbers_any (K:=K) H.out.1.lt (H.out.1.cell 0 (by simp))).mono ?_; rintro e w1 ⟨a,rfl,b1,n1⟩)
 have hn3:=flds_len K
 rw [H.out.2.2.2] at n1
 have S0 : ChkS w K a R0 0 [K,S,P,A,T,N] w1:=⟨rfl,H.out.1.call b1,H.out.2.1.call b1,n1,hR0,below3 H.out.2.2.1 b1⟩
 replace S0:=Hid.mk S0
 clear H n1 b1 hR0
 generalize hn : (flds K).length = n at *
 replace hn:=Hid.mk hn
 go_loopw [13] (fun i wr => ∃ (k : Nat) (lk : List Int),k <= n/\i = .int .i64 k/\ChkS w K a R0 k lk wr) (fun i _ => n - (intOf i).toNat)
 case atStart => exact ⟨0,_,Nat.zero_le _,rfl,S0.out⟩
 case round =>
  clear S0
  obtain ⟨k,lk,hk,rfl,hs⟩:=hrel
  by_cases hkn : k < n
  ·have hkl : k < (flds K).length:=by rw [hn.out]; exact hkn
   obtain ⟨g,rfl,hg,hgl,c0,c1,c2⟩:=hs.2.2.2.1.cells k hkl
   have hoff:=flds_off K _ (getD_mem _ k hkl)
   have hgo:=hs.2.2.2.2.1
   rw [drop_getD _ k hkl,chkGo] at hgo
   generalize (flds K).getD k (0,0,0) = f at *
   obtain ⟨o,lo,hi⟩:=f
   simp only at c0 c1 c2 hoff hgo
   generalize hx : lk.getD o 0 = x at *
   have hx2:=hs.2.1.cell o (by rw [hs.1]; omega)
   rw [hx] at hx2
   have HS:=Hid.mk (And.intro hs (And.intro hoff hx2))
   clear hs hx hoff hx2
   go_upto_region 6 with fail
   have p1:=HS.out.1.alloc (.cells #[.pointer (some ⟨w.heap.size,o,none⟩),.int .i64 lo,.int .i64 hi] 228)
   have p2:=three_cells (heap_alloc_new wr (.cells #[.pointer (some ⟨w.heap.size,o,none⟩),.int .i64 lo,.int .i64 hi] 228))
   have p3 : (wr.alloc (.cells #[.pointer (some ⟨w.heap.size,o,none⟩),.int .i64 lo,.int .i64 hi] 228)).cell? ⟨w.heap.size,o,none⟩ = some (.int .i64 x):=(((Below.refl _ wr).alloc (Nat.le_refl _) _).cell (p:=⟨w.heap.size,o,none⟩) HS.out.1.2.1.lt).trans HS.out.2.2
   have p4:=p1.2.1.frozen o
   generalize (wr.alloc (.cells #[.pointer (some ⟨w.heap.size,o,none⟩),.int .i64 lo,.int .i64 hi] 228)) = W2 at *
   generalize wr.heap.size = G at *
   obtain ⟨d0,d1,d2⟩:=p2
   replace HS:=Hid.mk (And.intro p1 HS.out.2.1)
   clear p1 c0 c1 c2
   by_cases hlo : x < lo
   ·rw [if_pos (Or.inl hlo)] at hgo
    subst hgo
    go_region
    go_wp2_with fail
    go_ret
    exact ⟨rfl,HS.out.1.2.2.2.2.2.drew⟩
   ·by_cases hhi : hi < x
    ·rw [if_pos (Or.inr hhi)] at hgo
     subst hgo
     go_region
     go_wp2_with fail
     go_ret
     exact ⟨rfl,HS.out.1.2.2.2.2.2.drew⟩
    ·rw [if_neg (by omega)] at hgo
     replace hgo:=Hid.mk hgo
     go_region
     go_wp2_with fail
     exact ⟨⟨k + 1,_,by omega,by go_num,HS.out.1.drew.next o hgo.out⟩,by simp [intOf]; omega⟩
  ·have hk2 : k = n:=by omega
   obtain ⟨hl,hr,hr2,hna,hgo,hb⟩:=hs
   rw [hk2,<- hn.out,List.drop_length,chkGo] at hgo
   subst hgo
   obtain ⟨x0,x1,x2,x3,x4,x5,rfl⟩:=six hl
   obtain ⟨c0,c1,c2,c3,c4,c5⟩:=hr.six
   obtain ⟨e0,e1,e2,e3,e4,e5⟩:=hr2.six
   have HB:=Hid.mk hb
   have HN:=Hid.mk hn.out
   clear hr hr2 hna hb hl hk2 hn
   by_cases h0 : 0 < n
   ·have hd : decide (0 < (flds K).length) = true:=decide_eq_true (by rw [HN.out]; exact h0)
    go_wp2_with fail
    all_goals
     go_ret
     exact ⟨rfl,HB.out⟩
   ·have hd : decide (0 < (flds K).length) = false:=decide_eq_false (by rw [HN.out]; exact h0)
    go_wp2_with fail
    all_goals
     go_ret
     exact ⟨rfl,HB.out⟩
def rvL (l : List Int) : Value := .agg (cellsOf .i64 l)
theorem rvL_six (K S P A T N : Int) : rvL [K,S,P,A,T,N] = rv K S P A T N:=rfl
end Go.Proofs.YtaphpdmfjnhlaaaGreatDoor.S8
namespace Go.Proofs.YtaphpdmfjnhlaaaGreatDoor.S8
open Go Go.RowKit
def IsL (w : World) (B : Nat) (a : Option Addr) (l : List Int) : Prop:=0 < l.length -> ∃ g,a = some ⟨g,0,none⟩/\B <= g/\Row w g 3 .i64 l
theorem IsL.same {w w' : World} {B a l} (h : IsL w B a l) (hh : ∀ g,g < w.heap.size -> B <= g -> w'.heap[g]? = w.heap[g]?) : IsL w' B a l:=by
 intro h0
 obtain ⟨g,ha,hg,hb⟩:=h h0
 exact ⟨g,ha,hg,(hh g hb.lt hg).trans hb⟩
theorem IsL.call {w w' : World} {B a l} (h : IsL w B a l) (b : Below w.heap.size w w') : IsL w' B a l:=h.same fun g hg _ => b.block g hg
theorem IsL.cell {w : World} {B a l} (h : IsL w B a l) (j : Nat) (hj : j < l.length) : ∃ g,a = some ⟨g,0,none⟩/\B <= g/\g < w.heap.size/\w.cell? ⟨g,j,none⟩ = some (.int .i64 (l.getD j 0)):=by
 obtain ⟨g,ha,hg,hb⟩:=h (by omega)
 exact ⟨g,ha,hg,hb.lt,hb.cell j hj⟩
def valsL (fs : List Fl) (l : List Int) : List Int:=fs.map fun f => l.getD f.1 0
def leasts (fs : List Fl) : List Int:=fs.map fun f => f.2.1
def mosts (fs : List Fl) : List Int:=fs.map fun f => f.2.2
def rowPost (w : World) (fs : List Fl) (l : List Int) (e : Ending) (w' : World) : Prop :=
 ∃ a b c,e = .returned (.tuple #[.slice a fs.length fs.length,.slice b fs.length fs.length,.slice c fs.length fs.length,.bool (decide (0 < fs.length))]) ∧
  Below w.heap.size w w'/\IsL w' w.heap.size a (valsL fs l)/\IsL w' w.heap.size b (leasts fs)/\IsL w' w.heap.size c (mosts fs)
theorem IsL.mk {w : World} {B g : Nat} {l : List Int} (hB : B <= g) (h : Row w g 3 .i64 l) : IsL w B (some ⟨g,0,none⟩) l:=fun _ => ⟨g,rfl,hB,h⟩
theorem row_done (w : World) (fs : List Fl) (l : List Int) (o : Obj) (x y z : Array Value) (n : Nat) (hn : n = fs.length) (hn0 : 0 < n) (hx : x = cellsOf .i64 (valsL fs l)) (hy : y = cellsOf .i64 (leasts fs)) (hz : z = cellsOf .i64 (mosts fs)) :
  rowPost w fs l (.returned (.tuple #[.slice (some ⟨w.heap.size + 1,0,none⟩) n n,.slice (some ⟨w.heap.size + 1 + 1,0,none⟩) n n,.slice (some ⟨w.heap.size + 1 + 1 + 1,0,none⟩) n n,.bool true]))
   ((((w.alloc o).alloc (.cells x 3)).alloc (.cells y 3)).alloc (.cells z 3)):=by
 subst hx hy hz hn
 refine ⟨_,_,_,by rw [decide_eq_true hn0],below_four w _ _ _ _,IsL.mk (by omega) (((Row.fresh1 w _ 3 .i64 _).alloc _).alloc _),IsL.mk (by omega) ((Row.fresh2 w _ _ 3 .i64 _).alloc _),IsL.mk (by omega) ?_⟩
 have h:=Row.fresh2 (w.alloc o) (.cells (cellsOf .i64 (valsL fs l)) 3) (.cells (cellsOf .i64 (leasts fs)) 3) 3 .i64 (mosts fs)
 rwa [size_alloc] at h
theorem results_tmp4 {fn : Func} {t u v x : Tmp} (h : fn.results = #[.tmp t,.tmp u,.tmp v,.tmp x]) (tmps : Array Value) (P : Program) (w : World) :
  (results fn tmps).run P w = .ok (.tuple #[tmps.getD t undef,tmps.getD u undef,tmps.getD v undef,tmps.getD x undef]) w:=by
 simp [results,h]
theorem row_1 (S P A T N : Int) (w : World) : Calls Tryz.prog 86 #[rv 1 S P A T N] w (rowPost w (flds 1) [1,S,P,A,T,N]):=by
 unfold rv
 go_enter Tryz.func86,Tryz.ntmps86
 go_wp2_with fail
 refine bodyPost_ret (results_tmp4 rfl _ _ _) rfl ?_
 exact row_done w _ _ _ _ _ _ _ rfl (by decide) rfl rfl rfl
theorem row_2 (S P A T N : Int) (w : World) : Calls Tryz.prog 86 #[rv 2 S P A T N] w (rowPost w (flds 2) [2,S,P,A,T,N]):=by
 unfold rv
 go_enter Tryz.func86,Tryz.ntmps86
 go_wp2_with fail
 refine bodyPost_ret (results_tmp4 rfl _ _ _) rfl ?_
 exact row_done w _ _ _ _ _ _ _ rfl (by decide) rfl rfl rfl
theorem row_3 (S P A T N : Int) (w : World) : Calls Tryz.prog 86 #[rv 3 S P A T N] w (rowPost w (flds 3) [3,S,P,A,T,N]):=by
 unfold rv
 go_enter Tryz.func86,Tryz.ntmps86
 go_wp2_with fail
 refine bodyPost_ret (results_tmp4 rfl _ _ _) rfl ?_
 exact row_done w _ _ _ _ _ _ _ rfl (by decide) rfl rfl rfl
theorem row_4 (S P A T N : Int) (w : World) : Calls Tryz.prog 86 #[rv 4 S P A T N] w (rowPost w (flds 4) [4,S,P,A,T,N]):=by
 unfold rv
 go_enter Tryz.func86,Tryz.ntmps86
 go_wp2_with fail
 refine bodyPost_ret (results_tmp4 rfl _ _ _) rfl ?_
 exact row_done w _ _ _ _ _ _ _ rfl (by decide) rfl rfl rfl
theorem row_5 (S P A T N : Int) (w : World) : Calls Tryz.prog 86 #[rv 5 S P A T N] w (rowPost w (flds 5) [5,S,P,A,T,N]):=by
 unfold rv
 go_enter Tryz.func86,Tryz.ntmps86
 go_wp2_with fail
 refine bodyPost_ret (results_tmp4 rfl _ _ _) rfl ?_
 exact row_done w _ _ _ _ _ _ _ rfl (by decide) rfl rfl rfl
theorem row_6 (S P A T N : Int) (w : World) : Calls Tryz.prog 86 #[rv 6 S P A T N] w (rowPost w (flds 6) [6,S,P,A,T,N]):=by
 unfold rv
 go_enter Tryz.func86,Tryz.ntmps86
 go_wp2_with fail
 refine bodyPost_ret (results_tmp4 rfl _ _ _) rfl ?_
 exact row_done w _ _ _ _ _ _ _ rfl (by decide) rfl rfl rfl
theorem row_7 (S P A T N : Int) (w : World) : Calls Tryz.prog 86 #[rv 7 S P A T N] w (rowPost w (flds 7) [7,S,P,A,T,N]):=by
 unfold rv
 go_enter Tryz.func86,Tryz.ntmps86
 go_wp2_with fail
 refine bodyPost_ret (results_tmp4 rfl _ _ _) rfl ?_
 exact row_done w _ _ _ _ _ _ _ rfl (by decide) rfl rfl rfl
theorem row_8 (S P A T N : Int) (w : World) : Calls Tryz.prog 86 #[rv 8 S P A T N] w (rowPost w (flds 8) [8,S,P,A,T,N]):=by
 unfold rv
 go_enter Tryz.func86,Tryz.ntmps86
 go_wp2_with fail
 refine bodyPost_ret (results_tmp4 rfl _ _ _) rfl ?_
 exact row_done w _ _ _ _ _ _ _ rfl (by decide) rfl rfl rfl
theorem row_9 (S P A T N : Int) (w : World) : Calls Tryz.prog 86 #[rv 9 S P A T N] w (rowPost w (flds 9) [9,S,P,A,T,N]):=by
 unfold rv
 go_enter Tryz.func86,Tryz.ntmps86
 go_wp2_with fail
 refine bodyPost_ret (results_tmp4 rfl _ _ _) rfl ?_
 exact row_done w _ _ _ _ _ _ _ rfl (by decide) rfl rfl rfl
theorem row_0 (K S P A T N : Int) (w : World) (h1 : ¬ K = 1) (h2 : ¬ K = 2) (h3 : ¬ K = 3) (h4 : ¬ K = 4) (h5 : ¬ K = 5) (h6 : ¬ K = 6) (h7 : ¬ K = 7) (h8 : ¬ K = 8) (h9 : ¬ K = 9) :
  Calls Tryz.prog 86 #[rv K S P A T N] w (rowPost w (flds K) [K,S,P,A,T,N]):=by
 rw [flds_none h1 h2 h3 h4 h5 h6 h7 h8 h9]
 unfold rv
 go_enter Tryz.func86,Tryz.ntmps86
 go_wp2_with fail
 refine bodyPost_ret (results_tmp4 rfl _ _ _) rfl ?_
 exact ⟨none,none,none,rfl,(Below.refl w.heap.size w).alloc (Nat.le_refl _) _,fun h => by simp [valsL] at h,fun h => by simp [leasts] at h,fun h => by simp [mosts] at h⟩
theorem row_any (K S P A T N : Int) (w : World) : Calls Tryz.prog 86 #[rv K S P A T N] w (rowPost w (flds K) [K,S,P,A,T,N]):=by
 rcases kinds K with rfl | rfl | rfl | rfl | rfl | rfl | rfl | rfl | rfl | ⟨h1,h2,h3,h4,h5,h6,h7,h8,h9⟩
 ·exact row_1 S P A T N w
 ·exact row_2 S P A T N w
 ·exact row_3 S P A T N w
 ·exact row_4 S P A T N w
 ·exact row_5 S P A T N w
 ·exact row_6 S P A T N w
 ·exact row_7 S P A T N w
 ·exact row_8 S P A T N w
 ·exact row_9 S P A T N w
 ·exact row_0 K S P A T N w h1 h2 h3 h4 h5 h6 h7 h8 h9
end Go.Proofs.YtaphpdmfjnhlaaaGreatDoor.S8
namespace Go.Proofs.YtaphpdmfjnhlaaaGreatDoor.S8
open Go Go.RowKit
def laySet : List Fl -> List Int -> List Int -> List Int
 | [],_,r => r
 | f :: fs,l,r => laySet fs l.tail (r.set f.1 (l.headD 0))
theorem laySet_len (fs : List Fl) (l r : List Int) : (laySet fs l r).length = r.length:=by
 induction fs generalizing l r with
 | nil => rfl
 | cons f fs ih => rw [laySet,ih,List.length_set]
theorem info87 : (Tryz.prog.info? 87).map (·.size) = some 6:=by kernel_rfl
theorem rec_result {fn : Func} {p : Tmp} (h : fn.results = #[.cell p 87]) {tmps : Array Value} {w : World} {g : Nat} {cs : Array Value} (hp : tmps.getD p undef = .pointer (some ⟨g,0,none⟩)) (hs : cs.size = 6) (hg : w.heap[g]? = some (.cells cs 87 (0,0))) :
  (results fn tmps).run Tryz.prog w = .ok (.agg cs) w :=
 results_cell_row h tmps w g 87 cs (0,0) _ hp hg Tryz.underlying87 rfl (by rw [hs]; exact info87)
theorem below_one (w : World) (o : Obj) : Below w.heap.size w (w.alloc o):=(Below.refl w.heap.size w).alloc (Nat.le_refl _) o
theorem of_1 (x y z : Int) (g cp : Nat) (w : World) (hg : g < w.heap.size) (c0 : w.cell? ⟨g,0,none⟩ = some (.int .i64 x)) (c1 : w.cell? ⟨g,1,none⟩ = some (.int .i64 y)) (c2 : w.cell? ⟨g,2,none⟩ = some (.int .i64 z)) : Calls Tryz.prog 87 #[.int .i64 1,.slice (some ⟨g,0,none⟩) 3 cp] w fun e w' => e = .returned (rv 1 x y z 0 0)/\Below w.heap.size w w':=by
 unfold rv
 go_enter Tryz.func87,Tryz.ntmps87
 go_wp2_with fail
 go_region
 go_wp2_with fail
 refine bodyPost_ret (rec_result rfl rfl rfl ?_) rfl ⟨rfl,?_⟩
 ·exact heap_alloc_new _ _
 ·exact (below_one w _).drew
theorem of_2 (x y : Int) (g cp : Nat) (w : World) (hg : g < w.heap.size) (c0 : w.cell? ⟨g,0,none⟩ = some (.int .i64 x)) (c1 : w.cell? ⟨g,1,none⟩ = some (.int .i64 y)) : Calls Tryz.prog 87 #[.int .i64 2,.slice (some ⟨g,0,none⟩) 2 cp] w fun e w' => e = .returned (rv 2 x y 0 0 0)/\Below w.heap.size w w':=by
 unfold rv
 go_enter Tryz.func87,Tryz.ntmps87
 go_wp2_with fail
 go_region
 go_wp2_with fail
 refine bodyPost_ret (rec_result rfl rfl rfl ?_) rfl ⟨rfl,?_⟩
 ·exact heap_alloc_new _ _
 ·exact (below_one w _).drew
theorem of_3 (x y : Int) (g cp : Nat) (w : World) (hg : g < w.heap.size) (c0 : w.cell? ⟨g,0,none⟩ = some (.int .i64 x)) (c1 : w.cell? ⟨g,1,none⟩ = some (.int .i64 y)) : Calls Tryz.prog 87 #[.int .i64 3,.slice (some ⟨g,0,none⟩) 2 cp] w fun e w' => e = .returned (rv 3 0 0 x y 0)/\Below w.heap.size w w':=by
 unfold rv
 go_enter Tryz.func87,Tryz.ntmps87
 go_wp2_with fail
 go_region
 go_wp2_with fail
 refine bodyPost_ret (rec_result rfl rfl rfl ?_) rfl ⟨rfl,?_⟩
 ·exact heap_alloc_new _ _
 ·exact (below_one w _).drew
theorem of_4 (x y : Int) (g cp : Nat) (w : World) (hg : g < w.heap.size) (c0 : w.cell? ⟨g,0,none⟩ = some (.int .i64 x)) (c1 : w.cell? ⟨g,1,none⟩ = some (.int .i64 y)) : Calls Tryz.prog 87 #[.int .i64 4,.slice (some ⟨g,0,none⟩) 2 cp] w fun e w' => e = .returned (rv 4 x 0 0 0 y)/\Below w.heap.size w w':=by
 unfold rv
 go_enter Tryz.func87,Tryz.ntmps87
 go_wp2_with fail
 go_region
 go_wp2_with fail
 refine bodyPost_ret (rec_result rfl rfl rfl ?_) rfl ⟨rfl,?_⟩
 ·exact heap_alloc_new _ _
 ·exact (below_one w _).drew
theorem of_5 (x : Int) (g cp : Nat) (w : World) (hg : g < w.heap.size) (c0 : w.cell? ⟨g,0,none⟩ = some (.int .i64 x)) : Calls Tryz.prog 87 #[.int .i64 5,.slice (some ⟨g,0,none⟩) 1 cp] w fun e w' => e = .returned (rv 5 x 0 0 0 0)/\Below w.heap.size w w':=by
 unfold rv
 go_enter Tryz.func87,Tryz.ntmps87
 go_wp2_with fail
 refine bodyPost_ret (rec_result rfl rfl rfl ?_) rfl ⟨rfl,?_⟩
 ·exact heap_alloc_new _ _
 ·exact (below_one w _)
theorem of_6 (x y : Int) (g cp : Nat) (w : World) (hg : g < w.heap.size) (c0 : w.cell? ⟨g,0,none⟩ = some (.int .i64 x)) (c1 : w.cell? ⟨g,1,none⟩ = some (.int .i64 y)) : Calls Tryz.prog 87 #[.int .i64 6,.slice (some ⟨g,0,none⟩) 2 cp] w fun e w' => e = .returned (rv 6 x 0 0 y 0)/\Below w.heap.size w w':=by
 unfold rv
 go_enter Tryz.func87,Tryz.ntmps87
 go_wp2_with fail
 go_region
 go_wp2_with fail
 refine bodyPost_ret (rec_result rfl rfl rfl ?_) rfl ⟨rfl,?_⟩
 ·exact heap_alloc_new _ _
 ·exact (below_one w _).drew
theorem of_7 (x : Int) (g cp : Nat) (w : World) (hg : g < w.heap.size) (c0 : w.cell? ⟨g,0,none⟩ = some (.int .i64 x)) : Calls Tryz.prog 87 #[.int .i64 7,.slice (some ⟨g,0,none⟩) 1 cp] w fun e w' => e = .returned (rv 7 x 0 0 0 0)/\Below w.heap.size w w':=by
 unfold rv
 go_enter Tryz.func87,Tryz.ntmps87
 go_wp2_with fail
 refine bodyPost_ret (rec_result rfl rfl rfl ?_) rfl ⟨rfl,?_⟩
 ·exact heap_alloc_new _ _
 ·exact (below_one w _)
theorem of_8 (x : Int) (g cp : Nat) (w : World) (hg : g < w.heap.size) (c0 : w.cell? ⟨g,0,none⟩ = some (.int .i64 x)) : Calls Tryz.prog 87 #[.int .i64 8,.slice (some ⟨g,0,none⟩) 1 cp] w fun e w' => e = .returned (rv 8 0 0 x 0 0)/\Below w.heap.size w w':=by
 unfold rv
 go_enter Tryz.func87,Tryz.ntmps87
 go_wp2_with fail
 refine bodyPost_ret (rec_result rfl rfl rfl ?_) rfl ⟨rfl,?_⟩
 ·exact heap_alloc_new _ _
 ·exact (below_one w _)
theorem of_9 (x y : Int) (g cp : Nat) (w : World) (hg : g < w.heap.size) (c0 : w.cell? ⟨g,0,none⟩ = some (.int .i64 x)) (c1 : w.cell? ⟨g,1,none⟩ = some (.int .i64 y)) : Calls Tryz.prog 87 #[.int .i64 9,.slice (some ⟨g,0,none⟩) 2 cp] w fun e w' => e = .returned (rv 9 0 0 x 0 y)/\Below w.heap.size w w':=by
 unfold rv
 go_enter Tryz.func87,Tryz.ntmps87
 go_wp2_with fail
 go_region
 go_wp2_with fail
 refine bodyPost_ret (rec_result rfl rfl rfl ?_) rfl ⟨rfl,?_⟩
 ·exact heap_alloc_new _ _
 ·exact (below_one w _).drew
theorem of_cells (K : Int) (l : List Int) (hl : l.length = (flds K).length) (h0 : 0 < (flds K).length) {w : World} {g : Nat} (cp : Nat) (hg : g < w.heap.size) (hc : ∀ j,j < l.length -> w.cell? ⟨g,j,none⟩ = some (.int .i64 (l.getD j 0))) :
  Calls Tryz.prog 87 #[.int .i64 K,.slice (some ⟨g,0,none⟩) (flds K).length cp] w fun e w' => e = .returned (rvL (laySet (flds K) l [K,0,0,0,0,0]))/\Below w.heap.size w w':=by
 rcases kinds K with rfl | rfl | rfl | rfl | rfl | rfl | rfl | rfl | rfl | ⟨h1,h2,h3,h4,h5,h6,h7,h8,h9⟩
 ·match l,hl with
  | [x,y,z],_ => exact of_1 x y z g cp w hg (hc 0 (by simp)) (hc 1 (by simp)) (hc 2 (by simp))
 ·match l,hl with
  | [x,y],_ => exact of_2 x y g cp w hg (hc 0 (by simp)) (hc 1 (by simp))
 ·match l,hl with
  | [x,y],_ => exact of_3 x y g cp w hg (hc 0 (by simp)) (hc 1 (by simp))
 ·match l,hl with
  | [x,y],_ => exact of_4 x y g cp w hg (hc 0 (by simp)) (hc 1 (by simp))
 ·match l,hl with
  | [x],_ => exact of_5 x g cp w hg (hc 0 (by simp))
 ·match l,hl with
  | [x,y],_ => exact of_6 x y g cp w hg (hc 0 (by simp)) (hc 1 (by simp))
 ·match l,hl with
  | [x],_ => exact of_7 x g cp w hg (hc 0 (by simp))
 ·match l,hl with
  | [x],_ => exact of_8 x g cp w hg (hc 0 (by simp))
 ·match l,hl with
  | [x,y],_ => exact of_9 x y g cp w hg (hc 0 (by simp)) (hc 1 (by simp))
 ·rw [flds_none h1 h2 h3 h4 h5 h6 h7 h8 h9] at h0
  exact absurd h0 (by simp)
theorem of_any (K : Int) (l : List Int) (hl : l.length = (flds K).length) (h0 : 0 < (flds K).length) {w : World} {B : Nat} {a : Option Addr} (h : IsL w B a l) :
  Calls Tryz.prog 87 #[.int .i64 K,.slice a (flds K).length (flds K).length] w fun e w' => e = .returned (rvL (laySet (flds K) l [K,0,0,0,0,0]))/\Below w.heap.size w w':=by
 obtain ⟨g,rfl,_,hr⟩:=h (by omega)
 exact of_cells K l hl h0 _ hr.lt (fun j hj => hr.cell j hj)
end Go.Proofs.YtaphpdmfjnhlaaaGreatDoor.S8
namespace Go.Proofs.YtaphpdmfjnhlaaaGreatDoor.S8
open Go Go.RowKit
theorem IsL.mono {w : World} {B B' a l} (h : IsL w B a l) (hB : B' <= B) : IsL w B' a l:=fun h0 => by
 obtain ⟨g,ha,hg,hb⟩:=h h0
 exact ⟨g,ha,by omega,hb⟩
def within : List Int -> List Int -> List Int -> Bool
 | x :: xs,y :: ys,z :: zs => if x < y \/ z < x then false else within xs ys zs
 | _,_,_ => true
theorem drop_getDI (l : List Int) (k : Nat) (h : k < l.length) : l.drop k = l.getD k 0 :: l.drop (k + 1):=by
 rw [List.drop_eq_getElem_cons h]
 simp [List.getD_eq_getElem?_getD,h]
def RcS (w : World) (l : List Int) (a b c : Option Addr) (xs ls ms : List Int) (wr : World) : Prop :=
 Row wr w.heap.size 87 .i64 l/\IsL wr w.heap.size a xs/\IsL wr w.heap.size b ls/\IsL wr w.heap.size c ms/\Below w.heap.size w wr
theorem RcS.call {w wr w2 : World} {l a b c xs ls ms} (h : RcS w l a b c xs ls ms wr) (q : Below wr.heap.size wr w2) : RcS w l a b c xs ls ms w2 :=
 ⟨h.1.call q,h.2.1.call q,h.2.2.1.call q,h.2.2.2.1.call q,below3 h.2.2.2.2 q⟩
theorem RcS.drew {w wr : World} {l a b c xs ls ms} (h : RcS w l a b c xs ls ms wr) : RcS w l a b c xs ls ms wr.drew:=⟨h.1,h.2.1,h.2.2.1,h.2.2.2.1,h.2.2.2.2.drew⟩
theorem rc_mk {w w' : World} {K S P A T N : Int} {a b c xs ls ms} (h : RcS w [K,S,P,A,T,N] a b c xs ls ms w') : w'.cell? ⟨w.heap.size,0,none⟩ = some (.int .i64 K)/\w'.cell? ⟨w.heap.size,1,none⟩ = some (.int .i64 S)/\w'.cell? ⟨w.heap.size,2,none⟩ = some (.int .i64 P)/\w'.cell? ⟨w.heap.size,3,none⟩ = some (.int .i64 A)/\w'.cell? ⟨w.heap.size,4,none⟩ = some (.int .i64 T)/\w'.cell? ⟨w.heap.size,5,none⟩ = some (.int .i64 N)/\RcS w [K,S,P,A,T,N] a b c xs ls ms w'  :=
 ⟨h.1.six.1,h.1.six.2.1,h.1.six.2.2.1,h.1.six.2.2.2.1,h.1.six.2.2.2.2.1,h.1.six.2.2.2.2.2,h⟩
theorem refCheck_any (K S P A T N : Int) (w : World) : Calls Tryz.prog 49 #[rv K S P A T N] w fun e w' =>
  e = .returned (.bool (decide (0 < (flds K).length) && (decide (laySet (flds K) (valsL (flds K) [K,S,P,A,T,N]) [K,0,0,0,0,0] = [K,S,P,A,T,N]) && within (valsL (flds K) [K,S,P,A,T,N]) (leasts (flds K)) (mosts (flds K)))))/\Below w.heap.size w w':=by
 have q1 : (valsL (flds K) [K,S,P,A,T,N]).length = (flds K).length:=by simp [valsL]
 have q2 : (leasts (flds K)).length = (flds K).length:=by simp [leasts]
 have q3 : (mosts (flds K)).length = (flds K).length:=by simp [mosts]
 have hlay : (laySet (flds K) (valsL (flds K) [K,S,P,A,T,N]) [K,0,0,0,0,0]).length = 6:=laySet_len _ _ _
 have hof:=fun w B a (h : IsL w B a (valsL (flds K) [K,S,P,A,T,N])) (h0 : 0 < (flds K).length) => of_any K (valsL (flds K) [K,S,P,A,T,N]) q1 h0 h
 have hrow:=row_any K S P A T N
 have h3:=flds_len K
 unfold rowPost at hrow
 generalize valsL (flds K) [K,S,P,A,T,N] = xs at *
 generalize leasts (flds K) = ls at *
 generalize mosts (flds K) = ms at *
 generalize laySet (flds K) xs [K,0,0,0,0,0] = Y at *
 generalize (flds K).length = n at *
 obtain ⟨y0,y1,y2,y3,y4,y5,rfl⟩:=six hlay
 clear hlay
 have HO:=Hid.mk (And.intro hof (And.intro q1 (And.intro q2 q3)))
 clear hof q1 q2 q3
 replace hrow:=Hid.mk hrow
 generalize hRes : (decide (0 < n) && (decide ([y0,y1,y2,y3,y4,y5] = [K,S,P,A,T,N]) && within xs ls ms)) = Res
 replace hRes:=Hid.mk hRes
 unfold rv
 go_enter Tryz.func49,Tryz.ntmps49
 go_upto_region 1 with fail
 have p1 : Row (w.alloc (.cells #[.int .i64 K,.int .i64 S,.int .i64 P,.int .i64 A,.int .i64 T,.int .i64 N] 87)) w.heap.size 87 .i64 [K,S,P,A,T,N]:=Row.fresh w 87 .i64 [K,S,P,A,T,N]
 have p2:=below_one w (.cells #[.int .i64 K,.int .i64 S,.int .i64 P,.int .i64 A,.int .i64 T,.int .i64 N] 87)
 generalize (w.alloc (.cells #[.int .i64 K,.int .i64 S,.int .i64 P,.int .i64 A,.int .i64 T,.int .i64 N] 87)) = W at *
 obtain ⟨c0,c1,c2,c3,c4,c5⟩:=p1.six
 have H:=Hid.mk (And.intro p1 p2)
 clear p1 p2
 go_upto_region 2 with (go_at_call 86; refine (hrow.out _).mono ?_; rintro e w1 ⟨a,b,c,rfl,b1,i1,i2,i3⟩)
 have s1 : RcS w [K,S,P,A,T,N] a b c xs ls ms w1:=⟨H.out.1.call b1,i1.mono H.out.2.size,i2.mono H.out.2.size,i3.mono H.out.2.size,below3 H.out.2 b1⟩
 clear i1 i2 i3 b1 c0 c1 c2 c3 c4 c5 hrow
 by_cases hn : 0 < n
 case neg =>
  have hd : decide (0 < n) = false:=decide_eq_false hn
  rw [hd]
  replace s1:=Hid.mk s1
  go_region
  go_wp2_with fail
  go_ret
  exact ⟨by rw [<- hRes.out,hd]; rfl,s1.out.2.2.2.2.drew⟩
 have hd : decide (0 < n) = true:=decide_eq_true hn
 rw [hd]
 clear hd
 have s0:=Hid.mk (rc_mk s1.drew)
 clear s1
 by_cases e0 : y0 = K
 case neg =>
  have hf : Res = false:=by rw [<- hRes.out]; simp [e0]
  replace hf:=Hid.mk hf
  go_region_held3 (fun w' => w'.cell? ⟨w.heap.size,0,none⟩ = some (.int .i64 K)/\w'.cell? ⟨w.heap.size,1,none⟩ = some (.int .i64 S)/\w'.cell? ⟨w.heap.size,2,none⟩ = some (.int .i64 P)/\w'.cell? ⟨w.heap.size,3,none⟩ = some (.int .i64 A)/\w'.cell? ⟨w.heap.size,4,none⟩ = some (.int .i64 T)/\w'.cell? ⟨w.heap.size,5,none⟩ = some (.int .i64 N)/\RcS w [K,S,P,A,T,N] a b c xs ls ms w' ) (first | assumption | exact s0.out | exact rc_mk (RcS.call (And.right (And.right (And.right (And.right (And.right (And.right (by assumption))))))) (by assumption)) | fail)
   (first | (go_at_call 87; refine (HO.out.1 _ _ _ (And.right (And.right (And.right (And.right (And.right (And.right s0.out)))))).2.1 hn).mono ?_; rintro e w3 ⟨rfl,b3⟩; simp only [rvL_six]; unfold rv))
  have s3 : Hid (RcS w [K,S,P,A,T,N] a b c xs ls ms w3):=Hid.mk ((And.right (And.right (And.right (And.right (And.right (And.right s0.out)))))).call b3)
  clear s0 b3
  go_wp2_with fail
  go_ret
  exact ⟨by rw [hf.out]; rfl,s3.out.2.2.2.2⟩
 subst y0
 by_cases e0 : y1 = S
 case neg =>
  have hf : Res = false:=by rw [<- hRes.out]; simp [e0]
  replace hf:=Hid.mk hf
  go_region_held3 (fun w' => w'.cell? ⟨w.heap.size,0,none⟩ = some (.int .i64 K)/\w'.cell? ⟨w.heap.size,1,none⟩ = some (.int .i64 S)/\w'.cell? ⟨w.heap.size,2,none⟩ = some (.int .i64 P)/\w'.cell? ⟨w.heap.size,3,none⟩ = some (.int .i64 A)/\w'.cell? ⟨w.heap.size,4,none⟩ = some (.int .i64 T)/\w'.cell? ⟨w.heap.size,5,none⟩ = some (.int .i64 N)/\RcS w [K,S,P,A,T,N] a b c xs ls ms w' ) (first | assumption | exact s0.out | exact rc_mk (RcS.call (And.right (And.right (And.right (And.right (And.right (And.right (by assumption))))))) (by assumption)) | fail)
   (first | (go_at_call 87; refine (HO.out.1 _ _ _ (And.right (And.right (And.right (And.right (And.right (And.right s0.out)))))).2.1 hn).mono ?_; rintro e w3 ⟨rfl,b3⟩; simp only [rvL_six]; unfold rv))
  have s3 : Hid (RcS w [K,S,P,A,T,N] a b c xs ls ms w3):=Hid.mk ((And.right (And.right (And.right (And.right (And.right (And.right s0.out)))))).call b3)
  clear s0 b3
  go_wp2_with fail
  go_ret
  exact ⟨by rw [hf.out]; rfl,s3.out.2.2.2.2⟩
 subst y1
 by_cases e0 : y2 = P
 case neg =>
  have hf : Res = false:=by rw [<- hRes.out]; simp [e0]
  replace hf:=Hid.mk hf
  go_region_held3 (fun w' => w'.cell? ⟨w.heap.size,0,none⟩ = some (.int .i64 K)/\w'.cell? ⟨w.heap.size,1,none⟩ = some (.int .i64 S)/\w'.cell? ⟨w.heap.size,2,none⟩ = some (.int .i64 P)/\w'.cell? ⟨w.heap.size,3,none⟩ = some (.int .i64 A)/\w'.cell? ⟨w.heap.size,4,none⟩ = some (.int .i64 T)/\w'.cell? ⟨w.heap.size,5,none⟩ = some (.int .i64 N)/\RcS w [K,S,P,A,T,N] a b c xs ls ms w' ) (first | assumption | exact s0.out | exact rc_mk (RcS.call (And.right (And.right (And.right (And.right (And.right (And.right (by assumption))))))) (by assumption)) | fail)
   (first | (go_at_call 87; refine (HO.out.1 _ _ _ (And.right (And.right (And.right (And.right (And.right (And.right s0.out)))))).2.1 hn).mono ?_; rintro e w3 ⟨rfl,b3⟩; simp only [rvL_six]; unfold rv))
  have s3 : Hid (RcS w [K,S,P,A,T,N] a b c xs ls ms w3):=Hid.mk ((And.right (And.right (And.right (And.right (And.right (And.right s0.out)))))).call b3)
  clear s0 b3
  go_wp2_with fail
  go_ret
  exact ⟨by rw [hf.out]; rfl,s3.out.2.2.2.2⟩
 subst y2
 by_cases e0 : y3 = A
 case neg =>
  have hf : Res = false:=by rw [<- hRes.out]; simp [e0]
  replace hf:=Hid.mk hf
  go_region_held3 (fun w' => w'.cell? ⟨w.heap.size,0,none⟩ = some (.int .i64 K)/\w'.cell? ⟨w.heap.size,1,none⟩ = some (.int .i64 S)/\w'.cell? ⟨w.heap.size,2,none⟩ = some (.int .i64 P)/\w'.cell? ⟨w.heap.size,3,none⟩ = some (.int .i64 A)/\w'.cell? ⟨w.heap.size,4,none⟩ = some (.int .i64 T)/\w'.cell? ⟨w.heap.size,5,none⟩ = some (.int .i64 N)/\RcS w [K,S,P,A,T,N] a b c xs ls ms w' ) (first | assumption | exact s0.out | exact rc_mk (RcS.call (And.right (And.right (And.right (And.right (And.right (And.right (by assumption))))))) (by assumption)) | fail)
   (first | (go_at_call 87; refine (HO.out.1 _ _ _ (And.right (And.right (And.right (And.right (And.right (And.right s0.out)))))).2.1 hn).mono ?_; rintro e w3 ⟨rfl,b3⟩; simp only [rvL_six]; unfold rv))
  have s3 : Hid (RcS w [K,S,P,A,T,N] a b c xs ls ms w3):=Hid.mk ((And.right (And.right (And.right (And.right (And.right (And.right s0.out)))))).call b3)
  clear s0 b3
  go_wp2_with fail
  go_ret
  exact ⟨by rw [hf.out]; rfl,s3.out.2.2.2.2⟩
 subst y3
 by_cases e0 : y4 = T
 case neg =>
  have hf : Res = false:=by rw [<- hRes.out]; simp [e0]
  replace hf:=Hid.mk hf
  go_region_held3 (fun w' => w'.cell? ⟨w.heap.size,0,none⟩ = some (.int .i64 K)/\w'.cell? ⟨w.heap.size,1,none⟩ = some (.int .i64 S)/\w'.cell? ⟨w.heap.size,2,none⟩ = some (.int .i64 P)/\w'.cell? ⟨w.heap.size,3,none⟩ = some (.int .i64 A)/\w'.cell? ⟨w.heap.size,4,none⟩ = some (.int .i64 T)/\w'.cell? ⟨w.heap.size,5,none⟩ = some (.int .i64 N)/\RcS w [K,S,P,A,T,N] a b c xs ls ms w' ) (first | assumption | exact s0.out | exact rc_mk (RcS.call (And.right (And.right (And.right (And.right (And.right (And.right (by assumption))))))) (by assumption)) | fail)
   (first | (go_at_call 87; refine (HO.out.1 _ _ _ (And.right (And.right (And.right (And.right (And.right (And.right s0.out)))))).2.1 hn).mono ?_; rintro e w3 ⟨rfl,b3⟩; simp only [rvL_six]; unfold rv))
  have s3 : Hid (RcS w [K,S,P,A,T,N] a b c xs ls ms w3):=Hid.mk ((And.right (And.right (And.right (And.right (And.right (And.right s0.out)))))).call b3)
  clear s0 b3
  go_wp2_with fail
  go_ret
  exact ⟨by rw [hf.out]; rfl,s3.out.2.2.2.2⟩
 subst y4
 by_cases e0 : y5 = N
 case neg =>
  have hf : Res = false:=by rw [<- hRes.out]; simp [e0]
  replace hf:=Hid.mk hf
  go_region_held3 (fun w' => w'.cell? ⟨w.heap.size,0,none⟩ = some (.int .i64 K)/\w'.cell? ⟨w.heap.size,1,none⟩ = some (.int .i64 S)/\w'.cell? ⟨w.heap.size,2,none⟩ = some (.int .i64 P)/\w'.cell? ⟨w.heap.size,3,none⟩ = some (.int .i64 A)/\w'.cell? ⟨w.heap.size,4,none⟩ = some (.int .i64 T)/\w'.cell? ⟨w.heap.size,5,none⟩ = some (.int .i64 N)/\RcS w [K,S,P,A,T,N] a b c xs ls ms w' ) (first | assumption | exact s0.out | exact rc_mk (RcS.call (And.right (And.right (And.right (And.right (And.right (And.right (by assumption))))))) (by assumption)) | fail)
   (first | (go_at_call 87; refine (HO.out.1 _ _ _ (And.right (And.right (And.right (And.right (And.right (And.right s0.out)))))).2.1 hn).mono ?_; rintro e w3 ⟨rfl,b3⟩; simp only [rvL_six]; unfold rv))
  have s3 : Hid (RcS w [K,S,P,A,T,N] a b c xs ls ms w3):=Hid.mk ((And.right (And.right (And.right (And.right (And.right (And.right s0.out)))))).call b3)
  clear s0 b3
  go_wp2_with fail
  go_ret
  exact ⟨by rw [hf.out]; rfl,s3.out.2.2.2.2⟩
 subst y5
 have hf : within xs ls ms = Res:=by rw [<- hRes.out,decide_eq_true hn]; simp
 clear hRes
 go_region_held3 (fun w' => w'.cell? ⟨w.heap.size,0,none⟩ = some (.int .i64 K)/\w'.cell? ⟨w.heap.size,1,none⟩ = some (.int .i64 S)/\w'.cell? ⟨w.heap.size,2,none⟩ = some (.int .i64 P)/\w'.cell? ⟨w.heap.size,3,none⟩ = some (.int .i64 A)/\w'.cell? ⟨w.heap.size,4,none⟩ = some (.int .i64 T)/\w'.cell? ⟨w.heap.size,5,none⟩ = some (.int .i64 N)/\RcS w [K,S,P,A,T,N] a b c xs ls ms w' ) (first | assumption | exact s0.out | exact rc_mk (RcS.call (And.right (And.right (And.right (And.right (And.right (And.right (by assumption))))))) (by assumption)) | fail)
  (first | (go_at_call 87; refine (HO.out.1 _ _ _ (And.right (And.right (And.right (And.right (And.right (And.right s0.out)))))).2.1 hn).mono ?_; rintro e w3 ⟨rfl,b3⟩; simp only [rvL_six]; unfold rv))
 have s3 : Hid (RcS w [K,S,P,A,T,N] a b c xs ls ms w3):=Hid.mk ((And.right (And.right (And.right (And.right (And.right (And.right s0.out)))))).call b3)
 obtain ⟨q1,q2,q3⟩:=HO.out.2
 clear s0 b3 HO
 replace hf:=Hid.mk (And.intro hf (And.intro q1 (And.intro q2 q3)))
 clear q1 q2 q3
 go_upto_region 5 with fail
 go_loopw [7] (fun i wr => ∃ k : Nat,k <= n/\i = .int .i64 k/\within (xs.drop k) (ls.drop k) (ms.drop k) = Res/\RcS w [K,S,P,A,T,N] a b c xs ls ms wr) (fun i _ => n - (intOf i).toNat)
 case atStart => exact ⟨0,Nat.zero_le _,rfl,hf.out.1,s3.out⟩
 case round =>
  clear s3
  obtain ⟨k,hk,rfl,hw,hs⟩:=hrel
  by_cases hkn : k < n
  ·obtain ⟨g1,rfl,_,l1,c1⟩:=hs.2.1.cell k (by rw [hf.out.2.1]; exact hkn)
   obtain ⟨g2,rfl,_,l2,c2⟩:=hs.2.2.1.cell k (by rw [hf.out.2.2.1]; exact hkn)
   obtain ⟨g3,rfl,_,l3,c3⟩:=hs.2.2.2.1.cell k (by rw [hf.out.2.2.2]; exact hkn)
   rw [drop_getDI xs k (by rw [hf.out.2.1]; exact hkn),drop_getDI ls k (by rw [hf.out.2.2.1]; exact hkn),drop_getDI ms k (by rw [hf.out.2.2.2]; exact hkn),within] at hw
   generalize xs.getD k 0 = x at *
   generalize ls.getD k 0 = lo at *
   generalize ms.getD k 0 = hi at *
   have HS:=Hid.mk hs
   clear hs
   go_upto_region 7 with fail
   by_cases hlo : x < lo
   ·rw [if_pos (Or.inl hlo)] at hw
    have HW:=Hid.mk hw
    clear hw
    go_region
    go_wp2_with fail
    go_ret
    exact ⟨by rw [<- HW.out]; rfl,HS.out.2.2.2.2.drew⟩
   ·by_cases hhi : hi < x
    ·rw [if_pos (Or.inr hhi)] at hw
     have HW:=Hid.mk hw
     clear hw
     go_region
     go_wp2_with fail
     go_ret
     exact ⟨by rw [<- HW.out]; rfl,HS.out.2.2.2.2.drew⟩
    ·rw [if_neg (by omega)] at hw
     have HW:=Hid.mk hw
     clear hw
     go_region
     go_wp2_with fail
     exact ⟨⟨k + 1,by omega,by go_num,HW.out,HS.out.drew⟩,by simp [intOf]; omega⟩
  ·have hk2 : k = n:=by omega
   rw [hk2,List.drop_of_length_le (by rw [hf.out.2.1]; exact Nat.le_refl _),within] at hw
   ·have HW:=Hid.mk hw
    have HS:=Hid.mk hs
    clear hw hs hk2
    go_wp2_with fail
    go_ret
    exact ⟨by rw [<- HW.out]; rfl,HS.out.2.2.2.2⟩
   ·intro _ _ _ _ _ _ h
    cases h
end Go.Proofs.YtaphpdmfjnhlaaaGreatDoor.S8
namespace Go.Proofs.YtaphpdmfjnhlaaaGreatDoor.S8
open Go Go.RowKit
def mayR (K S P A T N : Int) : Prop :=
 (K = 1/\1 <= S/\S <= 15/\0 <= P/\P <= 1023/\0 <= A/\A <= 511/\T = 0/\N = 0) \/ (K = 2/\1 <= S/\S <= 15/\0 <= P/\P <= 1023/\A = 0/\T = 0/\N = 0) ∨
 (K = 3/\S = 0/\P = 0/\0 <= A/\A <= 511/\0 <= T/\T <= 511/\N = 0) \/ (K = 4/\1 <= S/\S <= 15/\P = 0/\A = 0/\T = 0/\1 <= N/\N <= 1024) ∨
 (K = 5/\1 <= S/\S <= 15/\P = 0/\A = 0/\T = 0/\N = 0) \/ (K = 6/\1 <= S/\S <= 15/\P = 0/\A = 0/\1 <= T/\T <= 15/\N = 0) ∨
 (K = 7/\1 <= S/\S <= 15/\P = 0/\A = 0/\T = 0/\N = 0) \/ (K = 8/\S = 0/\P = 0/\0 <= A/\A <= 31/\T = 0/\N = 0) ∨
 (K = 9/\S = 0/\P = 0/\0 <= A/\A <= 31/\T = 0/\0 <= N/\N <= 1073741824)
theorem chk_iff (K S P A T N : Int) : chkL K [K,S,P,A,T,N] = true ↔ mayR K S P A T N:=by
 rcases kinds K with rfl | rfl | rfl | rfl | rfl | rfl | rfl | rfl | rfl | ⟨h1,h2,h3,h4,h5,h6,h7,h8,h9⟩
 case inr.inr.inr.inr.inr.inr.inr.inr.inr =>
  unfold chkL
  rw [flds_none h1 h2 h3 h4 h5 h6 h7 h8 h9]
  simp [chkGo,mayR,h1,h2,h3,h4,h5,h6,h7,h8,h9]
 all_goals
  unfold chkL
  split
  ·rename_i hq
   simp [flds,chkGo] at hq
   simp [mayR]
   omega
  ·rename_i m hq
   simp [flds,chkGo] at hq
   simp [flds,mayR]
   first
   | obtain ⟨h1,h2,h3,rfl⟩:=hq
   | obtain ⟨h1,h2,rfl⟩:=hq
   | obtain ⟨h1,rfl⟩:=hq
   simp
   omega
theorem refChk_iff (K S P A T N : Int) : (decide (0 < (flds K).length) && (decide (laySet (flds K) (valsL (flds K) [K,S,P,A,T,N]) [K,0,0,0,0,0] = [K,S,P,A,T,N]) && within (valsL (flds K) [K,S,P,A,T,N]) (leasts (flds K)) (mosts (flds K)))) = true ↔ mayR K S P A T N:=by
 rcases kinds K with rfl | rfl | rfl | rfl | rfl | rfl | rfl | rfl | rfl | ⟨h1,h2,h3,h4,h5,h6,h7,h8,h9⟩
 case inr.inr.inr.inr.inr.inr.inr.inr.inr =>
  rw [flds_none h1 h2 h3 h4 h5 h6 h7 h8 h9]
  simp [mayR,h1,h2,h3,h4,h5,h6,h7,h8,h9]
 all_goals
  simp [flds,laySet,valsL,leasts,mosts,within,mayR]
  try omega
def mayB (K S P A T N : Int) : Bool:=chkL K [K,S,P,A,T,N]
theorem mayB_iff {K S P A T N : Int} : mayB K S P A T N = true ↔ mayR K S P A T N:=chk_iff K S P A T N
theorem checkB_any (K S P A T N : Int) (w : World) : Calls Tryz.prog 111 #[rv K S P A T N] w fun e w' => e = .returned (.bool (mayB K S P A T N))/\Below w.heap.size w w':=check_any K S P A T N w
theorem refCheckB_any (K S P A T N : Int) (w : World) : Calls Tryz.prog 49 #[rv K S P A T N] w fun e w' => e = .returned (.bool (mayB K S P A T N))/\Below w.heap.size w w':=by
 have h:=refCheck_any K S P A T N w
 have e : (decide (0 < (flds K).length) && (decide (laySet (flds K) (valsL (flds K) [K,S,P,A,T,N]) [K,0,0,0,0,0] = [K,S,P,A,T,N]) && within (valsL (flds K) [K,S,P,A,T,N]) (leasts (flds K)) (mosts (flds K)))) = mayB K S P A T N :=
  Bool.eq_iff_iff.2 ((refChk_iff K S P A T N).trans mayB_iff.symm)
 rw [e] at h
 exact h
end Go.Proofs.YtaphpdmfjnhlaaaGreatDoor.S8
