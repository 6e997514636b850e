/-
  A block that is one row of numbers: what its cells hold, and what loads, stores, and calls leave of it. No condition.
-/
import Derived.WalkKit
import Derived.Laws.Rows
import Derived.Deep.WholeRow
import Derived.Laws.IdiomStrings
import Derived.BigQuiet
import Derived.Deep.OwnRows
namespace Go.Proofs.YtdolilgkjknckaaDoor
open Go Go.RowKit

/-- numbers as cells -/
def cellsOf (k : IntKind) (l : List Int) : Array Value := (l.map (Value.int k)).toArray
theorem cellsOf_size (k : IntKind) (l : List Int) : (cellsOf k l).size = l.length := by simp [cellsOf]
theorem cellsOf_one (k : IntKind) (l : List Int) : (cellsOf k l).all (·.oneCell') = true := by
  simp [cellsOf, Value.oneCell']
theorem cellsOf_set (k : IntKind) (l : List Int) (j : Nat) (v : Int) : (cellsOf k l).setIfInBounds j (.int k v) = cellsOf k (l.set j v) := by
  simp [cellsOf, List.map_set]

/-- block g is the row of these numbers -/
def Row (w : World) (g : Nat) (t : TypeId) (k : IntKind) (l : List Int) : Prop := w.heap[g]? = some (.cells (cellsOf k l) t (0, 0))

theorem Row.lt {w : World} {g t k l} (h : Row w g t k l) : g < w.heap.size := (Array.getElem?_eq_some_iff.1 h).1
theorem Row.cell {w : World} {g t k l} (h : Row w g t k l) (j : Nat) (hj : j < l.length) : w.cell? ⟨g, j, none⟩ = some (.int k (l.getD j 0)) := by
  rw [cell_of_row w g j _ t _ h]
  simp [cellsOf, List.getD_eq_getElem?_getD, hj]
theorem Row.frozen {w : World} {g t k l} (h : Row w g t k l) (j : Nat) : w.frozen? ⟨g, j, none⟩ = false := frozen_of_row w g j _ t h
theorem Row.drew {w : World} {g t k l} (h : Row w g t k l) : Row w.drew g t k l := h
theorem Row.drewN {w : World} {g t k l} (h : Row w g t k l) (n : Nat) : Row (w.drewN n) g t k l := h
theorem Row.below {B g : Nat} {w w' : World} {t k l} (h : Row w g t k l) (b : Below B w w') (hg : g < B) : Row w' g t k l := by
  unfold Row
  rw [b.block g hg]
  exact h
theorem Row.call {g : Nat} {w w' : World} {t k l} (h : Row w g t k l) (b : Below w.heap.size w w') : Row w' g t k l := h.below b h.lt
theorem Row.alloc {w : World} {g t k l} (h : Row w g t k l) (o : Obj) : Row (w.alloc o) g t k l := (Below.heap_alloc w o g h.lt).trans h
theorem Row.fresh (w : World) (t : TypeId) (k : IntKind) (l : List Int) : Row (w.alloc (.cells (cellsOf k l) t)) w.heap.size t k l := heap_alloc_new w _
theorem Row.stored {w : World} {g t k l} (h : Row w g t k l) (j : Nat) (v : Int) : Row (w.setCell ⟨g, j, none⟩ (.int k v)) g t k (l.set j v) := by
  have := heap_setCell_same w g j _ t (.int k v) h
  rw [cellsOf_set] at this
  exact this
theorem Row.other {w : World} {g t k l} (h : Row w g t k l) {a : Addr} (ha : a.block ≠ g) (v : Value) : Row (w.setCell a v) g t k l :=
  (heap_setCell_other w a g v (fun e => ha e.symm)).trans h
theorem Row.whole {w : World} {g t k l} (h : Row w g t k l) (l' : List Int) : Row (w.setRow g (cellsOf k l')) g t k l' := setRow_heap w g _ _ t _ h
theorem Row.wholeOther {w : World} {g t k l} (h : Row w g t k l) {g' : Nat} (hg : g' ≠ g) (cs : Array Value) : Row (w.setRow g' cs) g t k l :=
  (setRow_other w g' g cs (fun e => hg e.symm)).trans h
theorem below_setRow {B g : Nat} {a w : World} (h : Below B a w) (hg : B ≤ g) (cs : Array Value) : Below B a (w.setRow g cs) :=
  h.trans ⟨rfl, rfl, rfl, by simp, fun k hk => setRow_other w g k cs (by omega)⟩
theorem below3 {w a b : World} (h : Below w.heap.size w a) (k : Below a.heap.size a b) : Below w.heap.size w b := h.trans (k.mono h.size)
theorem below_drewN {B n : Nat} {w w' : World} (h : Below B w w') : Below B w (w'.drewN n) := ⟨h.os, h.tape, h.output, h.size, h.block⟩

theorem size_alloc (w : World) (o : Obj) : (w.alloc o).heap.size = w.heap.size + 1 := by simp
theorem Row.fresh1 (w : World) (o : Obj) (t : TypeId) (k : IntKind) (l : List Int) : Row ((w.alloc o).alloc (.cells (cellsOf k l) t)) (w.heap.size + 1) t k l := by
  have h := Row.fresh (w.alloc o) t k l
  rwa [size_alloc] at h
theorem Row.fresh2 (w : World) (o o' : Obj) (t : TypeId) (k : IntKind) (l : List Int) : Row (((w.alloc o).alloc o').alloc (.cells (cellsOf k l) t)) (w.heap.size + 1 + 1) t k l := by
  have h := Row.fresh1 (w.alloc o) o' t k l
  rwa [size_alloc] at h

variable {P : Program}
/-- a row that is a function's result -/
theorem Row.result {fn : Func} {p : Tmp} {ty : TypeId} (h : fn.results = #[.cell p ty]) {tmps : Array Value} {w : World} {g : Nat} {t : TypeId} {k : IntKind} {l : List Int} (hr : Row w g t k l)
    (hp : tmps.getD p undef = .pointer (some ⟨g, 0, none⟩)) {n : Nat} {e : TypeId} (hu : P.underlying ty = some (.array n e)) (hi : (P.info? ty).map (·.size) = some l.length) :
    (results fn tmps).run P w = .ok (.agg (cellsOf k l)) w :=
  results_cell_row h tmps w g t (cellsOf k l) (0, 0) _ hp hr hu rfl (by rw [cellsOf_size]; exact hi)
/-- a whole row out of its block -/
theorem wpList_loadRow {ops : Array Oper} {rest : List Oper} {o : Oper} {a : Act} {w : World} {Q : Exit → Act → World → Prop} (hgd : o.guard = none) (ty : TypeId) (x : Operand) (ho : o.op = .load ty x)
    (g : Nat) (hx : a.eval x = .pointer (some ⟨g, 0, none⟩)) {t : TypeId} {k : IntKind} {l : List Int} (hr : Row w g t k l) {n : Nat} {e : TypeId} (hu : P.underlying ty = some (.array n e))
    (hi : (P.info? ty).map (·.size) = some l.length)
    (h : wpList P ops Q rest (a.put o.dst (.agg (cellsOf k l))) w) : wpList P ops Q (o :: rest) a w :=
  wpList_load_row hgd ty x ho g hx t (cellsOf k l) (0, 0) _ hr hu rfl (by rw [cellsOf_size]; exact hi) h
/-- a whole row into a block -/
theorem wpList_storeRow {ops : Array Oper} {rest : List Oper} {o : Oper} {a : Act} {w : World} {Q : Exit → Act → World → Prop} (hgd : o.guard = none) (ty : TypeId) (x y : Operand) (ho : o.op = .store ty x y)
    (g : Nat) {k : IntKind} {l l' : List Int} (hx : a.eval x = .pointer (some ⟨g, 0, none⟩)) (hy : a.eval y = .agg (cellsOf k l'))
    {t : TypeId} (hr : Row w g t k l) (hi : (P.info? ty).map (·.size) = some l'.length) (hl : l.length = l'.length) (hd : o.dst = none)
    (h : wpList P ops Q rest a (w.setRow g (cellsOf k l'))) : wpList P ops Q (o :: rest) a w :=
  wpList_store_row hgd ty x y ho g (cellsOf k l') hx hy t (cellsOf k l) hr (by rw [cellsOf_size]; exact hi) (by rw [cellsOf_size, cellsOf_size]; exact hl) (cellsOf_one k l') (by rw [hd]; exact h)
/-- a whole row into the block that was made last -/
theorem wpList_storeFresh {ops : Array Oper} {rest : List Oper} {o : Oper} {a : Act} {Q : Exit → Act → World → Prop} (hgd : o.guard = none) (ty : TypeId) (x y : Operand) (ho : o.op = .store ty x y)
    (w : World) {k : IntKind} {old : Array Value} {l' : List Int} {t : TypeId} (g : Nat) (hx : a.eval x = .pointer (some ⟨g, 0, none⟩)) (hg : g = w.heap.size) (hy : a.eval y = .agg (cellsOf k l'))
    (hi : (P.info? ty).map (·.size) = some l'.length) (hl : old.size = l'.length) (hd : o.dst = none)
    (h : wpList P ops Q rest a (w.alloc (.cells (cellsOf k l') t))) : wpList P ops Q (o :: rest) a (w.alloc (.cells old t)) := by
  subst hg
  refine wpList_store_row hgd ty x y ho w.heap.size (cellsOf k l') hx hy t old (heap_alloc_new w _) (by rw [cellsOf_size]; exact hi) (by rw [cellsOf_size]; exact hl) (cellsOf_one k l') ?_
  rw [World.setRow_alloc_new, hd]
  exact h
/-- the same two as a region that draws its order runs them -/
theorem Row.loadAt {w : World} {g : Nat} {t : TypeId} {k : IntKind} {l : List Int} (h : Row w g t k l) (ty : TypeId) {n : Nat} {e : TypeId} (hu : P.underlying ty = some (.array n e)) (hi : (P.info? ty).map (·.size) = some l.length) :
    (Instr.loadAt ty (.pointer (some ⟨g, 0, none⟩))).run P w = .ok (.agg (cellsOf k l)) w := by
  simp only [Instr.loadAt, Instr.sureAddr, Sem.run_bind, Sem.run_pure, Result.andThen]
  exact run_loadVar_row w g t ty (cellsOf k l) (0, 0) _ h hu rfl (by rw [cellsOf_size]; exact hi)
theorem Row.storeAt {w : World} {g : Nat} {t : TypeId} {k : IntKind} {l : List Int} (h : Row w g t k l) (ty : TypeId) (l' : List Int) (hi : (P.info? ty).map (·.size) = some l'.length) (hl : l.length = l'.length) :
    (Instr.storeAt ty (.pointer (some ⟨g, 0, none⟩)) (.agg (cellsOf k l'))).run P w = .ok () (w.setRow g (cellsOf k l')) := by
  simp only [Instr.storeAt, Instr.sureAddr, Sem.run_bind, Sem.run_pure, Result.andThen]
  exact run_storeVar_row w g t ty (cellsOf k l) (cellsOf k l') h (by rw [cellsOf_size]; exact hi) (by rw [cellsOf_size, cellsOf_size]; exact hl) (cellsOf_one k l')
theorem Row.loadCells {w : World} {g : Nat} {t : TypeId} {k : IntKind} {l : List Int} (h : Row w g t k l) (n : Nat) (hn : l.length = n) :
    (loadCellsFrom ⟨g, 0, none⟩ 0 n #[]).run P w = .ok (cellsOf k l) w := by
  have hs : (cellsOf k l).size = n := by rw [cellsOf_size, hn]
  have := run_loadCells_list (P := P) w ⟨g, 0, none⟩ (cellsOf k l).toList (fun j v hv => by
    have hadd : (⟨g, 0, none⟩ : Addr).add j = ⟨g, j, none⟩ := by unfold Addr.add; split <;> simp_all
    rw [hadd, cell_of_row w g j _ t (0, 0) h]
    simpa using hv)
  rw [Array.length_toList, hs, Array.toArray_toList] at this
  exact this
theorem Row.storeCells {w : World} {g : Nat} {t : TypeId} {k : IntKind} {l : List Int} (h : Row w g t k l) (l' : List Int) (hl : l.length = l'.length) :
    (Go.storeCells ⟨g, 0, none⟩ (cellsOf k l').toList 0).run P w = .ok () (w.setRow g (cellsOf k l')) := by
  have := run_storeCells_from (P := P) g t (cellsOf k l').toList 0 (cellsOf k l) w h (by rw [Array.length_toList, cellsOf_size, cellsOf_size]; omega) (fun v hv => (Array.all_eq_true_iff_forall_mem.1 (cellsOf_one k l')) v (by simpa using hv))
  rw [List.take_zero, List.nil_append, Array.toArray_toList] at this
  exact this
/-- an array, sliced up to a place, and from one -/
theorem sliceTo {t n e : Nat} (hu : P.underlying t = some (.array n e)) (hs : (P.info? e).map (·.size) = some 1) (g h : Nat) (hh : h ≤ n) (w : World) :
    (Instr.sliceAt t (.pointer (some ⟨g, 0, none⟩)) none (some (.int .i64 h)) none).run P w = .ok (.slice (some ⟨g, 0, none⟩) h n) w := by
  have e1 : P.arrayLen t = n := by simp [Program.arrayLen, hu]
  have e2 : P.elem t = e := by simp [Program.elem, hu]
  have hw : ∀ w, (sizeOf e).run P w = .ok 1 w := by
    intro w
    cases hq : P.info? e with
    | none => simp [hq] at hs
    | some i => simp [hq] at hs; simp [sizeOf, typeInfo, hq, hs]
  rw [run_sliceAt_array_h w t _ (by rw [e1, e2]; exact hu) .i64 h (by omega) (by rw [e1]; omega), e1, e2, hw]
  simp [slicedAt, Addr.add]
/-- block g holds these bytes from its head on, none of them frozen -/
def HasBytes (w : World) (g : Nat) (l : List UInt8) : Prop :=
  ∀ j, j < l.length → w.cell? ⟨g, j, none⟩ = some (.int .u8 ((l.getD j 0).toNat : Int)) ∧ w.frozen? ⟨g, j, none⟩ = false

theorem HasBytes.drew {w : World} {g : Nat} {l : List UInt8} (h : HasBytes w g l) : HasBytes w.drew g l := h
theorem HasBytes.below {B g : Nat} {w w' : World} {l : List UInt8} (h : HasBytes w g l) (b : Below B w w') (hg : g < B) : HasBytes w' g l := by
  intro j hj
  rw [b.cell (p := ⟨g, j, none⟩) hg, b.frozen (p := ⟨g, j, none⟩) hg]
  exact h j hj
theorem HasBytes.alloc {w : World} {g : Nat} {l : List UInt8} (h : HasBytes w g l) (hg : g < w.heap.size) (o : Obj) : HasBytes (w.alloc o) g l :=
  h.below ((Below.refl w.heap.size w).alloc (Nat.le_refl _) o) hg
theorem HasBytes.other {w : World} {g : Nat} {l : List UInt8} (h : HasBytes w g l) {a : Addr} (ha : a.block ≠ g) (v : Value) : HasBytes (w.setCell a v) g l := by
  intro j hj
  have hne : a ≠ ⟨g, j, none⟩ := by
    intro e
    rw [e] at ha
    exact ha rfl
  rw [World.cell?_setCell_other _ _ _ _ hne, World.frozen?_setCell]
  exact h j hj
theorem HasBytes.stored {w : World} {g : Nat} {l : List UInt8} (h : HasBytes w g l) (j : Nat) (hj : j < l.length) (b : UInt8) :
    HasBytes (w.setCell ⟨g, j, none⟩ (.int .u8 (b.toNat : Int))) g (l.set j b) := by
  intro i hi
  rw [List.length_set] at hi
  rw [World.frozen?_setCell]
  refine ⟨?_, (h i hi).2⟩
  by_cases e : i = j
  · subst e
    rw [World.cell?_setCell_same _ _ _ (h i hi).1]
    simp [List.getD_eq_getElem?_getD, hi]
  · have hne : (⟨g, j, none⟩ : Addr) ≠ ⟨g, i, none⟩ := by
      intro e2
      have e3 : j = i := congrArg Addr.off e2
      exact e e3.symm
    rw [World.cell?_setCell_other _ _ _ _ hne, (h i hi).1]
    have : ¬ j = i := fun e2 => e e2.symm
    simp [List.getD_eq_getElem?_getD, this]

/-- '[]byte(s)' -/
theorem HasBytes.converted (w : World) (s : ByteArray) (cap e : Nat) :
    HasBytes (w.alloc (.cells (bytesRow s cap) e ((bytesRow s cap).size, (bytesRow s cap).size + 1))) w.heap.size s.data.toList := by
  intro j hj
  have hj' : j < s.data.size := by simpa using hj
  rw [World.cell?_alloc_mark, World.frozen?_alloc_mark, bytesRow_at s cap j hj']
  have hsz : s.data.size ≤ (bytesRow s cap).size := by simp [bytesRow]
  refine ⟨?_, ?_⟩
  · rw [List.getD_eq_getElem?_getD, Array.getElem?_toList, Array.getElem?_eq_getElem hj']
    rfl
  · have : ¬ (bytesRow s cap).size ≤ j := by omega
    simp [this]

/-- 'string(b)' -/
theorem HasBytes.back {w : World} {g : Nat} {l : List UInt8} (h : HasBytes w g l) (src dst e : TypeId) (n cap : Nat) (hn : n = l.length)
    (hs : P.underlying src = some (.slice e)) (he : P.underlying e = some (.int .u8)) (hd : P.underlying dst = some .string) :
    (convert src dst (.slice (some ⟨g, 0, none⟩) n cap)).run P w = .ok (.string ⟨l.toArray⟩) w := by
  subst hn
  refine run_convert_bytes_back w src dst e ⟨g, 0, none⟩ cap l hs he hd ?_
  intro j hj
  have := (h j hj).1
  rw [List.getD_eq_getElem?_getD, List.getElem?_eq_getElem hj] at this
  have ea : (⟨g, 0, none⟩ : Addr).add j = ⟨g, j, none⟩ := by unfold Addr.add; split <;> simp_all
  rw [ea]
  simpa using this

/-- what 'make' of so many bytes lays -/
theorem HasBytes.made (w : World) (n e : Nat) : HasBytes (w.alloc (.cells (madeCells #[.int .u8 0] n) e)) w.heap.size (List.replicate n 0) := by
  intro j hj
  rw [List.length_replicate] at hj
  have h1 := World.cell?_alloc_mark w (madeCells #[.int .u8 0] n) e (0, 0) j
  have h2 := World.frozen?_alloc_mark w (madeCells #[.int .u8 0] n) e 0 0 j
  refine ⟨?_, by rw [h2]; simp⟩
  rw [h1]
  simp [madeCells, hj, List.getD_eq_getElem?_getD, Nat.mod_one]

theorem HasBytes.drewN {w : World} {g : Nat} {l : List UInt8} (h : HasBytes w g l) (n : Nat) : HasBytes (w.drewN n) g l := h
end Go.Proofs.YtdolilgkjknckaaDoor
