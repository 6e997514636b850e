/-
  A block that is one row of numbers: what its cells hold, and what loads, stores, and calls leave of it. No condition. A chip in memory: its block, the row of its blocks, a row of pages for each, its two maps; what stores and calls leave of it. No condition. Slices of structs that a call itself has made: how they grow by append, and what their elements are. No condition. Maps whose keys are structs of numbers, said as functions of their keys: what a look-up answers, and what counting one up leaves. No condition. Numbers as bytes, the lowest first: what they are worth, how many a number has. No condition. The reader's block, and the calls that read and write it: Err, Left, End, fail, Bytes, New. No condition. The reader's Fixed, Num and Text. No condition. A slice of numbers that the call itself made, at the head of a block of its own: append, in place or to a new block; what calls and other appends leave of it. No condition. Numbers and texts as bytes: the walks of Fixed, Num, Text and of the answer's. No condition. Tags: which may be; the walks of both sides' Check. No condition.
-/
import Derived.WalkKit
import Derived.Laws.Rows
import Derived.Deep.WholeRow
import Derived.Laws.IdiomStrings
import Derived.BigQuiet
import Derived.Deep.OwnRows
import Derived.Test.YtcmmhfjnhlaepabGreatDoorRows
import Derived.Maps.OwnSet
import Derived.WalkSpells
import Derived.WalkLawsBesides
import Derived.Deep.RegionHeld3
import Derived.Deep.AppendLies
import Derived.Maps.AppendAt
import Derived.Laws.OwnMore
import Derived.Maps.Ext
import Derived.DeepKeys4
import Derived.WideKeyEntry
import Derived.Laws.MathBits
import Derived.Laws.BitsAllLaws
import Derived.Laws.Bits64b
import Derived.Laws.AppendOwn
import Derived.OwnWalk
import Derived.ArgAppend
import Derived.Laws.IdiomCopy
import Derived.Deep.RegionWith
namespace Go.Proofs.YtcmmhfjnhlaepabGreatDoor
open Go Go.RowKit
def nthO {α : Type} : List α -> Nat -> Option α
 | [], _ => none
 | a :: _, 0 => some a
 | _ :: t, n + 1 => nthO t n
theorem nthO_eq {α : Type} : ∀ (l : List α) (i : Nat), l[i]? = nthO l i
 | [], _ => rfl
 | _ :: _, 0 => rfl
 | _ :: t, n + 1 => by simpa [nthO] using nthO_eq t n
theorem nthO_arr {α : Type} {x : Array α} {i : Nat} {o : α} (h : nthO x.toList i = some o) : x[i]? = some o := by rw [<- h, <- nthO_eq]; simp
theorem tkH {P : Program} {ops : Array Oper} {Q : Exit -> Act -> World -> Prop} {md : Region.Mode} {S : World -> Prop} {i : Nat} {oi : Oper} {v : Value} {fuel : Nat} {listed : Array Bool} {a : Act} {w : World} (hi : nthO ops.toList i = some oi) (hy : YieldsIf P ops S oi v a) (hS : S w) (h : wpAnyH P md ops Q S fuel (listed.setIfInBounds i true) (a.put oi.dst v) w) (hs : Region.noSelect ops = true := by kernel_rfl) (hf : Region.free md ops listed i = true := by kernel_rfl) (hr : (Region.ready md ops listed).contains i = true := by kernel_rfl) (hQ : ∀ c a w, Q (.panic c) (a.put oi.dst v) w -> Q (.panic c) a w := by exact fun _ _ _ h => h) : wpAnyH P md ops Q S (fuel + 1) listed a w := wpAnyH_take (nthO_arr hi) hs hf hr hQ hy hS h
theorem zA {α : Type} (l : List α) (i : Nat) (a : α) : l.toArray.setIfInBounds i a = (l.set i a).toArray := List.setIfInBounds_toArray ..
theorem zB {α : Type} (x : α) (l : List α) (a : α) : (x :: l).set 0 a = a :: l := List.set_cons_zero
theorem zC {α : Type} (x : α) (l : List α) (i : Nat) (a : α) : (x :: l).set (i + 1) a = x :: l.set i a := List.set_cons_succ
theorem tkC {P : Program} {ops : Array Oper} {Q : Exit -> Act -> World -> Prop} {md : Region.Mode} {S : World -> Prop} (i : Nat) {oi : Oper} {v : Value} {fuel : Nat} {listed l : Array Bool} {a b : Act} {w : World} (hS : S w) (h : wpAnyH P md ops Q S fuel l b w) (hi : nthO ops.toList i = some oi := by exact rfl) (hw : Region.wanted oi (yielded ops a.tmps) = true := by kernel_rfl) (hy : ∀ w, S w -> (execOp a.eval oi).run P w = .ok (.value v) w := by intro w0; (try simp only [and_imp]); intros; go_simp; try with_reducible rfl) (hs : Region.noSelect ops = true := by kernel_rfl) (hf : Region.free md ops listed i = true := by kernel_rfl) (hr : (Region.ready md ops listed).contains i = true := by kernel_rfl) (ha : a.put oi.dst v = b := by (try simp only [Act.put, zA, zB, zC]); exact rfl) (hl : listed.setIfInBounds i true = l := by (try simp only [zA, zB, zC]); exact rfl) (hQ : ∀ c a w, Q (.panic c) (a.put oi.dst v) w -> Q (.panic c) a w := by exact fun _ _ _ h => h) : wpAnyH P md ops Q S (fuel + 1) listed a w := by
 subst ha hl; exact wpAnyH_take (nthO_arr hi) hs hf hr hQ (Or.inl ⟨hw, hy⟩) hS h
theorem tkF {P : Program} {ops : Array Oper} {Q : Exit -> Act -> World -> Prop} {md : Region.Mode} {S : World -> Prop} {T : World -> Prop} (i : Nat) {oi : Oper} {v : Value} {fuel : Nat} {listed l : Array Bool} {a b : Act} {w : World} (F : ∀ w, S w -> T w) (hS : S w) (h : wpAnyH P md ops Q S fuel l b w) (hi : nthO ops.toList i = some oi := by exact rfl) (hw : Region.wanted oi (yielded ops a.tmps) = true := by kernel_rfl) (hy : ∀ w, T w -> (execOp a.eval oi).run P w = .ok (.value v) w := by intro w0; (try simp only [and_imp]); intros; go_simp; try with_reducible rfl) (hs : Region.noSelect ops = true := by kernel_rfl) (hf : Region.free md ops listed i = true := by kernel_rfl) (hr : (Region.ready md ops listed).contains i = true := by kernel_rfl) (ha : a.put oi.dst v = b := by (try simp only [Act.put, zA, zB, zC]); exact rfl) (hl : listed.setIfInBounds i true = l := by (try simp only [zA, zB, zC]); exact rfl) (hQ : ∀ c a w, Q (.panic c) (a.put oi.dst v) w -> Q (.panic c) a w := by exact fun _ _ _ h => h) : wpAnyH P md ops Q S (fuel + 1) listed a w := by
 subst ha hl; exact wpAnyH_take (nthO_arr hi) hs hf hr hQ (Or.inl ⟨hw, fun w q => hy w (F w q)⟩) hS h
theorem tkJ {P : Program} {ops : Array Oper} {Q : Exit -> Act -> World -> Prop} {md : Region.Mode} {S : World -> Prop} (i : Nat) {oi : Oper} {fuel : Nat} {listed l : Array Bool} {a b : Act} {w : World} (hS : S w) (h : wpAnyH P md ops Q S fuel l b w) (hi : nthO ops.toList i = some oi := by exact rfl) (hw : Region.wanted oi (yielded ops a.tmps) = false := by kernel_rfl) (hs : Region.noSelect ops = true := by kernel_rfl) (hf : Region.free md ops listed i = true := by kernel_rfl) (hr : (Region.ready md ops listed).contains i = true := by kernel_rfl) (ha : a.put oi.dst undef = b := by (try simp only [Act.put, zA, zB, zC]); exact rfl) (hl : listed.setIfInBounds i true = l := by (try simp only [zA, zB, zC]); exact rfl) (hQ : ∀ c a w, Q (.panic c) (a.put oi.dst undef) w -> Q (.panic c) a w := by exact fun _ _ _ h => h) : wpAnyH P md ops Q S (fuel + 1) listed a w := by
 subst ha hl; exact wpAnyH_take (nthO_arr hi) hs hf hr hQ (Or.inr ⟨hw, rfl⟩) hS h
theorem arH {P : Program} {ops : Array Oper} {Q : Exit -> Act -> World -> Prop} {md : Region.Mode} {S : World -> Prop} {fuel : Nat} {listed : Array Bool} {a : Act} {w : World} {i : Nat} {o : Oper} {rs : List Nat} (ho : nthO ops.toList i = some o) (h : ∀ K' : Act -> World -> Prop, Shut (∀ a w, S w -> (S w -> wpAnyH P md ops Q S fuel (listed.setIfInBounds i true) a w) -> K' a w) -> if Region.wanted o (yielded ops a.tmps) = true then Oper.wp P o a w K' Q else K' (a.put o.dst undef) w) (hs : AllReadyH P md ops Q S fuel listed a w rs) : AllReadyH P md ops Q S fuel listed a w (i :: rs) := AllReadyH.cons (nthO_arr ho) h hs
def cellsOf (k : IntKind) (l : List Int) : Array Value := (l.map (Value.int k)).toArray
theorem cellsOf_size (k : IntKind) (l : List Int) : (cellsOf k l).size = l.length := by simp [cellsOf]
theorem cellsOf_set (k : IntKind) (l : List Int) (j : Nat) (v : Int) : (cellsOf k l).setIfInBounds j (.int k v) = cellsOf k (l.set j v) := by
 simp [cellsOf, List.map_set]
def Row (w : World) (g : Nat) (t : TypeId) (k : IntKind) (l : List Int) : Prop := w.heap[g]? = some (.cells (cellsOf k l) t (0, 0))
theorem Row.lt {w : World} {g t k l} (h : Row w g t k l) : g < w.heap.size := (Array.getElem?_eq_some_iff.1 h).1
theorem Row.cell {w : World} {g t k l} (h : Row w g t k l) (j : Nat) (hj : j < l.length) : w.cell? ⟨g, j, none⟩ = some (.int k (l.getD j 0)) := by
 rw [cell_of_row w g j _ t _ h]
 simp [cellsOf, List.getD_eq_getElem?_getD, hj]
theorem Row.frozen {w : World} {g t k l} (h : Row w g t k l) (j : Nat) : w.frozen? ⟨g, j, none⟩ = false := frozen_of_row w g j _ t h
theorem Row.drew {w : World} {g t k l} (h : Row w g t k l) : Row w.drew g t k l := h
theorem Row.below {B g : Nat} {w w' : World} {t k l} (h : Row w g t k l) (b : Below B w w') (hg : g < B) : Row w' g t k l := by
 unfold Row
 rw [b.block g hg]
 exact h
theorem Row.call {g : Nat} {w w' : World} {t k l} (h : Row w g t k l) (b : Below w.heap.size w w') : Row w' g t k l := h.below b h.lt
theorem Row.alloc {w : World} {g t k l} (h : Row w g t k l) (o : Obj) : Row (w.alloc o) g t k l := (Below.heap_alloc w o g h.lt).trans h
theorem Row.fresh (w : World) (t : TypeId) (k : IntKind) (l : List Int) : Row (w.alloc (.cells (cellsOf k l) t)) w.heap.size t k l := heap_alloc_new w _
theorem Row.stored {w : World} {g t k l} (h : Row w g t k l) (j : Nat) (v : Int) : Row (w.setCell ⟨g, j, none⟩ (.int k v)) g t k (l.set j v) := by
 have := heap_setCell_same w g j _ t (.int k v) h
 rw [cellsOf_set] at this
 exact this
theorem Row.other {w : World} {g t k l} (h : Row w g t k l) {a : Addr} (ha : a.block ≠ g) (v : Value) : Row (w.setCell a v) g t k l :=
 (heap_setCell_other w a g v (fun e => ha e.symm)).trans h
theorem below3 {w a b : World} (h : Below w.heap.size w a) (k : Below a.heap.size a b) : Below w.heap.size w b := h.trans (k.mono h.size)
theorem below_drewN {B n : Nat} {w w' : World} (h : Below B w w') : Below B w (w'.drewN n) := ⟨h.os, h.tape, h.output, h.size, h.block⟩
theorem size_alloc (w : World) (o : Obj) : (w.alloc o).heap.size = w.heap.size + 1 := by simp
theorem Row.fresh1 (w : World) (o : Obj) (t : TypeId) (k : IntKind) (l : List Int) : Row ((w.alloc o).alloc (.cells (cellsOf k l) t)) (w.heap.size + 1) t k l := by
 have h := Row.fresh (w.alloc o) t k l
 rwa [size_alloc] at h
variable {P : Program}
theorem sliceTo {t n e : Nat} (hu : P.underlying t = some (.array n e)) (hs : (P.info? e).map (·.size) = some 1) (g h : Nat) (hh : h <= n) (w : World) :
  (Instr.sliceAt t (.pointer (some ⟨g, 0, none⟩)) none (some (.int .i64 h)) none).run P w = .ok (.slice (some ⟨g, 0, none⟩) h n) w := by
 have e1 : P.arrayLen t = n := by simp [Program.arrayLen, hu]
 have e2 : P.elem t = e := by simp [Program.elem, hu]
 have hw : ∀ w, (sizeOf e).run P w = .ok 1 w := by
  intro w
  cases hq : P.info? e with
  | none => simp [hq] at hs
  | some i => simp [hq] at hs; simp [sizeOf, typeInfo, hq, hs]
 rw [run_sliceAt_array_h w t _ (by rw [e1, e2]; exact hu) .i64 h (by omega) (by rw [e1]; omega), e1, e2, hw]
 simp [slicedAt, Addr.add]
def HasBytes (w : World) (g : Nat) (l : List UInt8) : Prop :=
 ∀ j, j < l.length -> w.cell? ⟨g, j, none⟩ = some (.int .u8 ((l.getD j 0).toNat : Int)) /\ w.frozen? ⟨g, j, none⟩ = false
theorem HasBytes.drew {w : World} {g : Nat} {l : List UInt8} (h : HasBytes w g l) : HasBytes w.drew g l := h
theorem HasBytes.stored {w : World} {g : Nat} {l : List UInt8} (h : HasBytes w g l) (j : Nat) (hj : j < l.length) (b : UInt8) :
  HasBytes (w.setCell ⟨g, j, none⟩ (.int .u8 (b.toNat : Int))) g (l.set j b) := by
 intro i hi
 rw [List.length_set] at hi
 rw [World.frozen?_setCell]
 refine ⟨?_, (h i hi).2⟩
 by_cases e : i = j
 ·subst e
  rw [World.cell?_setCell_same _ _ _ (h i hi).1]
  simp [List.getD_eq_getElem?_getD, hi]
 ·have hne : (⟨g, j, none⟩ : Addr) ≠ ⟨g, i, none⟩ := by
   intro e2
   have e3 : j = i := congrArg Addr.off e2
   exact e e3.symm
  rw [World.cell?_setCell_other _ _ _ _ hne, (h i hi).1]
  have : ¬ j = i := fun e2 => e e2.symm
  simp [List.getD_eq_getElem?_getD, this]
theorem HasBytes.converted (w : World) (s : ByteArray) (cap e : Nat) :
  HasBytes (w.alloc (.cells (bytesRow s cap) e ((bytesRow s cap).size, (bytesRow s cap).size + 1))) w.heap.size s.data.toList := by
 intro j hj
 have hj' : j < s.data.size := by simpa using hj
 rw [World.cell?_alloc_mark, World.frozen?_alloc_mark, bytesRow_at s cap j hj']
 have hsz : s.data.size <= (bytesRow s cap).size := by simp [bytesRow]
 refine ⟨?_, ?_⟩
 ·rw [List.getD_eq_getElem?_getD, Array.getElem?_toList, Array.getElem?_eq_getElem hj']
  rfl
 ·have : ¬ (bytesRow s cap).size <= j := by omega
  simp [this]
theorem HasBytes.back {w : World} {g : Nat} {l : List UInt8} (h : HasBytes w g l) (src dst e : TypeId) (n cap : Nat) (hn : n = l.length)
  (hs : P.underlying src = some (.slice e)) (he : P.underlying e = some (.int .u8)) (hd : P.underlying dst = some .string) :
  (convert src dst (.slice (some ⟨g, 0, none⟩) n cap)).run P w = .ok (.string ⟨l.toArray⟩) w := by
 subst hn
 refine run_convert_bytes_back w src dst e ⟨g, 0, none⟩ cap l hs he hd ?_
 intro j hj
 have := (h j hj).1
 rw [List.getD_eq_getElem?_getD, List.getElem?_eq_getElem hj] at this
 have ea : (⟨g, 0, none⟩ : Addr).add j = ⟨g, j, none⟩ := by unfold Addr.add; split <;> simp_all
 rw [ea]
 simpa using this
end Go.Proofs.YtcmmhfjnhlaepabGreatDoor
namespace Go.Proofs.YtcmmhfjnhlaepabGreatDoor
open Go Go.RowKit
theorem Hid.mk {p : Prop} (h : p) : Hid p := h
structure Kp (S : Nat -> Prop) (w w' : World) : Prop where
 os : w'.os = w.os
 tape : w'.tape = w.tape
 output : w'.output = w.output
 size : w.heap.size <= w'.heap.size
 block : ∀ k, k < w.heap.size -> ¬ S k -> w'.heap[k]? = w.heap[k]?
theorem Kp.refl (S : Nat -> Prop) (w : World) : Kp S w w := ⟨rfl, rfl, rfl, Nat.le_refl _, fun _ _ _ => rfl⟩
theorem Kp.trans {S : Nat -> Prop} {a b c : World} (h : Kp S a b) (k : Kp S b c) : Kp S a c :=
 ⟨k.os.trans h.os, k.tape.trans h.tape, k.output.trans h.output, Nat.le_trans h.size k.size, fun i hi hs => (k.block i (Nat.lt_of_lt_of_le hi h.size) hs).trans (h.block i hi hs)⟩
theorem Kp.mono {S T : Nat -> Prop} {w w' : World} (h : Kp S w w') (hs : ∀ i, S i -> T i) : Kp T w w' := ⟨h.os, h.tape, h.output, h.size, fun i hi hn => h.block i hi (fun x => hn (hs i x))⟩
theorem Kp.setCell {S : Nat -> Prop} {w w' : World} (h : Kp S w w') {p : Addr} (hp : S p.block) (u : Value) : Kp S w (w'.setCell p u) :=
 h.trans ⟨rfl, rfl, rfl, by simp [World.setCell], fun i _ hn => Below.heap_setCell w' p u i (fun e => hn (e ▸ hp))⟩
theorem Kp.alloc {S : Nat -> Prop} {w w' : World} (h : Kp S w w') (o : Obj) : Kp S w (w'.alloc o) :=
 h.trans ⟨rfl, rfl, rfl, by simp, fun i hi _ => Below.heap_alloc w' o i hi⟩
theorem Kp.drew {S : Nat -> Prop} {w w' : World} (h : Kp S w w') : Kp S w w'.drew := ⟨h.os, h.tape, h.output, h.size, h.block⟩
theorem Kp.drewN {S : Nat -> Prop} {w w' : World} (h : Kp S w w') (n : Nat) : Kp S w (w'.drewN n) := ⟨h.os, h.tape, h.output, h.size, h.block⟩
theorem Kp.call {S : Nat -> Prop} {w a b : World} (h : Kp S w a) (k : Below a.heap.size a b) : Kp S w b :=
 ⟨k.os.trans h.os, k.tape.trans h.tape, k.output.trans h.output, Nat.le_trans h.size k.size, fun i hi hn => (k.block i (Nat.lt_of_lt_of_le hi h.size)).trans (h.block i hi hn)⟩
theorem Kp.ofBelow {S : Nat -> Prop} {w w' : World} (h : Below w.heap.size w w') : Kp S w w' := (Kp.refl S w).call h
theorem Kp.below {S : Nat -> Prop} {B : Nat} {a w w' : World} (h : Below B a w) (k : Kp S w w') (hB : B <= w.heap.size) (hs : ∀ i, S i -> B <= i) : Below B a w' :=
 ⟨k.os.trans h.os, k.tape.trans h.tape, k.output.trans h.output, Nat.le_trans h.size k.size, fun i hi => (k.block i (by omega) (fun x => by have := hs i x; omega)).trans (h.block i hi)⟩
theorem Kp.cells {S : Nat -> Prop} {w w' : World} (h : Kp S w w') (g : Nat) : ∀ (vs : List Value) (o : Nat), S g -> Kp S w (w'.setCells g o vs)
 | [], _, _ => h
 | v :: r, o, hg => (h.setCell (p := ⟨g, o, none⟩) hg v).cells g r (o + 1) hg
def rawE (v : Value) : Option (DataW Value × List MemPlace) := some (.held v, [])
def MapIs (w : World) (b n : Nat) (F : Int -> Option Value) : Prop :=
 ∃ D, w.ownsMap Tryz.prog 3 rawE b n D /\ ∀ i, (Lit.int .i64 i).wf = true -> Maps.has D (.int .i64 i) = (F i).isSome /\ ∀ z, D.atKey (.int .i64 i) z = match F i with | some v => .held v | none => z
theorem MapIs.lt {w : World} {b n F} (h : MapIs w b n F) : b < w.heap.size := by
 obtain ⟨D, h1, _⟩ := h
 exact h1.lt
theorem MapIs.of_block {w w' : World} {b n F} (h : MapIs w b n F) (e : w'.heap[b]? = w.heap[b]?) : MapIs w' b n F := by
 obtain ⟨D, ⟨es, clock, hb, r⟩, h2⟩ := h
 exact ⟨D, ⟨es, clock, e.trans hb, r⟩, h2⟩
theorem MapIs.notCells {w : World} {b n F} (h : MapIs w b n F) {c : Array Value} {t : TypeId} {m : Nat × Nat} {g : Nat} (hg : w.heap[g]? = some (.cells c t m)) : b ≠ g := by
 obtain ⟨D, ⟨es, clock, hb, r⟩, h2⟩ := h
 intro e
 subst e
 rw [hb] at hg
 cases hg
theorem MapIs.made (w : World) : MapIs (w.alloc (.map #[] 0)) w.heap.size 0 (fun _ => none) :=
 ⟨.map [], World.ownsMap_made w _ _ _, fun _ _ => ⟨rfl, fun _ => rfl⟩⟩
theorem law3 : Maps.Keyed Tryz.prog 3 := Maps.int_keyed (q := .i64) Tryz.underlying3
theorem key3 {i : Int} (h : (Lit.int .i64 i).wf = true) : keyOf Tryz.prog 3 (.int .i64 i) = some (.int .i64 i) := Maps.keyOf_int_mk Tryz.underlying3 h
theorem MapIs.look {w : World} {b n F} (h : MapIs w b n F) {t e : TypeId} (ht : Tryz.prog.underlying t = some (.map 3 e)) {z : Value} (hz : (zeroValue e).run Tryz.prog w = .ok z w) {i : Int} (hi : (Lit.int .i64 i).wf = true) :
  (Instr.lookup t (.map (some b)) (.int .i64 i) true).run Tryz.prog w = .ok (.tuple #[(F i).getD z, .bool (F i).isSome]) w := by
 obtain ⟨D, h1, h2⟩ := h
 obtain ⟨v, ps, hr, hv⟩ := h1.look_ok law3 ht hz (zd := .held z) (zp := []) rfl (key3 hi)
 rw [hr, (h2 i hi).1]
 unfold rawE at hv
 rw [(h2 i hi).2] at hv
 cases hF : F i <;> rw [hF] at hv <;> simp at hv <;> simp [hv]
theorem MapIs.store {w : World} {b n F} (h : MapIs w b n F) {t e : TypeId} (ht : Tryz.prog.underlying t = some (.map 3 e)) (hn : n < maxLen) (v : Value) {i : Int} (hi : (Lit.int .i64 i).wf = true) :
  ∃ w', (Instr.mapUpdate t (.map (some b)) (.int .i64 i) v).run Tryz.prog w = .ok () w' /\ MapIs w' b (n + 1) (fun j => if j = i then some v else F j) /\ w.mapTurned w' b := by
 obtain ⟨D, h1, h2⟩ := h
 obtain ⟨w', hr, h3, h4⟩ := h1.store law3 ht hn (d := .held v) (ps := []) (key3 hi) (val := v) rfl
 have hk : WideAt.IsKeyLit (.int .i64 i) := law3.key (key3 hi)
 refine ⟨w', hr, ⟨_, h3, fun j hj => ?_⟩, h4⟩
 by_cases e : j = i
 ·subst e
  simp only [if_pos]
  exact ⟨Maps.has_put_same h1.isMap hk _, fun z => Maps.atKey_put_same h1.isMap hk _ z⟩
 ·simp only [if_neg e]
  have hne : (Lit.int .i64 j) ≠ .int .i64 i := by intro x; cases x; exact e rfl
  exact ⟨(Maps.has_put_other hne _).trans (h2 j hj).1, fun z => (Maps.atKey_put_other hne _ z).trans ((h2 j hj).2 z)⟩
structure Ch where
 B : Nat
 P : Nat
 Z : Nat
 pg : Nat -> Nat -> ByteArray
 worn : Nat -> Int
 dead : Nat -> Bool
 mark : Nat -> Bool
 cuts : Int -> Option (Int × Int)
 fails : Int -> Bool
 did : Int
 off : Bool
structure Ly where
 a : Nat
 bs : Nat
 pb : Nat -> Nat
def Ly.own (L : Ly) (B : Nat) (i : Nat) : Prop := i = L.a \/ i = L.bs \/ ∃ b, b < B /\ i = L.pb b
def cutV (i k f : Int) : Value := .agg #[.int .i64 i, .int .i64 k, .int .u8 f]
def cutF (c : Int -> Option (Int × Int)) (i : Int) : Option Value := (c i).map fun x => cutV i x.1 x.2
def failF (c : Int -> Bool) (i : Int) : Option Value := if c i then some (.agg #[]) else none
def blkF (L : Ly) (C : Ch) (i : Nat) : Value :=
 if i % 4 = 0 then .slice (some ⟨L.pb (i / 4), 0, none⟩) C.P C.P else if i % 4 = 1 then .int .i64 (C.worn (i / 4)) else if i % 4 = 2 then .bool (C.dead (i / 4)) else .bool (C.mark (i / 4))
def topC (L : Ly) (C : Ch) (mc mf : Nat) : Array Value :=
 #[.int .i64 C.B, .int .i64 C.P, .int .i64 C.Z, .slice (some ⟨L.bs, 0, none⟩) C.B C.B, .map (some mc), .map (some mf), .int .i64 C.did, .bool C.off]
structure Chip (w : World) (L : Ly) (C : Ch) : Prop where
 geo : 8 <= C.B /\ C.B <= 32 /\ 4 <= C.P /\ C.P <= 16 /\ 64 <= C.Z /\ C.Z <= 256
 top : ∃ mc mf n k, w.heap[L.a]? = some (.cells (topC L C mc mf) 69 (0, 0)) /\ MapIs w mc n (cutF C.cuts) /\ MapIs w mf k (failF C.fails)
 row : w.rowIs L.bs 78 (C.B * 4) (blkF L C)
 pgs : ∀ b, b < C.B -> w.rowIs (L.pb b) 9 C.P (fun p => .string (C.pg b p))
 inj : ∀ b, b < C.B -> ∀ d, d < C.B -> L.pb b = L.pb d -> b = d
 pa : ∀ b, b < C.B -> L.pb b ≠ L.a
 pbs : ∀ b, b < C.B -> L.pb b ≠ L.bs
 ab : L.bs ≠ L.a
 len : ∀ b p, (C.pg b p).size = 0 \/ (C.pg b p).size = C.Z + 32
 fill : ∀ i x, C.cuts i = some x -> 0 <= x.2 /\ x.2 < 256
 didr : 0 <= C.did /\ C.did < 1000000
theorem Chip.lt {w : World} {L C} (h : Chip w L C) {i : Nat} (hi : L.own C.B i) : i < w.heap.size := by
 rcases hi with rfl | rfl | ⟨b, hb, rfl⟩
 ·obtain ⟨mc, mf, n, k, ht, _⟩ := h.top
  exact (Array.getElem?_eq_some_iff.1 ht).1
 ·exact h.row.lt
 ·exact (h.pgs b hb).lt
theorem Chip.same {w w' : World} {L C} (h : Chip w L C) (e : ∀ i, i < w.heap.size -> w'.heap[i]? = w.heap[i]?) : Chip w' L C := by
 obtain ⟨mc, mf, n, k, ht, h1, h2⟩ := h.top
 exact { h with
  top := ⟨mc, mf, n, k, (e L.a (Array.getElem?_eq_some_iff.1 ht).1).trans ht, h1.of_block (e _ h1.lt), h2.of_block (e _ h2.lt)⟩
  row := h.row.of_block (e _ h.row.lt)
  pgs := fun b hb => (h.pgs b hb).of_block (e _ (h.pgs b hb).lt) }
theorem Chip.call {w w' : World} {L C} (h : Chip w L C) (b : Below w.heap.size w w') : Chip w' L C := h.same b.block
theorem Chip.alloc {w : World} {L C} (h : Chip w L C) (o : Obj) : Chip (w.alloc o) L C := h.same (fun i hi => Below.heap_alloc w o i hi)
theorem Chip.drew {w : World} {L C} (h : Chip w L C) : Chip w.drew L C := h.same (fun _ _ => rfl)
theorem Chip.cellA {w : World} {L C} (h : Chip w L C) : ∃ mc mf n k, MapIs w mc n (cutF C.cuts) /\ MapIs w mf k (failF C.fails) /\ w.cell? ⟨L.a, 0, none⟩ = some (.int .i64 C.B) /\ w.cell? ⟨L.a, 1, none⟩ = some (.int .i64 C.P) /\ w.cell? ⟨L.a, 2, none⟩ = some (.int .i64 C.Z) ∧
  w.cell? ⟨L.a, 3, none⟩ = some (.slice (some ⟨L.bs, 0, none⟩) C.B C.B) /\ w.cell? ⟨L.a, 4, none⟩ = some (.map (some mc)) /\ w.cell? ⟨L.a, 5, none⟩ = some (.map (some mf)) /\ w.cell? ⟨L.a, 6, none⟩ = some (.int .i64 C.did) /\ w.cell? ⟨L.a, 7, none⟩ = some (.bool C.off) /\ ∀ j, w.frozen? ⟨L.a, j, none⟩ = false := by
 obtain ⟨mc, mf, n, k, ht, h1, h2⟩ := h.top
 refine ⟨mc, mf, n, k, h1, h2, ?_, ?_, ?_, ?_, ?_, ?_, ?_, ?_, fun j => frozen_of_row w L.a j _ 69 ht⟩ <;> (rw [cell_of_row w L.a _ _ 69 _ ht]; rfl)
theorem Chip.cellB {w : World} {L C} (h : Chip w L C) (b : Nat) (hb : b < C.B) : w.cell? ⟨L.bs, b * 4, none⟩ = some (.slice (some ⟨L.pb b, 0, none⟩) C.P C.P) /\ w.cell? ⟨L.bs, b * 4 + 1, none⟩ = some (.int .i64 (C.worn b)) ∧
  w.cell? ⟨L.bs, b * 4 + 2, none⟩ = some (.bool (C.dead b)) /\ w.cell? ⟨L.bs, b * 4 + 3, none⟩ = some (.bool (C.mark b)) := by
 refine ⟨?_, ?_, ?_, ?_⟩ <;> (rw [h.row.cell (by omega)]; unfold blkF)
 ·rw [if_pos (by omega), Nat.mul_div_cancel _ (by decide)]
 ·rw [if_neg (by omega), if_pos (by omega), show (b * 4 + 1) / 4 = b by omega]
 ·rw [if_neg (by omega), if_neg (by omega), if_pos (by omega), show (b * 4 + 2) / 4 = b by omega]
 ·rw [if_neg (by omega), if_neg (by omega), if_neg (by omega), show (b * 4 + 3) / 4 = b by omega]
theorem Chip.frozenB {w : World} {L C} (h : Chip w L C) (i : Nat) : w.frozen? ⟨L.bs, i, none⟩ = false := h.row.frozen i
theorem Chip.cellP {w : World} {L C} (h : Chip w L C) (b p : Nat) (hb : b < C.B) (hp : p < C.P) : w.cell? ⟨L.pb b, p, none⟩ = some (.string (C.pg b p)) := (h.pgs b hb).cell hp
theorem Chip.frozenP {w : World} {L C} (h : Chip w L C) (b i : Nat) (hb : b < C.B) : w.frozen? ⟨L.pb b, i, none⟩ = false := (h.pgs b hb).frozen i
theorem Chip.setTop {w : World} {L C} (h : Chip w L C) (j : Nat) (v : Value) (C' : Ch) (e1 : C'.B = C.B) (e2 : C'.P = C.P) (e3 : C'.Z = C.Z) (e4 : C'.pg = C.pg) (e5 : C'.worn = C.worn) (e6 : C'.dead = C.dead) (e7 : C'.mark = C.mark) (e8 : C'.cuts = C.cuts) (e9 : C'.fails = C.fails)
  (hd : 0 <= C'.did /\ C'.did < 1000000) (hc : ∀ mc mf, (topC L C mc mf).setIfInBounds j v = topC L C' mc mf) : Chip (w.setCell ⟨L.a, j, none⟩ v) L C' := by
 obtain ⟨mc, mf, n, k, ht, h1, h2⟩ := h.top
 have hm1 : mc ≠ L.a := h1.notCells ht
 have hm2 : mf ≠ L.a := h2.notCells ht
 have hbk : blkF L C' = blkF L C := by funext i; simp only [blkF, e2, e5, e6, e7]
 refine { geo := by rw [e1, e2, e3]; exact h.geo, top := ⟨mc, mf, n, k, ?_, ?_, ?_⟩, row := ?_, pgs := ?_, inj := by rw [e1]; exact h.inj, pa := by rw [e1]; exact h.pa, pbs := by rw [e1]; exact h.pbs, ab := h.ab, len := by rw [e3, e4]; exact h.len, fill := by rw [e8]; exact h.fill, didr := hd }
 ·have := heap_setCell_same w L.a j _ 69 v ht
  rw [hc] at this
  exact this
 ·rw [e8]; exact h1.of_block (Below.heap_setCell w _ v mc hm1)
 ·rw [e9]; exact h2.of_block (Below.heap_setCell w _ v mf hm2)
 ·rw [e1, hbk]; exact h.row.setOther h.ab v
 ·rw [e1]; intro b hb; rw [e2, e4]; exact (h.pgs b hb).setOther (h.pa b hb) v
theorem Chip.setDid {w : World} {L C} (h : Chip w L C) (d : Int) (hd : 0 <= d /\ d < 1000000) : Chip (w.setCell ⟨L.a, 6, none⟩ (.int .i64 d)) L { C with did := d } :=
 h.setTop 6 _ { C with did := d } rfl rfl rfl rfl rfl rfl rfl rfl rfl hd (fun _ _ => rfl)
theorem Chip.setOff {w : World} {L C} (h : Chip w L C) (o : Bool) : Chip (w.setCell ⟨L.a, 7, none⟩ (.bool o)) L { C with off := o } :=
 h.setTop 7 _ { C with off := o } rfl rfl rfl rfl rfl rfl rfl rfl rfl h.didr (fun _ _ => rfl)
def upd {α : Type} (f : Nat -> α) (b : Nat) (v : α) : Nat -> α := fun i => if i = b then v else f i
theorem Chip.setBlk {w : World} {L C} (h : Chip w L C) (b j : Nat) (v : Value) (C' : Ch) (e1 : C'.B = C.B) (e2 : C'.P = C.P) (e3 : C'.Z = C.Z) (e4 : C'.pg = C.pg) (e8 : C'.cuts = C.cuts) (e9 : C'.fails = C.fails) (e10 : C'.did = C.did) (e11 : C'.off = C.off)
  (hc : ∀ i, (if i = b * 4 + j then v else blkF L C i) = blkF L C' i) : Chip (w.setCell ⟨L.bs, b * 4 + j, none⟩ v) L C' := by
 obtain ⟨mc, mf, n, k, ht, h1, h2⟩ := h.top
 obtain ⟨c, hb, _⟩ := h.row
 have hm1 : mc ≠ L.bs := h1.notCells hb
 have hm2 : mf ≠ L.bs := h2.notCells hb
 have htc : topC L C' mc mf = topC L C mc mf := by simp only [topC, e1, e2, e3, e10, e11]
 refine { geo := by rw [e1, e2, e3]; exact h.geo, top := ⟨mc, mf, n, k, ?_, ?_, ?_⟩, row := ?_, pgs := ?_, inj := by rw [e1]; exact h.inj, pa := by rw [e1]; exact h.pa, pbs := by rw [e1]; exact h.pbs, ab := h.ab, len := by rw [e3, e4]; exact h.len, fill := by rw [e8]; exact h.fill, didr := by rw [e10]; exact h.didr }
 ·rw [htc]; exact (Below.heap_setCell w _ v L.a (fun e => h.ab e.symm)).trans ht
 ·rw [e8]; exact h1.of_block (Below.heap_setCell w _ v mc hm1)
 ·rw [e9]; exact h2.of_block (Below.heap_setCell w _ v mf hm2)
 ·rw [e1]; exact (h.row.set (b * 4 + j) v).congr (fun i _ => hc i)
 ·rw [e1]; intro d hd; rw [e2, e4]; exact (h.pgs d hd).setOther (h.pbs d hd) v
theorem Chip.setWorn {w : World} {L C} (h : Chip w L C) (b : Nat) (v : Int) : Chip (w.setCell ⟨L.bs, b * 4 + 1, none⟩ (.int .i64 v)) L { C with worn := upd C.worn b v } := by
 refine h.setBlk b 1 _ { C with worn := upd C.worn b v } rfl rfl rfl rfl rfl rfl rfl rfl (fun i => ?_)
 unfold blkF upd
 by_cases e : i = b * 4 + 1
 ·subst e
  rw [if_pos rfl, if_neg (by omega), if_pos (by omega)]
  simp only
  rw [if_pos (by omega)]
 ·rw [if_neg e]
  simp only
  by_cases e1 : i % 4 = 1
  ·rw [if_neg (by omega : ¬ i % 4 = 0), if_pos e1, if_neg (by omega : ¬ i % 4 = 0), if_pos e1, if_neg (by omega)]
  ·simp only [if_neg e1]
theorem Chip.setDead {w : World} {L C} (h : Chip w L C) (b : Nat) (v : Bool) : Chip (w.setCell ⟨L.bs, b * 4 + 2, none⟩ (.bool v)) L { C with dead := upd C.dead b v } := by
 refine h.setBlk b 2 _ { C with dead := upd C.dead b v } rfl rfl rfl rfl rfl rfl rfl rfl (fun i => ?_)
 unfold blkF upd
 by_cases e : i = b * 4 + 2
 ·subst e
  rw [if_pos rfl, if_neg (by omega), if_neg (by omega), if_pos (by omega)]
  simp only
  rw [if_pos (by omega)]
 ·rw [if_neg e]
  simp only
  by_cases e1 : i % 4 = 2
  ·rw [if_neg (by omega : ¬ i % 4 = 0), if_neg (by omega : ¬ i % 4 = 1), if_pos e1, if_neg (by omega : ¬ i % 4 = 0), if_neg (by omega : ¬ i % 4 = 1), if_pos e1, if_neg (by omega)]
  ·simp only [if_neg e1]
theorem Chip.setMark {w : World} {L C} (h : Chip w L C) (b : Nat) (v : Bool) : Chip (w.setCell ⟨L.bs, b * 4 + 3, none⟩ (.bool v)) L { C with mark := upd C.mark b v } := by
 refine h.setBlk b 3 _ { C with mark := upd C.mark b v } rfl rfl rfl rfl rfl rfl rfl rfl (fun i => ?_)
 unfold blkF upd
 by_cases e : i = b * 4 + 3
 ·subst e
  rw [if_pos rfl, if_neg (by omega), if_neg (by omega), if_neg (by omega)]
  simp only
  rw [if_pos (by omega)]
 ·rw [if_neg e]
  simp only
  by_cases e1 : i % 4 = 3
  ·rw [if_neg (by omega : ¬ i % 4 = 0), if_neg (by omega : ¬ i % 4 = 1), if_neg (by omega : ¬ i % 4 = 2), if_neg (by omega : ¬ i % 4 = 0), if_neg (by omega : ¬ i % 4 = 1), if_neg (by omega : ¬ i % 4 = 2), if_neg (by omega)]
  ·by_cases e2 : i % 4 = 0
   ·rw [if_pos e2, if_pos e2]
   ·by_cases e3 : i % 4 = 1
    ·rw [if_neg e2, if_pos e3, if_neg e2, if_pos e3]
    ·rw [if_neg e2, if_neg e3, if_pos (by omega), if_neg e2, if_neg e3, if_pos (by omega)]
theorem Chip.setRow {w w' : World} {L C} (h : Chip w L C) (b : Nat) (hb : b < C.B) (f : Nat -> ByteArray) (hl : ∀ p, (f p).size = 0 \/ (f p).size = C.Z + 32) (hr : w'.rowIs (L.pb b) 9 C.P (fun p => .string (f p)))
  (ho : ∀ i, i < w.heap.size -> i ≠ L.pb b -> w'.heap[i]? = w.heap[i]?) : Chip w' L { C with pg := upd C.pg b f } := by
 obtain ⟨mc, mf, n, k, ht, h1, h2⟩ := h.top
 obtain ⟨c, hbb, _⟩ := h.pgs b hb
 have hm1 : mc ≠ L.pb b := h1.notCells hbb
 have hm2 : mf ≠ L.pb b := h2.notCells hbb
 refine { h with top := ⟨mc, mf, n, k, ?_, ?_, ?_⟩, row := ?_, pgs := ?_, len := ?_ }
 ·exact (ho _ (Array.getElem?_eq_some_iff.1 ht).1 (fun e => h.pa b hb e.symm)).trans ht
 ·exact h1.of_block (ho _ h1.lt hm1)
 ·exact h2.of_block (ho _ h2.lt hm2)
 ·exact h.row.of_block (ho _ h.row.lt (fun e => h.pbs b hb e.symm))
 ·intro d hd
  unfold upd
  by_cases e : d = b
  ·subst e
   simp only [if_pos]
   exact hr
  ·simp only [if_neg e]
   exact (h.pgs d hd).of_block (ho _ (h.pgs d hd).lt (fun e2 => e (h.inj d hd b hb e2)))
 ·intro d p
  unfold upd
  by_cases e : d = b
  ·simp only [if_pos e]
   exact hl p
  ·simp only [if_neg e]
   exact h.len d p
theorem Chip.setPage {w : World} {L C} (h : Chip w L C) (b p : Nat) (hb : b < C.B) (s : ByteArray) (hs : s.size = 0 \/ s.size = C.Z + 32) : Chip (w.setCell ⟨L.pb b, p, none⟩ (.string s)) L { C with pg := upd C.pg b (upd (C.pg b) p s) } := by
 refine h.setRow b hb _ (fun q => ?_) (((h.pgs b hb).set p (.string s)).congr (fun q _ => ?_)) (fun i _ hi => Below.heap_setCell w _ _ i hi)
 ·unfold upd
  split
  ·exact hs
  ·exact h.len b q
 ·unfold upd
  split <;> rfl
end Go.Proofs.YtcmmhfjnhlaepabGreatDoor
namespace Go.Proofs.YtcmmhfjnhlaepabGreatDoor.We
open Go Go.RowKit Go.Maps
abbrev Rws := List (List Value)
structure Ow (w : World) (B : Nat) (e : TypeId) (sz : Nat) (v : Value) (rows : Rws) : Prop where
 own : w.ownsRow B e sz v rows.length rows.flatten
 len : ∀ r ∈ rows, r.length = sz
 one : ∀ r ∈ rows, ∀ u ∈ r, u.oneCell' = true
theorem Ow.kept {w w' : World} {B e sz v rows} {row : Option Nat} (h : Ow w B e sz v rows) (b : w.grownBy w' row) (hne : v.ownBlock = none \/ v.ownBlock ≠ row) : Ow w' B e sz v rows := ⟨h.own.kept b hne, h.len, h.one⟩
theorem Ow.call {w w' : World} {B e sz v rows} (h : Ow w B e sz v rows) (b : Below w.heap.size w w') : Ow w' B e sz v rows :=
 ⟨h.own.kept (row := none) ⟨b.os, b.tape, b.output, b.size, fun j hj _ => b.block j hj⟩ (by cases hv : v.ownBlock <;> simp), h.len, h.one⟩
theorem Ow.alloc {w : World} {B e sz v rows} (h : Ow w B e sz v rows) (o : Obj) : Ow (w.alloc o) B e sz v rows := ⟨h.own.alloc o, h.len, h.one⟩
theorem Ow.drew {w : World} {B e sz v rows} (h : Ow w B e sz v rows) : Ow w.drew B e sz v rows := ⟨h.own, h.len, h.one⟩
theorem Ow.same {w w' : World} {B e sz v rows} (h : Ow w B e sz v rows) (b : ∀ g, v.ownBlock = some g -> w'.heap[g]? = w.heap[g]?) : Ow w' B e sz v rows := by
 refine ⟨⟨h.own.1, ?_⟩, h.len, h.one⟩
 rcases h.own.2 with q | ⟨g, cap, cur, rfl, q1, q2, q3⟩
 ·exact .inl q
 ·exact .inr ⟨g, cap, cur, rfl, q1, (b g rfl).trans q2, q3⟩
theorem Ow.lower {w : World} {B B' e sz v rows} (h : Ow w B e sz v rows) (hb : B' <= B) : Ow w B' e sz v rows := by
 refine ⟨⟨h.own.1, ?_⟩, h.len, h.one⟩
 rcases h.own.2 with q | ⟨g, cap, cur, rfl, q1, q2⟩
 ·exact .inl q
 ·exact .inr ⟨g, cap, cur, rfl, Nat.le_trans hb q1, q2⟩
theorem Ow.form {w : World} {B e sz v rows} (h : Ow w B e sz v rows) : ∃ a cap, v = .slice a rows.length cap := by
 rcases h.own.2 with ⟨h1, h2⟩ | ⟨g, cap, _, h1, _⟩
 ·exact ⟨none, 0, by rw [h1, h2]⟩
 ·exact ⟨_, cap, h1⟩
theorem Ow.nil (w : World) (B : Nat) (e : TypeId) (sz : Nat) : Ow w B e sz (.slice none 0 0) [] := ⟨World.ownsRow_nil w B e sz, fun _ h => (by cases h), fun _ h => (by cases h)⟩
theorem Ow.made (w : World) {B : Nat} (hB : B <= w.heap.size) (e : TypeId) (sz : Nat) : Ow (w.alloc (.cells #[] e)) B e sz (.slice (some ⟨w.heap.size, 0, none⟩) 0 0) [] :=
 ⟨World.ownsRow_made w #[] 0 hB (Nat.zero_le _) (by simp), fun _ h => (by cases h), fun _ h => (by cases h)⟩
theorem Ow.lt {w : World} {B e sz v rows} (h : Ow w B e sz v rows) : ∀ g, v.ownBlock = some g -> B <= g /\ g < w.heap.size := h.own.lt
theorem flat_get {sz : Nat} : ∀ {rows : Rws}, (∀ r ∈ rows, r.length = sz) -> ∀ {j c : Nat}, j < rows.length -> c < sz -> rows.flatten[j * sz + c]? = (rows.getD j [])[c]?
 | [], _, _, _, hj, _ => by simp at hj
 | r :: rs, hl, j, c, hj, hc => by
  have h1 : r.length = sz := hl r (by simp)
  rw [List.flatten_cons]
  cases j with
  | zero =>
   rw [List.getElem?_append_left (by omega)]
   simp
  | succ j =>
   rw [List.getElem?_append_right (by rw [h1, Nat.succ_mul]; omega), h1, show (j + 1) * sz + c - sz = j * sz + c by rw [Nat.succ_mul]; omega, flat_get (fun r hr => hl r (by simp [hr])) (by simpa using hj) hc]
   simp
theorem flat_len {sz : Nat} : ∀ {rows : Rws}, (∀ r ∈ rows, r.length = sz) -> rows.flatten.length = rows.length * sz
 | [], _ => by simp
 | r :: rs, hl => by
  rw [List.flatten_cons, List.length_append, hl r (by simp), flat_len (fun r hr => hl r (by simp [hr])), List.length_cons, Nat.succ_mul]; omega
theorem Ow.at {w : World} {B e sz a n cap rows} (h : Ow w B e sz (.slice a n cap) rows) {j : Nat} (hj : j < rows.length) : ∃ g, a = some ⟨g, 0, none⟩ /\ B <= g /\ g < w.heap.size /\ ∀ c, c < sz -> w.cell? ⟨g, j * sz + c, none⟩ = (rows.getD j [])[c]? := by
 rcases h.own.2 with ⟨_, h2⟩ | ⟨g, cap', cur, h1, hB, hg, r⟩
 ·omega
 ·simp only [Value.slice.injEq] at h1
  obtain ⟨rfl, rfl, rfl⟩ := h1
  have hl := h.own.lt g rfl
  refine ⟨g, rfl, hB, hl.2, fun c hc => ?_⟩
  have : j * sz + c < rows.length * sz := by
   have h1 : (j + 1) * sz <= rows.length * sz := Nat.mul_le_mul_right _ hj
   rw [Nat.succ_mul] at h1
   omega
  rw [h.own.cellAt (j * sz + c) this]
  exact flat_get h.len hj hc
structure EI (t e sz bytes : Nat) : Prop where
 under : Tryz.prog.underlying t = some (.slice e)
 info : ∃ i z, Tryz.prog.info? e = some i /\ i.zero = some z /\ i.size = sz /\ i.bytes = bytes /\ z.cells.size = sz
 pos : 0 < sz
 top : bytes <= 64
theorem lit_cells (w : World) (cs : Array Value) (e : TypeId) : ∀ j u, cs.toList[j]? = some u -> (w.alloc (.cells cs e)).cell? ((⟨w.heap.size, 0, none⟩ : Addr).add j) = some u := by
 intro j u hu
 have ea : (⟨w.heap.size, 0, none⟩ : Addr).add j = ⟨w.heap.size, j, none⟩ := by unfold Addr.add; split <;> simp_all
 rw [ea, cell_of_row _ _ j _ e _ (heap_alloc_new w _), <- hu]
 simp
theorem Ow.more {w w' : World} {B e sz v v' rows} (h : Ow w B e sz v rows) {r : List Value} (hr : r.length = sz) (h1 : ∀ u ∈ r, u.oneCell' = true) (ho : w'.ownsRow B e sz v' (rows.length + 1) (rows.flatten ++ r)) : Ow w' B e sz v' (rows ++ [r]) := by
 refine ⟨?_, fun q hq => ?_, fun q hq => ?_⟩
 ·rw [List.length_append, List.flatten_append]
  simpa using ho
 all_goals
  rcases List.mem_append.1 hq with hq | hq
 ·exact h.len q hq
 ·rw [List.mem_singleton.1 hq]; exact hr
 ·exact h.one q hq
 ·rw [List.mem_singleton.1 hq]; exact h1
section
variable {ops : Array Oper} {rest : List Oper} {o : Oper} {a : Act} {Q : Exit -> Act -> World -> Prop}
theorem wp_app {t e sz bytes : Nat} (E : EI t e sz bytes) {w : World} {B : Nat} {v : Value} {rows : Rws} (hgd : o.guard = none) (s x : Operand) (ho : o.op = .call { callee := .builtin .append, args := #[s, x], argTypes := #[t, t] })
  (h : Ow w B e sz v rows) (hB : B <= w.heap.size) (cs : Array Value) (hs : a.eval s = v) (hx : a.eval x = .slice (some ⟨w.heap.size, 0, none⟩) 1 1) (hc : cs.size = sz) (h1 : ∀ u ∈ cs.toList, u.oneCell' = true) (hn : rows.length < 1000000)
  (hK : ∀ v' w', Ow w' B e sz v' (rows ++ [cs.toList]) -> w.grownBy w' v.ownBlock -> (v'.ownBlock = v.ownBlock \/ ∃ g, v'.ownBlock = some g /\ w.heap.size <= g) -> wpList Tryz.prog ops Q rest (a.put o.dst v') w') :
  wpList Tryz.prog ops Q (o :: rest) a (w.alloc (.cells cs e)) := by
 obtain ⟨i, z, q1, q2, q3, q4, q5⟩ := E.info
 have hl : cs.toList.length = 1 * sz := by rw [Array.length_toList, hc, Nat.one_mul]
 have hby : (rows.length + 1) * bytes <= 140737488355328 := by
  have := Nat.mul_le_mul_left (rows.length + 1) E.top
  omega
 refine wpList_append_own_at _ hgd s x t ho B e i z sz bytes E.under q1 q2 q3 q4 q5 E.pos v rows.length rows.flatten hs (h.own.alloc _) ⟨w.heap.size, 0, none⟩ 1 1 cs.toList hx hl (lit_cells w cs e) h1 (by simp [maxLen]; omega) hby (by rw [size_alloc]; omega) (fun v' w' p1 p2 _ p4 => ?_)
 have g : w.grownBy w' v.ownBlock := by
  have g1 := World.grownBy_alloc w (.cells cs e) v.ownBlock
  exact ⟨p2.os.trans g1.os, p2.tape.trans g1.tape, p2.output.trans g1.output, Nat.le_trans g1.size p2.size, fun k hk hne => (p2.block k (Nat.lt_of_lt_of_le hk g1.size) hne).trans (g1.block k hk hne)⟩
 refine hK v' w' (h.more (by rw [hl, Nat.one_mul]) h1 p1) g ?_
 rcases p4 with p4 | p4
 ·exact .inl p4
 ·exact .inr ⟨_, p4, by rw [size_alloc]; omega⟩
end
section
variable {ops : Array Oper} {o : Oper} {a : Act} {K : Act -> World -> Prop} {Q : Exit -> Act -> World -> Prop} {E' : Prop}
end
end Go.Proofs.YtcmmhfjnhlaepabGreatDoor.We
namespace Go.Proofs.YtcmmhfjnhlaepabGreatDoor
open Go Go.RowKit Go.Maps
open Go.ChangeMaps (setBlock heap_setBlock_same heap_setBlock_other)
set_option maxRecDepth 100000
theorem law95 : WideMaps.KeyLaw Tryz.prog 180 := deep_law_laid (by kernel_rfl) (m := 2) (by omega) (of_decide_eq_true (by kernel_rfl)) (by kernel_rfl) (by kernel_rfl)
theorem law156 : WideMaps.KeyLaw Tryz.prog 261 := deep_law_laid (by kernel_rfl) (m := 3) (by omega) (of_decide_eq_true (by kernel_rfl)) (by kernel_rfl) (by kernel_rfl)
def kV : List Int -> Value
 | [] => .agg #[]
 | S :: r => .agg (.int .u64 S :: r.map (Value.int .i64)).toArray
theorem kV_inj {l l' : List Int} (h : kV l = kV l') : l = l' := by
 cases l <;> cases l' <;> simp [kV] at h
 ·rfl
 ·obtain ⟨rfl, h⟩ := h
  have hi : ∀ a b : List Int, a.map (Value.int .i64) = b.map (Value.int .i64) -> a = b := by
   intro a
   induction a with
   | nil => intro b h; cases b <;> simp at h |-
   | cons x a ih => intro b h; cases b <;> simp at h |-; exact ⟨h.1, ih _ h.2⟩
  rw [hi _ _ h]
def N64 (x : Int) : Prop := -9223372036854775808 <= x /\ x <= 9223372036854775807
def U64 (x : Int) : Prop := 0 <= x /\ x <= 18446744073709551615
theorem N64.wf {x : Int} (h : N64 x) : (Lit.int .i64 x).wf = true := WalkArith.wf_i64 (by unfold N64 at h; omega)
theorem U64.wf {x : Int} (h : U64 x) : (Lit.int .u64 x).wf = true := by
 unfold U64 at h
 have h1 : IntKind.u64.min = 0 := rfl
 have h2 : IntKind.u64.max = 18446744073709551615 := rfl
 simp [Lit.wf, h1, h2]
 omega
theorem lit_u (d : Nat) {x : Int} (h : U64 x) : Tryz.prog.keyLits (d + 1) 72 [.int .u64 x] = some [.int .u64 x] := by
 unfold Program.keyLits
 rw [Tryz.underlying72]
 simp [h.wf]
theorem lit_i (d : Nat) {x : Int} (h : N64 x) : Tryz.prog.keyLits (d + 1) 3 [.int .i64 x] = some [.int .i64 x] := by
 unfold Program.keyLits
 rw [Tryz.underlying3]
 simp [h.wf]
theorem cells180 : Tryz.prog.cellsOf 180 = 2 := by kernel_rfl
theorem cells261 : Tryz.prog.cellsOf 261 = 3 := by kernel_rfl
theorem cells72 : Tryz.prog.cellsOf 72 = 1 := by kernel_rfl
theorem cells3 : Tryz.prog.cellsOf 3 = 1 := by kernel_rfl
theorem lit_set (d : Nat) {S O : Int} (hS : U64 S) (hO : N64 O) : Tryz.prog.keyLits (d + 2) 180 [.int .u64 S, .int .i64 O] = some [.int .u64 S, .int .i64 O] := by
 unfold Program.keyLits
 rw [Tryz.underlying180]
 simp [cells180, cells72, cells3, lit_u d hS, lit_i d hO]
theorem lit_part (d : Nat) {S O I : Int} (hS : U64 S) (hO : N64 O) (hI : N64 I) : Tryz.prog.keyLits (d + 3) 261 [.int .u64 S, .int .i64 O, .int .i64 I] = some [.int .u64 S, .int .i64 O, .int .i64 I] := by
 unfold Program.keyLits
 rw [Tryz.underlying261]
 simp [cells261, cells180, cells3, lit_set d hS hO, lit_i (d + 1) hI]
theorem key95 {S O : Int} (hS : U64 S) (hO : N64 O) : ∃ l, keyOf Tryz.prog 180 (kV [S, O]) = some l := by
 have h1 : (Value.agg #[.int .u64 S, .int .i64 O]).formed Tryz.prog 180 = true := by simp [Value.formed, Tryz.underlying180, cells180]
 have h2 : Tryz.prog.keyType 180 = true := by kernel_rfl
 have h3 := lit_set 337 hS hO
 refine ⟨.string (keyBytes [.int .u64 S, .int .i64 O]), ?_⟩
 show keyOf Tryz.prog 180 (.agg #[.int .u64 S, .int .i64 O]) = _
 unfold keyOf
 rw [Tryz.underlying180]
 simp [h1, h2, Value.cells, h3]
theorem key156 {S O I : Int} (hS : U64 S) (hO : N64 O) (hI : N64 I) : ∃ l, keyOf Tryz.prog 261 (kV [S, O, I]) = some l := by
 have h1 : (Value.agg #[.int .u64 S, .int .i64 O, .int .i64 I]).formed Tryz.prog 261 = true := by simp [Value.formed, Tryz.underlying261, cells261]
 have h2 : Tryz.prog.keyType 261 = true := by kernel_rfl
 have h3 := lit_part 336 hS hO hI
 refine ⟨.string (keyBytes [.int .u64 S, .int .i64 O, .int .i64 I]), ?_⟩
 show keyOf Tryz.prog 261 (.agg #[.int .u64 S, .int .i64 O, .int .i64 I]) = _
 unfold keyOf
 rw [Tryz.underlying261]
 simp [h1, h2, Value.cells, h3]
def elN : Value -> Option (DataW Unit × List MemPlace)
 | .int .i64 a => some (.lit (.int .i64 a), [])
 | _ => none
theorem elN_inv {v : Value} {z} (h : elN v = some z) : ∃ a, v = .int .i64 a /\ z = (.lit (.int .i64 a), []) := by
 unfold elN at h
 split at h
 ·cases h; exact ⟨_, rfl, rfl⟩
 ·cases h
theorem zeroN (w : World) : (zeroValue 3).run Tryz.prog w = .ok (.int .i64 0) w := by kernel_rfl
def Tells (k : TypeId) (D : DataW Unit) (F : List Int -> Int) : Prop := ∀ l kl, keyOf Tryz.prog k (kV l) = some kl -> D.atKey kl (.lit (.int .i64 0)) = .lit (.int .i64 (F l))
def MapF (k : TypeId) (w : World) (b n : Nat) (F : List Int -> Int) : Prop := ∃ D, w.ownsMap Tryz.prog k elN b n D /\ Tells k D F
theorem MapF.lt {k w b n F} (h : MapF k w b n F) : b < w.heap.size := by
 obtain ⟨D, h, _⟩ := h
 exact World.ownsMap.lt h
theorem MapF.same {k} {w w' : World} {b n F} (h : MapF k w b n F) (e : w'.heap[b]? = w.heap[b]?) : MapF k w' b n F := by
 obtain ⟨D, ⟨es, c, hb, r⟩, h2⟩ := h
 exact ⟨D, ⟨es, c, e.trans hb, r⟩, h2⟩
theorem MapF.mono {k w b n n' F} (h : MapF k w b n F) (hn : n <= n') : MapF k w b n' F := by
 obtain ⟨D, h, h2⟩ := h
 exact ⟨D, World.ownsMap.mono h hn, h2⟩
theorem MapF.obj {k w b n F} (h : MapF k w b n F) : ∃ es c, w.heap[b]? = some (.map es c) := by
 obtain ⟨D, ⟨es, c, hb, r⟩, h2⟩ := h
 exact ⟨es, c, hb⟩
theorem MapF.call {k} {w w' : World} {b n F} (h : MapF k w b n F) (q : Below w.heap.size w w') : MapF k w' b n F := h.same (q.block b h.lt)
theorem MapF.made (k : TypeId) (w : World) : MapF k (w.alloc (.map #[] 0)) w.heap.size 0 (fun _ => 0) :=
 ⟨_, World.ownsMap_made w Tryz.prog k elN, fun _ _ _ => rfl⟩
theorem MapF.look {k t : TypeId} (K : WideMaps.KeyLaw Tryz.prog k) (ht : Tryz.prog.underlying t = some (.map k 3)) {w b n F} (h : MapF k w b n F) {l : List Int} (hk : ∃ y, keyOf Tryz.prog k (kV l) = some y) :
  (Instr.lookup t (.map (some b)) (kV l) false).run Tryz.prog w = .ok (.int .i64 (F l)) w := by
 obtain ⟨D, h1, h2⟩ := h
 obtain ⟨kl, hk⟩ := hk
 obtain ⟨v, ps, hrun, hv⟩ := World.ownsMap.lookup h1 (Keyed.of_law K) ht (zeroN w) (zd := .lit (.int .i64 0)) (zp := []) rfl hk
 rw [h2 l kl hk] at hv
 obtain ⟨a, rfl, e⟩ := elN_inv hv
 obtain ⟨rfl, _⟩ : F l = a /\ ps = [] := by simpa using e
 exact hrun
theorem kp_set {w : World} {b : Nat} {es c} (hb : w.heap[b]? = some (.map es c)) (o : Obj) : Kp (fun i => i = b) w (setBlock w b o) :=
 ⟨rfl, rfl, rfl, by simp [setBlock], fun i _ hi => heap_setBlock_other hb _ hi⟩
def updF (F : List Int -> Int) (l : List Int) (x : Int) : List Int -> Int := fun y => if y = l then x else F y
theorem updF_self (F : List Int -> Int) (l : List Int) : updF F l (F l) = F := by
 funext y
 unfold updF
 split
 ·rename_i h; rw [h]
 ·rfl
theorem Tells.put {k : TypeId} (K : WideMaps.KeyLaw Tryz.prog k) {D : DataW Unit} (hD : IsMap D) {F : List Int -> Int} (h2 : Tells k D F) {l : List Int} {kl : Lit} (hk : keyOf Tryz.prog k (kV l) = some kl) (x : Int) : Tells k (D.put kl (.lit (.int .i64 x))) (updF F l x) := by
 intro l' kl' hk'
 unfold updF
 by_cases e : l' = l
 ·subst e
  obtain rfl : kl = kl' := Option.some.inj (hk.symm.trans hk')
  rw [if_pos rfl]
  exact atKey_put_same hD ((Keyed.of_law K).key hk) _ _
 ·rw [if_neg e, atKey_put_other (fun e2 => e (kV_inj (K.inj hk' (by rw [e2]; exact hk)))), h2 l' kl' hk']
theorem MapF.entry {k t : TypeId} (K : WideMaps.KeyLaw Tryz.prog k) (ht : Tryz.prog.underlying t = some (.map k 3)) {w : World} {b n F} (h : MapF k w b n F) (hn : n < 1000000) {l : List Int} (hk : ∃ y, keyOf Tryz.prog k (kV l) = some y) :
  ∃ (st : Nat) (w1 : World), (Instr.mapEntry t (.map (some b)) (kV l)).run Tryz.prog w = .ok (.tuple #[.int .i64 (F l), .int .i64 st]) w1 /\ MapF k w1 b (n + 1) F /\ Kp (fun i => i = b) w w1 /\ w1.heap.size = w.heap.size ∧
   ∀ (w2 : World) (x : Int), w2.heap[b]? = w1.heap[b]? -> ∃ w3, (Instr.entryStore t (.map (some b)) (.int .i64 st) (.int .i64 x)).run Tryz.prog w2 = .ok () w3 /\ MapF k w3 b (n + 1) (updF F l x) /\ Kp (fun i => i = b) w2 w3 /\ w3.heap.size = w2.heap.size := by
 have hlook := h.look K ht hk
 have h0 := h
 obtain ⟨D, h1, h2⟩ := h
 obtain ⟨kl, hk⟩ := hk
 have hM := h1.isMap
 have hst := fun (x : Int) => World.ownsMap.store h1 (Keyed.of_law K) ht (Nat.lt_trans hn (by decide)) hk (d := .lit (.int .i64 x)) (ps := []) (val := .int .i64 x) rfl
 obtain ⟨es, clock, hb, F0, hs, hD⟩ := h1
 obtain ⟨v0, st, es1, clock1, hrun, hor, hnext⟩ := WideElems.entry_then_store K ht (fun u => zeroN u) hb F0 hk
 have hb1 : (setBlock w b (.map es1 clock1)).heap[b]? = some (.map es1 clock1) := heap_setBlock_same hb _
 have hmid : v0 = .int .i64 (F l) /\ MapF k (setBlock w b (.map es1 clock1)) b (n + 1) F := by
  rcases K.find w hk es.toList F0.keys with ⟨g1, g2⟩ | ⟨j, e0, g1, g2, g3⟩
  ·have hz : v0 = .int .i64 0 := by
    rcases hor with ⟨e0, q1, q2, _⟩ | ⟨_, q⟩
    ·exact absurd q2 (g2 e0 q1)
    ·exact q
   have hl2 : (Instr.lookup t (.map (some b)) (kV l) false).run Tryz.prog w = .ok (.int .i64 0) w := by
    simp [Instr.lookup, run_underlying ht, MapKept.run_getObj_map hb, K.check w _ hk, g1, Result.andThen, zeroN w]
   have hF0 : F l = 0 := by
    rw [hlook] at hl2
    simpa using hl2
   refine ⟨by rw [hz, hF0], ?_⟩
   obtain ⟨w', s1, s2, _⟩ := hst 0
   have e1 : (Instr.mapEntry t (.map (some b)) (kV l)).run Tryz.prog w = .ok (.tuple #[.int .i64 0, goInt clock]) (setBlock w b (.map (es.push ⟨kV l, .int .i64 0, clock⟩) (clock + 1))) := by
    simp [Instr.mapEntry, run_underlying ht, MapKept.run_getObj_map hb, K.check w false hk, g1, MapKept.run_setObj_map _ hb, Result.andThen, setBlock]
   have e2 : (Instr.mapUpdate t (.map (some b)) (kV l) (.int .i64 0)).run Tryz.prog w = .ok () (setBlock w b (.map (es.push ⟨kV l, .int .i64 0, clock⟩) (clock + 1))) := by
    simp [Instr.mapUpdate, run_underlying ht, MapKept.run_getObj_map hb, K.check w false hk, g1, MapKept.run_setObj_map _ hb, Result.andThen, setBlock]
   rw [e1] at hrun
   rw [s1] at e2
   simp only [Result.ok.injEq] at hrun e2
   rw [<- hrun.2, <- e2.2]
   have h3 := Tells.put K hM h2 hk 0
   rw [<- hF0, updF_self] at h3
   exact ⟨_, s2, by rw [<- hF0]; exact h3⟩
  ·have hj : es[j]? = some e0 := by simpa using g2
   have hsame : es.modify j (fun e => { e with key := kV l }) = es := by
    apply Array.ext_getElem?
    intro i
    rw [Array.getElem?_modify]
    split
    ·rename_i h; subst h
     rw [hj]
     simp [<- g3]
    ·rfl
   have e1 : (Instr.mapEntry t (.map (some b)) (kV l)).run Tryz.prog w = .ok (.tuple #[e0.val, goInt e0.born]) (setBlock w b (.map es clock)) := by
    simp [Instr.mapEntry, run_underlying ht, MapKept.run_getObj_map hb, K.check w false hk, g1, hj, g3, K.stays w hk, hsame, MapKept.run_setObj_map _ hb, Result.andThen, setBlock]
   have hl2 : (Instr.lookup t (.map (some b)) (kV l) false).run Tryz.prog w = .ok e0.val w := by
    simp [Instr.lookup, run_underlying ht, MapKept.run_getObj_map hb, K.check w _ hk, g1, Result.andThen]
   rw [hlook] at hl2
   have hev : e0.val = .int .i64 (F l) := by simpa using hl2.symm
   rw [e1] at hrun
   simp only [Result.ok.injEq] at hrun
   refine ⟨?_, ?_⟩
   ·have := hrun.1
    rw [hev] at this
    simp at this
    exact this.1.symm
   ·rw [<- hrun.2]
    exact (h0.same ((heap_setBlock_same hb _).trans hb.symm)).mono (Nat.le_succ _)
 obtain ⟨rfl, hmid⟩ := hmid
 refine ⟨st, _, hrun, hmid, kp_set hb _, by simp [setBlock], fun w2 x hw2 => ?_⟩
 rw [hb1] at hw2
 obtain ⟨es', clock', r1, r2⟩ := hnext w2 (.int .i64 x) hw2
 obtain ⟨w', s1, s2, _⟩ := hst x
 rw [s1] at r2
 obtain rfl : w' = _ := by simpa using r2
 refine ⟨_, r1, ?_, kp_set hw2 _, by simp [setBlock]⟩
 obtain ⟨es'', c'', q1, q2⟩ := s2
 rw [heap_setBlock_same hb] at q1
 exact ⟨_, ⟨es'', c'', (heap_setBlock_same hw2 _).trans q1, q2⟩, h2.put K hM hk x⟩
end Go.Proofs.YtcmmhfjnhlaepabGreatDoor
namespace Go.Proofs.YtcmmhfjnhlaepabGreatDoor.Pg
open Go
def leL : List UInt8 -> Nat
 | [] => 0
 | b :: r => b.toNat + 256 * leL r
theorem leL_append (l r : List UInt8) : leL (l ++ r) = leL l + 256 ^ l.length * leL r := by
 induction l with
 | nil => simp [leL]
 | cons a l ih =>
  rw [List.cons_append, leL, ih, leL, List.length_cons, Nat.pow_succ, Nat.mul_add, Nat.add_assoc, <- Nat.mul_assoc, Nat.mul_comm (256 ^ l.length) 256]
theorem leL_lt (l : List UInt8) : leL l < 256 ^ l.length := by
 induction l with
 | nil => simp [leL]
 | cons a l ih =>
  rw [leL, List.length_cons, Nat.pow_succ]
  have := a.toNat_lt
  omega
def fixL : Nat -> Nat -> List UInt8
 | _, 0 => []
 | n, k + 1 => UInt8.ofNat (n % 256) :: fixL (n / 256) k
theorem fixL_length (n k : Nat) : (fixL n k).length = k := by
 induction k generalizing n with
 | zero => rfl
 | succ k ih => rw [fixL, List.length_cons, ih]
theorem byte_mod (n : Nat) : (UInt8.ofNat (n % 256)).toNat = n % 256 := by rw [UInt8.toNat_ofNat']; omega
theorem leL_fixL (n k : Nat) : leL (fixL n k) = n % 256 ^ k := by
 induction k generalizing n with
 | zero => rw [fixL, leL, Nat.pow_zero, Nat.mod_one]
 | succ k ih =>
  rw [fixL, leL, ih, byte_mod, Nat.pow_succ, Nat.mul_comm (256 ^ k) 256, Nat.mod_mul]
theorem fixL_snoc (n k : Nat) : fixL n (k + 1) = fixL n k ++ [UInt8.ofNat (n / 256 ^ k % 256)] := by
 induction k generalizing n with
 | zero => simp [fixL]
 | succ k ih =>
  rw [fixL, ih, fixL, List.cons_append, Nat.div_div_eq_div_mul, Nat.pow_succ, Nat.mul_comm (256 ^ k) 256]
theorem fixL_take (n k j : Nat) (h : j <= k) : (fixL n k).take j = fixL n j := by
 induction k generalizing n j with
 | zero => obtain rfl : j = 0 := by omega
           rfl
 | succ k ih =>
  cases j with
  | zero => rfl
  | succ j => rw [fixL, List.take_succ_cons, ih _ _ (by omega), fixL]
def nb (n : Nat) : Nat := (bitLen n + 7) / 8
theorem pow256 (k : Nat) : 256 ^ k = 2 ^ (8 * k) := by rw [Nat.pow_mul]
theorem nb_zero : nb 0 = 0 := rfl
theorem nb_lt (n : Nat) : n < 256 ^ nb n := by
 have h := (bitLen_spec n).1
 rw [pow256]
 exact Nat.lt_of_lt_of_le h (Nat.pow_le_pow_right (by omega) (by unfold nb; omega))
theorem nb_pos (n : Nat) (h : n ≠ 0) : 0 < nb n := by
 unfold nb bitLen
 rw [if_neg h]
 omega
theorem nb_ge (n : Nat) (h : n ≠ 0) : 256 ^ (nb n - 1) <= n := by
 have h1 := (bitLen_spec n).2 h
 rw [pow256]
 refine Nat.le_trans (Nat.pow_le_pow_right (by omega) ?_) h1
 have := nb_pos n h
 unfold nb at this |-
 omega
theorem nb_le8 (n : Nat) (h : n < 18446744073709551616) : nb n <= 8 := by
 by_cases hn : n = 0
 ·subst hn; decide
 ·have a2 := nb_ge n hn
  have b1 : nb n - 1 < 8 := (Nat.pow_lt_pow_iff_right (by omega : 1 < 256)).1 (Nat.lt_of_le_of_lt a2 (by simpa using h))
  omega
def digs (n : Nat) : List UInt8 := fixL n (nb n)
theorem digs_length (n : Nat) : (digs n).length = nb n := fixL_length _ _
theorem leL_digs (n : Nat) : leL (digs n) = n := by
 unfold digs
 rw [leL_fixL, Nat.mod_eq_of_lt (nb_lt n)]
def numL (n : Nat) : List UInt8 := UInt8.ofNat (nb n) :: digs n
theorem numL_length (n : Nat) : (numL n).length = nb n + 1 := by rw [numL, List.length_cons, digs_length]
end Go.Proofs.YtcmmhfjnhlaepabGreatDoor.Pg
namespace Go.Proofs.YtcmmhfjnhlaepabGreatDoor.Pg
open Go Go.RowKit
theorem Hid.mk {p : Prop} (h : p) : Hid p := h
def Rd (w : World) (g : Nat) (s : ByteArray) (e : Int) : Prop := w.heap[g]? = some (.cells #[.string s, .int .i64 e] 263 (0, 0))
theorem Rd.lt {w : World} {g s e} (h : Rd w g s e) : g < w.heap.size := (Array.getElem?_eq_some_iff.1 h).1
theorem Rd.rest {w : World} {g s e} (h : Rd w g s e) : w.cell? ⟨g, 0, none⟩ = some (.string s) := by rw [cell_of_row w g 0 _ 263 _ h]; rfl
theorem Rd.err {w : World} {g s e} (h : Rd w g s e) : w.cell? ⟨g, 1, none⟩ = some (.int .i64 e) := by rw [cell_of_row w g 1 _ 263 _ h]; rfl
theorem Rd.frozen {w : World} {g s e} (h : Rd w g s e) (j : Nat) : w.frozen? ⟨g, j, none⟩ = false := frozen_of_row w g j _ 263 h
theorem Rd.drew {w : World} {g s e} (h : Rd w g s e) : Rd w.drew g s e := h
theorem Rd.call {w w' : World} {g s e} (h : Rd w g s e) (b : Below w.heap.size w w') : Rd w' g s e := (b.block g h.lt).trans h
theorem Rd.alloc {w : World} {g s e} (h : Rd w g s e) (o : Obj) : Rd (w.alloc o) g s e := (Below.heap_alloc w o g h.lt).trans h
theorem Rd.setRest {w : World} {g s e} (h : Rd w g s e) (t : ByteArray) : Rd (w.setCell ⟨g, 0, none⟩ (.string t)) g t e := by
 have := heap_setCell_same w g 0 _ 263 (.string t) h
 exact this
theorem Rd.setErr {w : World} {g s e} (h : Rd w g s e) (k : Int) : Rd (w.setCell ⟨g, 1, none⟩ (.int .i64 k)) g s k := by
 have := heap_setCell_same w g 1 _ 263 (.int .i64 k) h
 exact this
theorem grown_setCell (w : World) (a : Addr) (u : Value) : w.grownBy (w.setCell a u) (some a.block) :=
 ⟨rfl, rfl, rfl, by simp [World.setCell], fun b _ hne => Below.heap_setCell w a u b (fun e => hne (by rw [e]))⟩
theorem grown_refl (w : World) (g : Option Nat) : w.grownBy w g := ⟨rfl, rfl, rfl, Nat.le_refl _, fun _ _ _ => rfl⟩
theorem grown_trans {a b c : World} {g : Option Nat} (h : a.grownBy b g) (k : b.grownBy c g) : a.grownBy c g :=
 ⟨k.os.trans h.os, k.tape.trans h.tape, k.output.trans h.output, Nat.le_trans h.size k.size, fun i hi hne => (k.block i (Nat.lt_of_lt_of_le hi h.size) hne).trans (h.block i hi hne)⟩
theorem grown_below {a b c : World} {g : Option Nat} (h : a.grownBy b g) (k : Below b.heap.size b c) : a.grownBy c g :=
 ⟨k.os.trans h.os, k.tape.trans h.tape, k.output.trans h.output, Nat.le_trans h.size k.size, fun i hi hne => (k.block i (Nat.lt_of_lt_of_le hi h.size)).trans (h.block i hi hne)⟩
theorem grown_alloc {a b : World} {g : Option Nat} (h : a.grownBy b g) (o : Obj) : a.grownBy (b.alloc o) g :=
 grown_below h ((Below.refl b.heap.size b).alloc (Nat.le_refl _) o)
theorem grown_drewN {a b : World} {g : Option Nat} (h : a.grownBy b g) (n : Nat) : a.grownBy (b.drewN n) g :=
 ⟨h.os, h.tape, h.output, h.size, h.block⟩
def wid (n : Int) : Int := if n < 0 then 0 else if 8 < n then 8 else n
theorem wid_le (n : Int) : 0 <= wid n /\ wid n <= 8 := by unfold wid; split <;> (try split) <;> omega
theorem width_any (n : Int) (w : World) : Calls Tryz.prog 217 #[.int .i64 n] w fun e w' => e = .returned (.int .i64 (wid n)) /\ w' = w := by
 unfold wid
 by_cases h : n < 0
 ·rw [if_pos h]
  go_enter Tryz.func217, Tryz.ntmps217
  go_wp2
  go_ret
  exact ⟨rfl, rfl⟩
 ·rw [if_neg h]
  by_cases h8 : 8 < n
  ·rw [if_pos h8]
   go_enter Tryz.func217, Tryz.ntmps217
   go_wp2
   go_ret
   exact ⟨rfl, rfl⟩
  ·rw [if_neg h8]
   go_enter Tryz.func217, Tryz.ntmps217
   go_wp2
   go_ret
   exact ⟨rfl, rfl⟩
theorem err_any {w : World} {g s e} (h : Rd w g s e) : Calls Tryz.prog 207 #[.pointer (some ⟨g, 0, none⟩)] w fun x w' => x = .returned (.int .i64 e) /\ w' = w := by
 have c1 := h.err
 have HH := Hid.mk h
 clear h
 go_enter Tryz.func207, Tryz.ntmps207
 go_wp2
 go_ret
 exact ⟨rfl, rfl⟩
theorem fail_any {w : World} {g s e} (h : Rd w g s e) (k : Int) : Calls Tryz.prog 228 #[.pointer (some ⟨g, 0, none⟩), .int .i64 k] w fun x w' => x = .returned (.tuple #[]) /\ Rd w' g ⟨#[]⟩ k /\ w.grownBy w' (some g) := by
 have c0 := h.rest
 have c1 := h.err
 have f0 := h.frozen 0
 have f1 := h.frozen 1
 have HH := Hid.mk h
 clear h
 go_enter Tryz.func228, Tryz.ntmps228
 go_wp2
 go_end0
 exact ⟨rfl, (HH.out.setRest _).setErr _, grown_trans (grown_setCell w ⟨g, 0, none⟩ _) (grown_setCell _ ⟨g, 1, none⟩ _)⟩
theorem new_any (s : ByteArray) (w : World) : Calls Tryz.prog 172 #[.string s] w fun x w' => x = .returned (.pointer (some ⟨w.heap.size, 0, none⟩)) /\ Rd w' w.heap.size s 0 /\ Below w.heap.size w w' := by
 go_enter Tryz.func172, Tryz.ntmps172
 go_wp2
 go_ret
 exact ⟨rfl, heap_alloc_new w _, (Below.refl w.heap.size w).alloc (Nat.le_refl _) _⟩
def rB (s : ByteArray) (e n : Int) : ByteArray × Int × ByteArray :=
 if e ≠ 0 then (s, e, ⟨#[]⟩) else if n < 0 \/ (s.size : Int) < n then (⟨#[]⟩, 2, ⟨#[]⟩) else (s.extract n.toNat s.size, 0, s.extract 0 n.toNat)
theorem bytes_any {w : World} {g s e} (h : Rd w g s e) (n : Int) : Calls Tryz.prog 216 #[.pointer (some ⟨g, 0, none⟩), .int .i64 n] w fun x w' =>
  x = .returned (.string (rB s e n).2.2) /\ Rd w' g (rB s e n).1 (rB s e n).2.1 /\ w.grownBy w' (some g) := by
 have c0 := h.rest
 have f0 := h.frozen 0
 have HH := Hid.mk h
 clear h
 by_cases he : e = 0
 ·subst he
  by_cases hn : n < 0
  ·have er : rB s 0 n = (⟨#[]⟩, 2, ⟨#[]⟩) := by unfold rB; rw [if_neg (by decide), if_pos (Or.inl hn)]
   rw [er]
   clear er
   go_enter Tryz.func216, Tryz.ntmps216
   go_wp2_with (first
    | (go_at_call 207; refine (err_any HH.out).mono ?_; rintro x w' ⟨rfl, rfl⟩)
    | (go_at_call 228; refine (fail_any HH.out _).mono ?_; rintro x w1 ⟨rfl, r1, g1⟩; replace HH := Hid.mk r1; clear r1))
   go_ret
   exact ⟨rfl, HH.out, g1⟩
  ·by_cases hs : (s.size : Int) < n
   ·have er : rB s 0 n = (⟨#[]⟩, 2, ⟨#[]⟩) := by unfold rB; rw [if_neg (by decide), if_pos (Or.inr hs)]
    rw [er]
    clear er
    go_enter Tryz.func216, Tryz.ntmps216
    go_wp2_with (first
     | (go_at_call 207; refine (err_any HH.out).mono ?_; rintro x w' ⟨rfl, rfl⟩)
     | (go_at_call 228; refine (fail_any HH.out _).mono ?_; rintro x w1 ⟨rfl, r1, g1⟩; replace HH := Hid.mk r1; clear r1))
    go_ret
    exact ⟨rfl, HH.out, g1⟩
   ·have er : rB s 0 n = (s.extract n.toNat s.size, 0, s.extract 0 n.toNat) := by unfold rB; rw [if_neg (by decide), if_neg (by omega)]
    rw [er]
    clear er
    go_enter Tryz.func216, Tryz.ntmps216
    go_wp2_with (go_at_call 207; refine (err_any HH.out).mono ?_; rintro x w' ⟨rfl, rfl⟩)
    go_ret
    exact ⟨rfl, HH.out.setRest _, grown_setCell _ ⟨g, 0, none⟩ _⟩
 ·have er : rB s e n = (s, e, ⟨#[]⟩) := by unfold rB; rw [if_pos he]
  rw [er]
  clear er
  go_enter Tryz.func216, Tryz.ntmps216
  go_wp2_with (go_at_call 207; refine (err_any HH.out).mono ?_; rintro x w' ⟨rfl, rfl⟩)
  go_ret
  exact ⟨rfl, HH.out, grown_refl _ _⟩
theorem rB_small (s : ByteArray) (e n : Int) (h : n <= 8) : (rB s e n).2.2.size <= 8 := by
 unfold rB
 split
 ·show 0 <= 8
  omega
 ·split
  ·show 0 <= 8
   omega
  ·rw [ByteArray.size_extract]
   omega
theorem take_succ_at (s : ByteArray) (k : Nat) (h : k < s.size) : s.data.toList.take (k + 1) = s.data.toList.take k ++ [s.data.toList.getD k 0] := by
 have hl : k < s.data.toList.length := by rw [Array.length_toList]; exact h
 rw [List.take_succ_eq_append_getElem hl, List.getD_eq_getElem?_getD, List.getElem?_eq_getElem hl]
 rfl
theorem or_place (a k : Nat) (b : UInt8) (ha : a < 256 ^ k) (hk : k < 8) : bits .or .u64 (a : Int) (IntKind.u64.wrap (IntKind.u64.wrap (b.toNat : Int) * 2 ^ (8 * k))) = ((a + 256 ^ k * b.toNat : Nat) : Int) := by
 have hb := b.toNat_lt
 have h64 : 256 ^ k * 256 <= 18446744073709551616 := by
  rw [<- Nat.pow_succ]
  exact (Nat.pow_le_pow_right (show 256 > 0 by omega) (show k + 1 <= 8 by omega) : 256 ^ (k + 1) <= 256 ^ 8)
 have hm : 256 ^ k * b.toNat < 18446744073709551616 := by
  have := Nat.mul_le_mul_left (256 ^ k) (show b.toNat <= 255 by omega)
  have := Nat.pow_pos (n := k) (show 0 < 256 by omega)
  omega
 have e1 : IntKind.u64.wrap (b.toNat : Int) = (b.toNat : Int) := by rw [IntKind.wrap_u64]; omega
 have e2 : IntKind.u64.wrap ((b.toNat : Int) * 2 ^ (8 * k)) = ((256 ^ k * b.toNat : Nat) : Int) := by
  have e3 : ((b.toNat : Int) * 2 ^ (8 * k)) = ((256 ^ k * b.toNat : Nat) : Int) := by
   rw [pow256, Int.natCast_mul, Int.natCast_pow, Int.mul_comm]
   rfl
  rw [e3, IntKind.wrap_u64]
  omega
 rw [e1, e2, bits_or_u64_nat _ _ (by omega) hm, Nat.or_comm]
 have h3 := Nat.two_pow_add_eq_or_of_lt (i := 8 * k) (b := a) (by rw [<- pow256]; exact ha) b.toNat
 rw [<- pow256] at h3
 rw [<- h3, Nat.add_comm]
theorem fixed_any {w : World} {g s e} (h : Rd w g s e) (n : Int) : Calls Tryz.prog 180 #[.pointer (some ⟨g, 0, none⟩), .int .i64 n] w fun x w' =>
  x = .returned (.int .u64 (leL (rB s e (wid n)).2.2.data.toList)) /\ Rd w' g (rB s e (wid n)).1 (rB s e (wid n)).2.1 /\ w.grownBy w' (some g) := by
 have hsm := rB_small s e (wid n) (wid_le n).2
 generalize hR : rB s e (wid n) = R at *
 obtain ⟨s', e', t⟩ := R
 simp only at hsm
 have HH := Hid.mk h
 clear h
 have hconv := fun w s => run_bytes_of_string (P := Tryz.prog) w 9 257 5 s Tryz.underlying9 Tryz.underlying257 Tryz.underlying5
 go_enter Tryz.func180, Tryz.ntmps180
 go_wp2_with (first
  | (go_at_call 217; refine (width_any _ _).mono ?_; rintro x w' ⟨rfl, rfl⟩)
  | (go_at_call 216; refine (bytes_any HH.out _).mono ?_; rintro x w1 ⟨rfl, r1, g1⟩; rw [hR] at r1 |-; replace HH := Hid.mk (And.intro r1 g1); clear r1 g1))
 have hB0 := (HasBytes.converted w1 t (grownCap w1 t.size 0 5) 5).drew
 have hlen : Hid (t.data.toList.length = t.size) := Array.length_toList
 have hz := HH.out.1.lt
 go_loopw [5, 14] (fun v i wr => ∃ k : Nat, k <= t.size /\ i = .int .i64 k /\ v = .int .u64 (leL (t.data.toList.take k)) /\ HasBytes wr w1.heap.size t.data.toList /\ Rd wr g s' e' /\ w'.grownBy wr (some g)) (fun _ i _ => t.size - (intOf i).toNat)
 case atStart => exact ⟨0, Nat.zero_le _, rfl, by simp [leL], hB0, (HH.out.1.alloc _).drew, grown_drewN (grown_alloc HH.out.2 _) 1⟩
 case round =>
  clear hB0 hconv
  obtain ⟨k, hk, rfl, rfl, hB, hr, hgr⟩ := hrel
  by_cases hks : k < t.size
  ·obtain ⟨c1, _⟩ := hB k (by rw [hlen.out]; exact hks)
   have hts := take_succ_at t k hks
   generalize hb : t.data.toList.getD k 0 = b at *
   generalize hl : t.data.toList.take k = l at *
   have HQ := Hid.mk (And.intro hB (And.intro hr (And.intro hgr (And.intro hts (And.intro hb hl)))))
   clear hB hr hgr hts hb hl
   go_wp2_with fail
   obtain ⟨hB, hr, hgr, hts, hb, hl⟩ := HQ.out
   have hll : l.length = k := by rw [<- hl, List.length_take, hlen.out]; omega
   have hlt := leL_lt l
   rw [hll] at hlt
   refine ⟨⟨k + 1, by omega, by go_num, ?_, hB, hr, hgr⟩, by simp [intOf]; omega⟩
   rw [hts, leL_append, hll, or_place _ _ _ hlt (by omega)]
   simp [leL]
  ·have hk2 : k = t.size := by omega
   subst hk2
   have htk : t.data.toList.take t.size = t.data.toList := List.take_of_length_le (by rw [hlen.out]; exact Nat.le_refl _)
   rw [htk]
   clear htk
   have HQ := Hid.mk (And.intro hr hgr)
   clear hB hr hgr
   generalize hV : leL t.data.toList = V
   replace hV := Hid.mk hV
   go_wp2_with fail
   go_ret
   exact ⟨by rw [hV.out]; rfl, HQ.out⟩
def rF (s : ByteArray) (e n : Int) : ByteArray × Int × Nat := ((rB s e (wid n)).1, (rB s e (wid n)).2.1, leL (rB s e (wid n)).2.2.data.toList)
theorem fixedF_any {w : World} {g s e} (h : Rd w g s e) (n : Int) : Calls Tryz.prog 180 #[.pointer (some ⟨g, 0, none⟩), .int .i64 n] w fun x w' =>
  x = .returned (.int .u64 (rF s e n).2.2) /\ Rd w' g (rF s e n).1 (rF s e n).2.1 /\ w.grownBy w' (some g) := fixed_any h n
theorem pow256_le8 (k : Nat) (h : k <= 8) : 256 ^ k <= 18446744073709551616 := (Nat.pow_le_pow_right (show 256 > 0 by omega) h : 256 ^ k <= 256 ^ 8)
theorem rF_lt (s : ByteArray) (e n : Int) : (rF s e n).2.2 < 18446744073709551616 := by
 refine Nat.lt_of_lt_of_le (leL_lt _) (pow256_le8 _ ?_)
 rw [Array.length_toList]
 exact rB_small s e (wid n) (wid_le n).2
end Go.Proofs.YtcmmhfjnhlaepabGreatDoor.Pg
namespace Go.Proofs.YtcmmhfjnhlaepabGreatDoor
open Go Go.RowKit
def Sl (w : World) (_e : TypeId) (k : IntKind) (v : Value) (g : Nat) (l : List Int) : Prop :=
 g < w.heap.size /\ ∃ cap : Nat, v = .slice (some ⟨g, 0, none⟩) l.length cap /\ l.length <= cap /\ (∀ j, j < cap -> (w.cell? ⟨g, j, none⟩).isSome = true /\ w.frozen? ⟨g, j, none⟩ = false) ∧
  ∀ j, j < l.length -> w.cell? ⟨g, j, none⟩ = some (.int k (l.getD j 0))
theorem below_grown {B g : Nat} {a w w' : World} (h : Below B a w) (b : w.grownBy w' (some g)) (hB : B <= w.heap.size) (hg : B <= g) : Below B a w' :=
 h.grown b hB (fun k hk => by cases hk; exact hg)
variable {P : Program}
structure Ent where
 e : TypeId
 k : IntKind
 v : Value
 g : Nat
 l : List Int
def Ent.In (f : Ent) (w : World) : Prop := Sl w f.e f.k f.v f.g f.l
def All (w wx : World) (fs : List Ent) : Prop := (∀ f ∈ fs, f.In wx /\ w.heap.size <= f.g) /\ Below w.heap.size w wx
end Go.Proofs.YtcmmhfjnhlaepabGreatDoor
namespace Go.Proofs.YtcmmhfjnhlaepabGreatDoor.Pg
open Go Go.RowKit
def fixP (n k : Nat) : List UInt8 := fixL n k ++ List.replicate (8 - k) 0
theorem fixP_length (n k : Nat) (h : k <= 8) : (fixP n k).length = 8 := by
 unfold fixP
 rw [List.length_append, fixL_length, List.length_replicate]
 omega
theorem fixP_step (n k : Nat) (h : k < 8) : (fixP n k).set k (UInt8.ofNat (n / 256 ^ k % 256)) = fixP n (k + 1) := by
 unfold fixP
 rw [List.set_append_right _ _ (by rw [fixL_length]; exact Nat.le_refl _), fixL_length, Nat.sub_self, fixL_snoc, show 8 - k = (8 - (k + 1)) + 1 by omega, List.replicate_succ, List.set_cons_zero]
 simp
theorem _root_.Go.Proofs.YtcmmhfjnhlaepabGreatDoor.HasBytes.take {w : World} {g : Nat} {l : List UInt8} (h : HasBytes w g l) (m : Nat) : HasBytes w g (l.take m) := by
 intro j hj
 rw [List.length_take] at hj
 have := h j (by omega)
 rw [List.getD_eq_getElem?_getD, List.getElem?_take, if_pos (by omega), <- List.getD_eq_getElem?_getD]
 exact this
def toI (l : List UInt8) : List Int := l.map fun b => (b.toNat : Int)
theorem toI_length (l : List UInt8) : (toI l).length = l.length := by simp [toI]
theorem toI_getD (l : List UInt8) (j : Nat) : (toI l).getD j 0 = ((l.getD j 0).toNat : Int) := by
 simp only [toI, List.getD_eq_getElem?_getD, List.getElem?_map]
 cases l[j]? <;> rfl
theorem Row.bytes {w : World} {g t} {l : List UInt8} (h : Row w g t .u8 (toI l)) : HasBytes w g l := by
 intro j hj
 exact ⟨by rw [h.cell j (by rw [toI_length]; exact hj), toI_getD], h.frozen j⟩
theorem byte_at (n k : Nat) : ((n : Int) / 2 ^ (8 * k)) % 256 = ((UInt8.ofNat (n / 256 ^ k % 256)).toNat : Int) := by
 rw [byte_mod, pow256]
 have e : ((n : Int) / 2 ^ (8 * k)) = ((n / 2 ^ (8 * k) : Nat) : Int) := by
  rw [Int.natCast_ediv, Int.natCast_pow]
  rfl
 rw [e]
 rfl
set_option maxRecDepth 10000 in
theorem encFixed_any (n : Nat) (b : Int) (w : World) :
  Calls Tryz.prog 186 #[.int .u64 n, .int .i64 b] w fun e w' => e = .returned (.string ⟨(fixL n (wid b).toNat).toArray⟩) /\ Below w.heap.size w w' := by
 obtain ⟨h0, h8⟩ := wid_le b
 obtain ⟨m, hm⟩ := Int.eq_ofNat_of_zero_le h0
 have hm8 : m <= 8 := by omega
 rw [hm, Int.toNat_natCast]
 generalize hR : fixL n m = R
 have HR := Hid.mk hR
 clear hR h0 h8
 go_enter Tryz.func186, Tryz.ntmps186
 go_wp2_with fail
 go_loopw [7] (fun i wr => ∃ k : Nat, k <= 8 /\ i = .int .i64 k /\ HasBytes wr w.heap.size (fixP n k) /\ Below w.heap.size w wr) (fun i _ => 8 - (intOf i).toNat)
 case atStart => exact ⟨0, Nat.zero_le _, rfl, Row.bytes (t := 281) (Row.fresh w 281 .u8 (toI (List.replicate 8 0))), (Below.refl w.heap.size w).alloc (Nat.le_refl _) _⟩
 case round =>
  obtain ⟨k, hk, rfl, hB, hb⟩ := hrel
  by_cases hk8 : k < 8
  ·obtain ⟨c1, f1⟩ := hB k (by rw [fixP_length _ _ hk]; exact hk8)
   have HQ := Hid.mk (And.intro hB hb)
   clear hB hb
   generalize hv : (fixP n k).getD k 0 = v at c1
   have HV := Hid.mk hv
   clear hv
   go_wp2_with fail
   refine ⟨⟨k + 1, by omega, by go_num, ?_, HQ.out.2.setCell (Nat.le_refl _) _⟩, by simp [intOf]; omega⟩
   rw [byte_at, <- fixP_step n k hk8]
   exact HQ.out.1.stored k (by rw [fixP_length _ _ hk]; exact hk8) _
  ·have hk2 : k = 8 := by omega
   rw [hk2] at hB
   have hbk := (hB.take m).back (P := Tryz.prog) 257 9 5 m 8 (by rw [List.length_take, fixP_length _ _ (Nat.le_refl _)]; omega) Tryz.underlying257 Tryz.underlying5 Tryz.underlying9
   have hsl := sliceTo (P := Tryz.prog) Tryz.underlying281 (by kernel_rfl) w.heap.size m hm8
   have et : (fixP n 8).take m = fixL n m := by
    unfold fixP
    rw [Nat.sub_self, List.replicate_zero, List.append_nil, fixL_take _ _ _ hm8]
   rw [et, HR.out] at hbk
   have HB := Hid.mk hb
   clear hB hb et hk2
   go_wp2_with (go_at_call 217; refine (width_any _ _).mono ?_; rintro x w' ⟨rfl, rfl⟩; rw [hm])
   go_ret
   exact ⟨rfl, HB.out⟩
end Go.Proofs.YtcmmhfjnhlaepabGreatDoor.Pg
namespace Go.Proofs.YtcmmhfjnhlaepabGreatDoor.Pg
open Go Go.RowKit
def tagV (K S I O W : Int) : Value := .agg #[.int .i64 K, .int .u64 S, .int .i64 I, .int .i64 O, .int .i64 W]
def mayB (K I O W : Int) : Prop := 1 <= K /\ K <= 3 /\ 1 <= O /\ O <= 65535 /\ 0 <= I /\ I < O /\ 0 <= W /\ W <= 4294967295
def chk (K I O W : Int) : Bool := decide (1 <= K /\ K <= 3 /\ 1 <= O /\ O <= 65535 /\ 0 <= I /\ I < O /\ 0 <= W /\ W <= 4294967295)
theorem chk_iff {K I O W : Int} : chk K I O W = true ↔ mayB K I O W := by unfold chk mayB; exact decide_eq_true_iff
theorem below_one (w : World) (o : Obj) : Below w.heap.size w (w.alloc o) := (Below.refl w.heap.size w).alloc (Nat.le_refl _) o
theorem check_any (K S I O W : Int) (hW : W <= 9223372036854775807) (w : World) : Calls Tryz.prog 181 #[tagV K S I O W] w fun e w' => e = .returned (.bool (chk K I O W)) /\ Below w.heap.size w w' := by
 unfold tagV chk
 by_cases h0 : 1 <= K
 case neg =>
  rw [decide_eq_false (by omega)]
  go_enter Tryz.func181, Tryz.ntmps181
  go_wp2_with fail
  go_ret
  exact ⟨rfl, below_one w _⟩
 by_cases h1 : K <= 3
 case neg =>
  rw [decide_eq_false (by omega)]
  go_enter Tryz.func181, Tryz.ntmps181
  go_wp2_with fail
  go_ret
  exact ⟨rfl, below_one w _⟩
 by_cases h2 : 1 <= O
 case neg =>
  rw [decide_eq_false (by omega)]
  go_enter Tryz.func181, Tryz.ntmps181
  go_wp2_with fail
  go_ret
  exact ⟨rfl, below_one w _⟩
 by_cases h3 : O <= 65535
 case neg =>
  rw [decide_eq_false (by omega)]
  go_enter Tryz.func181, Tryz.ntmps181
  go_wp2_with fail
  go_ret
  exact ⟨rfl, below_one w _⟩
 by_cases h4 : 0 <= I
 case neg =>
  rw [decide_eq_false (by omega)]
  go_enter Tryz.func181, Tryz.ntmps181
  go_wp2_with fail
  go_ret
  exact ⟨rfl, below_one w _⟩
 by_cases h5 : I < O
 case neg =>
  rw [decide_eq_false (by omega)]
  go_enter Tryz.func181, Tryz.ntmps181
  go_wp2_with fail
  go_ret
  exact ⟨rfl, below_one w _⟩
 by_cases h6 : 0 <= W
 case neg =>
  rw [decide_eq_false (by omega)]
  go_enter Tryz.func181, Tryz.ntmps181
  go_wp2_with fail
  go_ret
  exact ⟨rfl, below_one w _⟩
 have e1 : IntKind.u64.wrap W = W := by rw [IntKind.wrap_u64]; omega
 by_cases h7 : W <= 4294967295
 case neg =>
  rw [decide_eq_false (by omega)]
  have d7 : decide (W <= 4294967295) = false := decide_eq_false h7
  clear h7
  go_enter Tryz.func181, Tryz.ntmps181
  go_wp2_with fail
  go_ret
  exact ⟨rfl, below_one w _⟩
 rw [decide_eq_true ⟨h0, h1, h2, h3, h4, h5, h6, h7⟩]
 have d7 : decide (W <= 4294967295) = true := decide_eq_true h7
 clear h7
 go_enter Tryz.func181, Tryz.ntmps181
 go_wp2_with fail
 go_ret
 exact ⟨rfl, below_one w _⟩
end Go.Proofs.YtcmmhfjnhlaepabGreatDoor.Pg
