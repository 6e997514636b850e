/-
  A chip in memory: its block, the row of its blocks, a row of pages for each, its two maps; what stores and calls leave of it. No condition.
-/
import Derived.Test.YtbhggcleijjofaaDoorRows
import Derived.Test.YtbhggcleijjofaaDoorMem
import Derived.Maps.OwnSet
import Derived.WalkSpells
import Derived.WalkLawsBesides
namespace Go.Proofs.YtbhggcleijjofaaDoor
open Go Go.RowKit

theorem Hid.mk {p : Prop} (h : p) : Hid p := h
/-- all but the blocks of S is as it was -/
structure Kp (S : Nat → Prop) (w w' : World) : Prop where
  os : w'.os = w.os
  tape : w'.tape = w.tape
  output : w'.output = w.output
  size : w.heap.size ≤ w'.heap.size
  block : ∀ k, k < w.heap.size → ¬ S k → w'.heap[k]? = w.heap[k]?
theorem Kp.refl (S : Nat → Prop) (w : World) : Kp S w w := ⟨rfl, rfl, rfl, Nat.le_refl _, fun _ _ _ => rfl⟩
theorem Kp.trans {S : Nat → Prop} {a b c : World} (h : Kp S a b) (k : Kp S b c) : Kp S a c :=
  ⟨k.os.trans h.os, k.tape.trans h.tape, k.output.trans h.output, Nat.le_trans h.size k.size, fun i hi hs => (k.block i (Nat.lt_of_lt_of_le hi h.size) hs).trans (h.block i hi hs)⟩
theorem Kp.mono {S T : Nat → Prop} {w w' : World} (h : Kp S w w') (hs : ∀ i, S i → T i) : Kp T w w' := ⟨h.os, h.tape, h.output, h.size, fun i hi hn => h.block i hi (fun x => hn (hs i x))⟩
theorem Kp.setCell {S : Nat → Prop} {w w' : World} (h : Kp S w w') {p : Addr} (hp : S p.block) (u : Value) : Kp S w (w'.setCell p u) :=
  h.trans ⟨rfl, rfl, rfl, by simp [World.setCell], fun i _ hn => Below.heap_setCell w' p u i (fun e => hn (e ▸ hp))⟩
theorem Kp.setNew {S : Nat → Prop} {w w' : World} (h : Kp S w w') {p : Addr} (hp : w.heap.size ≤ p.block) (u : Value) : Kp S w (w'.setCell p u) :=
  ⟨h.os, h.tape, h.output, by simpa [World.setCell] using h.size, fun i hi hn => (Below.heap_setCell w' p u i (by omega)).trans (h.block i hi hn)⟩
theorem Kp.alloc {S : Nat → Prop} {w w' : World} (h : Kp S w w') (o : Obj) : Kp S w (w'.alloc o) :=
  h.trans ⟨rfl, rfl, rfl, by simp, fun i hi _ => Below.heap_alloc w' o i hi⟩
theorem Kp.drew {S : Nat → Prop} {w w' : World} (h : Kp S w w') : Kp S w w'.drew := ⟨h.os, h.tape, h.output, h.size, h.block⟩
theorem Kp.drewN {S : Nat → Prop} {w w' : World} (h : Kp S w w') (n : Nat) : Kp S w (w'.drewN n) := ⟨h.os, h.tape, h.output, h.size, h.block⟩
theorem Kp.call {S : Nat → Prop} {w a b : World} (h : Kp S w a) (k : Below a.heap.size a b) : Kp S w b :=
  ⟨k.os.trans h.os, k.tape.trans h.tape, k.output.trans h.output, Nat.le_trans h.size k.size, fun i hi hn => (k.block i (Nat.lt_of_lt_of_le hi h.size)).trans (h.block i hi hn)⟩
theorem Kp.ofBelow {S : Nat → Prop} {w w' : World} (h : Below w.heap.size w w') : Kp S w w' := (Kp.refl S w).call h
theorem Kp.below {S : Nat → Prop} {B : Nat} {a w w' : World} (h : Below B a w) (k : Kp S w w') (hB : B ≤ w.heap.size) (hs : ∀ i, S i → B ≤ i) : Below B a w' :=
  ⟨k.os.trans h.os, k.tape.trans h.tape, k.output.trans h.output, Nat.le_trans h.size k.size, fun i hi => (k.block i (by omega) (fun x => by have := hs i x; omega)).trans (h.block i hi)⟩
theorem Kp.cells {S : Nat → Prop} {w w' : World} (h : Kp S w w') (g : Nat) : ∀ (vs : List Value) (o : Nat), S g → Kp S w (w'.setCells g o vs)
  | [], _, _ => h
  | v :: r, o, hg => (h.setCell (p := ⟨g, o, none⟩) hg v).cells g r (o + 1) hg

/-- how an element is read back: as it is -/
def rawE (v : Value) : Option (DataW Value × List MemPlace) := some (.held v, [])
/-- block b is a map with numbers for keys, of at most n entries, holding F -/
def MapIs (w : World) (b n : Nat) (F : Int → Option Value) : Prop :=
  ∃ D, w.ownsMap Tryd.prog 3 rawE b n D ∧ ∀ i, (Lit.int .i64 i).wf = true → Maps.has D (.int .i64 i) = (F i).isSome ∧ ∀ z, D.atKey (.int .i64 i) z = match F i with | some v => .held v | none => z
theorem MapIs.lt {w : World} {b n F} (h : MapIs w b n F) : b < w.heap.size := by
  obtain ⟨D, h1, _⟩ := h
  exact h1.lt
theorem MapIs.of_block {w w' : World} {b n F} (h : MapIs w b n F) (e : w'.heap[b]? = w.heap[b]?) : MapIs w' b n F := by
  obtain ⟨D, ⟨es, clock, hb, r⟩, h2⟩ := h
  exact ⟨D, ⟨es, clock, e.trans hb, r⟩, h2⟩
theorem MapIs.notCells {w : World} {b n F} (h : MapIs w b n F) {c : Array Value} {t : TypeId} {m : Nat × Nat} {g : Nat} (hg : w.heap[g]? = some (.cells c t m)) : b ≠ g := by
  obtain ⟨D, ⟨es, clock, hb, r⟩, h2⟩ := h
  intro e
  subst e
  rw [hb] at hg
  cases hg
theorem MapIs.made (w : World) : MapIs (w.alloc (.map #[] 0)) w.heap.size 0 (fun _ => none) :=
  ⟨.map [], World.ownsMap_made w _ _ _, fun _ _ => ⟨rfl, fun _ => rfl⟩⟩
theorem law3 : Maps.Keyed Tryd.prog 3 := Maps.int_keyed (q := .i64) Tryd.underlying3
theorem key3 {i : Int} (h : (Lit.int .i64 i).wf = true) : keyOf Tryd.prog 3 (.int .i64 i) = some (.int .i64 i) := Maps.keyOf_int_mk Tryd.underlying3 h
theorem MapIs.look {w : World} {b n F} (h : MapIs w b n F) {t e : TypeId} (ht : Tryd.prog.underlying t = some (.map 3 e)) {z : Value} (hz : (zeroValue e).run Tryd.prog w = .ok z w) {i : Int} (hi : (Lit.int .i64 i).wf = true) :
    (Instr.lookup t (.map (some b)) (.int .i64 i) true).run Tryd.prog w = .ok (.tuple #[(F i).getD z, .bool (F i).isSome]) w := by
  obtain ⟨D, h1, h2⟩ := h
  obtain ⟨v, ps, hr, hv⟩ := h1.look_ok law3 ht hz (zd := .held z) (zp := []) rfl (key3 hi)
  rw [hr, (h2 i hi).1]
  unfold rawE at hv
  rw [(h2 i hi).2] at hv
  cases hF : F i <;> rw [hF] at hv <;> simp at hv <;> simp [hv]
theorem MapIs.store {w : World} {b n F} (h : MapIs w b n F) {t e : TypeId} (ht : Tryd.prog.underlying t = some (.map 3 e)) (hn : n < maxLen) (v : Value) {i : Int} (hi : (Lit.int .i64 i).wf = true) :
    ∃ w', (Instr.mapUpdate t (.map (some b)) (.int .i64 i) v).run Tryd.prog w = .ok () w' ∧ MapIs w' b (n + 1) (fun j => if j = i then some v else F j) ∧ w.mapTurned w' b := by
  obtain ⟨D, h1, h2⟩ := h
  obtain ⟨w', hr, h3, h4⟩ := h1.store law3 ht hn (d := .held v) (ps := []) (key3 hi) (val := v) rfl
  have hk : WideAt.IsKeyLit (.int .i64 i) := law3.key (key3 hi)
  refine ⟨w', hr, ⟨_, h3, fun j hj => ?_⟩, h4⟩
  by_cases e : j = i
  · subst e
    simp only [if_pos]
    exact ⟨Maps.has_put_same h1.isMap hk _, fun z => Maps.atKey_put_same h1.isMap hk _ z⟩
  · simp only [if_neg e]
    have hne : (Lit.int .i64 j) ≠ .int .i64 i := by intro x; cases x; exact e rfl
    exact ⟨(Maps.has_put_other hne _).trans (h2 j hj).1, fun z => (Maps.atKey_put_other hne _ z).trans ((h2 j hj).2 z)⟩

/-- a chip: its geometry, pages (the empty text: erased), counts, what is worn out, what is marked; cuts and failures by the action's number; how many actions; no power -/
structure Ch where
  B : Nat
  P : Nat
  Z : Nat
  pg : Nat → Nat → ByteArray
  worn : Nat → Int
  dead : Nat → Bool
  mark : Nat → Bool
  cuts : Int → Option (Int × Int)
  fails : Int → Bool
  did : Int
  off : Bool
/-- where it lies: its own block, the row of its blocks, each block's row of pages -/
structure Ly where
  a : Nat
  bs : Nat
  pb : Nat → Nat
def Ly.own (L : Ly) (B : Nat) (i : Nat) : Prop := i = L.a ∨ i = L.bs ∨ ∃ b, b < B ∧ i = L.pb b
def cutV (i k f : Int) : Value := .agg #[.int .i64 i, .int .i64 k, .int .u8 f]
def cutF (c : Int → Option (Int × Int)) (i : Int) : Option Value := (c i).map fun x => cutV i x.1 x.2
def failF (c : Int → Bool) (i : Int) : Option Value := if c i then some (.agg #[]) else none
def blkF (L : Ly) (C : Ch) (i : Nat) : Value :=
  if i % 4 = 0 then .slice (some ⟨L.pb (i / 4), 0, none⟩) C.P C.P else if i % 4 = 1 then .int .i64 (C.worn (i / 4)) else if i % 4 = 2 then .bool (C.dead (i / 4)) else .bool (C.mark (i / 4))
def topC (L : Ly) (C : Ch) (mc mf : Nat) : Array Value :=
  #[.int .i64 C.B, .int .i64 C.P, .int .i64 C.Z, .slice (some ⟨L.bs, 0, none⟩) C.B C.B, .map (some mc), .map (some mf), .int .i64 C.did, .bool C.off]
structure Chip (w : World) (L : Ly) (C : Ch) : Prop where
  geo : 8 ≤ C.B ∧ C.B ≤ 32 ∧ 4 ≤ C.P ∧ C.P ≤ 16 ∧ 64 ≤ C.Z ∧ C.Z ≤ 256
  top : ∃ mc mf n k, w.heap[L.a]? = some (.cells (topC L C mc mf) 80 (0, 0)) ∧ MapIs w mc n (cutF C.cuts) ∧ MapIs w mf k (failF C.fails)
  row : w.rowIs L.bs 106 (C.B * 4) (blkF L C)
  pgs : ∀ b, b < C.B → w.rowIs (L.pb b) 9 C.P (fun p => .string (C.pg b p))
  inj : ∀ b, b < C.B → ∀ d, d < C.B → L.pb b = L.pb d → b = d
  pa : ∀ b, b < C.B → L.pb b ≠ L.a
  pbs : ∀ b, b < C.B → L.pb b ≠ L.bs
  ab : L.bs ≠ L.a
  len : ∀ b p, (C.pg b p).size = 0 ∨ (C.pg b p).size = C.Z + 32
  fill : ∀ i x, C.cuts i = some x → 0 ≤ x.2 ∧ x.2 < 256
  didr : 0 ≤ C.did ∧ C.did < 1000000
theorem Chip.lt {w : World} {L C} (h : Chip w L C) {i : Nat} (hi : L.own C.B i) : i < w.heap.size := by
  rcases hi with rfl | rfl | ⟨b, hb, rfl⟩
  · obtain ⟨mc, mf, n, k, ht, _⟩ := h.top
    exact (Array.getElem?_eq_some_iff.1 ht).1
  · exact h.row.lt
  · exact (h.pgs b hb).lt
/-- all blocks of it are as they were -/
theorem Chip.same {w w' : World} {L C} (h : Chip w L C) (e : ∀ i, i < w.heap.size → w'.heap[i]? = w.heap[i]?) : Chip w' L C := by
  obtain ⟨mc, mf, n, k, ht, h1, h2⟩ := h.top
  exact { h with
    top := ⟨mc, mf, n, k, (e L.a (Array.getElem?_eq_some_iff.1 ht).1).trans ht, h1.of_block (e _ h1.lt), h2.of_block (e _ h2.lt)⟩
    row := h.row.of_block (e _ h.row.lt)
    pgs := fun b hb => (h.pgs b hb).of_block (e _ (h.pgs b hb).lt) }
theorem Chip.call {w w' : World} {L C} (h : Chip w L C) (b : Below w.heap.size w w') : Chip w' L C := h.same b.block
theorem Chip.alloc {w : World} {L C} (h : Chip w L C) (o : Obj) : Chip (w.alloc o) L C := h.same (fun i hi => Below.heap_alloc w o i hi)
theorem Chip.drew {w : World} {L C} (h : Chip w L C) : Chip w.drew L C := h.same (fun _ _ => rfl)
theorem Chip.drewN {w : World} {L C} (h : Chip w L C) (n : Nat) : Chip (w.drewN n) L C := h.same (fun _ _ => rfl)
/-- its cells -/
theorem Chip.cellA {w : World} {L C} (h : Chip w L C) : ∃ mc mf n k, MapIs w mc n (cutF C.cuts) ∧ MapIs w mf k (failF C.fails) ∧ w.cell? ⟨L.a, 0, none⟩ = some (.int .i64 C.B) ∧ w.cell? ⟨L.a, 1, none⟩ = some (.int .i64 C.P) ∧ w.cell? ⟨L.a, 2, none⟩ = some (.int .i64 C.Z) ∧
    w.cell? ⟨L.a, 3, none⟩ = some (.slice (some ⟨L.bs, 0, none⟩) C.B C.B) ∧ w.cell? ⟨L.a, 4, none⟩ = some (.map (some mc)) ∧ w.cell? ⟨L.a, 5, none⟩ = some (.map (some mf)) ∧ w.cell? ⟨L.a, 6, none⟩ = some (.int .i64 C.did) ∧ w.cell? ⟨L.a, 7, none⟩ = some (.bool C.off) ∧ ∀ j, w.frozen? ⟨L.a, j, none⟩ = false := by
  obtain ⟨mc, mf, n, k, ht, h1, h2⟩ := h.top
  refine ⟨mc, mf, n, k, h1, h2, ?_, ?_, ?_, ?_, ?_, ?_, ?_, ?_, fun j => frozen_of_row w L.a j _ 80 ht⟩ <;> (rw [cell_of_row w L.a _ _ 80 _ ht]; rfl)
theorem Chip.cellB {w : World} {L C} (h : Chip w L C) (b : Nat) (hb : b < C.B) : w.cell? ⟨L.bs, b * 4, none⟩ = some (.slice (some ⟨L.pb b, 0, none⟩) C.P C.P) ∧ w.cell? ⟨L.bs, b * 4 + 1, none⟩ = some (.int .i64 (C.worn b)) ∧
    w.cell? ⟨L.bs, b * 4 + 2, none⟩ = some (.bool (C.dead b)) ∧ w.cell? ⟨L.bs, b * 4 + 3, none⟩ = some (.bool (C.mark b)) := by
  refine ⟨?_, ?_, ?_, ?_⟩ <;> (rw [h.row.cell (by omega)]; unfold blkF)
  · rw [if_pos (by omega), Nat.mul_div_cancel _ (by decide)]
  · rw [if_neg (by omega), if_pos (by omega), show (b * 4 + 1) / 4 = b by omega]
  · rw [if_neg (by omega), if_neg (by omega), if_pos (by omega), show (b * 4 + 2) / 4 = b by omega]
  · rw [if_neg (by omega), if_neg (by omega), if_neg (by omega), show (b * 4 + 3) / 4 = b by omega]
theorem Chip.frozenB {w : World} {L C} (h : Chip w L C) (i : Nat) : w.frozen? ⟨L.bs, i, none⟩ = false := h.row.frozen i
theorem Chip.cellP {w : World} {L C} (h : Chip w L C) (b p : Nat) (hb : b < C.B) (hp : p < C.P) : w.cell? ⟨L.pb b, p, none⟩ = some (.string (C.pg b p)) := (h.pgs b hb).cell hp
theorem Chip.frozenP {w : World} {L C} (h : Chip w L C) (b i : Nat) (hb : b < C.B) : w.frozen? ⟨L.pb b, i, none⟩ = false := (h.pgs b hb).frozen i
/-- a store into its own block -/
theorem Chip.setTop {w : World} {L C} (h : Chip w L C) (j : Nat) (v : Value) (C' : Ch) (e1 : C'.B = C.B) (e2 : C'.P = C.P) (e3 : C'.Z = C.Z) (e4 : C'.pg = C.pg) (e5 : C'.worn = C.worn) (e6 : C'.dead = C.dead) (e7 : C'.mark = C.mark) (e8 : C'.cuts = C.cuts) (e9 : C'.fails = C.fails)
    (hd : 0 ≤ C'.did ∧ C'.did < 1000000) (hc : ∀ mc mf, (topC L C mc mf).setIfInBounds j v = topC L C' mc mf) : Chip (w.setCell ⟨L.a, j, none⟩ v) L C' := by
  obtain ⟨mc, mf, n, k, ht, h1, h2⟩ := h.top
  have hm1 : mc ≠ L.a := h1.notCells ht
  have hm2 : mf ≠ L.a := h2.notCells ht
  have hbk : blkF L C' = blkF L C := by funext i; simp only [blkF, e2, e5, e6, e7]
  refine { geo := by rw [e1, e2, e3]; exact h.geo, top := ⟨mc, mf, n, k, ?_, ?_, ?_⟩, row := ?_, pgs := ?_, inj := by rw [e1]; exact h.inj, pa := by rw [e1]; exact h.pa, pbs := by rw [e1]; exact h.pbs, ab := h.ab, len := by rw [e3, e4]; exact h.len, fill := by rw [e8]; exact h.fill, didr := hd }
  · have := heap_setCell_same w L.a j _ 80 v ht
    rw [hc] at this
    exact this
  · rw [e8]; exact h1.of_block (Below.heap_setCell w _ v mc hm1)
  · rw [e9]; exact h2.of_block (Below.heap_setCell w _ v mf hm2)
  · rw [e1, hbk]; exact h.row.setOther h.ab v
  · rw [e1]; intro b hb; rw [e2, e4]; exact (h.pgs b hb).setOther (h.pa b hb) v
theorem Chip.setDid {w : World} {L C} (h : Chip w L C) (d : Int) (hd : 0 ≤ d ∧ d < 1000000) : Chip (w.setCell ⟨L.a, 6, none⟩ (.int .i64 d)) L { C with did := d } :=
  h.setTop 6 _ { C with did := d } rfl rfl rfl rfl rfl rfl rfl rfl rfl hd (fun _ _ => rfl)
theorem Chip.setOff {w : World} {L C} (h : Chip w L C) (o : Bool) : Chip (w.setCell ⟨L.a, 7, none⟩ (.bool o)) L { C with off := o } :=
  h.setTop 7 _ { C with off := o } rfl rfl rfl rfl rfl rfl rfl rfl rfl h.didr (fun _ _ => rfl)
/-- other cuts, other failures -/
theorem Chip.setCuts {w : World} {L C} (h : Chip w L C) (m n : Nat) (c : Int → Option (Int × Int)) (hm : MapIs w m n (cutF c)) (hf : ∀ i x, c i = some x → 0 ≤ x.2 ∧ x.2 < 256) : Chip (w.setCell ⟨L.a, 4, none⟩ (.map (some m))) L { C with cuts := c } := by
  obtain ⟨mc, mf, _, k, ht, h1, h2⟩ := h.top
  have hm1 : m ≠ L.a := hm.notCells ht
  have hm2 : mf ≠ L.a := h2.notCells ht
  exact { h with
    top := ⟨m, mf, n, k, heap_setCell_same w L.a 4 _ 80 _ ht, hm.of_block (Below.heap_setCell w _ _ m hm1), h2.of_block (Below.heap_setCell w _ _ mf hm2)⟩
    row := h.row.setOther h.ab _
    pgs := fun b hb => (h.pgs b hb).setOther (h.pa b hb) _
    fill := hf }
theorem Chip.setFails {w : World} {L C} (h : Chip w L C) (m n : Nat) (c : Int → Bool) (hm : MapIs w m n (failF c)) : Chip (w.setCell ⟨L.a, 5, none⟩ (.map (some m))) L { C with fails := c } := by
  obtain ⟨mc, mf, n', k, ht, h1, h2⟩ := h.top
  have hm1 : m ≠ L.a := hm.notCells ht
  have hm2 : mc ≠ L.a := h1.notCells ht
  exact { h with
    top := ⟨mc, m, n', n, heap_setCell_same w L.a 5 _ 80 _ ht, h1.of_block (Below.heap_setCell w _ _ mc hm2), hm.of_block (Below.heap_setCell w _ _ m hm1)⟩
    row := h.row.setOther h.ab _
    pgs := fun b hb => (h.pgs b hb).setOther (h.pa b hb) _ }
/-- f, but v at b -/
def upd {α : Type} (f : Nat → α) (b : Nat) (v : α) : Nat → α := fun i => if i = b then v else f i
/-- a store into the row of its blocks -/
theorem Chip.setBlk {w : World} {L C} (h : Chip w L C) (b j : Nat) (v : Value) (C' : Ch) (e1 : C'.B = C.B) (e2 : C'.P = C.P) (e3 : C'.Z = C.Z) (e4 : C'.pg = C.pg) (e8 : C'.cuts = C.cuts) (e9 : C'.fails = C.fails) (e10 : C'.did = C.did) (e11 : C'.off = C.off)
    (hc : ∀ i, (if i = b * 4 + j then v else blkF L C i) = blkF L C' i) : Chip (w.setCell ⟨L.bs, b * 4 + j, none⟩ v) L C' := by
  obtain ⟨mc, mf, n, k, ht, h1, h2⟩ := h.top
  obtain ⟨c, hb, _⟩ := h.row
  have hm1 : mc ≠ L.bs := h1.notCells hb
  have hm2 : mf ≠ L.bs := h2.notCells hb
  have htc : topC L C' mc mf = topC L C mc mf := by simp only [topC, e1, e2, e3, e10, e11]
  refine { geo := by rw [e1, e2, e3]; exact h.geo, top := ⟨mc, mf, n, k, ?_, ?_, ?_⟩, row := ?_, pgs := ?_, inj := by rw [e1]; exact h.inj, pa := by rw [e1]; exact h.pa, pbs := by rw [e1]; exact h.pbs, ab := h.ab, len := by rw [e3, e4]; exact h.len, fill := by rw [e8]; exact h.fill, didr := by rw [e10]; exact h.didr }
  · rw [htc]; exact (Below.heap_setCell w _ v L.a (fun e => h.ab e.symm)).trans ht
  · rw [e8]; exact h1.of_block (Below.heap_setCell w _ v mc hm1)
  · rw [e9]; exact h2.of_block (Below.heap_setCell w _ v mf hm2)
  · rw [e1]; exact (h.row.set (b * 4 + j) v).congr (fun i _ => hc i)
  · rw [e1]; intro d hd; rw [e2, e4]; exact (h.pgs d hd).setOther (h.pbs d hd) v
theorem Chip.setWorn {w : World} {L C} (h : Chip w L C) (b : Nat) (v : Int) : Chip (w.setCell ⟨L.bs, b * 4 + 1, none⟩ (.int .i64 v)) L { C with worn := upd C.worn b v } := by
  refine h.setBlk b 1 _ { C with worn := upd C.worn b v } rfl rfl rfl rfl rfl rfl rfl rfl (fun i => ?_)
  unfold blkF upd
  by_cases e : i = b * 4 + 1
  · subst e
    rw [if_pos rfl, if_neg (by omega), if_pos (by omega)]
    simp only
    rw [if_pos (by omega)]
  · rw [if_neg e]
    simp only
    by_cases e1 : i % 4 = 1
    · rw [if_neg (by omega : ¬ i % 4 = 0), if_pos e1, if_neg (by omega : ¬ i % 4 = 0), if_pos e1, if_neg (by omega)]
    · simp only [if_neg e1]
theorem Chip.setDead {w : World} {L C} (h : Chip w L C) (b : Nat) (v : Bool) : Chip (w.setCell ⟨L.bs, b * 4 + 2, none⟩ (.bool v)) L { C with dead := upd C.dead b v } := by
  refine h.setBlk b 2 _ { C with dead := upd C.dead b v } rfl rfl rfl rfl rfl rfl rfl rfl (fun i => ?_)
  unfold blkF upd
  by_cases e : i = b * 4 + 2
  · subst e
    rw [if_pos rfl, if_neg (by omega), if_neg (by omega), if_pos (by omega)]
    simp only
    rw [if_pos (by omega)]
  · rw [if_neg e]
    simp only
    by_cases e1 : i % 4 = 2
    · rw [if_neg (by omega : ¬ i % 4 = 0), if_neg (by omega : ¬ i % 4 = 1), if_pos e1, if_neg (by omega : ¬ i % 4 = 0), if_neg (by omega : ¬ i % 4 = 1), if_pos e1, if_neg (by omega)]
    · simp only [if_neg e1]
theorem Chip.setMark {w : World} {L C} (h : Chip w L C) (b : Nat) (v : Bool) : Chip (w.setCell ⟨L.bs, b * 4 + 3, none⟩ (.bool v)) L { C with mark := upd C.mark b v } := by
  refine h.setBlk b 3 _ { C with mark := upd C.mark b v } rfl rfl rfl rfl rfl rfl rfl rfl (fun i => ?_)
  unfold blkF upd
  by_cases e : i = b * 4 + 3
  · subst e
    rw [if_pos rfl, if_neg (by omega), if_neg (by omega), if_neg (by omega)]
    simp only
    rw [if_pos (by omega)]
  · rw [if_neg e]
    simp only
    by_cases e1 : i % 4 = 3
    · rw [if_neg (by omega : ¬ i % 4 = 0), if_neg (by omega : ¬ i % 4 = 1), if_neg (by omega : ¬ i % 4 = 2), if_neg (by omega : ¬ i % 4 = 0), if_neg (by omega : ¬ i % 4 = 1), if_neg (by omega : ¬ i % 4 = 2), if_neg (by omega)]
    · by_cases e2 : i % 4 = 0
      · rw [if_pos e2, if_pos e2]
      · by_cases e3 : i % 4 = 1
        · rw [if_neg e2, if_pos e3, if_neg e2, if_pos e3]
        · rw [if_neg e2, if_neg e3, if_pos (by omega), if_neg e2, if_neg e3, if_pos (by omega)]
/-- another world in which a row of pages alone is another -/
theorem Chip.setRow {w w' : World} {L C} (h : Chip w L C) (b : Nat) (hb : b < C.B) (f : Nat → ByteArray) (hl : ∀ p, (f p).size = 0 ∨ (f p).size = C.Z + 32) (hr : w'.rowIs (L.pb b) 9 C.P (fun p => .string (f p)))
    (ho : ∀ i, i < w.heap.size → i ≠ L.pb b → w'.heap[i]? = w.heap[i]?) : Chip w' L { C with pg := upd C.pg b f } := by
  obtain ⟨mc, mf, n, k, ht, h1, h2⟩ := h.top
  obtain ⟨c, hbb, _⟩ := h.pgs b hb
  have hm1 : mc ≠ L.pb b := h1.notCells hbb
  have hm2 : mf ≠ L.pb b := h2.notCells hbb
  refine { h with top := ⟨mc, mf, n, k, ?_, ?_, ?_⟩, row := ?_, pgs := ?_, len := ?_ }
  · exact (ho _ (Array.getElem?_eq_some_iff.1 ht).1 (fun e => h.pa b hb e.symm)).trans ht
  · exact h1.of_block (ho _ h1.lt hm1)
  · exact h2.of_block (ho _ h2.lt hm2)
  · exact h.row.of_block (ho _ h.row.lt (fun e => h.pbs b hb e.symm))
  · intro d hd
    unfold upd
    by_cases e : d = b
    · subst e
      simp only [if_pos]
      exact hr
    · simp only [if_neg e]
      exact (h.pgs d hd).of_block (ho _ (h.pgs d hd).lt (fun e2 => e (h.inj d hd b hb e2)))
  · intro d p
    unfold upd
    by_cases e : d = b
    · simp only [if_pos e]
      exact hl p
    · simp only [if_neg e]
      exact h.len d p
theorem Chip.setPage {w : World} {L C} (h : Chip w L C) (b p : Nat) (hb : b < C.B) (s : ByteArray) (hs : s.size = 0 ∨ s.size = C.Z + 32) : Chip (w.setCell ⟨L.pb b, p, none⟩ (.string s)) L { C with pg := upd C.pg b (upd (C.pg b) p s) } := by
  refine h.setRow b hb _ (fun q => ?_) (((h.pgs b hb).set p (.string s)).congr (fun q _ => ?_)) (fun i _ hi => Below.heap_setCell w _ _ i hi)
  · unfold upd
    split
    · exact hs
    · exact h.len b q
  · unfold upd
    split <;> rfl
end Go.Proofs.YtbhggcleijjofaaDoor
