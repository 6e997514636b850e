/-
  A slice of numbers that the call itself made, at the head of a block of its own: append, in place or to a new block; what calls and other appends leave of it. No condition.
-/
import Derived.Test.YtdolilgkjknckaaDoorMem
import Derived.Laws.AppendOwn
import Derived.OwnWalk
import Derived.ArgAppend
import Derived.Laws.IdiomCopy
namespace Go.Proofs.YtdolilgkjknckaaDoor
open Go Go.RowKit

/-- v is the slice of these numbers, at the head of block g (of elements of type e) -/
def Sl (w : World) (_e : TypeId) (k : IntKind) (v : Value) (g : Nat) (l : List Int) : Prop :=
  g < w.heap.size ∧ ∃ cap : Nat, v = .slice (some ⟨g, 0, none⟩) l.length cap ∧ l.length ≤ cap ∧ (∀ j, j < cap → (w.cell? ⟨g, j, none⟩).isSome = true ∧ w.frozen? ⟨g, j, none⟩ = false) ∧
    ∀ j, j < l.length → w.cell? ⟨g, j, none⟩ = some (.int k (l.getD j 0))

theorem Sl.lt {w : World} {e k v g l} (h : Sl w e k v g l) : g < w.heap.size := h.1
theorem Sl.val {w : World} {e k v g l} (h : Sl w e k v g l) : ∃ cap, v = .slice (some ⟨g, 0, none⟩) l.length cap ∧ l.length ≤ cap := by
  obtain ⟨_, cap, rfl, hc, _⟩ := h
  exact ⟨cap, rfl, hc⟩
theorem Sl.drew {w : World} {e k v g l} (h : Sl w e k v g l) : Sl w.drew e k v g l := h
theorem Sl.drewN {w : World} {e k v g l} (h : Sl w e k v g l) (n : Nat) : Sl (w.drewN n) e k v g l := h
theorem Sl.same {w w' : World} {e k v g l} (h : Sl w e k v g l) (hz : w.heap.size ≤ w'.heap.size) (hh : w'.heap[g]? = w.heap[g]?) : Sl w' e k v g l := by
  obtain ⟨hg, cap, hv, hc, h1, h2⟩ := h
  refine ⟨by omega, cap, hv, hc, fun j hj => ?_, fun j hj => ?_⟩
  · rw [World.cell?_of_block (a := ⟨g, j, none⟩) hh, World.frozen?_of_block (a := ⟨g, j, none⟩) hh]
    exact h1 j hj
  · rw [World.cell?_of_block (a := ⟨g, j, none⟩) hh]
    exact h2 j hj
theorem Sl.call {w w' : World} {e k v g l} (h : Sl w e k v g l) (b : Below w.heap.size w w') : Sl w' e k v g l := h.same b.size (b.block g h.lt)
theorem Sl.alloc {w : World} {e k v g l} (h : Sl w e k v g l) (o : Obj) : Sl (w.alloc o) e k v g l := h.same (by rw [size_alloc]; omega) (Below.heap_alloc w o g h.lt)
theorem Sl.kept {w w' : World} {e k v g l} {g0 : Nat} (h : Sl w e k v g l) (b : w.grownBy w' (some g0)) (hne : g ≠ g0) : Sl w' e k v g l :=
  h.same b.size (b.block g h.lt (by simpa using hne))
theorem Sl.other {w : World} {e k v g l} (h : Sl w e k v g l) {a : Addr} (ha : a.block ≠ g) (x : Value) : Sl (w.setCell a x) e k v g l :=
  h.same (by simp [World.setCell]) (heap_setCell_other w a g x (fun e => ha e.symm))
theorem Sl.cell {w : World} {e k v g l} (h : Sl w e k v g l) (j : Nat) (hj : j < l.length) : w.cell? ⟨g, j, none⟩ = some (.int k (l.getD j 0)) := by
  obtain ⟨_, cap, hv, hc, h1, h2⟩ := h
  exact h2 j hj
theorem Sl.frozen {w : World} {e k v g l} (h : Sl w e k v g l) (j : Nat) (hj : j < l.length) : w.frozen? ⟨g, j, none⟩ = false := by
  obtain ⟨_, cap, hv, hc, h1, h2⟩ := h
  exact (h1 j (by omega)).2
/-- a slice that is written out, or made: the whole block -/
theorem Sl.ofRow {w : World} {g e k l} (h : Row w g e k l) : Sl w e k (.slice (some ⟨g, 0, none⟩) l.length l.length) g l :=
  ⟨h.lt, l.length, rfl, Nat.le_refl _, fun j hj => ⟨by rw [h.cell j hj]; rfl, h.frozen j⟩, fun j hj => h.cell j hj⟩
theorem Sl.stored {w : World} {e k v g l} (h : Sl w e k v g l) (j : Nat) (x : Int) : Sl (w.setCell ⟨g, j, none⟩ (.int k x)) e k v g (l.set j x) := by
  obtain ⟨hg, cap, hv, hc, h1, h2⟩ := h
  refine ⟨by simpa [World.setCell] using hg, cap, by rw [List.length_set]; exact hv, by rw [List.length_set]; exact hc, fun i hi => ⟨?_, by rw [World.frozen?_setCell]; exact (h1 i hi).2⟩, fun i hi => ?_⟩
  · by_cases e : i = j
    · subst e
      obtain ⟨u, hu⟩ := Option.isSome_iff_exists.1 (h1 i hi).1
      rw [World.cell?_setCell_same _ _ _ hu]
      rfl
    · rw [World.cell?_setCell_other _ _ _ _ (by intro e2; exact e (congrArg Addr.off e2).symm)]
      exact (h1 i hi).1
  · rw [List.length_set] at hi
    by_cases e : i = j
    · subst e
      rw [World.cell?_setCell_same _ _ _ (h2 i hi)]
      simp [List.getD_eq_getElem?_getD, hi]
    · rw [World.cell?_setCell_other _ _ _ _ (by intro e2; exact e (congrArg Addr.off e2).symm), h2 i hi]
      have : ¬ j = i := fun e2 => e e2.symm
      simp [List.getD_eq_getElem?_getD, this]
theorem below_grown {B g : Nat} {a w w' : World} (h : Below B a w) (b : w.grownBy w' (some g)) (hB : B ≤ w.heap.size) (hg : B ≤ g) : Below B a w' :=
  h.grown b hB (fun k hk => by cases hk; exact hg)
theorem grown_row {w w' : World} {g0 g : Nat} {t k l} (b : w.grownBy w' (some g0)) (h : Row w g t k l) (hne : g ≠ g0) : Row w' g t k l :=
  (b.block g h.lt (by simpa using hne)).trans h

theorem List.map_append_toArray (k : IntKind) (l r : List Int) : ((l ++ r).map (Value.int k)).toArray = (l.map (Value.int k)).toArray ++ (r.map (Value.int k)).toArray := by simp

variable {P : Program}
theorem run_append_sl (w : World) (t ty e : TypeId) (i : TypeInfo) (z : Value) (bytes : Nat) (ht : P.underlying t = some (.slice e)) (hi : P.info? e = some i) (hz : i.zero = some z)
    (hsize : i.size = 1) (hby : i.bytes = bytes) (hzs : z.cells.size = 1) (hb8 : bytes ≤ 8) {k : IntKind} {v : Value} {g : Nat} {l : List Int} (hown : Sl w e k v g l)
    (a : Addr) (m c : Nat) (news : List Int) (hl : news.length = m) (hnews : ∀ j, j < m → w.cell? (a.add j) = some (.int k (news.getD j 0))) (hlen : l.length + m ≤ 1000000) :
    ∃ v' g' w', (Builtin.append_ #[t, t] ty #[v, .slice (some a) m c]).run P w = .ok v' w' ∧ Sl w' e k v' g' (l ++ news) ∧ w.grownBy w' (some g) ∧ (g' = g ∨ w.heap.size ≤ g') ∧ ∀ j, j < l.length → w'.cell? ⟨g, j, none⟩ = w.cell? ⟨g, j, none⟩ := by
  obtain ⟨hg, cap, rfl, hnc, hsp, hce⟩ := hown
  have hnl : (news.map (Value.int k)).length = m * i.size := by rw [List.length_map, hsize, hl, Nat.mul_one]
  have hnl1 : (news.map (Value.int k)).length = m := by rw [List.length_map, hl]
  have hn : ∀ j u, (news.map (Value.int k))[j]? = some u → w.cell? (a.add j) = some u := by
    intro j u hj
    have hjm : j < news.length := by
      have := (List.getElem?_eq_some_iff.1 hj).1
      simpa using this
    rw [hnews j (by omega), ← hj]
    simp [List.getD_eq_getElem?_getD, hjm]
  have h1 : ∀ u ∈ news.map (Value.int k), u.oneCell' = true := ints_oneCell k news
  have hll : (l ++ news).length = l.length + m := by rw [List.length_append, hl]
  by_cases hroom : l.length + m ≤ cap
  · have hr := run_append_room_cells (P := P) w t ty e i ht hi g 0 l.length cap a m c (news.map (Value.int k)) hnl hn h1 hroom
      (fun j hj => by rw [hsize, Nat.mul_one, Nat.zero_add]; exact (hsp (l.length + j) (by omega)).1)
      (fun j hj => by rw [hsize, Nat.mul_one, Nat.zero_add]; exact (hsp (l.length + j) (by omega)).2)
    rw [hsize, Nat.mul_one, Nat.zero_add] at hr
    have hin := World.cell?_setCells_in g (news.map (Value.int k)) l.length w (fun j hj => (hsp (l.length + j) (by omega)).1)
    have hblk : ∀ (vs : List Value) (o : Nat) (w0 : World), w0.grownBy (w0.setCells g o vs) (some g) := by
      intro vs
      induction vs with
      | nil => intro o w0; exact ⟨rfl, rfl, rfl, Nat.le_refl _, fun _ _ _ => rfl⟩
      | cons v r ih =>
        intro o w0
        have h2 := ih (o + 1) (w0.setCell ⟨g, o, none⟩ v)
        refine ⟨h2.os, h2.tape, h2.output, Nat.le_trans (by simp [World.setCell]) h2.size, fun b hb hne => ?_⟩
        rw [World.setCells, h2.block b (by simpa [World.setCell] using hb) hne]
        exact Below.heap_setCell w0 ⟨g, o, none⟩ v b (fun e => hne (by rw [e]))
    refine ⟨_, g, _, hr, ⟨Nat.lt_of_lt_of_le hg (hblk _ _ w).size, cap, by rw [hll], by rw [hll]; exact hroom, fun j hj => ⟨?_, by rw [World.frozen?_setCells]; exact (hsp j hj).2⟩, fun j hj => ?_⟩, hblk _ _ w, Or.inl rfl, fun j hj => World.cell?_setCells_out g _ _ _ _ (fun _ _ => Or.inl hj)⟩
    · by_cases hj1 : l.length ≤ j ∧ j < l.length + m
      · have h3 := hin (j - l.length) (by omega)
        rw [show l.length + (j - l.length) = j by omega] at h3
        rw [h3]
        rfl
      · rw [World.cell?_setCells_out g _ _ _ _ (fun _ _ => by show j < l.length ∨ l.length + (news.map (Value.int k)).length ≤ j; omega)]
        exact (hsp j hj).1
    · rw [hll] at hj
      by_cases hj1 : j < l.length
      · rw [World.cell?_setCells_out g _ _ _ _ (fun _ _ => Or.inl hj1), hce j hj1]
        simp [List.getD_eq_getElem?_getD, List.getElem?_append_left hj1]
      · have h3 := hin (j - l.length) (by omega)
        rw [show l.length + (j - l.length) = j by omega] at h3
        rw [h3]
        have hj2 : j - l.length < news.length := by omega
        simp [List.getD_eq_getElem?_getD, List.getElem?_append_right (by omega : l.length ≤ j), hj2]
  · have holds : ∀ j u, (l.map (Value.int k))[j]? = some u → w.cell? ((⟨g, 0, none⟩ : Addr).add j) = some u := by
      intro j u hj
      have hjl : j < l.length := by
        have := (List.getElem?_eq_some_iff.1 hj).1
        simpa using this
      have ea : (⟨g, 0, none⟩ : Addr).add j = ⟨g, j, none⟩ := by unfold Addr.add; split <;> simp_all
      rw [ea, hce j hjl, ← hj]
      simp [List.getD_eq_getElem?_getD, hjl]
    have hb2 : (l.length + m) * i.bytes ≤ 140737488355328 := by
      rw [hby]
      have := Nat.mul_le_mul hlen hb8
      omega
    have hr := run_append_grow (P := P) w t ty e i z ht hi hz ⟨g, 0, none⟩ l.length cap (l.map (Value.int k)) (by rw [List.length_map, hsize, Nat.mul_one]) holds a m c (news.map (Value.int k)) hnl hn (by omega) (by omega) (growslice_fits (by omega) hb2)
    have hge := grownCap_ge w (l.length + m) cap e
    have hnew := heap_alloc_new w.drew (.cells ((l.map (Value.int k)).toArray ++ (news.map (Value.int k)).toArray ++ Builtin.zeroCells z.cells (grownCap w (l.length + m) cap e - (l.length + m))) e)
    have hcs : ((l.map (Value.int k)).toArray ++ (news.map (Value.int k)).toArray ++ Builtin.zeroCells z.cells (grownCap w (l.length + m) cap e - (l.length + m))).size = grownCap w (l.length + m) cap e := by
      simp only [Array.size_append, List.size_toArray, size_zeroCells, hzs, List.length_map, hl]
      omega
    refine ⟨_, w.heap.size, _, hr, ⟨?_, _, by rw [hll], by rw [hll]; exact hge, fun j hj => ⟨?_, frozen_of_row _ _ j _ e hnew⟩, fun j hj => ?_⟩, ⟨rfl, rfl, rfl, by simp, fun k hk _ => Below.heap_alloc w.drew _ k hk⟩, Or.inr (Nat.le_refl _), fun j _ => World.cell?_of_block (w := w) (a := ⟨g, j, none⟩) (Below.heap_alloc w.drew _ g hg)⟩
    · rw [size_alloc]
      exact Nat.lt_succ_self _
    · rw [show (⟨w.heap.size, j, none⟩ : Addr) = ⟨w.drew.heap.size, j, none⟩ from rfl, cell_of_row _ _ j _ e _ hnew]
      rw [Array.getElem?_eq_getElem (by rw [hcs]; exact hj)]
      rfl
    · rw [hll] at hj
      rw [show (⟨w.heap.size, j, none⟩ : Addr) = ⟨w.drew.heap.size, j, none⟩ from rfl, cell_of_row _ _ j _ e _ hnew, Array.getElem?_append_left (by simp [hl]; omega), ← List.map_append_toArray k l news]
      have hj2 : j < (l ++ news).length := by rw [hll]; exact hj
      simp only [List.getElem?_toArray, List.getElem?_map, List.getElem?_eq_getElem hj2, List.getD_eq_getElem?_getD]
      rfl

/-- append, as a walk meets it -/
theorem wpList_append_sl {w : World} {ops : Array Oper} {rest : List Oper} {o : Oper} {a : Act} {Q : Exit → Act → World → Prop} (hgd : o.guard = none) (s x : Operand) (t : TypeId)
    (ho : o.op = .call { callee := .builtin .append, args := #[s, x], argTypes := #[t, t] }) {e : TypeId} {z : Value} {bytes : Nat} (ht : P.underlying t = some (.slice e))
    (hinfo : (P.info? e).map (fun i => (i.zero, i.size, i.bytes)) = some (some z, 1, bytes)) (hzs : z.cells.size = 1) (hb8 : bytes ≤ 8)
    {k : IntKind} {v : Value} {g : Nat} {l : List Int} (hs : a.eval s = v) (hown : Sl w e k v g l)
    (ad : Addr) (m c : Nat) (news : List Int) (hx : a.eval x = .slice (some ad) m c) (hl : news.length = m) (hnews : ∀ j, j < m → w.cell? (ad.add j) = some (.int k (news.getD j 0))) (hlen : l.length + m ≤ 1000000)
    (h : ∀ v' g' w', Sl w' e k v' g' (l ++ news) → w.grownBy w' (some g) → (g' = g ∨ w.heap.size ≤ g') → wpList P ops Q rest (a.put o.dst v') w') : wpList P ops Q (o :: rest) a w := by
  obtain ⟨i, hi, hz, hsz, hby⟩ := info_parts hinfo
  obtain ⟨v', g', w', hr, h2, h3, h4, h5⟩ := run_append_sl (P := P) w t o.type e i z bytes ht hi hz hsz hby hzs hb8 hown ad m c news hl hnews hlen
  refine wpList_plain hgd fun K hK => ?_
  unfold Oper.wp execOp
  simp only [ho, resolve, invoke, builtin, Sem.run_bind, Sem.run_pure, Result.andThen_ok, List.map_toArray, List.map_cons, List.map_nil, hs, hx, hr]
  exact hK _ _ (h v' g' w' h2 h3 h4)
/-- append, as one step of a region that draws its order -/
theorem step_append_sl {w : World} {ops : Array Oper} {o : Oper} {a : Act} {K : Act → World → Prop} {Q : Exit → Act → World → Prop} {E : Prop} (hgd : o.guard = none) (s x : Operand) (t : TypeId)
    (ho : o.op = .call { callee := .builtin .append, args := #[s, x], argTypes := #[t, t] }) {e : TypeId} {z : Value} {bytes : Nat} (ht : P.underlying t = some (.slice e))
    (hinfo : (P.info? e).map (fun i => (i.zero, i.size, i.bytes)) = some (some z, 1, bytes)) (hzs : z.cells.size = 1) (hb8 : bytes ≤ 8)
    {k : IntKind} {v : Value} {g : Nat} {l : List Int} (hs : a.eval s = v) (hown : Sl w e k v g l)
    (ad : Addr) (m c : Nat) (news : List Int) (hx : a.eval x = .slice (some ad) m c) (hl : news.length = m) (hnews : ∀ j, j < m → w.cell? (ad.add j) = some (.int k (news.getD j 0))) (hlen : l.length + m ≤ 1000000)
    (h : ∀ v' g' w', Sl w' e k v' g' (l ++ news) → w.grownBy w' (some g) → (g' = g ∨ w.heap.size ≤ g') → (∀ j, j < l.length → w'.cell? ⟨g, j, none⟩ = w.cell? ⟨g, j, none⟩) → K (a.put o.dst v') w') :
    if Region.wanted o (yielded ops a.tmps) = true then Oper.wp P o a w K Q else E := by
  have hw : Region.wanted o (yielded ops a.tmps) = true := by simp [Region.wanted, hgd]
  rw [if_pos hw]
  obtain ⟨i, hi, hz, hsz, hby⟩ := info_parts hinfo
  obtain ⟨v', g', w', hr, h2, h3, h4, h5⟩ := run_append_sl (P := P) w t o.type e i z bytes ht hi hz hsz hby hzs hb8 hown ad m c news hl hnews hlen
  unfold Oper.wp execOp
  simp only [ho, resolve, invoke, builtin, Sem.run_bind, Sem.run_pure, Result.andThen_ok, List.map_toArray, List.map_cons, List.map_nil, hs, hx, hr]
  exact h v' g' w' h2 h3 h4 h5
/-- the one element that a literal of one cell lays -/
theorem one_cell (w : World) (k : IntKind) (x : Int) (e : TypeId) : ∀ j, j < 1 → (w.alloc (.cells #[.int k x] e)).cell? ((⟨w.heap.size, 0, none⟩ : Addr).add j) = some (.int k ([x].getD j 0)) := by
  intro j hj
  obtain rfl : j = 0 := by omega
  exact (Row.fresh w e k [x]).cell 0 (by simp)

/-- a slice that is kept -/
structure Ent where
  e : TypeId
  k : IntKind
  v : Value
  g : Nat
  l : List Int
def Ent.In (f : Ent) (w : World) : Prop := Sl w f.e f.k f.v f.g f.l
/-- all these slices are there, in blocks that the call made; what was there before is as it was -/
def All (w wx : World) (fs : List Ent) : Prop := (∀ f ∈ fs, f.In wx ∧ w.heap.size ≤ f.g) ∧ Below w.heap.size w wx
/-- block g is none of theirs -/
def Apart (g : Nat) (fs : List Ent) : Prop := ∀ f ∈ fs, f.g ≠ g
theorem All.below {w wx : World} {fs} (h : All w wx fs) : Below w.heap.size w wx := h.2
theorem All.get {w wx : World} {fs} (h : All w wx fs) {f : Ent} (hf : f ∈ fs) : Sl wx f.e f.k f.v f.g f.l := (h.1 f hf).1
theorem All.call {w wx w2 : World} {fs} (h : All w wx fs) (b : Below wx.heap.size wx w2) : All w w2 fs :=
  ⟨fun f hf => ⟨Sl.call (h.1 f hf).1 b, (h.1 f hf).2⟩, below3 h.2 b⟩
theorem All.alloc {w wx : World} {fs} (h : All w wx fs) (o : Obj) : All w (wx.alloc o) fs :=
  ⟨fun f hf => ⟨Sl.alloc (h.1 f hf).1 o, (h.1 f hf).2⟩, h.2.alloc h.2.size o⟩
theorem All.drew {w wx : World} {fs} (h : All w wx fs) : All w wx.drew fs := ⟨h.1, h.2.drew⟩
theorem All.drewN {w wx : World} {fs} (h : All w wx fs) (n : Nat) : All w (wx.drewN n) fs := ⟨h.1, below_drewN h.2⟩
theorem All.grown {w wx w2 : World} {fs} {g : Nat} (h : All w wx fs) (b : wx.grownBy w2 (some g)) (hg : w.heap.size ≤ g) (ha : Apart g fs) : All w w2 fs :=
  ⟨fun f hf => ⟨Sl.kept (h.1 f hf).1 b (ha f hf), (h.1 f hf).2⟩, below_grown h.2 b h.2.size hg⟩
theorem All.setCell {w wx : World} {fs} {a : Addr} (h : All w wx fs) (hg : w.heap.size ≤ a.block) (ha : Apart a.block fs) (x : Value) : All w (wx.setCell a x) fs :=
  ⟨fun f hf => ⟨Sl.other (h.1 f hf).1 (fun e => ha f hf e.symm) x, (h.1 f hf).2⟩, h.2.setCell hg x⟩
theorem All.fresh {w wx : World} {fs} {g : Nat} (h : All w wx fs) (hg : wx.heap.size ≤ g) : w.heap.size ≤ g ∧ Apart g fs :=
  ⟨Nat.le_trans h.2.size hg, fun f hf e => by have := Sl.lt (h.1 f hf).1; omega⟩
theorem All.next {w wx : World} {fs} {g g' : Nat} (h : All w wx fs) (hg : w.heap.size ≤ g) (ha : Apart g fs) (h2 : g' = g ∨ wx.heap.size ≤ g') : w.heap.size ≤ g' ∧ Apart g' fs := by
  rcases h2 with rfl | h2
  · exact ⟨hg, ha⟩
  · exact h.fresh h2
theorem All.cons {w wx : World} {fs} (h : All w wx fs) {f : Ent} (hf : Sl wx f.e f.k f.v f.g f.l) (hg : w.heap.size ≤ f.g) : All w wx (f :: fs) :=
  ⟨fun x hx => by
    rcases List.mem_cons.1 hx with rfl | hx
    · exact ⟨hf, hg⟩
    · exact h.1 x hx, h.2⟩
theorem All.tail {w wx : World} {f fs} (h : All w wx (f :: fs)) : All w wx fs := ⟨fun x hx => h.1 x (List.mem_cons_of_mem _ hx), h.2⟩
theorem Apart.cons {g : Nat} {f : Ent} {fs} (h : Apart g fs) (hf : f.g ≠ g) : Apart g (f :: fs) := by
  intro x hx
  rcases List.mem_cons.1 hx with rfl | hx
  · exact hf
  · exact h x hx
theorem All.nil {w wx : World} (h : Below w.heap.size w wx) : All w wx [] := ⟨fun _ h => (by cases h), h⟩
theorem Apart.nil (g : Nat) : Apart g [] := fun _ h => by cases h
end Go.Proofs.YtdolilgkjknckaaDoor
