/-
  A writer: said plainly, and in memory; what stores and calls leave of it. No condition.
-/
import Derived.Test.YtbhggcleijjofaaDoorRest
import Derived.Test.YtbhggcleijjofaaDoorActs
import Derived.Test.YtbhggcleijjofaaDoorVal
import Derived.Test.YtbhggcleijjofaaDoorWr
import Derived.Test.YtbhggcleijjofaaDoorIx
namespace Go.Proofs.YtbhggcleijjofaaDoor
open Go Go.RowKit
set_option maxRecDepth 100000

/-- some cells lie there -/
def Cel (w : World) (i : Nat) : Prop := ∃ c t m, w.heap[i]? = some (.cells c t m)
/-- a chip stays as it was where others are written -/
theorem Chip.off {w w' : World} {L C} {S : Nat → Prop} (h : Chip w L C) (k : Kp S w w') (hs : ∀ i, S i → ¬ L.own C.B i ∧ Cel w i) : Chip w' L C := by
  obtain ⟨mc, mf, n, m, ht, h1, h2⟩ := h.top
  have nm : ∀ {b n F}, MapIs w b n F → ¬ S b := fun hm s => by
    obtain ⟨c, t, q, hc⟩ := (hs _ s).2
    exact hm.notCells hc rfl
  exact { h with
    top := ⟨mc, mf, n, m, (k.block L.a (h.lt (.inl rfl)) (fun s => (hs _ s).1 (.inl rfl))).trans ht, h1.of_block (k.block _ h1.lt (nm h1)), h2.of_block (k.block _ h2.lt (nm h2))⟩
    row := h.row.of_block (k.block _ h.row.lt (fun s => (hs _ s).1 (.inr (.inl rfl))))
    pgs := fun b hb => (h.pgs b hb).of_block (k.block _ (h.pgs b hb).lt (fun s => (hs _ s).1 (.inr (.inr ⟨b, hb, rfl⟩)))) }
theorem Kp.ofGrown {S : Nat → Prop} {w w' : World} {r : Option Nat} (g : w.grownBy w' r) (hs : ∀ i, r = some i → S i) : Kp S w w' :=
  ⟨g.os, g.tape, g.output, g.size, fun k hk hn => g.block k hk (fun e => hn (hs k e.symm))⟩
theorem Ints.same {w w' : World} {B v l} (h : Ints w B v l) (b : ∀ g, v.ownBlock = some g → w'.heap[g]? = w.heap[g]?) : Ints w' B v l := We.Ow.same h b
theorem Ints.cel {w : World} {B v l} (h : Ints w B v l) {g : Nat} (e : v.ownBlock = some g) : Cel w g := by
  rcases h.own.2 with ⟨q, _⟩ | ⟨g', cap, cur, rfl, q1, q2, q3⟩
  · subst q; cases e
  · obtain rfl : g' = g := by simpa [Value.ownBlock] using e
    exact ⟨_, _, _, q2⟩

/-- a writer: its chip, what blocks are, the open one, its next page, counts, those noted -/
structure Wx where
  C : Ch
  xs : List Int
  o : Int
  nx : Int
  wn : List Int
  bd : List Int
/-- where it lies -/
structure Wl where
  lo : Nat
  a : Nat
  L : Ly
  la : Nat
  lg : Nat
  wv : Value
  bv : Value
def Wl.own (A : Wl) (B : Nat) (i : Nat) : Prop := i = A.a ∨ A.L.own B i ∨ Lf.ownL A.la A.lg i ∨ A.wv.ownBlock = some i ∨ A.bv.ownBlock = some i
structure Wtr (w : World) (A : Wl) (X : Wx) : Prop where
  top : w.heap[A.a]? = some (.cells #[.pointer (some ⟨A.L.a, 0, none⟩), .pointer (some ⟨A.la, 0, none⟩), A.wv, A.bv] 89 (0, 0))
  chip : Chip w A.L X.C
  lif : Lf.Lif w A.la A.lg X.C.B X.C.P X.xs X.o X.nx
  wrn : Ints w A.lo A.wv X.wn
  wlen : X.wn.length = X.C.B
  bad : Ints w A.lo A.bv X.bd
  low : ∀ i, A.own X.C.B i → A.lo ≤ i
  pos : 0 < A.lo
  dC : ∀ i, A.L.own X.C.B i → i ≠ A.a ∧ ¬ Lf.ownL A.la A.lg i ∧ A.wv.ownBlock ≠ some i ∧ A.bv.ownBlock ≠ some i
  dL : ∀ i, Lf.ownL A.la A.lg i → i ≠ A.a ∧ A.wv.ownBlock ≠ some i ∧ A.bv.ownBlock ≠ some i
  dW : A.wv.ownBlock ≠ some A.a ∧ A.bv.ownBlock ≠ some A.a ∧ ∀ i, A.wv.ownBlock = some i → A.bv.ownBlock ≠ some i
theorem Wtr.lt {w : World} {A X} (h : Wtr w A X) : ∀ i, A.own X.C.B i → i < w.heap.size := by
  rintro i (rfl | hi | hi | hi | hi)
  · exact (Array.getElem?_eq_some_iff.1 h.top).1
  · exact h.chip.lt hi
  · exact h.lif.lt i hi
  · exact (We.Ow.lt h.wrn i hi).2
  · exact (We.Ow.lt h.bad i hi).2
/-- where only others are written -/
theorem Wtr.off {w w' : World} {A X} {S : Nat → Prop} (h : Wtr w A X) (k : Kp S w w') (hs : ∀ i, S i → ¬ A.own X.C.B i ∧ Cel w i) : Wtr w' A X := by
  have e : ∀ i, A.own X.C.B i → w'.heap[i]? = w.heap[i]? := fun i hi => k.block i (h.lt i hi) (fun s => (hs i s).1 hi)
  exact { h with
    top := (e _ (.inl rfl)).trans h.top
    chip := h.chip.off k (fun i hi => ⟨fun x => (hs i hi).1 (.inr (.inl x)), (hs i hi).2⟩)
    lif := h.lif.same (fun i hi => e i (.inr (.inr (.inl hi))))
    wrn := h.wrn.same (fun g hg => e g (.inr (.inr (.inr (.inl hg)))))
    bad := h.bad.same (fun g hg => e g (.inr (.inr (.inr (.inr hg))))) }
theorem Wtr.call {w w' : World} {A X} (h : Wtr w A X) (b : Below w.heap.size w w') : Wtr w' A X := h.off (S := fun _ => False) (Kp.ofBelow b) (fun _ h => h.elim)
theorem Wtr.alloc {w : World} {A X} (h : Wtr w A X) (o : Obj) : Wtr (w.alloc o) A X := h.call ((Below.refl w.heap.size w).alloc (Nat.le_refl _) o)
theorem Wtr.drew {w : World} {A X} (h : Wtr w A X) : Wtr w.drew A X := h.off (S := fun _ => False) (Kp.refl _ w).drew (fun _ h => h.elim)
theorem Wtr.drewN {w : World} {A X} (h : Wtr w A X) (n : Nat) : Wtr (w.drewN n) A X := h.off (S := fun _ => False) ((Kp.refl _ w).drewN n) (fun _ h => h.elim)
/-- another chip -/
theorem Wtr.chipTo {w w' : World} {A X} (h : Wtr w A X) {C' : Ch} (hc : Chip w' A.L C') (k : Kp (A.L.own X.C.B) w w') (eB : C'.B = X.C.B) (eP : C'.P = X.C.P) : Wtr w' A { X with C := C' } := by
  have e : ∀ i, i < w.heap.size → ¬ A.L.own X.C.B i → w'.heap[i]? = w.heap[i]? := fun i hi hn => k.block i hi hn
  refine ⟨(e _ (h.lt _ (.inl rfl)) (fun x => (h.dC _ x).1 rfl)).trans h.top, hc, ?_, h.wrn.same (fun g hg => e g (h.lt g (.inr (.inr (.inr (.inl hg))))) (fun x => (h.dC _ x).2.2.1 hg)), by rw [eB]; exact h.wlen,
    h.bad.same (fun g hg => e g (h.lt g (.inr (.inr (.inr (.inr hg))))) (fun x => (h.dC _ x).2.2.2 hg)), by rw [eB]; exact h.low, h.pos, by rw [eB]; exact h.dC, h.dL, h.dW⟩
  rw [eB, eP]
  exact h.lif.same (fun i hi => e i (h.lif.lt i hi) (fun x => (h.dC _ x).2.1 hi))
/-- other blocks -/
theorem Wtr.lifTo {w w' : World} {A X} (h : Wtr w A X) {xs' : List Int} {o' nx' : Int} (hl : Lf.Lif w' A.la A.lg X.C.B X.C.P xs' o' nx') (k : Kp (Lf.ownL A.la A.lg) w w') : Wtr w' A { X with xs := xs', o := o', nx := nx' } := by
  have e : ∀ i, i < w.heap.size → ¬ Lf.ownL A.la A.lg i → w'.heap[i]? = w.heap[i]? := fun i hi hn => k.block i hi hn
  refine ⟨(e _ (h.lt _ (.inl rfl)) (fun x => (h.dL _ x).1 rfl)).trans h.top, h.chip.off k (fun i hi => ⟨fun x => (h.dC _ x).2.1 hi, ?_⟩), hl, h.wrn.same (fun g hg => e g (h.lt g (.inr (.inr (.inr (.inl hg))))) (fun x => (h.dL _ x).2.1 hg)), h.wlen,
    h.bad.same (fun g hg => e g (h.lt g (.inr (.inr (.inr (.inr hg))))) (fun x => (h.dL _ x).2.2 hg)), h.low, h.pos, h.dC, h.dL, h.dW⟩
  rcases hi with rfl | rfl
  · exact ⟨_, _, _, h.lif.top⟩
  · exact ⟨_, _, _, h.lif.row⟩
theorem Wtr.kC {w w' : World} {A X} (_h : Wtr w A X) (k : Kp (A.L.own X.C.B) w w') : Kp (A.own X.C.B) w w' := k.mono (fun _ hi => .inr (.inl hi))
theorem Wtr.kL {w w' : World} {A X} (_h : Wtr w A X) (k : Kp (Lf.ownL A.la A.lg) w w') : Kp (A.own X.C.B) w w' := k.mono (fun _ hi => .inr (.inr (.inl hi)))
/-- a count -/
theorem Wtr.wornTo {w : World} {A X} (h : Wtr w A X) (g n cap : Nat) (e : A.wv = .slice (some ⟨g, 0, none⟩) n cap) (j : Nat) (x : Int) : Wtr (w.setCell ⟨g, j, none⟩ (.int .i64 x)) A { X with wn := X.wn.set j x } := by
  have hg : A.wv.ownBlock = some g := by rw [e]; rfl
  have eo : ∀ i, i ≠ g → (w.setCell ⟨g, j, none⟩ (.int .i64 x)).heap[i]? = w.heap[i]? := fun i hi => Below.heap_setCell w _ _ i hi
  have k : Kp (fun i => i = g) w (w.setCell ⟨g, j, none⟩ (.int .i64 x)) := Kp.setCell (S := fun i => i = g) (Kp.refl _ w) (p := ⟨g, j, none⟩) rfl _
  have hw := h.wrn
  rw [e] at hw
  refine ⟨(eo _ (fun x => h.dW.1 (by rw [hg, x]))).trans h.top, h.chip.off k (fun i hi => ⟨fun x => (h.dC _ x).2.2.1 (by rw [hg, hi]), h.wrn.cel (by rw [hg, hi])⟩), h.lif.same (fun i hi => eo i (fun x => (h.dL i hi).2.1 (by rw [hg, x]))), by rw [e]; exact hw.set j x, by simpa using h.wlen,
    h.bad.same (fun g' hg' => eo g' (fun x => h.dW.2.2 g hg (by rw [hg', x]))), h.low, h.pos, h.dC, h.dL, h.dW⟩
/-- other noted ones: the slice has grown, and is kept -/
theorem Wtr.badTo {w w1 : World} {A X} (h : Wtr w A X) {v : Value} {l : List Int} (hv : Ints w1 A.lo v l) (g : w.grownBy w1 A.bv.ownBlock) (hb : v.ownBlock = none ∨ v.ownBlock = A.bv.ownBlock ∨ ∃ i, v.ownBlock = some i ∧ w.heap.size ≤ i) :
    Wtr (w1.setCell ⟨A.a, 3, none⟩ v) { A with bv := v } { X with bd := l } ∧ Kp (A.own X.C.B) w (w1.setCell ⟨A.a, 3, none⟩ v) ∧ ∀ i, ({ A with bv := v } : Wl).own X.C.B i → A.own X.C.B i ∨ w.heap.size ≤ i := by
  have k1 : Kp (A.own X.C.B) w w1 := Kp.ofGrown g (fun i hi => .inr (.inr (.inr (.inr hi))))
  have k2 : Kp (A.own X.C.B) w (w1.setCell ⟨A.a, 3, none⟩ v) := k1.setCell (p := ⟨A.a, 3, none⟩) (.inl rfl) v
  have kb : Kp (fun i => A.bv.ownBlock = some i) w w1 := Kp.ofGrown g (fun i hi => hi)
  have e1 : ∀ i, i < w.heap.size → A.bv.ownBlock ≠ some i → w1.heap[i]? = w.heap[i]? := fun i hi hn => g.block i hi (fun e => hn e.symm)
  have ht1 := (e1 A.a (h.lt _ (.inl rfl)) h.dW.2.1).trans h.top
  have e2 : ∀ i, i ≠ A.a → (w1.setCell ⟨A.a, 3, none⟩ v).heap[i]? = w1.heap[i]? := fun i hi => Below.heap_setCell w1 _ _ i hi
  have c1 : Chip w1 A.L X.C := h.chip.off kb (fun i hi => ⟨fun x => (h.dC _ x).2.2.2 hi, h.bad.cel hi⟩)
  have ka : Kp (fun i => i = A.a) w1 (w1.setCell ⟨A.a, 3, none⟩ v) := Kp.setCell (S := fun i => i = A.a) (Kp.refl _ w1) (p := ⟨A.a, 3, none⟩) rfl v
  have ne : ∀ i, A.own X.C.B i → ¬ A.bv.ownBlock = some i → v.ownBlock ≠ some i := fun i hi hn e => by
    rcases hb with hb | hb | ⟨j, hb, hj⟩
    · rw [hb] at e; cases e
    · exact hn (hb ▸ e)
    · rw [hb] at e
      have := h.lt i hi
      simp only [Option.some.injEq] at e
      omega
  have own' : ∀ i, ({ A with bv := v } : Wl).own X.C.B i → A.own X.C.B i ∨ w.heap.size ≤ i := by
    rintro i (hi | hi | hi | hi | hi)
    · exact .inl (.inl hi)
    · exact .inl (.inr (.inl hi))
    · exact .inl (.inr (.inr (.inl hi)))
    · exact .inl (.inr (.inr (.inr (.inl hi))))
    · rcases hb with hb | hb | ⟨j, hb, hj⟩
      · rw [show ({ A with bv := v } : Wl).bv = v from rfl, hb] at hi; cases hi
      · exact .inl (.inr (.inr (.inr (.inr (hb ▸ hi)))))
      · rw [show ({ A with bv := v } : Wl).bv = v from rfl, hb] at hi
        simp only [Option.some.injEq] at hi
        exact .inr (by omega)
  refine ⟨⟨?_, c1.off ka (fun i hi => ⟨fun x => (h.dC _ x).1 hi, hi ▸ ⟨_, _, _, ht1⟩⟩), ?_, ?_, h.wlen, ?_, fun i hi => ?_, h.pos, fun i hi => ⟨(h.dC i hi).1, (h.dC i hi).2.1, (h.dC i hi).2.2.1, ne i (.inr (.inl hi)) (h.dC i hi).2.2.2⟩, fun i hi => ⟨(h.dL i hi).1, (h.dL i hi).2.1, ne i (.inr (.inr (.inl hi))) (h.dL i hi).2.2⟩,
    h.dW.1, ne _ (.inl rfl) h.dW.2.1, fun i hi => ne i (.inr (.inr (.inr (.inl hi)))) (h.dW.2.2 i hi)⟩, k2, own'⟩
  · exact heap_setCell_same w1 A.a 3 _ 89 _ ht1
  · exact h.lif.same (fun i hi => (e2 i (h.dL i hi).1).trans (e1 i (h.lif.lt i hi) (h.dL i hi).2.2))
  · exact h.wrn.same (fun g hg => (e2 g (fun x => h.dW.1 (x ▸ hg))).trans (e1 g (h.lt g (.inr (.inr (.inr (.inl hg))))) (h.dW.2.2 g hg)))
  · exact hv.same (fun g hg => e2 g (fun x => ne _ (.inl rfl) h.dW.2.1 (x ▸ hg)))
  · rcases own' i hi with q | q
    · exact h.low i q
    · have := (h.low _ (.inl rfl)); have := h.lt _ (.inl rfl); show A.lo ≤ i; omega
theorem Wtr.cells {w : World} {A X} (h : Wtr w A X) : w.cell? ⟨A.a, 0, none⟩ = some (.pointer (some ⟨A.L.a, 0, none⟩)) ∧ w.cell? ⟨A.a, 1, none⟩ = some (.pointer (some ⟨A.la, 0, none⟩)) ∧ w.cell? ⟨A.a, 2, none⟩ = some A.wv ∧ w.cell? ⟨A.a, 3, none⟩ = some A.bv ∧ w.frozen? ⟨A.a, 3, none⟩ = false := by
  refine ⟨?_, ?_, ?_, ?_, frozen_of_row w A.a 3 _ 89 h.top⟩ <;> (rw [cell_of_row w A.a _ _ 89 _ h.top]; rfl)
end Go.Proofs.YtbhggcleijjofaaDoor
