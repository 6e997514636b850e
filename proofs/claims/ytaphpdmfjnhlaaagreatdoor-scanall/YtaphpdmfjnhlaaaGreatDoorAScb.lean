/-
  ScanAll: what its loops hold. No condition.
-/
import Derived.Test.YtaphpdmfjnhlaaaGreatDoorASca
namespace Go.Proofs.YtaphpdmfjnhlaaaGreatDoor
open Go Go.RowKit
set_option maxRecDepth 100000
structure ScS (w w1 : World) (L : Ly) (C : Ch) (l : List Fd) (v : Value) (wr : World) : Prop where
 chip : Chip wr L C
 pls : Pls C l
 out : We.Ow wr w1.heap.size 70 8 v (l.map Fd.row)
 tab : Pg.Tab wr
 below : Below w.heap.size w wr
 own : ∀ i, L.own 8 i -> w.heap.size < i /\ i < w1.heap.size
 pos : 0 < w.heap.size
 le : w.heap.size <= w1.heap.size
 sz : w1.heap.size <= wr.heap.size
section
variable {w w1 : World} {L : Ly} {C : Ch} {l : List Fd} {v v2 : Value} {wr w2 w3 : World}
theorem ScS.call (h : ScS w w1 L C l v wr) (b : Below wr.heap.size wr w2) : ScS w w1 L C l v w2 :=
 ⟨h.chip.call b, h.pls, h.out.call b, h.tab.call b, below3 h.below b, h.own, h.pos, h.le, Nat.le_trans h.sz b.size⟩
theorem ScS.more (h : ScS w w1 L C l v wr) {f : Fd} (hp : Pls C (l ++ [f])) (q1 : We.Ow w3 w1.heap.size 70 8 v2 (l.map Fd.row ++ [f.row])) (q2 : wr.grownBy w3 v.ownBlock) : ScS w w1 L C (l ++ [f]) v2 w3 := by
 have hX : ∀ j, v.ownBlock = some j -> w1.heap.size <= j := fun j hj => (h.out.lt j hj).1
 have k1 : Kp (fun i => v.ownBlock = some i) wr w3 := Kp.ofGrown q2 (fun i hi => hi)
 have hc : ∀ i, v.ownBlock = some i -> Cel wr i := fun i hi => by
  rcases h.out.own.2 with ⟨rfl, _⟩ | ⟨g', cap, cur, rfl, _, hg, _⟩
  ·cases hi
  ·obtain rfl : g' = i := by simpa [Value.ownBlock] using hi
   exact ⟨_, _, _, hg⟩
 have hle := h.le
 have hpos := h.pos
 have hB : C.B = 8 := h.pls.geo.1
 refine ⟨h.chip.off k1 (fun i hi => ⟨fun q => ?_, hc i hi⟩), hp, by rw [List.map_append]; exact q1, Tab.off h.tab k1 (fun hi => ?_), h.below.grown q2 h.below.size (fun j hj => Nat.le_trans hle (hX j hj)), h.own, h.pos, h.le, Nat.le_trans h.sz k1.size⟩
 ·rw [hB] at q
  have := hX i hi
  have := (h.own i q).2
  omega
 ·have := hX 0 hi
  omega
def FB (w : World) (g : Nat) (f : Fd) : Prop := w.heap[g]? = some (.cells f.row.toArray 70 (0, 0))
theorem FB.cells {w : World} {g : Nat} {f : Fd} (h : FB w g f) : w.cell? ⟨g, 0, none⟩ = some (.int .i64 f.a) /\ w.cell? ⟨g, 1, none⟩ = some (.int .i64 f.c) /\ w.cell? ⟨g, 2, none⟩ = some (.int .i64 f.K) /\ w.cell? ⟨g, 3, none⟩ = some (.int .u64 f.S) /\ w.cell? ⟨g, 4, none⟩ = some (.int .i64 f.I) /\ w.cell? ⟨g, 5, none⟩ = some (.int .i64 f.O) /\ w.cell? ⟨g, 6, none⟩ = some (.int .i64 f.W) /\ w.cell? ⟨g, 7, none⟩ = some (.string f.t) := by
 refine ⟨?_, ?_, ?_, ?_, ?_, ?_, ?_, ?_⟩ <;> (rw [cell_of_row w g _ _ 70 _ h]; rfl)
end
end Go.Proofs.YtaphpdmfjnhlaaaGreatDoor
