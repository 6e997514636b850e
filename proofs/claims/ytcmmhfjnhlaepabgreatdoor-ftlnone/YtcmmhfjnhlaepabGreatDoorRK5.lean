/-
  What blocks are, said plainly, and in memory: the block of a Life and the row of what its blocks are; what stores and calls leave of both. No condition. The walks of what only reads a Life: Is, Count, slices.Index, At, Room; of New, and of all without a Life. No condition. The walks of Room, New, Open, let, Full, Free, Bad and Take; all of them without a Life. No condition. Blocks and how often they were erased, in memory: which is the least one, and the greatest count; the walks of Least, greatest, above, Spread. No condition. Slices of numbers: where one stands, whether one is there, another slice of the same. No condition. A writer: said plainly, and in memory; what stores and calls leave of it. No condition. The walk of Wears: which blocks are one of these, with their counts. No condition. Which free block is opened; the walk of take. No condition. The walks of hasBlock and program. Condition of the second: the table's cells hold what the text lays. The walks of retire and leave. No condition. The walk of Append. Condition: the table's cells hold what the text lays.
-/
import Derived.Test.YtcmmhfjnhlaepabGreatDoorRows
import Derived.Test.YtcmmhfjnhlaepabGreatDoorRK1
import Derived.WalkSpells
import Derived.WalkLawsBesides
import Derived.Deep.QuietTactic
import Derived.BigQuiet
import Derived.Deep.Cut
import Derived.Lib.SliceRun
import Derived.Test.YtcmmhfjnhlaepabGreatDoorRK3
import Derived.Test.YtcmmhfjnhlaepabGreatDoorRK2
namespace Go.Proofs.YtcmmhfjnhlaepabGreatDoor.Lf
open Go Go.RowKit
structure Ok (n k : Nat) (xs : List Int) (o nx : Int) : Prop where
 len : xs.length = n
 nb : 1 <= n /\ n <= 32
 kb : 1 <= k /\ k <= 16
 kind : ∀ i, i < n -> 0 <= xs.getD i 0 /\ xs.getD i 0 <= 3
 opn : ∀ i : Nat, i < n -> (xs.getD i 0 = 1 ↔ (i : Int) = o)
 or : -1 <= o /\ o < n
 nxr : 0 <= nx /\ nx <= k
 nxo : 0 <= o -> nx < k
theorem getD_set (xs : List Int) (i j : Nat) (v : Int) (h : j < xs.length) : (xs.set j v).getD i 0 = if i = j then v else xs.getD i 0 := by
 rw [List.getD_eq_getElem?_getD, List.getD_eq_getElem?_getD, List.getElem?_set]
 by_cases e : j = i
 ·subst e; simp [h]
 ·rw [if_neg e, if_neg (fun x => e x.symm)]
theorem Ok.free (n k : Nat) (hn : 1 <= n /\ n <= 32) (hk : 1 <= k /\ k <= 16) : Ok n k (List.replicate n 0) (-1) 0 := by
 have hg : ∀ i, i < n -> (List.replicate n (0 : Int)).getD i 0 = 0 := fun i hi => by simp [List.getD_eq_getElem?_getD, hi]
 exact ⟨by simp, hn, hk, fun i hi => by rw [hg i hi]; omega, fun i hi => by rw [hg i hi]; omega, by omega, by omega, by omega⟩
theorem Ok.opened {n k : Nat} {xs : List Int} {nx : Int} (h : Ok n k xs (-1) nx) (j : Nat) (hj : j < n) : Ok n k (xs.set j 1) j 0 := by
 have hkb := h.kb
 have hg := fun i => getD_set xs i j 1 (by rw [h.len]; exact hj)
 refine ⟨by simpa using h.len, h.nb, h.kb, fun i hi => ?_, fun i hi => ?_, by omega, by omega, by omega⟩
 ·rw [hg i]; have := h.kind i hi; split <;> omega
 ·rw [hg i]; have := h.opn i hi
  by_cases e : i = j
  ·rw [if_pos e]; subst e; simp
  ·rw [if_neg e]; omega
theorem Ok.laid {n k : Nat} {xs : List Int} {o nx : Int} (h : Ok n k xs o nx) (j : Nat) (hj : j < n) (v : Int) (hv : 0 <= v /\ v <= 3) (h1 : v ≠ 1) : Ok n k (xs.set j v) (if o = j then -1 else o) nx := by
 have hg := fun i => getD_set xs i j v (by rw [h.len]; exact hj)
 have ho := h.or
 refine ⟨by simpa using h.len, h.nb, h.kb, fun i hi => ?_, fun i hi => ?_, by split <;> omega, h.nxr, fun hx => h.nxo (by split at hx <;> omega)⟩
 ·rw [hg i]; have := h.kind i hi; split <;> omega
 ·rw [hg i]; have := h.opn i hi
  by_cases e : i = j
  ·rw [if_pos e]; subst e; split <;> omega
  ·rw [if_neg e, this]; split <;> omega
theorem Ok.more {n k : Nat} {xs : List Int} {o nx : Int} (h : Ok n k xs o nx) (hx : nx + 1 < k) : Ok n k xs o (nx + 1) := by
 have := h.nxr
 exact ⟨h.len, h.nb, h.kb, h.kind, h.opn, h.or, by omega, fun _ => hx⟩
theorem Ok.last {n k : Nat} {xs : List Int} {o nx : Int} (h : Ok n k xs o nx) (j : Nat) (ho : o = j) (hx : nx + 1 = k) : Ok n k (xs.set j 2) (-1) (nx + 1) := by
 have h1 := h.or
 have h2 := h.nxr
 have := h.laid j (by omega) 2 (by omega) (by omega)
 rw [if_pos ho] at this
 exact ⟨this.len, this.nb, this.kb, this.kind, this.opn, this.or, by omega, by omega⟩
theorem Ok.open_at {n k : Nat} {xs : List Int} {o nx : Int} (h : Ok n k xs o nx) (j : Nat) (ho : o = j) : j < n /\ xs.getD j 0 = 1 := by
 have := h.or
 exact ⟨by omega, (h.opn j (by omega)).2 ho.symm⟩
def isL (xs : List Int) (b : Int) : Int := if 0 <= b /\ b < xs.length then xs.getD b.toNat 0 else -1
theorem isL_in (xs : List Int) (j : Nat) (h : j < xs.length) : isL xs j = xs.getD j 0 := by
 unfold isL; rw [if_pos (by omega), Int.toNat_natCast]
theorem isL_out (xs : List Int) (b : Int) (h : ¬ (0 <= b /\ b < xs.length)) : isL xs b = -1 := by unfold isL; rw [if_neg h]
def cnt (xs : List Int) (v : Int) : Int := (xs.countP (fun x => decide (x = v)) : Nat)
theorem cnt_range (xs : List Int) (v : Int) : 0 <= cnt xs v /\ cnt xs v <= xs.length := by
 unfold cnt; have := List.countP_le_length (p := fun x => decide (x = v)) (l := xs); omega
theorem cnt_snoc (xs : List Int) (x v : Int) : cnt (xs ++ [x]) v = cnt xs v + if x = v then 1 else 0 := by
 unfold cnt; rw [List.countP_append]; by_cases e : x = v <;> simp [e]
theorem take_snoc (xs : List Int) (i : Nat) (h : i < xs.length) : xs.take (i + 1) = xs.take i ++ [xs.getD i 0] := by
 rw [List.take_add_one, List.getElem?_eq_getElem h]; simp [List.getD_eq_getElem?_getD, h]
theorem cnt_take (xs : List Int) (i : Nat) (h : i < xs.length) (v : Int) : cnt (xs.take (i + 1)) v = cnt (xs.take i) v + if xs.getD i 0 = v then 1 else 0 := by
 rw [take_snoc xs i h, cnt_snoc]
theorem cnt_set (xs : List Int) (j : Nat) (h : j < xs.length) (v u : Int) : cnt (xs.set j v) u = cnt xs u - (if xs.getD j 0 = u then 1 else 0) + if v = u then 1 else 0 := by
 induction xs generalizing j with
 | nil => simp at h
 | cons x r ih =>
  cases j with
  | zero =>
   unfold cnt
   simp only [List.set_cons_zero, List.countP_cons, List.getD_cons_zero]
   by_cases e1 : x = u <;> by_cases e2 : v = u <;> simp [e1, e2] <;> omega
  | succ j =>
   have := ih j (by simpa using h)
   unfold cnt at this |-
   simp only [List.set_cons_succ, List.countP_cons, List.getD_cons_succ]
   generalize r.getD j 0 = y at this |-
   by_cases e1 : x = u <;> simp [e1] <;> omega
theorem cnt_zero (xs : List Int) (v : Int) (h : ∀ i, i < xs.length -> xs.getD i 0 ≠ v) : cnt xs v = 0 := by
 unfold cnt
 have : xs.countP (fun x => decide (x = v)) = 0 := by
  rw [List.countP_eq_zero]
  intro x hx
  obtain ⟨i, hi, rfl⟩ := List.mem_iff_getElem.1 hx
  have := h i hi
  simpa [List.getD_eq_getElem?_getD, hi] using this
 omega
theorem cnt_pos (xs : List Int) (v : Int) (i : Nat) (hi : i < xs.length) (h : xs.getD i 0 = v) : 0 < cnt xs v := by
 unfold cnt
 have : 0 < xs.countP (fun x => decide (x = v)) := by
  rw [List.countP_pos_iff]
  refine ⟨xs[i], List.getElem_mem _, ?_⟩
  simpa [List.getD_eq_getElem?_getD, hi] using h
 omega
theorem Ok.cnt_one {n k : Nat} {xs : List Int} {o nx : Int} (h : Ok n k xs o nx) : 0 < cnt xs 1 ↔ 0 <= o := by
 have ho := h.or
 constructor
 ·intro hc
  refine Decidable.byContradiction fun hn => ?_
  rw [cnt_zero xs 1 (fun i hi e => by have := (h.opn i (by rw [<- h.len]; exact hi)).1 e; omega)] at hc
  omega
 ·intro hp
  obtain ⟨j, hj⟩ := Int.eq_ofNat_of_zero_le hp
  obtain ⟨h1, h2⟩ := h.open_at j hj
  exact cnt_pos xs 1 j (by rw [h.len]; exact h1) h2
def roomL (k : Nat) (xs : List Int) (o nx : Int) : Int := cnt xs 0 * k + if 0 <= o then k - nx else 0
theorem mul_range {a b A B : Int} (ha : 0 <= a /\ a <= A) (hb : 0 <= b /\ b <= B) : 0 <= a * b /\ a * b <= A * B :=
 ⟨Int.mul_nonneg ha.1 hb.1, Int.mul_le_mul ha.2 hb.2 hb.1 (by omega)⟩
structure Lif (w : World) (a g n k : Nat) (xs : List Int) (o nx : Int) : Prop where
 top : w.heap[a]? = some (.cells #[.slice (some ⟨g, 0, none⟩) n n, .int .i64 k, .int .i64 nx] 158 (0, 0))
 row : Row w g 3 .i64 xs
 ne : g ≠ a
 ok : Ok n k xs o nx
def ownL (a g : Nat) (i : Nat) : Prop := i = a \/ i = g
theorem Lif.lt {w : World} {a g n k xs o nx} (h : Lif w a g n k xs o nx) : ∀ i, ownL a g i -> i < w.heap.size := by
 rintro i (rfl | rfl)
 ·exact (Array.getElem?_eq_some_iff.1 h.top).1
 ·exact h.row.lt
theorem Lif.same {w w' : World} {a g n k xs o nx} (h : Lif w a g n k xs o nx) (e : ∀ i, ownL a g i -> w'.heap[i]? = w.heap[i]?) : Lif w' a g n k xs o nx :=
 ⟨(e a (.inl rfl)).trans h.top, (e g (.inr rfl)).trans h.row, h.ne, h.ok⟩
theorem Lif.call {w w' : World} {a g n k xs o nx} (h : Lif w a g n k xs o nx) (b : Below w.heap.size w w') : Lif w' a g n k xs o nx := h.same (fun i hi => b.block i (h.lt i hi))
theorem Lif.drew {w : World} {a g n k xs o nx} (h : Lif w a g n k xs o nx) : Lif w.drew a g n k xs o nx := h.same (fun _ _ => rfl)
theorem Lif.drewN {w : World} {a g n k xs o nx} (h : Lif w a g n k xs o nx) (m : Nat) : Lif (w.drewN m) a g n k xs o nx := h.same (fun _ _ => rfl)
theorem Lif.cells {w : World} {a g n k xs o nx} (h : Lif w a g n k xs o nx) : w.cell? ⟨a, 0, none⟩ = some (.slice (some ⟨g, 0, none⟩) n n) /\ w.cell? ⟨a, 1, none⟩ = some (.int .i64 k) /\ w.cell? ⟨a, 2, none⟩ = some (.int .i64 nx) /\ w.frozen? ⟨a, 2, none⟩ = false := by
 refine ⟨?_, ?_, ?_, frozen_of_row w a 2 _ 158 h.top⟩ <;> (rw [cell_of_row w a _ _ 158 _ h.top]; rfl)
theorem Lif.at {w : World} {a g n k xs o nx} (h : Lif w a g n k xs o nx) (j : Nat) (hj : j < n) : w.cell? ⟨g, j, none⟩ = some (.int .i64 (xs.getD j 0)) := h.row.cell j (by rw [h.ok.len]; exact hj)
theorem Lif.set {w : World} {a g n k xs o nx} (h : Lif w a g n k xs o nx) (j : Nat) (v : Int) {o' nx' : Int} (hk : Ok n k (xs.set j v) o' nx') (e : nx' = nx) : Lif (w.setCell ⟨g, j, none⟩ (.int .i64 v)) a g n k (xs.set j v) o' nx' := by
 subst e
 refine ⟨(Below.heap_setCell w _ _ a (fun x => h.ne x.symm)).trans h.top, h.row.stored j v, h.ne, hk⟩
theorem Lif.next {w : World} {a g n k xs o nx} (h : Lif w a g n k xs o nx) {o' nx' : Int} (hk : Ok n k xs o' nx') : Lif (w.setCell ⟨a, 2, none⟩ (.int .i64 nx')) a g n k xs o' nx' := by
 refine ⟨?_, h.row.other (a := ⟨a, 2, none⟩) (fun x => h.ne x.symm) _, h.ne, hk⟩
 exact heap_setCell_same w a 2 _ 158 _ h.top
theorem Lif.both {w : World} {a g n k xs o nx} (h : Lif w a g n k xs o nx) (j : Nat) (v : Int) {o' nx' : Int} (hk : Ok n k (xs.set j v) o' nx') : Lif ((w.setCell ⟨g, j, none⟩ (.int .i64 v)).setCell ⟨a, 2, none⟩ (.int .i64 nx')) a g n k (xs.set j v) o' nx' := by
 refine ⟨?_, (h.row.stored j v).other (a := ⟨a, 2, none⟩) (fun x => h.ne x.symm) _, h.ne, hk⟩
 exact heap_setCell_same _ a 2 _ 158 _ ((Below.heap_setCell w _ _ a (fun x => h.ne x.symm)).trans h.top)
theorem Lif.both' {w : World} {a g n k xs o nx} (h : Lif w a g n k xs o nx) (j : Nat) (v : Int) {o' nx' : Int} (hk : Ok n k (xs.set j v) o' nx') : Lif ((w.setCell ⟨a, 2, none⟩ (.int .i64 nx')).setCell ⟨g, j, none⟩ (.int .i64 v)) a g n k (xs.set j v) o' nx' := by
 refine ⟨?_, (h.row.other (a := ⟨a, 2, none⟩) (fun x => h.ne x.symm) _).stored j v, h.ne, hk⟩
 exact (Below.heap_setCell _ _ _ a (fun x => h.ne x.symm)).trans (heap_setCell_same w a 2 _ 158 _ h.top)
theorem is_any {w : World} {a g n k xs o nx} (h : Lif w a g n k xs o nx) (b : Int) : Calls Tryz.prog 90 #[.pointer (some ⟨a, 0, none⟩), .int .i64 b] w fun e w' => e = .returned (.int .i64 (isL xs b)) /\ w' = w := by
 obtain ⟨c0, c1, c2, f2⟩ := h.cells
 have hl := h.ok.len
 have hnb := h.ok.nb
 by_cases h0 : 0 <= b
 ·by_cases h1 : b < n
  ·obtain ⟨j, rfl⟩ := Int.eq_ofNat_of_zero_le h0
   have hj : j < n := by omega
   have cj := h.at j hj
   rw [isL_in xs j (by omega)]
   generalize xs.getD j 0 = x at *
   clear h hl
   go_enter Tryz.func90, Tryz.ntmps90
   go_wp2
   go_ret
   exact ⟨rfl, rfl⟩
  ·rw [isL_out xs b (by omega)]
   clear h hl
   go_enter Tryz.func90, Tryz.ntmps90
   go_wp2
   go_ret
   exact ⟨rfl, rfl⟩
 ·rw [isL_out xs b (by omega)]
  clear h hl
  go_enter Tryz.func90, Tryz.ntmps90
  go_wp2
  go_ret
  exact ⟨rfl, rfl⟩
theorem ret_int {k : IntKind} {a b : Int} (h : a = b) : Ending.returned (.int k a) = .returned (.int k b) := by rw [h]
theorem count_any {w : World} {a g n k xs o nx} (h : Lif w a g n k xs o nx) (v : Int) : Calls Tryz.prog 100 #[.pointer (some ⟨a, 0, none⟩), .int .i64 v] w fun e w' => e = .returned (.int .i64 (cnt xs v)) /\ w' = w := by
 obtain ⟨c0, c1, c2, f2⟩ := h.cells
 have hl := h.ok.len
 have hnb := h.ok.nb
 have H := Hid.mk h
 have HL := Hid.mk hl
 clear h hl
 go_enter Tryz.func100, Tryz.ntmps100
 go_wp2
 go_loop [5, 15] (fun s i => ∃ j : Nat, j <= n /\ i = .int .i64 j /\ s = .int .i64 (cnt (xs.take j) v)) (fun _ i => n - (intOf i).toNat)
 case atStart => exact ⟨0, Nat.zero_le _, rfl, rfl⟩
 case round =>
  obtain ⟨j, hj, rfl, rfl⟩ := hrel
  by_cases hlt : j < n
  ·have cj := H.out.at j hlt
   have hr := cnt_range (xs.take j) v
   have hr2 : (xs.take j).length <= 32 := by rw [List.length_take, HL.out]; omega
   have hs := Hid.mk (cnt_take xs j (by rw [HL.out]; exact hlt) v)
   generalize xs.getD j 0 = x at *
   have hlt1 : (j : Int) < n := by omega
   by_cases hx : x = v
   ·rw [if_pos hx] at hs
    subst hx
    generalize cnt (List.take j xs) x = c at *
    go_wp2
    refine ⟨⟨j + 1, by omega, by go_num, ?_⟩, by simp [intOf]; omega⟩
    rw [hs.out]
   ·rw [if_neg hx] at hs
    generalize cnt (List.take j xs) v = c at *
    go_wp2
    refine ⟨⟨j + 1, by omega, by go_num, ?_⟩, by simp [intOf]; omega⟩
    rw [hs.out, Int.add_zero]
  ·have hlt1 : ¬ (j : Int) < n := by omega
   go_wp2
   go_ret
   exact ⟨ret_int (by rw [List.take_of_length_le (by rw [HL.out]; omega)]), rfl⟩
theorem index_any {w : World} {a g n k xs o nx} (h : Lif w a g n k xs o nx) : Calls Tryz.prog 149 #[.slice (some ⟨g, 0, none⟩) n n, .int .i64 1] w fun e w' => e = .returned (.int .i64 o) /\ w' = w := by
 have hnb := h.ok.nb
 have ho := h.ok.or
 have H := Hid.mk h
 clear h
 go_enter Tryz.func149, Tryz.ntmps149
 go_wp2
 go_loop [8] (fun i => ∃ j : Nat, j <= n /\ i = .int .i64 j /\ (o < 0 \/ (j : Int) <= o)) (fun i => n - (intOf i).toNat)
 case atStart => exact ⟨0, Nat.zero_le _, rfl, by omega⟩
 case round =>
  obtain ⟨j, hj, rfl, hjo⟩ := hrel
  by_cases hlt : j < n
  ·have cj := H.out.at j hlt
   have hp := H.out.ok.opn j hlt
   generalize xs.getD j 0 = x at *
   have hlt1 : (j : Int) < n := by omega
   by_cases hx : x = 1
   ·subst hx
    have hq : (j : Int) = o := hp.1 rfl
    clear hp
    subst hq
    go_wp2
    go_ret
    exact ⟨rfl, rfl⟩
   ·have hx2 : ¬ (1 : Int) = x := fun e => hx e.symm
    have hq : ¬ (j : Int) = o := fun e => hx (hp.2 e)
    clear hp
    go_wp2
    exact ⟨⟨j + 1, by omega, by go_num, by omega⟩, by simp [intOf]; omega⟩
  ·have hlt1 : ¬ (j : Int) < n := by omega
   have hq : o = -1 := by omega
   subst hq
   go_wp2
   go_ret
   exact ⟨rfl, rfl⟩
theorem at_some {w : World} {a g n k xs o nx} (h : Lif w a g n k xs o nx) (ho : 0 <= o) : Calls Tryz.prog 101 #[.pointer (some ⟨a, 0, none⟩)] w fun e w' => e = .returned (.tuple #[.int .i64 o, .int .i64 nx, .bool true]) /\ ∃ m, w' = w.drewN m := by
 obtain ⟨c0, c1, c2, f2⟩ := h.cells
 have H := Hid.mk h
 clear h
 go_enter Tryz.func101, Tryz.ntmps101
 go_wp2_with (go_at_call 149; refine (index_any H.out).mono ?_; rintro e w' ⟨rfl, rfl⟩)
 go_region
 go_wp2
 go_ret3
 exact ⟨rfl, _, rfl⟩
theorem at_none {w : World} {a g n k xs o nx} (h : Lif w a g n k xs o nx) (ho : o = -1) : Calls Tryz.prog 101 #[.pointer (some ⟨a, 0, none⟩)] w fun e w' => e = .returned (.tuple #[.int .i64 0, .int .i64 0, .bool false]) /\ w' = w := by
 subst ho
 obtain ⟨c0, c1, c2, f2⟩ := h.cells
 have H := Hid.mk h
 clear h
 go_enter Tryz.func101, Tryz.ntmps101
 go_wp2_with (go_at_call 149; refine (index_any H.out).mono ?_; rintro e w' ⟨rfl, rfl⟩)
 go_ret3
 exact ⟨rfl, rfl⟩
theorem drewN_drewN (w : World) (a b : Nat) : (w.drewN a).drewN b = w.drewN (a + b) := by
 induction b with
 | zero => rfl
 | succ b ih => show ((w.drewN a).drewN b).drew = (w.drewN (a + b)).drew; rw [ih]
theorem Tryz.info3 : (Tryz.prog.info? 3).map (fun i => (i.zero, i.size, i.bytes)) = some (some (.int .i64 0), 1, 8) := by kernel_rfl
theorem madeRow (n : Nat) : madeCells #[.int .i64 0] n = cellsOf .i64 (List.replicate n 0) := by
 unfold madeCells cellsOf
 apply Array.ext
 ·simp
 ·intro i h1 h2
  simp [Nat.mod_one]
theorem new_any (n k : Nat) (hn : 1 <= n /\ n <= 32) (hk : 1 <= k /\ k <= 16) (w : World) : Calls Tryz.prog 62 #[.int .i64 n, .int .i64 k] w fun e w' =>
  ∃ a g, e = .returned (.tuple #[.pointer (some ⟨a, 0, none⟩), .int .i64 0]) /\ Lif w' a g n k (List.replicate n 0) (-1) 0 /\ Below w.heap.size w w' /\ ∀ i, ownL a g i -> w.heap.size <= i := by
 have hmk := run_make_row' (P := Tryz.prog) 30 3 (.int .i64 0) 8 Tryz.underlying30 Tryz.info3 rfl .i64 .i64 n (by omega) (by omega)
 rw [madeRow] at hmk
 go_enter Tryz.func62, Tryz.ntmps62
 go_wp2
 go_ret2
 have hr := Row.fresh w 3 .i64 (List.replicate n 0)
 have hb := (Below.refl w.heap.size w).alloc (Nat.le_refl _) (.cells (cellsOf .i64 (List.replicate n 0)) 3)
 have hz := size_alloc w (.cells (cellsOf .i64 (List.replicate n 0)) 3)
 generalize w.alloc (.cells (cellsOf .i64 (List.replicate n 0)) 3) = W at *
 refine ⟨w.heap.size + 1, w.heap.size, rfl, ⟨?_, hr.alloc _, by omega, Ok.free n k hn hk⟩, hb.alloc hb.size _, ?_⟩
 ·rw [<- hz]; exact heap_alloc_new W _
 ·rintro i (rfl | rfl) <;> omega
theorem open_yes {w : World} {a g n k xs o nx} (h : Lif w a g n k xs o nx) (j : Nat) (hj : j < n) (hx : xs.getD j 0 = 0) (ho : o = -1) : Calls Tryz.prog 221 #[.pointer (some ⟨a, 0, none⟩), .int .i64 j] w fun e w' =>
  e = .returned (.bool true) /\ Lif w' a g n k (xs.set j 1) j 0 /\ Kp (ownL a g) w w' := by
 subst ho
 obtain ⟨c0, c1, c2, f2⟩ := h.cells
 have hnb := h.ok.nb
 have hi := is_any h j
 rw [isL_in xs j (by rw [h.ok.len]; exact hj), hx] at hi
 have hc := count_any h 1
 have hc0 : cnt xs 1 = 0 := by have := h.ok.cnt_one; have := cnt_range xs 1; omega
 rw [hc0] at hc
 have cj := h.at j hj
 have fj := h.row.frozen j
 have hne := h.ne
 have H := Hid.mk h
 have HI := Hid.mk hi
 have HC := Hid.mk hc
 clear h hi hc hc0
 have hj1 : (j : Int) < n := by omega
 rw [hx] at cj
 clear hx
 go_enter Tryz.func221, Tryz.ntmps221
 go_wp2_with (first
  | (go_at_call 90; refine HI.out.mono ?_; rintro e w' ⟨rfl, rfl⟩)
  | (go_at_call 100; refine HC.out.mono ?_; rintro e w' ⟨rfl, rfl⟩))
 go_ret
 refine ⟨rfl, ?_, ?_⟩
 ·exact H.out.both j 1 (H.out.ok.opened j hj)
 ·exact ((Kp.refl _ _).setCell (p := ⟨g, j, none⟩) (Or.inr rfl) _).setCell (p := ⟨a, 2, none⟩) (Or.inl rfl) _
theorem let_yes {w : World} {a g n k xs o nx} (h : Lif w a g n k xs o nx) (j : Nat) (hj : j < n) (hx : xs.getD j 0 ≠ 3) (v : Int) (hv : 0 <= v /\ v <= 3) (h1 : v ≠ 1) : Calls Tryz.prog 155 #[.pointer (some ⟨a, 0, none⟩), .int .i64 j, .int .i64 v] w fun e w' =>
  e = .returned (.bool true) /\ Lif w' a g n k (xs.set j v) (if o = j then -1 else o) nx /\ Kp (ownL a g) w w' := by
 obtain ⟨c0, c1, c2, f2⟩ := h.cells
 have hnb := h.ok.nb
 have hi := is_any h j
 rw [isL_in xs j (by rw [h.ok.len]; exact hj)] at hi
 have hk := h.ok.kind j hj
 have cj := h.at j hj
 have fj := h.row.frozen j
 have hne := h.ne
 have HL := Hid.mk (h.ok.laid j hj v hv h1)
 have H := Hid.mk h
 have HI := Hid.mk hi
 clear h hi h1
 generalize (if o = (j : Int) then (-1 : Int) else o) = o' at *
 have hj1 : (j : Int) < n := by omega
 generalize xs.getD j 0 = x at *
 have hx0 : ¬ x < 0 := by omega
 replace hx : (x == 3) = false := by simpa using hx
 clear hk hv
 go_enter Tryz.func155, Tryz.ntmps155
 go_wp2_with (go_at_call 90; refine HI.out.mono ?_; rintro e w' ⟨rfl, rfl⟩)
 go_ret
 exact ⟨rfl, H.out.set j v HL.out rfl, (Kp.refl _ _).setCell (p := ⟨g, j, none⟩) (Or.inr rfl) _⟩
theorem let_no {w : World} {a g n k xs o nx} (h : Lif w a g n k xs o nx) (b : Int) (hx : isL xs b < 0 \/ isL xs b = 3) (v : Int) : Calls Tryz.prog 155 #[.pointer (some ⟨a, 0, none⟩), .int .i64 b, .int .i64 v] w fun e w' => e = .returned (.bool false) /\ w' = w := by
 have HI := Hid.mk (is_any h b)
 clear h
 generalize isL xs b = x at *
 by_cases h0 : x < 0
 ·clear hx
  go_enter Tryz.func155, Tryz.ntmps155
  go_wp2_with (go_at_call 90; refine HI.out.mono ?_; rintro e w' ⟨rfl, rfl⟩)
  go_ret
  exact ⟨rfl, rfl⟩
 ·have h3 : x = 3 := by omega
  clear hx h0
  subst h3
  go_enter Tryz.func155, Tryz.ntmps155
  go_wp2_with (go_at_call 90; refine HI.out.mono ?_; rintro e w' ⟨rfl, rfl⟩)
  go_ret
  exact ⟨rfl, rfl⟩
theorem full_of {p : Value} {b : Int} {w : World} {R : Bool} {Q : World -> Prop} (h : Calls Tryz.prog 155 #[p, .int .i64 b, .int .i64 2] w fun e w' => e = .returned (.bool R) /\ Q w') : Calls Tryz.prog 111 #[p, .int .i64 b] w fun e w' => e = .returned (.bool R) /\ Q w' := by
 have H := Hid.mk h
 clear h
 go_enter Tryz.func111, Tryz.ntmps111
 go_wp2_with (go_at_call 155; refine H.out.mono ?_; rintro e w' ⟨rfl, hq⟩)
 go_ret
 exact ⟨rfl, hq⟩
theorem bad_of {p : Value} {b : Int} {w : World} {R : Bool} {Q : World -> Prop} (h : Calls Tryz.prog 155 #[p, .int .i64 b, .int .i64 3] w fun e w' => e = .returned (.bool R) /\ Q w') : Calls Tryz.prog 115 #[p, .int .i64 b] w fun e w' => e = .returned (.bool R) /\ Q w' := by
 have H := Hid.mk h
 clear h
 go_enter Tryz.func115, Tryz.ntmps115
 go_wp2_with (go_at_call 155; refine H.out.mono ?_; rintro e w' ⟨rfl, hq⟩)
 go_ret
 exact ⟨rfl, hq⟩
def tkX (k : Nat) (xs : List Int) (j : Nat) (nx : Int) : List Int := if nx + 1 = k then xs.set j 2 else xs
def tkO (k : Nat) (j : Nat) (nx : Int) : Int := if nx + 1 = k then -1 else j
theorem take_some {w : World} {a g n k xs o nx} (h : Lif w a g n k xs o nx) (j : Nat) (ho : o = j) : Calls Tryz.prog 222 #[.pointer (some ⟨a, 0, none⟩)] w fun e w' =>
  e = .returned (.tuple #[.int .i64 j, .int .i64 nx, .bool true]) /\ Lif w' a g n k (tkX k xs j nx) (tkO k j nx) (nx + 1) /\ Kp (ownL a g) w w' := by
 subst ho
 obtain ⟨c0, c1, c2, f2⟩ := h.cells
 have hkb := h.ok.kb
 have hnx := h.ok.nxr
 have hno := h.ok.nxo (by omega)
 obtain ⟨hj, hx⟩ := h.ok.open_at j rfl
 have cj := h.at j hj
 rw [hx] at cj
 have fj := h.row.frozen j
 have hne := h.ne
 have hj1 : (j : Int) < n := by omega
 have hnb := h.ok.nb
 have HA := Hid.mk (at_some h (by omega))
 unfold tkX tkO
 by_cases he : nx + 1 = k
 ·rw [if_pos he, if_pos he]
  have HL := Hid.mk (h.ok.last j rfl he)
  have H := Hid.mk h
  clear h hx
  go_enter Tryz.func222, Tryz.ntmps222
  go_upto_region 5 with (go_at_call 101; refine HA.out.mono ?_; rintro e w' ⟨rfl, m, rfl⟩)
  have hq := (H.out.drewN m).both' j 2 HL.out
  have HK := Hid.mk (((Kp.refl (ownL a g) w).drewN m).setCell (p := ⟨a, 2, none⟩) (Or.inl rfl) (.int .i64 k))
  rw [he] at hq
  go_region
  go_wp2
  go_ret3
  exact ⟨rfl, by rw [he]; exact hq.drew, (HK.out.setCell (p := ⟨g, j, none⟩) (Or.inr rfl) _).drew⟩
 ·rw [if_neg he, if_neg he]
  have HL := Hid.mk (h.ok.more (by omega))
  have H := Hid.mk h
  clear h hx
  go_enter Tryz.func222, Tryz.ntmps222
  go_upto_region 5 with (go_at_call 101; refine HA.out.mono ?_; rintro e w' ⟨rfl, m, rfl⟩)
  go_region
  go_wp2
  go_ret3
  exact ⟨rfl, ((H.out.drewN m).next HL.out).drew, (((Kp.refl (ownL a g) w).drewN m).setCell (p := ⟨a, 2, none⟩) (Or.inl rfl) _).drew⟩
/-! without a Life -/
end Go.Proofs.YtcmmhfjnhlaepabGreatDoor.Lf
namespace Go.Proofs.YtcmmhfjnhlaepabGreatDoor.We
open Go Go.RowKit
def Ws (w : World) (a : Option Addr) (n : Nat) (f : Nat -> Int × Int) : Prop := ∀ i, i < n -> ∃ g o, a = some ⟨g, o, none⟩ /\ g < w.heap.size ∧
 w.cell? ⟨g, o + i * 2, none⟩ = some (.int .i64 (f i).1) /\ w.cell? ⟨g, o + i * 2 + 1, none⟩ = some (.int .i64 (f i).2)
theorem Ws.call {w w' : World} {a : Option Addr} {n : Nat} {f : Nat -> Int × Int} (h : Ws w a n f) (b : Below w.heap.size w w') : Ws w' a n f := by
 intro i hi
 obtain ⟨g, o, ha, hg, h1, h2⟩ := h i hi
 refine ⟨g, o, ha, Nat.lt_of_lt_of_le hg b.size, ?_, ?_⟩
 ·rw [b.cell (p := ⟨g, o + i * 2, none⟩) hg]; exact h1
 ·rw [b.cell (p := ⟨g, o + i * 2 + 1, none⟩) hg]; exact h2
def lst (f : Nat -> Int × Int) : Nat -> Int
 | 0 => -1
 | j + 1 => if lst f j < 0 \/ (f j).2 < (f (lst f j).toNat).2 then (j : Int) else lst f j
theorem lst_succ (f : Nat -> Int × Int) (j : Nat) : lst f (j + 1) = if lst f j < 0 \/ (f j).2 < (f (lst f j).toNat).2 then (j : Int) else lst f j := rfl
theorem lst_range (f : Nat -> Int × Int) (j : Nat) : -1 <= lst f j /\ lst f j < j := by
 induction j with
 | zero => show (-1 : Int) <= -1 /\ (-1 : Int) < 0; omega
 | succ j ih => rw [lst_succ]; split <;> omega
theorem lst_pos (f : Nat -> Int × Int) (j : Nat) (h : 0 < j) : 0 <= lst f j := by
 induction j with
 | zero => omega
 | succ j ih =>
  rw [lst_succ]
  by_cases hj : 0 < j
  ·have := ih hj; split <;> omega
  ·split
   ·omega
   ·next h2 => exact Decidable.byContradiction fun h3 => h2 (.inl (by omega))
theorem lst_le (f : Nat -> Int × Int) (j : Nat) : ∀ i, i < j -> (f (lst f j).toNat).2 <= (f i).2 := by
 induction j with
 | zero => intro i hi; omega
 | succ j ih =>
  intro i hi
  rw [lst_succ]
  by_cases hj : 0 < j
  ·have hp := lst_pos f j hj
   have hl := ih
   by_cases hc : (f j).2 < (f (lst f j).toNat).2
   ·rw [if_pos (.inr hc), Int.toNat_natCast]
    by_cases e : i = j
    ·subst e; omega
    ·have := ih i (by omega); omega
   ·rw [if_neg (by omega)]
    by_cases e : i = j
    ·subst e; omega
    ·exact ih i (by omega)
  ·have e1 : j = 0 := by omega
   subst e1
   have e2 : i = 0 := by omega
   subst e2
   rw [if_pos (.inl (show (-1 : Int) < 0 by decide))]
   exact Int.le_refl _
def grt (f : Nat -> Int × Int) (z : Int) : Nat -> Int
 | 0 => z
 | j + 1 => max (grt f z j) (f j).2
theorem grt_succ (f : Nat -> Int × Int) (z : Int) (j : Nat) : grt f z (j + 1) = max (grt f z j) (f j).2 := rfl
theorem grt_one (f : Nat -> Int × Int) (z : Int) (j : Nat) : grt f z j = z \/ ∃ i, i < j /\ grt f z j = (f i).2 := by
 induction j with
 | zero => exact .inl rfl
 | succ j ih =>
  rw [grt_succ]
  by_cases h : grt f z j <= (f j).2
  ·exact .inr ⟨j, by omega, by omega⟩
  ·rw [show max (grt f z j) (f j).2 = grt f z j by omega]
   rcases ih with ih | ⟨i, hi, ih⟩
   ·exact .inl ih
   ·exact .inr ⟨i, by omega, ih⟩
theorem least_any {w : World} {a : Option Addr} {n cap : Nat} {f : Nat -> Int × Int} (h : Ws w a n f) (hn : n <= 1000) : Calls Tryz.prog 187 #[.slice a n cap] w fun e w' => e = .returned (.int .i64 (lst f n)) /\ Below w.heap.size w w' := by
 have H := Hid.mk h
 clear h
 go_enter Tryz.func187, Tryz.ntmps187
 go_wp2
 go_loopw [3, 8] (fun l i wr => ∃ j : Nat, j <= n /\ i = .int .i64 j /\ l = .int .i64 (lst f j) /\ Below w.heap.size w wr) (fun _ i _ => n - (intOf i).toNat)
 case atStart => exact ⟨0, Nat.zero_le _, rfl, rfl, Below.refl _ _⟩
 case round =>
  obtain ⟨j, hj, rfl, rfl, hb⟩ := hrel
  have HB := Hid.mk hb
  clear hb
  by_cases hlt : j < n
  ·have hlt1 : (j : Int) < n := by omega
   have H2 := Hid.mk (H.out.call HB.out)
   obtain ⟨g, o, rfl, hg, c0, c1⟩ := H2.out j hlt
   have hs := Hid.mk (lst_succ f j)
   have hr := lst_range f j
   by_cases h0 : lst f j < 0
   ·replace hs := Hid.mk (hs.out.trans (if_pos (.inl h0)))
    generalize lst f j = x at *
    generalize hfj : f j = q at *
    clear hfj
    obtain ⟨q0, q1⟩ := q
    simp only at c0 c1
    go_upto_region 5 with fail
    go_quiet (fail)
    go_wp2
    exact ⟨⟨j + 1, by omega, by go_num, by rw [hs.out], below_drewN (HB.out.alloc HB.out.size _)⟩, by simp [intOf]; omega⟩
   ·obtain ⟨m, hm⟩ : ∃ m : Nat, lst f j = m := ⟨(lst f j).toNat, by omega⟩
    rw [hm] at hs hr |-
    rw [Int.toNat_natCast] at hs
    have hmn : m < n := by omega
    obtain ⟨g', o', e, hg', d0, d1⟩ := H2.out m hmn
    cases e
    have hm0 : ¬ (m : Int) < 0 := by omega
    have hd : Hid (((f j).2 < (f m).2) \/ ¬ ((f j).2 < (f m).2)) := Decidable.em _
    generalize hfj : f j = q at *
    generalize hfm : f m = r at *
    clear hfj hfm hm h0
    obtain ⟨q0, q1⟩ := q
    obtain ⟨r0, r1⟩ := r
    simp only at c0 c1 d0 d1 hs hd
    have hmn1 : (m : Int) < n := by omega
    go_upto_region 5 with fail
    rcases hd.out with hq | hq
    ·replace hs := Hid.mk (hs.out.trans (if_pos (.inr hq)))
     go_quiet (fail)
     go_wp2
     exact ⟨⟨j + 1, by omega, by go_num, by rw [hs.out], below_drewN (HB.out.alloc HB.out.size _)⟩, by simp [intOf]; omega⟩
    ·replace hs := Hid.mk (hs.out.trans (if_neg (by omega)))
     go_quiet (fail)
     go_wp2
     exact ⟨⟨j + 1, by omega, by go_num, by rw [hs.out], below_drewN (HB.out.alloc HB.out.size _)⟩, by simp [intOf]; omega⟩
  ·have hlt1 : ¬ (j : Int) < n := by omega
   have hjn : j = n := by omega
   subst hjn
   go_wp2
   go_ret
   exact ⟨rfl, HB.out⟩
end Go.Proofs.YtcmmhfjnhlaepabGreatDoor.We
namespace Go.Proofs.YtcmmhfjnhlaepabGreatDoor
open Go Go.RowKit Go.Maps
set_option maxRecDepth 100000
def Rds (w : World) (a : Option Addr) (l : List Int) : Prop := ∀ i, i < l.length -> ∃ g o, a = some ⟨g, o, none⟩ /\ g < w.heap.size /\ w.cell? ⟨g, o + i, none⟩ = some (.int .i64 (l.getD i 0))
theorem contains_any {w : World} {a : Option Addr} {l : List Int} (h : Rds w a l) (hl : l.length <= 1000000) (cap : Nat) (x : Int) : Calls Tryz.prog 161 #[.slice a l.length cap, .int .i64 x] w fun e w' => e = .returned (.bool (decide (x ∈ l))) /\ w' = w := by
 have key : Calls Tryz.prog 149 #[.slice a l.length cap, .int .i64 x] w fun e w' => ∃ q : Int, e = .returned (.int .i64 q) /\ w' = w /\ -1 <= q /\ (x ∈ l ↔ 0 <= q) := by
  have H := Hid.mk h
  obtain ⟨n, hn⟩ : ∃ n, n = l.length := ⟨_, rfl⟩
  rw [<- hn] at hl |-
  have HN := Hid.mk hn
  clear h hn
  go_enter Tryz.func149, Tryz.ntmps149
  go_wp2
  go_loop [8] (fun i => ∃ j : Nat, j <= n /\ i = .int .i64 j /\ ∀ k, k < j -> l.getD k 0 ≠ x) (fun i => n - (intOf i).toNat)
  case atStart => exact ⟨0, Nat.zero_le _, rfl, fun k hk => by omega⟩
  case round =>
   obtain ⟨j, hj, rfl, hjo⟩ := hrel
   by_cases hlt : j < n
   ·obtain ⟨g, o, rfl, hg, cj⟩ := H.out j (by rw [<- HN.out]; exact hlt)
    have hmem : l.getD j 0 ∈ l := by
     have hjl : j < l.length := by rw [<- HN.out]; exact hlt
     simp [List.getD_eq_getElem?_getD, hjl]
    have HY := Hid.mk (And.intro hmem hjo)
    generalize hy : l.getD j 0 = y at *
    have HYY := Hid.mk hy
    clear hmem hjo hy
    have hlt1 : (j : Int) < n := by omega
    by_cases hx : x = y
    ·subst hx
     go_wp2
     go_ret
     exact ⟨j, rfl, rfl, by omega, iff_of_true HY.out.1 (by omega)⟩
    ·go_wp2
     refine ⟨⟨j + 1, by omega, by go_num, fun k hk => ?_⟩, by simp [intOf]; omega⟩
     by_cases e : k = j
     ·subst e; rw [HYY.out]; exact fun e => hx e.symm
     ·exact HY.out.2 k (by omega)
   ·have hlt1 : ¬ (j : Int) < n := by omega
    have HY := Hid.mk hjo
    clear hjo
    go_wp2
    go_ret
    refine ⟨-1, rfl, rfl, by omega, iff_of_false ?_ (by omega)⟩
    intro hm
    obtain ⟨k, hk, hke⟩ := List.mem_iff_getElem.1 hm
    refine HY.out k (by rw [<- HN.out] at hk; omega) ?_
    simp [List.getD_eq_getElem?_getD, hk, hke]
 generalize l.length = n at *
 by_cases hm : x ∈ l
 ·rw [decide_eq_true hm]
  have HK : Hid (Calls Tryz.prog 149 #[.slice a n cap, .int .i64 x] w fun e w' => ∃ q : Int, e = .returned (.int .i64 q) /\ w' = w /\ -1 <= q /\ 0 <= q) := key.mono (fun e w' ⟨q, h1, h2, h3, h4⟩ => ⟨q, h1, h2, h3, h4.1 hm⟩)
  clear key h hl hm
  go_enter Tryz.func161, Tryz.ntmps161
  go_wp2_with (go_at_call 149; refine HK.out.mono ?_; rintro e w' ⟨q, rfl, rfl, h1, h2⟩)
  go_ret
  exact ⟨rfl, rfl⟩
 ·rw [decide_eq_false hm]
  have HK : Hid (Calls Tryz.prog 149 #[.slice a n cap, .int .i64 x] w fun e w' => ∃ q : Int, e = .returned (.int .i64 q) /\ w' = w /\ q = -1) := key.mono (fun e w' ⟨q, h1, h2, h3, h4⟩ => ⟨q, h1, h2, by have : ¬ 0 <= q := fun x => hm (h4.2 x); omega⟩)
  clear key h hl hm
  go_enter Tryz.func161, Tryz.ntmps161
  go_wp2_with (go_at_call 149; refine HK.out.mono ?_; rintro e w' ⟨q, rfl, rfl, rfl⟩)
  go_ret
  exact ⟨rfl, rfl⟩
def rowsI (l : List Int) : We.Rws := l.map fun x => [.int .i64 x]
theorem rowsI_len (l : List Int) : (rowsI l).length = l.length := by unfold rowsI; rw [List.length_map]
theorem rowsI_getD (l : List Int) (j : Nat) (hj : j < l.length) : (rowsI l).getD j [] = [.int .i64 (l.getD j 0)] := by
 unfold rowsI; simp [List.getD_eq_getElem?_getD, hj]
theorem rowsI_app (l : List Int) (x : Int) : rowsI l ++ [[.int .i64 x]] = rowsI (l ++ [x]) := by unfold rowsI; simp
theorem rowsI_flat (l : List Int) : (rowsI l).flatten = l.map (fun x => .int .i64 x) := by
 unfold rowsI
 induction l with
 | nil => rfl
 | cons x r ih => simp only [List.map_cons, List.flatten_cons, ih, List.singleton_append]
def Ints (w : World) (B : Nat) (v : Value) (l : List Int) : Prop := We.Ow w B 3 1 v (rowsI l)
theorem Ints.form {w : World} {B v l} (h : Ints w B v l) : ∃ a cap, v = .slice a l.length cap := by
 have := We.Ow.form h
 rw [rowsI_len] at this
 exact this
theorem Ints.rds {w : World} {B a n cap l} (h : Ints w B (.slice a n cap) l) : Rds w a l := by
 intro i hi
 obtain ⟨g, ha, _, hg, hc⟩ := We.Ow.at h (j := i) (by rw [rowsI_len]; exact hi)
 refine ⟨g, 0, ha, hg, ?_⟩
 have := hc 0 (by omega)
 rw [rowsI_getD l i hi, Nat.mul_one] at this
 simpa using this
theorem Ints.cell {w : World} {B a n cap l} (h : Ints w B (.slice a n cap) l) {j : Nat} (hj : j < l.length) : ∃ g, a = some ⟨g, 0, none⟩ /\ g < w.heap.size /\ n = l.length /\ w.cell? ⟨g, j, none⟩ = some (.int .i64 (l.getD j 0)) /\ w.frozen? ⟨g, j, none⟩ = false := by
 obtain ⟨g, ha, _, hg, hc⟩ := We.Ow.at h (j := j) (by rw [rowsI_len]; exact hj)
 subst ha
 obtain ⟨a', c', hv⟩ := h.form
 simp only [Value.slice.injEq] at hv
 obtain ⟨_, rfl, _⟩ := hv
 refine ⟨g, rfl, hg, rfl, ?_, ?_⟩
 ·have := hc 0 (by omega)
  rw [rowsI_getD l j hj, Nat.mul_one] at this
  simpa using this
 ·have := h.own
  rw [rowsI_len] at this
  exact this.frozenAt j
theorem Ints.set {w : World} {B g n cap l} (h : Ints w B (.slice (some ⟨g, 0, none⟩) n cap) l) (j : Nat) (x : Int) : Ints (w.setCell ⟨g, j, none⟩ (.int .i64 x)) B (.slice (some ⟨g, 0, none⟩) n cap) (l.set j x) := by
 obtain ⟨a', c', hv⟩ := h.form
 simp only [Value.slice.injEq] at hv
 obtain ⟨_, rfl, _⟩ := hv
 have ho := h.own
 rw [rowsI_len] at ho
 have hs := (ho.stored j (.int .i64 x)).1
 refine ⟨?_, fun r hr => ?_, fun r hr u hu => ?_⟩
 ·rw [rowsI_len, List.length_set, rowsI_flat, List.map_set, <- rowsI_flat]
  exact hs
 ·unfold rowsI at hr
  obtain ⟨y, _, rfl⟩ := List.mem_map.1 hr
  rfl
 ·unfold rowsI at hr
  obtain ⟨y, _, rfl⟩ := List.mem_map.1 hr
  simp only [List.mem_singleton] at hu
  subst hu
  rfl
theorem Ints.nil (w : World) (B : Nat) : Ints w B (.slice none 0 0) [] := We.Ow.nil w B 3 1
theorem ei30 : We.EI 30 3 1 8 := ⟨Tryz.underlying30, ⟨_, _, rfl, rfl, rfl, rfl, rfl⟩, by decide, by decide⟩
theorem ei195 : We.EI 195 199 2 16 := ⟨Tryz.underlying195, ⟨_, _, rfl, rfl, rfl, rfl, rfl⟩, by decide, by decide⟩
section
variable {ops : Array Oper} {rest : List Oper} {o : Oper} {a : Act} {Q : Exit -> Act -> World -> Prop}
theorem wp_appI {w : World} {ad : Addr} {l : List Int} {cap : Nat} (hgd : o.guard = none) (s x : Operand) (ho : o.op = .call { callee := .builtin .append, args := #[s, x], argTypes := #[30, 30] })
  (h : Rds w (some ad) l) (hs : a.eval s = .slice (some ⟨w.heap.size, 0, none⟩) 0 0) (hx : a.eval x = .slice (some ad) l.length cap) (hn : l.length <= 100000)
  (hK : ∀ v' w', Ints w' w.heap.size v' l -> Below w.heap.size w w' -> wpList Tryz.prog ops Q rest (a.put o.dst v') w') :
  wpList Tryz.prog ops Q (o :: rest) a (w.alloc (.cells #[] 3)) := by
 obtain ⟨i, z, q1, q2, q3, q4, q5⟩ := ei30.info
 have hm := We.Ow.made w (Nat.le_refl _) 3 1
 refine wpList_append_own_at _ hgd s x 30 ho w.heap.size 3 i z 1 8 ei30.under q1 q2 q3 q4 q5 ei30.pos _ 0 [] hs hm.own ad l.length cap (l.map fun x => .int .i64 x) hx (by rw [List.length_map, Nat.mul_one]) (fun j u hj => ?_) (fun u hu => by obtain ⟨y, _, rfl⟩ := List.mem_map.1 hu; rfl) (by simp [maxLen]; omega) (by omega) (by rw [size_alloc]; omega) (fun v' w' p1 p2 _ p4 => hK v' w' ⟨?_, fun r hr => ?_, fun r hr u hu => ?_⟩ ?_)
 ·have hjl : j < l.length := by
   have := (List.getElem?_eq_some_iff.1 hj).1
   simpa using this
  obtain ⟨g, o, e, hg, hc⟩ := h j hjl
  cases e
  have e1 : (⟨g, o, none⟩ : Addr).add j = ⟨g, o + j, none⟩ := by unfold Addr.add; split <;> simp_all
  rw [e1, World.cell?_of_block (a := ⟨g, o + j, none⟩) (Below.heap_alloc w _ g hg), hc, <- hj]
  simp [List.getD_eq_getElem?_getD, hjl]
 ·rw [rowsI_len, rowsI_flat]
  simpa using p1
 ·unfold rowsI at hr
  obtain ⟨y, _, rfl⟩ := List.mem_map.1 hr
  rfl
 ·unfold rowsI at hr
  obtain ⟨y, _, rfl⟩ := List.mem_map.1 hr
  simp only [List.mem_singleton] at hu
  subst hu
  rfl
 ·have g1 := World.grownBy_alloc w (.cells #[] 3) (some w.heap.size)
  exact ⟨p2.os.trans g1.os, p2.tape.trans g1.tape, p2.output.trans g1.output, Nat.le_trans g1.size p2.size, fun k hk => (p2.block k (Nat.lt_of_lt_of_le hk g1.size) (fun e => by simp [Value.ownBlock] at e; omega)).trans (g1.block k hk (fun e => by simp at e; omega))⟩
end
theorem clone_any {w : World} {a : Addr} {l : List Int} (h : Rds w (some a) l) (hl : l.length <= 100000) (cap : Nat) : Calls Tryz.prog 81 #[.slice (some a) l.length cap] w fun e w' => ∃ v, e = .returned v /\ Ints w' w.heap.size v l /\ Below w.heap.size w w' := by
 have H := Hid.mk h
 have hq := fun w => Lib.run_eql_slice_nil (P := Tryz.prog) w 30 3 (some a) l.length cap 0 0 Tryz.underlying30
 clear h
 go_enter Tryz.func81, Tryz.ntmps81
 go_wp2_with (at_builtin; refine wp_appI rfl _ _ rfl H.out rfl rfl hl ?_; intro v' w' h1 b1)
 go_ret
 exact ⟨_, rfl, h1, b1⟩
end Go.Proofs.YtcmmhfjnhlaepabGreatDoor
namespace Go.Proofs.YtcmmhfjnhlaepabGreatDoor
open Go Go.RowKit
set_option maxRecDepth 100000
def Cel (w : World) (i : Nat) : Prop := ∃ c t m, w.heap[i]? = some (.cells c t m)
theorem Chip.off {w w' : World} {L C} {S : Nat -> Prop} (h : Chip w L C) (k : Kp S w w') (hs : ∀ i, S i -> ¬ L.own C.B i /\ Cel w i) : Chip w' L C := by
 obtain ⟨mc, mf, n, m, ht, h1, h2⟩ := h.top
 have nm : ∀ {b n F}, MapIs w b n F -> ¬ S b := fun hm s => by
  obtain ⟨c, t, q, hc⟩ := (hs _ s).2
  exact hm.notCells hc rfl
 exact { h with
  top := ⟨mc, mf, n, m, (k.block L.a (h.lt (.inl rfl)) (fun s => (hs _ s).1 (.inl rfl))).trans ht, h1.of_block (k.block _ h1.lt (nm h1)), h2.of_block (k.block _ h2.lt (nm h2))⟩
  row := h.row.of_block (k.block _ h.row.lt (fun s => (hs _ s).1 (.inr (.inl rfl))))
  pgs := fun b hb => (h.pgs b hb).of_block (k.block _ (h.pgs b hb).lt (fun s => (hs _ s).1 (.inr (.inr ⟨b, hb, rfl⟩)))) }
theorem Kp.ofGrown {S : Nat -> Prop} {w w' : World} {r : Option Nat} (g : w.grownBy w' r) (hs : ∀ i, r = some i -> S i) : Kp S w w' :=
 ⟨g.os, g.tape, g.output, g.size, fun k hk hn => g.block k hk (fun e => hn (hs k e.symm))⟩
theorem Ints.same {w w' : World} {B v l} (h : Ints w B v l) (b : ∀ g, v.ownBlock = some g -> w'.heap[g]? = w.heap[g]?) : Ints w' B v l := We.Ow.same h b
theorem Ints.cel {w : World} {B v l} (h : Ints w B v l) {g : Nat} (e : v.ownBlock = some g) : Cel w g := by
 rcases h.own.2 with ⟨q, _⟩ | ⟨g', cap, cur, rfl, q1, q2, q3⟩
 ·subst q; cases e
 ·obtain rfl : g' = g := by simpa [Value.ownBlock] using e
  exact ⟨_, _, _, q2⟩
structure Wx where
 C : Ch
 xs : List Int
 o : Int
 nx : Int
 wn : List Int
 bd : List Int
structure Wl where
 lo : Nat
 a : Nat
 L : Ly
 la : Nat
 lg : Nat
 wv : Value
 bv : Value
def Wl.own (A : Wl) (B : Nat) (i : Nat) : Prop := i = A.a \/ A.L.own B i \/ Lf.ownL A.la A.lg i \/ A.wv.ownBlock = some i \/ A.bv.ownBlock = some i
structure Wtr (w : World) (A : Wl) (X : Wx) : Prop where
 top : w.heap[A.a]? = some (.cells #[.pointer (some ⟨A.L.a, 0, none⟩), .pointer (some ⟨A.la, 0, none⟩), A.wv, A.bv] 144 (0, 0))
 chip : Chip w A.L X.C
 lif : Lf.Lif w A.la A.lg X.C.B X.C.P X.xs X.o X.nx
 wrn : Ints w A.lo A.wv X.wn
 wlen : X.wn.length = X.C.B
 bad : Ints w A.lo A.bv X.bd
 low : ∀ i, A.own X.C.B i -> A.lo <= i
 pos : 0 < A.lo
 dC : ∀ i, A.L.own X.C.B i -> i ≠ A.a /\ ¬ Lf.ownL A.la A.lg i /\ A.wv.ownBlock ≠ some i /\ A.bv.ownBlock ≠ some i
 dL : ∀ i, Lf.ownL A.la A.lg i -> i ≠ A.a /\ A.wv.ownBlock ≠ some i /\ A.bv.ownBlock ≠ some i
 dW : A.wv.ownBlock ≠ some A.a /\ A.bv.ownBlock ≠ some A.a /\ ∀ i, A.wv.ownBlock = some i -> A.bv.ownBlock ≠ some i
theorem Wtr.lt {w : World} {A X} (h : Wtr w A X) : ∀ i, A.own X.C.B i -> i < w.heap.size := by
 rintro i (rfl | hi | hi | hi | hi)
 ·exact (Array.getElem?_eq_some_iff.1 h.top).1
 ·exact h.chip.lt hi
 ·exact h.lif.lt i hi
 ·exact (We.Ow.lt h.wrn i hi).2
 ·exact (We.Ow.lt h.bad i hi).2
theorem Wtr.off {w w' : World} {A X} {S : Nat -> Prop} (h : Wtr w A X) (k : Kp S w w') (hs : ∀ i, S i -> ¬ A.own X.C.B i /\ Cel w i) : Wtr w' A X := by
 have e : ∀ i, A.own X.C.B i -> w'.heap[i]? = w.heap[i]? := fun i hi => k.block i (h.lt i hi) (fun s => (hs i s).1 hi)
 exact { h with
  top := (e _ (.inl rfl)).trans h.top
  chip := h.chip.off k (fun i hi => ⟨fun x => (hs i hi).1 (.inr (.inl x)), (hs i hi).2⟩)
  lif := h.lif.same (fun i hi => e i (.inr (.inr (.inl hi))))
  wrn := h.wrn.same (fun g hg => e g (.inr (.inr (.inr (.inl hg)))))
  bad := h.bad.same (fun g hg => e g (.inr (.inr (.inr (.inr hg))))) }
theorem Wtr.call {w w' : World} {A X} (h : Wtr w A X) (b : Below w.heap.size w w') : Wtr w' A X := h.off (S := fun _ => False) (Kp.ofBelow b) (fun _ h => h.elim)
theorem Wtr.alloc {w : World} {A X} (h : Wtr w A X) (o : Obj) : Wtr (w.alloc o) A X := h.call ((Below.refl w.heap.size w).alloc (Nat.le_refl _) o)
theorem Wtr.drew {w : World} {A X} (h : Wtr w A X) : Wtr w.drew A X := h.off (S := fun _ => False) (Kp.refl _ w).drew (fun _ h => h.elim)
theorem Wtr.drewN {w : World} {A X} (h : Wtr w A X) (n : Nat) : Wtr (w.drewN n) A X := h.off (S := fun _ => False) ((Kp.refl _ w).drewN n) (fun _ h => h.elim)
theorem Wtr.chipTo {w w' : World} {A X} (h : Wtr w A X) {C' : Ch} (hc : Chip w' A.L C') (k : Kp (A.L.own X.C.B) w w') (eB : C'.B = X.C.B) (eP : C'.P = X.C.P) : Wtr w' A { X with C := C' } := by
 have e : ∀ i, i < w.heap.size -> ¬ A.L.own X.C.B i -> w'.heap[i]? = w.heap[i]? := fun i hi hn => k.block i hi hn
 refine ⟨(e _ (h.lt _ (.inl rfl)) (fun x => (h.dC _ x).1 rfl)).trans h.top, hc, ?_, h.wrn.same (fun g hg => e g (h.lt g (.inr (.inr (.inr (.inl hg))))) (fun x => (h.dC _ x).2.2.1 hg)), by rw [eB]; exact h.wlen,
  h.bad.same (fun g hg => e g (h.lt g (.inr (.inr (.inr (.inr hg))))) (fun x => (h.dC _ x).2.2.2 hg)), by rw [eB]; exact h.low, h.pos, by rw [eB]; exact h.dC, h.dL, h.dW⟩
 rw [eB, eP]
 exact h.lif.same (fun i hi => e i (h.lif.lt i hi) (fun x => (h.dC _ x).2.1 hi))
theorem Wtr.lifTo {w w' : World} {A X} (h : Wtr w A X) {xs' : List Int} {o' nx' : Int} (hl : Lf.Lif w' A.la A.lg X.C.B X.C.P xs' o' nx') (k : Kp (Lf.ownL A.la A.lg) w w') : Wtr w' A { X with xs := xs', o := o', nx := nx' } := by
 have e : ∀ i, i < w.heap.size -> ¬ Lf.ownL A.la A.lg i -> w'.heap[i]? = w.heap[i]? := fun i hi hn => k.block i hi hn
 refine ⟨(e _ (h.lt _ (.inl rfl)) (fun x => (h.dL _ x).1 rfl)).trans h.top, h.chip.off k (fun i hi => ⟨fun x => (h.dC _ x).2.1 hi, ?_⟩), hl, h.wrn.same (fun g hg => e g (h.lt g (.inr (.inr (.inr (.inl hg))))) (fun x => (h.dL _ x).2.1 hg)), h.wlen,
  h.bad.same (fun g hg => e g (h.lt g (.inr (.inr (.inr (.inr hg))))) (fun x => (h.dL _ x).2.2 hg)), h.low, h.pos, h.dC, h.dL, h.dW⟩
 rcases hi with rfl | rfl
 ·exact ⟨_, _, _, h.lif.top⟩
 ·exact ⟨_, _, _, h.lif.row⟩
theorem Wtr.kC {w w' : World} {A X} (_h : Wtr w A X) (k : Kp (A.L.own X.C.B) w w') : Kp (A.own X.C.B) w w' := k.mono (fun _ hi => .inr (.inl hi))
theorem Wtr.kL {w w' : World} {A X} (_h : Wtr w A X) (k : Kp (Lf.ownL A.la A.lg) w w') : Kp (A.own X.C.B) w w' := k.mono (fun _ hi => .inr (.inr (.inl hi)))
theorem Wtr.wornTo {w : World} {A X} (h : Wtr w A X) (g n cap : Nat) (e : A.wv = .slice (some ⟨g, 0, none⟩) n cap) (j : Nat) (x : Int) : Wtr (w.setCell ⟨g, j, none⟩ (.int .i64 x)) A { X with wn := X.wn.set j x } := by
 have hg : A.wv.ownBlock = some g := by rw [e]; rfl
 have eo : ∀ i, i ≠ g -> (w.setCell ⟨g, j, none⟩ (.int .i64 x)).heap[i]? = w.heap[i]? := fun i hi => Below.heap_setCell w _ _ i hi
 have k : Kp (fun i => i = g) w (w.setCell ⟨g, j, none⟩ (.int .i64 x)) := Kp.setCell (S := fun i => i = g) (Kp.refl _ w) (p := ⟨g, j, none⟩) rfl _
 have hw := h.wrn
 rw [e] at hw
 refine ⟨(eo _ (fun x => h.dW.1 (by rw [hg, x]))).trans h.top, h.chip.off k (fun i hi => ⟨fun x => (h.dC _ x).2.2.1 (by rw [hg, hi]), h.wrn.cel (by rw [hg, hi])⟩), h.lif.same (fun i hi => eo i (fun x => (h.dL i hi).2.1 (by rw [hg, x]))), by rw [e]; exact hw.set j x, by simpa using h.wlen,
  h.bad.same (fun g' hg' => eo g' (fun x => h.dW.2.2 g hg (by rw [hg', x]))), h.low, h.pos, h.dC, h.dL, h.dW⟩
theorem Wtr.badTo {w w1 : World} {A X} (h : Wtr w A X) {v : Value} {l : List Int} (hv : Ints w1 A.lo v l) (g : w.grownBy w1 A.bv.ownBlock) (hb : v.ownBlock = none \/ v.ownBlock = A.bv.ownBlock \/ ∃ i, v.ownBlock = some i /\ w.heap.size <= i) :
  Wtr (w1.setCell ⟨A.a, 3, none⟩ v) { A with bv := v } { X with bd := l } /\ Kp (A.own X.C.B) w (w1.setCell ⟨A.a, 3, none⟩ v) /\ ∀ i, ({ A with bv := v } : Wl).own X.C.B i -> A.own X.C.B i \/ w.heap.size <= i := by
 have k1 : Kp (A.own X.C.B) w w1 := Kp.ofGrown g (fun i hi => .inr (.inr (.inr (.inr hi))))
 have k2 : Kp (A.own X.C.B) w (w1.setCell ⟨A.a, 3, none⟩ v) := k1.setCell (p := ⟨A.a, 3, none⟩) (.inl rfl) v
 have kb : Kp (fun i => A.bv.ownBlock = some i) w w1 := Kp.ofGrown g (fun i hi => hi)
 have e1 : ∀ i, i < w.heap.size -> A.bv.ownBlock ≠ some i -> w1.heap[i]? = w.heap[i]? := fun i hi hn => g.block i hi (fun e => hn e.symm)
 have ht1 := (e1 A.a (h.lt _ (.inl rfl)) h.dW.2.1).trans h.top
 have e2 : ∀ i, i ≠ A.a -> (w1.setCell ⟨A.a, 3, none⟩ v).heap[i]? = w1.heap[i]? := fun i hi => Below.heap_setCell w1 _ _ i hi
 have c1 : Chip w1 A.L X.C := h.chip.off kb (fun i hi => ⟨fun x => (h.dC _ x).2.2.2 hi, h.bad.cel hi⟩)
 have ka : Kp (fun i => i = A.a) w1 (w1.setCell ⟨A.a, 3, none⟩ v) := Kp.setCell (S := fun i => i = A.a) (Kp.refl _ w1) (p := ⟨A.a, 3, none⟩) rfl v
 have ne : ∀ i, A.own X.C.B i -> ¬ A.bv.ownBlock = some i -> v.ownBlock ≠ some i := fun i hi hn e => by
  rcases hb with hb | hb | ⟨j, hb, hj⟩
  ·rw [hb] at e; cases e
  ·exact hn (hb ▸ e)
  ·rw [hb] at e
   have := h.lt i hi
   simp only [Option.some.injEq] at e
   omega
 have own' : ∀ i, ({ A with bv := v } : Wl).own X.C.B i -> A.own X.C.B i \/ w.heap.size <= i := by
  rintro i (hi | hi | hi | hi | hi)
  ·exact .inl (.inl hi)
  ·exact .inl (.inr (.inl hi))
  ·exact .inl (.inr (.inr (.inl hi)))
  ·exact .inl (.inr (.inr (.inr (.inl hi))))
  ·rcases hb with hb | hb | ⟨j, hb, hj⟩
   ·rw [show ({ A with bv := v } : Wl).bv = v from rfl, hb] at hi; cases hi
   ·exact .inl (.inr (.inr (.inr (.inr (hb ▸ hi)))))
   ·rw [show ({ A with bv := v } : Wl).bv = v from rfl, hb] at hi
    simp only [Option.some.injEq] at hi
    exact .inr (by omega)
 refine ⟨⟨?_, c1.off ka (fun i hi => ⟨fun x => (h.dC _ x).1 hi, hi ▸ ⟨_, _, _, ht1⟩⟩), ?_, ?_, h.wlen, ?_, fun i hi => ?_, h.pos, fun i hi => ⟨(h.dC i hi).1, (h.dC i hi).2.1, (h.dC i hi).2.2.1, ne i (.inr (.inl hi)) (h.dC i hi).2.2.2⟩, fun i hi => ⟨(h.dL i hi).1, (h.dL i hi).2.1, ne i (.inr (.inr (.inl hi))) (h.dL i hi).2.2⟩,
  h.dW.1, ne _ (.inl rfl) h.dW.2.1, fun i hi => ne i (.inr (.inr (.inr (.inl hi)))) (h.dW.2.2 i hi)⟩, k2, own'⟩
 ·exact heap_setCell_same w1 A.a 3 _ 144 _ ht1
 ·exact h.lif.same (fun i hi => (e2 i (h.dL i hi).1).trans (e1 i (h.lif.lt i hi) (h.dL i hi).2.2))
 ·exact h.wrn.same (fun g hg => (e2 g (fun x => h.dW.1 (x ▸ hg))).trans (e1 g (h.lt g (.inr (.inr (.inr (.inl hg))))) (h.dW.2.2 g hg)))
 ·exact hv.same (fun g hg => e2 g (fun x => ne _ (.inl rfl) h.dW.2.1 (x ▸ hg)))
 ·rcases own' i hi with q | q
  ·exact h.low i q
  ·have := (h.low _ (.inl rfl)); have := h.lt _ (.inl rfl); show A.lo <= i; omega
theorem Wtr.cells {w : World} {A X} (h : Wtr w A X) : w.cell? ⟨A.a, 0, none⟩ = some (.pointer (some ⟨A.L.a, 0, none⟩)) /\ w.cell? ⟨A.a, 1, none⟩ = some (.pointer (some ⟨A.la, 0, none⟩)) /\ w.cell? ⟨A.a, 2, none⟩ = some A.wv /\ w.cell? ⟨A.a, 3, none⟩ = some A.bv /\ w.frozen? ⟨A.a, 3, none⟩ = false := by
 refine ⟨?_, ?_, ?_, ?_, frozen_of_row w A.a 3 _ 144 h.top⟩ <;> (rw [cell_of_row w A.a _ _ 144 _ h.top]; rfl)
end Go.Proofs.YtcmmhfjnhlaepabGreatDoor
namespace Go.Proofs.YtcmmhfjnhlaepabGreatDoor
open Go Go.RowKit
set_option maxRecDepth 100000
def frs (xs wn q : List Int) (n : Nat) : List (Int × Int) := ((List.range n).filter (fun b => decide (xs.getD b 0 ∈ q))).map (fun b : Nat => ((b : Int), wn.getD b 0))
theorem frs_succ (xs wn q : List Int) (n : Nat) : frs xs wn q (n + 1) = frs xs wn q n ++ if xs.getD n 0 ∈ q then [((n : Int), wn.getD n 0)] else [] := by
 unfold frs
 rw [List.range_succ, List.filter_append, List.map_append]
 congr 1
 by_cases h : xs.getD n 0 ∈ q
 ·rw [if_pos h, List.filter_cons, if_pos (decide_eq_true h)]; rfl
 ·rw [if_neg h, List.filter_cons, if_neg (by rw [decide_eq_false h]; decide)]; rfl
theorem below_grownO {B : Nat} {a w w' : World} {r : Option Nat} (h : Below B a w) (g : w.grownBy w' r) (hB : B <= w.heap.size) (hr : ∀ i, r = some i -> B <= i) : Below B a w' :=
 ⟨g.os.trans h.os, g.tape.trans h.tape, g.output.trans h.output, Nat.le_trans h.size g.size, fun i hi => (g.block i (by omega) (fun e => by have := hr i e.symm; omega)).trans (h.block i hi)⟩
theorem frs_len (xs wn q : List Int) (n : Nat) : (frs xs wn q n).length <= n := by
 unfold frs
 rw [List.length_map]
 have := List.length_filter_le (fun b => decide (xs.getD b 0 ∈ q)) (List.range n)
 rw [List.length_range] at this
 exact this
def rowsW (l : List (Int × Int)) : We.Rws := l.map fun x => [.int .i64 x.1, .int .i64 x.2]
theorem rowsW_len (l : List (Int × Int)) : (rowsW l).length = l.length := by unfold rowsW; rw [List.length_map]
theorem rowsW_app (l : List (Int × Int)) (x : Int × Int) : rowsW l ++ [[.int .i64 x.1, .int .i64 x.2]] = rowsW (l ++ [x]) := by unfold rowsW; simp
theorem rowsW_ws {w : World} {B a n cap l} (h : We.Ow w B 199 2 (.slice a n cap) (rowsW l)) : We.Ws w a l.length (fun i => l.getD i (0, 0)) := by
 intro i hi
 obtain ⟨g, ha, _, hg, hc⟩ := h.at (j := i) (by rw [rowsW_len]; exact hi)
 have e : (rowsW l).getD i [] = [.int .i64 (l.getD i (0, 0)).1, .int .i64 (l.getD i (0, 0)).2] := by
  unfold rowsW
  simp [List.getD_eq_getElem?_getD, hi]
 refine ⟨g, 0, ha, hg, ?_, ?_⟩
 ·have := hc 0 (by omega)
  rw [e] at this
  simpa using this
 ·have := hc 1 (by omega)
  rw [e] at this
  simpa using this
structure WeS (w : World) (A : Wl) (X : Wx) (q : List Int) (qa : Option Addr) (j : Nat) (v : Value) (wr : World) : Prop where
 out : We.Ow wr w.heap.size 199 2 v (rowsW (frs X.xs X.wn q j))
 below : Below w.heap.size w wr
theorem wears_any {w : World} {A X} (h : Wtr w A X) (q : List Int) (hq : q.length <= 1000) (qa : Option Addr) (qc : Nat) (hqa : Rds w qa q) : Calls Tryz.prog 143 #[.pointer (some ⟨A.a, 0, none⟩), .slice qa q.length qc] w fun e w' =>
  ∃ v, e = .returned v /\ We.Ow w' w.heap.size 199 2 v (rowsW (frs X.xs X.wn q X.C.B)) /\ Below w.heap.size w w' := by
 obtain ⟨c0, c1, c2, c3, _⟩ := h.cells
 obtain ⟨wa, wc, hwv⟩ := h.wrn.form
 have hg := h.chip.geo
 have hwl := h.wlen
 rw [hwl] at hwv
 rw [hwv] at c2
 obtain ⟨n, hn⟩ : ∃ n, n = X.C.B := ⟨_, rfl⟩
 rw [<- hn] at c2 |-
 have hn2 : n <= 32 := by omega
 have HN := Hid.mk hn
 have H := Hid.mk h
 have HW := Hid.mk hwv
 have HQ := Hid.mk (And.intro hqa hq)
 have HL := Hid.mk hwl
 obtain ⟨m, hm⟩ : ∃ m, m = q.length := ⟨_, rfl⟩
 rw [<- hm]
 have HM := Hid.mk hm
 clear h hwv hqa hq hn hg hm hwl
 go_enter Tryz.func143, Tryz.ntmps143
 go_wp2_with fail
 go_loopw [5, 15] (fun v i wr => ∃ j : Nat, j <= n /\ i = .int .i64 j /\ WeS w A X q qa j v wr) (fun _ i _ => n - (intOf i).toNat)
 case atStart => exact ⟨0, Nat.zero_le _, rfl, We.Ow.nil _ _ _ _, Below.refl _ _⟩
 case round =>
  obtain ⟨j, hj, rfl, hs⟩ := hrel
  have HS := Hid.mk hs
  clear hs
  by_cases hlt : j < n
  ·have hlt1 : (j : Int) < n := by omega
   have HX := Hid.mk (H.out.call HS.out.below)
   have hwr := HX.out.wrn
   rw [HW.out] at hwr
   obtain ⟨g, rfl, hgl, _, cj, _⟩ := hwr.cell (j := j) (by rw [HL.out, <- HN.out]; exact hlt)
   obtain ⟨d0, d1, d2, d3, _⟩ := HX.out.cells
   have his := Hid.mk (Lf.is_any HX.out.lif (j : Int))
   have hil : Lf.isL X.xs (j : Int) = X.xs.getD j 0 := Lf.isL_in X.xs j (by rw [HX.out.lif.ok.len, <- HN.out]; exact hlt)
   rw [hil] at his
   have hr : Rds ‹World› qa q := fun i hi => by
    obtain ⟨g, o, ha, hg, hc⟩ := HQ.out.1 i hi
    exact ⟨g, o, ha, Nat.lt_of_lt_of_le hg HS.out.below.size, (HS.out.below.cell (p := ⟨g, o + i, none⟩) hg).trans hc⟩
   have hct := Hid.mk (fun x => contains_any hr (Nat.le_trans HQ.out.2 (by decide)) qc x)
   rw [<- HM.out] at hct
   have hfs := Hid.mk (frs_succ X.xs X.wn q j)
   have hfl := frs_len X.xs X.wn q j
   generalize X.xs.getD j 0 = y at *
   generalize X.wn.getD j 0 = z at *
   clear hwr hil hr
   by_cases hy : y ∈ q
   ·have hyd : decide (y ∈ q) = true := decide_eq_true hy
    go_wp2_with (first
     | (go_at_call 90; refine his.out.mono ?_; rintro e w1 ⟨rfl, rfl⟩)
     | (go_at_call 161; refine (hct.out _).mono ?_; rintro e w2 ⟨rfl, rfl⟩; rw [hyd])
     | (at_builtin; refine We.wp_app ei195 rfl _ _ rfl HS.out.out HS.out.below.size #[.int .i64 j, .int .i64 z] rfl rfl rfl (by simp [Value.oneCell']) (by rw [rowsW_len]; omega) ?_; intro v3 w3 o3 g3 p3))
    refine ⟨⟨j + 1, by omega, by go_num, ?_, ?_⟩, by simp [intOf]; omega⟩
    ·rw [hfs.out, if_pos hy, <- rowsW_app]
     exact o3
    ·exact below_grownO HS.out.below g3 HS.out.below.size (fun i hi => (HS.out.out.lt i hi).1)
   ·have hyd : decide (y ∈ q) = false := decide_eq_false hy
    go_wp2_with (first
     | (go_at_call 90; refine his.out.mono ?_; rintro e w1 ⟨rfl, rfl⟩)
     | (go_at_call 161; refine (hct.out _).mono ?_; rintro e w2 ⟨rfl, rfl⟩; rw [hyd]))
    refine ⟨⟨j + 1, by omega, by go_num, ?_, HS.out.below⟩, by simp [intOf]; omega⟩
    rw [hfs.out, if_neg hy, List.append_nil]
    exact HS.out.out
  ·have hlt1 : ¬ (j : Int) < n := by omega
   have hjn : j = n := by omega
   subst hjn
   go_wp2_with fail
   go_ret
   exact ⟨_, rfl, HS.out.out, HS.out.below⟩
set_option maxRecDepth 100000
theorem lst_lt (f : Nat -> Int × Int) (j : Nat) : ∀ i : Nat, (i : Int) < We.lst f j -> (f (We.lst f j).toNat).2 < (f i).2 := by
 induction j with
 | zero => intro i hi; have := We.lst_range f 0; omega
 | succ j ih =>
  intro i hi
  rw [We.lst_succ] at hi |-
  have hr := We.lst_range f j
  by_cases hc : We.lst f j < 0 \/ (f j).2 < (f (We.lst f j).toNat).2
  ·rw [if_pos hc] at hi |-
   rw [Int.toNat_natCast]
   rcases hc with hc | hc
   ·have : 0 < j := by omega
    have := We.lst_pos f j this
    omega
   ·have := We.lst_le f j i (by omega)
    omega
  ·rw [if_neg hc] at hi |-
   exact ih i hi
structure Pick (xs wn : List Int) (n j : Nat) : Prop where
 lt : j < n
 free : xs.getD j 0 = 0
 least : ∀ i, i < n -> xs.getD i 0 = 0 -> wn.getD j 0 <= wn.getD i 0
 first : ∀ i, i < j -> xs.getD i 0 = 0 -> wn.getD j 0 < wn.getD i 0
theorem frs_mem {xs wn : List Int} {n : Nat} {p : Int × Int} (h : p ∈ frs xs wn [0] n) : ∃ j : Nat, j < n /\ xs.getD j 0 = 0 /\ p = ((j : Int), wn.getD j 0) := by
 unfold frs at h
 obtain ⟨j, hj, rfl⟩ := List.mem_map.1 h
 obtain ⟨h1, h2⟩ := List.mem_filter.1 hj
 exact ⟨j, List.mem_range.1 h1, by simpa using h2, rfl⟩
theorem frs_in {xs wn : List Int} {n j : Nat} (hj : j < n) (hx : xs.getD j 0 = 0) : ((j : Int), wn.getD j 0) ∈ frs xs wn [0] n := by
 unfold frs
 exact List.mem_map.2 ⟨j, List.mem_filter.2 ⟨List.mem_range.2 hj, by rw [hx]; rfl⟩, rfl⟩
theorem frs_sorted (xs wn q : List Int) (n : Nat) : (frs xs wn q n).Pairwise (fun a b => a.1 < b.1) := by
 unfold frs
 rw [List.pairwise_map]
 refine (List.pairwise_lt_range.filter _).imp ?_
 intro a b h
 simpa using h
theorem frs_pick {xs wn : List Int} {n : Nat} (h : 0 < (frs xs wn [0] n).length) : 0 <= We.lst (fun i => (frs xs wn [0] n).getD i (0, 0)) (frs xs wn [0] n).length ∧
  ∃ j : Nat, ((frs xs wn [0] n).getD (We.lst (fun i => (frs xs wn [0] n).getD i (0, 0)) (frs xs wn [0] n).length).toNat (0, 0)).1 = (j : Int) /\ Pick xs wn n j := by
 have hp := We.lst_pos (fun i => (frs xs wn [0] n).getD i (0, 0)) _ h
 have hr := We.lst_range (fun i => (frs xs wn [0] n).getD i (0, 0)) (frs xs wn [0] n).length
 have hle := We.lst_le (fun i => (frs xs wn [0] n).getD i (0, 0)) (frs xs wn [0] n).length
 have hlt := lst_lt (fun i => (frs xs wn [0] n).getD i (0, 0)) (frs xs wn [0] n).length
 have hso := frs_sorted xs wn [0] n
 refine ⟨hp, ?_⟩
 generalize We.lst (fun i => (frs xs wn [0] n).getD i (0, 0)) (frs xs wn [0] n).length = k at *
 obtain ⟨k, rfl⟩ := Int.eq_ofNat_of_zero_le hp
 rw [Int.toNat_natCast] at *
 have hk : k < (frs xs wn [0] n).length := by omega
 have hg : ∀ i, (hi : i < (frs xs wn [0] n).length) -> (frs xs wn [0] n).getD i (0, 0) = (frs xs wn [0] n)[i] := fun i hi => by simp [List.getD_eq_getElem?_getD, hi]
 have hmem : (frs xs wn [0] n)[k] ∈ frs xs wn [0] n := List.getElem_mem hk
 obtain ⟨j, hj, hx, he⟩ := frs_mem hmem
 have hek : (frs xs wn [0] n).getD k (0, 0) = ((j : Int), wn.getD j 0) := by rw [hg k hk, he]
 refine ⟨j, by rw [hek], hj, hx, fun i hi hxi => ?_, fun i hi hxi => ?_⟩
 ·obtain ⟨q, hq, hqe⟩ := List.mem_iff_getElem.1 (frs_in (wn := wn) hi hxi)
  have := hle q hq
  rw [hek, hg q hq, hqe] at this
  exact this
 ·obtain ⟨q, hq, hqe⟩ := List.mem_iff_getElem.1 (frs_in (wn := wn) (show i < n by omega) hxi)
  have hqk : q < k := by
   rcases Nat.lt_trichotomy q k with h1 | h1 | h1
   ·exact h1
   ·subst h1; rw [he] at hqe; simp at hqe; omega
   ·have := List.pairwise_iff_getElem.1 hso k q hk hq h1
    rw [he, hqe] at this
    simp at this
    omega
  have := hlt q (by omega)
  rw [hek, hg q hq, hqe] at this
  exact this
theorem frs_none {xs wn : List Int} {n : Nat} (h : ∀ i, i < n -> xs.getD i 0 ≠ 0) : frs xs wn [0] n = [] := by
 cases e : frs xs wn [0] n with
 | nil => rfl
 | cons a l =>
  obtain ⟨j, hj, hx, _⟩ := frs_mem (show a ∈ frs xs wn [0] n by rw [e]; simp)
  exact absurd hx (h j hj)
theorem pick_or (xs wn : List Int) (n : Nat) : (∀ i, i < n -> xs.getD i 0 ≠ 0) \/ ∃ j, Pick xs wn n j := by
 by_cases h : 0 < (frs xs wn [0] n).length
 ·obtain ⟨_, j, _, hj⟩ := frs_pick h
  exact .inr ⟨j, hj⟩
 ·refine .inl (fun i hi hx => h ?_)
  exact List.length_pos_of_mem (frs_in (wn := wn) hi hx)
theorem Pick.unique {xs wn : List Int} {n i j : Nat} (h : Pick xs wn n i) (k : Pick xs wn n j) : i = j := by
 rcases Nat.lt_trichotomy i j with e | e | e
 ·have := k.first i e h.free; have := h.least j k.lt k.free; omega
 ·exact e
 ·have := h.first j e k.free; have := k.least i h.lt h.free; omega
def Wx.open (X : Wx) (j : Nat) : Wx := { X with xs := X.xs.set j 1, o := j, nx := 0 }
def Wx.took (X : Wx) (b : Nat) : Wx := { X with xs := Lf.tkX X.C.P X.xs b X.nx, o := Lf.tkO X.C.P b X.nx, nx := X.nx + 1 }
theorem take_open {w : World} {A X} (h : Wtr w A X) (b : Nat) (ho : X.o = b) : Calls Tryz.prog 197 #[.pointer (some ⟨A.a, 0, none⟩)] w fun e w' =>
  e = .returned (.tuple #[.int .i64 b, .int .i64 X.nx, .bool true]) /\ Wtr w' A (X.took b) /\ Kp (A.own X.C.B) w w' := by
 have hat := Hid.mk (Lf.at_some h.lif (by omega))
 rw [ho] at hat
 have htk := Hid.mk (fun m => Lf.take_some (h.lif.drewN m) b ho)
 obtain ⟨c0, c1, c2, c3, _⟩ := h.cells
 have H := Hid.mk h
 clear h
 go_enter Tryz.func197, Tryz.ntmps197
 go_wp2_with (first
  | (go_at_call 101; refine hat.out.mono ?_; rintro e w1 ⟨rfl, m, rfl⟩)
  | (go_at_call 222; refine (htk.out _).mono ?_; rintro e w2 ⟨rfl, hl, hk⟩))
 go_ret3
 exact ⟨rfl, (H.out.drewN _).lifTo hl hk, ((Kp.refl _ w).drewN _).trans ((H.out.drewN _).kL hk)⟩
theorem ints_lit (w : World) (x : Int) : Rds (w.alloc (.cells #[.int .i64 x] 3)) (some ⟨w.heap.size, 0, none⟩) [x] := by
 intro i hi
 obtain rfl : i = 0 := by simpa using hi
 exact ⟨_, 0, rfl, by rw [size_alloc]; omega, (Row.fresh w 3 .i64 [x]).cell 0 (by simp)⟩
theorem take_full {w : World} {A X} (h : Wtr w A X) (ho : X.o = -1) (hf : ∀ i, i < X.C.B -> X.xs.getD i 0 ≠ 0) : Calls Tryz.prog 197 #[.pointer (some ⟨A.a, 0, none⟩)] w fun e w' =>
  e = .returned (.tuple #[.int .i64 0, .int .i64 0, .bool false]) /\ Below w.heap.size w w' := by
 have hat := Hid.mk (Lf.at_none h.lif ho)
 have hb0 := (Below.refl w.heap.size w).alloc (Nat.le_refl _) (.cells #[.int .i64 0] 3)
 have hwe := wears_any (h.alloc (.cells #[.int .i64 0] 3)) [0] (by decide) _ 1 (ints_lit w 0)
 rw [frs_none hf] at hwe
 have hls := fun {w : World} {v : Value} {B : Nat} (hv : We.Ow w B 199 2 v (rowsW [])) => hv
 obtain ⟨c0, c1, c2, c3, _⟩ := h.cells
 have HW := Hid.mk hwe
 have HB := Hid.mk hb0
 clear h hwe hb0
 go_enter Tryz.func197, Tryz.ntmps197
 go_wp2_with (first
  | (go_at_call 101; refine hat.out.mono ?_; rintro e w1 ⟨rfl, rfl⟩)
  | (go_at_call 143; refine HW.out.mono ?_; rintro e w2 ⟨v, rfl, hv, b2⟩; obtain ⟨va, vc, rfl⟩ := hv.form; have hw := rowsW_ws hv)
  | (go_at_call 187; refine (We.least_any hw (by decide)).mono ?_; rintro e w3 ⟨rfl, b3⟩))
 go_ret3
 exact ⟨rfl, below3 (below3 HB.out b2) b3⟩
theorem take_pick {w : World} {A X} (h : Wtr w A X) (ho : X.o = -1) (j : Nat) (hp : Pick X.xs X.wn X.C.B j) : Calls Tryz.prog 197 #[.pointer (some ⟨A.a, 0, none⟩)] w fun e w' =>
  e = .returned (.tuple #[.int .i64 j, .int .i64 0, .bool true]) /\ Wtr w' A ((X.open j).took j) /\ Kp (A.own X.C.B) w w' := by
 have hat := Hid.mk (Lf.at_none h.lif ho)
 have hb0 := (Below.refl w.heap.size w).alloc (Nat.le_refl _) (.cells #[.int .i64 0] 3)
 have hwe := wears_any (h.alloc (.cells #[.int .i64 0] 3)) [0] (by decide) _ 1 (ints_lit w 0)
 have hlen : 0 < (frs X.xs X.wn [0] X.C.B).length := List.length_pos_of_mem (frs_in (wn := X.wn) hp.lt hp.free)
 obtain ⟨hl0, j', hj', hp'⟩ := frs_pick hlen
 obtain rfl := hp.unique hp'
 have hlr := We.lst_range (fun i => (frs X.xs X.wn [0] X.C.B).getD i (0, 0)) (frs X.xs X.wn [0] X.C.B).length
 have hfl := frs_len X.xs X.wn [0] X.C.B
 have hgeo := h.chip.geo
 obtain ⟨c0, c1, c2, c3, _⟩ := h.cells
 generalize hF : frs X.xs X.wn [0] X.C.B = F at *
 generalize hK : We.lst (fun i => F.getD i (0, 0)) F.length = k at *
 obtain ⟨k, rfl⟩ := Int.eq_ofNat_of_zero_le hl0
 rw [Int.toNat_natCast] at hj'
 have hkl : k < F.length := by omega
 have hkl1 : (k : Int) < (F.length : Nat) := by omega
 have HW := Hid.mk hwe
 have HB := Hid.mk hb0
 have H := Hid.mk h
 have HO := Hid.mk (And.intro ho (And.intro hp.lt hp.free))
 have HG := Hid.mk (And.intro hj' (show F.length <= 1000 by omega))
 have HK := Hid.mk hK
 have hk0 : ¬ (k : Int) < 0 := by omega
 clear h hwe hb0 hp hp' ho hj' hfl hgeo hlr hlen hl0 hF hK
 go_enter Tryz.func197, Tryz.ntmps197
 go_upto_region 7 with (first
  | (go_at_call 101; refine hat.out.mono ?_; rintro e w1 ⟨rfl, rfl⟩)
  | (go_at_call 143; refine HW.out.mono ?_; rintro e w2 ⟨v, rfl, hv, b2⟩; obtain ⟨va, vc, rfl⟩ := hv.form; rw [rowsW_len]; have hw := rowsW_ws hv)
  | (go_at_call 187; refine (We.least_any hw HG.out.2).mono ?_; rintro e w3 ⟨rfl, b3⟩; rw [HK.out]))
 have hw3 := hw.call b3
 obtain ⟨g, o, rfl, hg, d0, d1⟩ := hw3 k hkl
 rw [HG.out.1] at d0
 have hX := (H.out.alloc (.cells #[.int .i64 0] 3)).call b2 |>.call b3
 have HX := Hid.mk hX
 obtain ⟨e0, e1, e2, e3, _⟩ := hX.cells
 have BB := Hid.mk (below3 (below3 HB.out b2) b3)
 clear hX hw hw3 hv b2 b3 HB HW hat c0 c1 c2 c3
 go_region_with (go_at_call 221; refine (Lf.open_yes (HX.out.lif.drewN _) j HO.out.2.1 HO.out.2.2 HO.out.1).mono ?_; rintro e w4 ⟨rfl, hl4, k4⟩)
 all_goals
  have X4 := (HX.out.drewN _).lifTo hl4 k4
  have K4 := ((Kp.ofBelow BB.out).drewN _).trans ((HX.out.drewN _).kL k4)
  obtain ⟨f0, f1, f2, f3, _⟩ := X4.cells
  have htk := Hid.mk (Lf.take_some X4.lif j rfl)
  have XX := Hid.mk (And.intro X4 K4)
  clear X4 K4 hl4 k4 e0 e1 e2 e3 d0 d1
  go_wp2_with (go_at_call 222; refine htk.out.mono ?_; rintro e w5 ⟨rfl, hl5, k5⟩)
  go_ret3
  exact ⟨rfl, XX.out.1.lifTo hl5 k5, XX.out.2.trans (XX.out.1.kL k5)⟩
end Go.Proofs.YtcmmhfjnhlaepabGreatDoor
namespace Go.Proofs.YtcmmhfjnhlaepabGreatDoor
open Go Go.RowKit
set_option maxRecDepth 100000
theorem fldB (a b c : Int) (w : World) : (Instr.field 23 (.agg #[.int .i64 a, .int .i64 b, .int .i64 c]) 0).run Tryz.prog w = .ok (.int .i64 a) w := by kernel_rfl
theorem fldP (a b c : Int) (w : World) : (Instr.field 23 (.agg #[.int .i64 a, .int .i64 b, .int .i64 c]) 1).run Tryz.prog w = .ok (.int .i64 b) w := by kernel_rfl
theorem fldZ (a b c : Int) (w : World) : (Instr.field 23 (.agg #[.int .i64 a, .int .i64 b, .int .i64 c]) 2).run Tryz.prog w = .ok (.int .i64 c) w := by kernel_rfl
theorem hasB_any {w : World} {A X} (h : Wtr w A X) (b : Int) : Calls Tryz.prog 116 #[.pointer (some ⟨A.a, 0, none⟩), .int .i64 b] w fun e w' => e = .returned (.bool (decide (0 <= b /\ b < X.C.B))) /\ w' = w := by
 obtain ⟨c0, c1, c2, c3, _⟩ := h.cells
 obtain ⟨wa, wc, hwv⟩ := h.wrn.form
 rw [h.wlen] at hwv
 rw [hwv] at c2
 have hg := h.chip.geo
 clear h hwv
 by_cases h0 : 0 <= b
 ·by_cases h1 : b < X.C.B
  ·rw [decide_eq_true ⟨h0, h1⟩]
   go_enter Tryz.func116, Tryz.ntmps116
   go_wp2
   go_ret
   exact ⟨rfl, rfl⟩
  ·rw [decide_eq_false (fun x => h1 x.2)]
   go_enter Tryz.func116, Tryz.ntmps116
   go_wp2
   go_ret
   exact ⟨rfl, rfl⟩
 ·rw [decide_eq_false (fun x => h0 x.1)]
  go_enter Tryz.func116, Tryz.ntmps116
  go_wp2
  go_ret
  exact ⟨rfl, rfl⟩
theorem Tab.off {w w' : World} {S : Nat -> Prop} (h : Pg.Tab w) (k : Kp S w w') (hs : ¬ S 0) : Pg.Tab w' :=
 ⟨Nat.lt_of_lt_of_le h.1 k.size, fun i hi => (World.cell?_of_block (a := ⟨0, i, none⟩) (k.block 0 h.1 hs)).trans (h.2 i hi)⟩
theorem Wtr.zero {w : World} {A X} (h : Wtr w A X) : ¬ A.own X.C.B 0 := fun x => by have := h.low 0 x; have := h.pos; omega
def PrS (w : World) (A : Wl) (X : Wx) (g : Nat) (K S I O W : Int) (wx : World) : Prop := Pg.TB wx g K S I O W /\ Wtr wx A X /\ Pg.Tab wx /\ Below w.heap.size w wx /\ w.heap.size <= g
theorem PrS.drew {w : World} {A X} {g : Nat} {K S I O W : Int} {wx : World} (h : PrS w A X g K S I O W wx) : PrS w A X g K S I O W wx.drew := ⟨h.1.drew, h.2.1.drew, h.2.2.1.drew, h.2.2.2.1.drew, h.2.2.2.2⟩
theorem prs_all {w : World} {A X} {g : Nat} {K S I O W : Int} {wx : World} (h : PrS w A X g K S I O W wx) : wx.cell? ⟨g, 0, none⟩ = some (.int .i64 K) /\ wx.cell? ⟨g, 1, none⟩ = some (.int .u64 S) /\ wx.cell? ⟨g, 2, none⟩ = some (.int .i64 I) /\ wx.cell? ⟨g, 3, none⟩ = some (.int .i64 O) /\ wx.cell? ⟨g, 4, none⟩ = some (.int .i64 W) /\ wx.cell? ⟨A.a, 0, none⟩ = some (.pointer (some ⟨A.L.a, 0, none⟩)) /\ PrS w A X g K S I O W wx := by
 obtain ⟨d0, d1, d2, d3, d4⟩ := h.1.five
 exact ⟨d0, d1, d2, d3, d4, h.2.1.cells.1, h⟩
theorem prs_keep {w : World} {A X} {g : Nat} {K S I O W : Int} {wx w2 : World} (h : wx.cell? ⟨g, 0, none⟩ = some (.int .i64 K) /\ wx.cell? ⟨g, 1, none⟩ = some (.int .u64 S) /\ wx.cell? ⟨g, 2, none⟩ = some (.int .i64 I) /\ wx.cell? ⟨g, 3, none⟩ = some (.int .i64 O) /\ wx.cell? ⟨g, 4, none⟩ = some (.int .i64 W) /\ wx.cell? ⟨A.a, 0, none⟩ = some (.pointer (some ⟨A.L.a, 0, none⟩)) /\ PrS w A X g K S I O W wx) (b : Below wx.heap.size wx w2) : w2.cell? ⟨g, 0, none⟩ = some (.int .i64 K) /\ w2.cell? ⟨g, 1, none⟩ = some (.int .u64 S) /\ w2.cell? ⟨g, 2, none⟩ = some (.int .i64 I) /\ w2.cell? ⟨g, 3, none⟩ = some (.int .i64 O) /\ w2.cell? ⟨g, 4, none⟩ = some (.int .i64 W) /\ w2.cell? ⟨A.a, 0, none⟩ = some (.pointer (some ⟨A.L.a, 0, none⟩)) /\ PrS w A X g K S I O W w2 := by
 have h2 := h.2.2.2.2.2.2
 exact prs_all ⟨h2.1.call b, h2.2.1.call b, h2.2.2.1.call b, below3 h2.2.2.2.1 b, h2.2.2.2.2⟩
theorem progC_geo (C : Ch) (b p : Int) (d s : ByteArray) : (progC C b p d s).1.B = C.B /\ (progC C b p d s).1.P = C.P := by
 unfold progC
 split
 ·split
  ·split
   ·exact ⟨rfl, rfl⟩
   ·split
    ·exact ⟨rfl, rfl⟩
    ·split <;> exact ⟨rfl, rfl⟩
  ·exact ⟨rfl, rfl⟩
 ·exact ⟨rfl, rfl⟩
def frD (X : Wx) (s : ByteArray) : ByteArray := Pg.padB s X.C.Z
def frS (X : Wx) (b : Nat) (K S I O : Nat) (s : ByteArray) : ByteArray := Pg.spareB K S I O (X.wn.getD b 0).toNat s X.C.Z
set_option maxHeartbeats 1000000 in
theorem program_any {w : World} {A X} (h : Wtr w A X) (hT : Pg.Tab w) (b : Nat) (hb : b < X.C.B) (p : Int) (K S I O : Nat) (W0 : Int) (hm : Pg.mayB K I O (X.wn.getD b 0)) (s : ByteArray) (hs : s.size <= X.C.Z) (hd : X.C.did < 999999) :
  Calls Tryz.prog 198 #[.pointer (some ⟨A.a, 0, none⟩), .int .i64 b, .int .i64 p, Pg.tagV K S I O W0, .string s] w fun e w' =>
   e = .returned (.int .i64 (progC X.C b p (frD X s) (frS X b K S I O s)).2) /\ Wtr w' A { X with C := (progC X.C b p (frD X s) (frS X b K S I O s)).1 } /\ Kp (A.own X.C.B) w w' := by
 unfold frD frS
 obtain ⟨W, hW⟩ : ∃ W : Nat, X.wn.getD b 0 = (W : Int) := Int.eq_ofNat_of_zero_le hm.2.2.2.2.2.2.1
 rw [hW] at hm
 rw [hW, Int.toNat_natCast]
 have hgeo := h.chip.geo
 have hfr := Hid.mk (fun w hT => Pg.frame_ok K S I O W hm s X.C.Z hs (by omega) w hT)
 have T0 := Pg.TB.fresh w K S I O W0
 have B0 := (Below.refl w.heap.size w).alloc (Nat.le_refl _) (.cells #[.int .i64 K, .int .u64 S, .int .i64 I, .int .i64 O, .int .i64 W0] 97)
 have h1 := h.call B0
 have B1 := B0.setCell (p := ⟨w.heap.size, 4, none⟩) (Nat.le_refl _) (.int .i64 W)
 have S1 : PrS w A X w.heap.size K S I O W ((w.alloc (.cells #[.int .i64 K, .int .u64 S, .int .i64 I, .int .i64 O, .int .i64 W0] 97)).setCell ⟨w.heap.size, 4, none⟩ (.int .i64 W)) := ⟨T0.set4 (W : Int), h.call B1, hT.call B1, B1, Nat.le_refl _⟩
 have hfz := T0.frozen 4
 obtain ⟨t0, t1, t2, t3, t4⟩ := T0.five
 have hlt : w.heap.size < (w.alloc (.cells #[.int .i64 K, .int .u64 S, .int .i64 I, .int .i64 O, .int .i64 W0] 97)).heap.size := T0.lt
 clear B0 B1 T0 hT
 generalize hw0 : w.alloc (.cells #[.int .i64 K, .int .u64 S, .int .i64 I, .int .i64 O, .int .i64 W0] 97) = V0 at *
 obtain ⟨c0, c1, c2, c3, _⟩ := h1.cells
 obtain ⟨wa, wc, hwv⟩ := h1.wrn.form
 rw [h1.wlen] at hwv
 rw [hwv] at c2
 have hwr := h1.wrn
 rw [hwv] at hwr
 obtain ⟨g, rfl, hgl, -, cj, -⟩ := hwr.cell (j := b) (by rw [h1.wlen]; exact hb)
 rw [hW] at cj
 have hb1 : (b : Int) < X.C.B := by omega
 have hhas := hasB_any h1 (b : Int)
 rw [decide_eq_true (show 0 <= (b : Int) /\ (b : Int) < X.C.B by omega)] at hhas
 have HH := Hid.mk hhas
 have HS := Hid.mk S1
 have HW0 := Hid.mk hw0
 generalize hR1 : Pg.padB s X.C.Z = R1 at *
 generalize hR2 : Pg.spareB K S I O W s X.C.Z = R2 at *
 have hfd := fldZ
 have hpr := Hid.mk (fun (w : World) (h : Wtr w A X) => prog_any h.chip b p R1 R2 hd)
 unfold Pg.tagV at hfr |-
 have hge : (progC X.C b p R1 R2).1.B = X.C.B /\ (progC X.C b p R1 R2).1.P = X.C.P := progC_geo X.C b p R1 R2
 have HGE := Hid.mk hge
 clear h h1 hm hs hd hhas S1 hwr hwv hR1 hR2 hgeo hw0 hge
 generalize progC X.C b p R1 R2 = Z at *
 obtain ⟨Z1, Z2⟩ := Z
 go_enter Tryz.func198, Tryz.ntmps198
 go_upto_region 3 with (first
  | (go_at_call 116; rw [HW0.out]; refine HH.out.mono ?_; rintro e w1 ⟨rfl, rfl⟩))
 have hS1 := Hid.mk (prs_all HS.out.drew)
 go_region_held3 (fun w' => w'.cell? ⟨w.heap.size, 0, none⟩ = some (.int .i64 K) /\ w'.cell? ⟨w.heap.size, 1, none⟩ = some (.int .u64 S) /\ w'.cell? ⟨w.heap.size, 2, none⟩ = some (.int .i64 I) /\ w'.cell? ⟨w.heap.size, 3, none⟩ = some (.int .i64 O) /\ w'.cell? ⟨w.heap.size, 4, none⟩ = some (.int .i64 W) /\ w'.cell? ⟨A.a, 0, none⟩ = some (.pointer (some ⟨A.L.a, 0, none⟩)) /\ PrS w A X w.heap.size K S I O W w') (first | assumption | exact hS1.out | exact prs_keep (by assumption) (by assumption) | fail)
  (first | (go_at_call 8; refine (geom_any (by assumption : _ /\ _ /\ _ /\ _ /\ _ /\ _ /\ PrS w A X w.heap.size K S I O W _).2.2.2.2.2.2.2.1.chip).mono ?_; rintro e w3 ⟨rfl, b3⟩) | (go_at_call 142; refine (hfr.out _ (by assumption : _ /\ _ /\ _ /\ _ /\ _ /\ _ /\ PrS w A X w.heap.size K S I O W _).2.2.2.2.2.2.2.2.1).mono ?_; rintro e w3 ⟨rfl, b3⟩))
 have HX : Hid (w3.cell? ⟨w.heap.size, 0, none⟩ = some (.int .i64 K) /\ w3.cell? ⟨w.heap.size, 1, none⟩ = some (.int .u64 S) /\ w3.cell? ⟨w.heap.size, 2, none⟩ = some (.int .i64 I) /\ w3.cell? ⟨w.heap.size, 3, none⟩ = some (.int .i64 O) /\ w3.cell? ⟨w.heap.size, 4, none⟩ = some (.int .i64 W) /\ w3.cell? ⟨A.a, 0, none⟩ = some (.pointer (some ⟨A.L.a, 0, none⟩)) /\ PrS w A X w.heap.size K S I O W w3) := Hid.mk (by assumption)
 replace HS := Hid.mk HX.out.2.2.2.2.2.2
 clear HX hS1 t0 t1 t2 t3 t4 c0 c1 c2 c3 cj
 obtain ⟨c0, c1, c2, c3, _⟩ := HS.out.2.1.cells
 go_wp2_with (go_at_call 223; refine (hpr.out _ HS.out.2.1).mono ?_; rintro e w6 ⟨rfl, h6, k6⟩)
 go_ret
 exact ⟨rfl, HS.out.2.1.chipTo h6 k6 HGE.out.1 HGE.out.2, (Kp.ofBelow HS.out.2.2.2.1).trans (HS.out.2.1.kC k6)⟩
set_option maxRecDepth 100000
structure Nxt (A A' : Wl) (B : Nat) (w w' : World) : Prop where
 kp : Kp (A.own B) w w'
 own : ∀ i, A'.own B i -> A.own B i \/ w.heap.size <= i
 a : A'.a = A.a
 L : A'.L = A.L
 la : A'.la = A.la
 lo : A'.lo = A.lo
 lg : A'.lg = A.lg
theorem Nxt.of {A : Wl} {B : Nat} {w w' : World} (k : Kp (A.own B) w w') : Nxt A A B w w' := ⟨k, fun _ h => .inl h, rfl, rfl, rfl, rfl, rfl⟩
theorem Nxt.trans {A A' A'' : Wl} {B : Nat} {w w' w'' : World} (h : Nxt A A' B w w') (k : Nxt A' A'' B w' w'') : Nxt A A'' B w w'' := by
 refine ⟨⟨k.kp.os.trans h.kp.os, k.kp.tape.trans h.kp.tape, k.kp.output.trans h.kp.output, Nat.le_trans h.kp.size k.kp.size, fun i hi hn => ?_⟩, fun i hi => ?_, k.a.trans h.a, k.L.trans h.L, k.la.trans h.la, k.lo.trans h.lo, k.lg.trans h.lg⟩
 ·exact (k.kp.block i (Nat.lt_of_lt_of_le hi h.kp.size) (fun x => (h.own i x).elim hn (fun y => by omega))).trans (h.kp.block i hi hn)
 ·rcases k.own i hi with x | x
  ·exact h.own i x
  ·exact .inr (Nat.le_trans h.kp.size x)
def letX (xs : List Int) (b : Nat) (v : Int) : List Int := if xs.getD b 0 = 3 then xs else xs.set b v
def letO (xs : List Int) (o : Int) (b : Nat) : Int := if xs.getD b 0 = 3 then o else if o = b then -1 else o
def Wx.letB (X : Wx) (b : Nat) (v : Int) : Wx := { X with xs := letX X.xs b v, o := letO X.xs X.o b }
theorem let_any {w : World} {A X} (h : Wtr w A X) (b : Nat) (hb : b < X.C.B) (v : Int) (hv : 0 <= v /\ v <= 3) (h1 : v ≠ 1) : Calls Tryz.prog 155 #[.pointer (some ⟨A.la, 0, none⟩), .int .i64 b, .int .i64 v] w fun e w' =>
  e = .returned (.bool (decide (X.xs.getD b 0 ≠ 3))) /\ Wtr w' A (X.letB b v) /\ Kp (A.own X.C.B) w w' := by
 unfold Wx.letB letX letO
 have hl := h.lif.ok.len
 by_cases hx : X.xs.getD b 0 = 3
 ·rw [if_pos hx, if_pos hx, decide_eq_false (fun x => x hx)]
  refine (Lf.let_no h.lif b (.inr (by rw [Lf.isL_in X.xs b (by omega)]; exact hx)) v).mono ?_
  rintro e w' ⟨rfl, rfl⟩
  exact ⟨rfl, h, Kp.refl _ _⟩
 ·rw [if_neg hx, if_neg hx, decide_eq_true hx]
  refine (Lf.let_yes h.lif b hb hx v hv h1).mono ?_
  rintro e w' ⟨rfl, hl, hk⟩
  exact ⟨rfl, h.lifTo hl hk, h.kL hk⟩
theorem Ints.form3 {w : World} {B v l} (h : Ints w B v l) : ∃ a n c, v = .slice a n c := by
 obtain ⟨a, c, e⟩ := h.form
 exact ⟨a, _, c, e⟩
def note (l : List Int) (b : Int) : List Int := if b ∈ l then l else l ++ [b]
def Wx.retire (X : Wx) (b : Nat) : Wx := { X.letB b 3 with bd := note X.bd b, C := (markC X.C b).1 }
theorem markC_geo (C : Ch) (b : Int) : (markC C b).1.B = C.B /\ (markC C b).1.P = C.P := by
 unfold markC
 split
 ·split <;> exact ⟨rfl, rfl⟩
 ·exact ⟨rfl, rfl⟩
theorem Wtr.grownTop {w w1 : World} {A X} (h : Wtr w A X) (g : w.grownBy w1 A.bv.ownBlock) : w1.cell? ⟨A.a, 0, none⟩ = some (.pointer (some ⟨A.L.a, 0, none⟩)) /\ w1.cell? ⟨A.a, 3, none⟩ = some A.bv /\ w1.frozen? ⟨A.a, 3, none⟩ = false := by
 obtain ⟨c0, c1, c2, c3, f3⟩ := h.cells
 have e : w1.heap[A.a]? = w.heap[A.a]? := g.block A.a (h.lt _ (.inl rfl)) (fun x => h.dW.2.1 x.symm)
 exact ⟨(World.cell?_of_block (a := ⟨A.a, 0, none⟩) e).trans c0, (World.cell?_of_block (a := ⟨A.a, 3, none⟩) e).trans c3, (World.frozen?_of_block (a := ⟨A.a, 3, none⟩) e).trans f3⟩
theorem retire_any {w : World} {A X} (h : Wtr w A X) (b : Nat) (hb : b < X.C.B) (hd : X.C.did < 999999) (hl : X.bd.length <= 100000) : Calls Tryz.prog 119 #[.pointer (some ⟨A.a, 0, none⟩), .int .i64 b] w fun e w' =>
  e = .returned (.int .i64 (markC X.C b).2) /\ ∃ A', Wtr w' A' (X.retire b) /\ Nxt A A' X.C.B w w' := by
 unfold Wx.retire note
 have hlet := Hid.mk (Lf.bad_of (let_any h b hb 3 (by omega) (by omega)))
 obtain ⟨c0, c1, c2, c3, _⟩ := h.cells
 obtain ⟨ba, bc, hbv⟩ := h.bad.form
 have hge := markC_geo X.C b
 have HC := Hid.mk (And.intro hd (And.intro hl hge))
 have HV := Hid.mk hbv
 have hmk := Hid.mk (fun (w : World) (L : Ly) (hc : Chip w L X.C) => mark_any hc b hd)
 rw [hbv] at c3
 clear h hd hl hbv hge
 by_cases hm : (b : Int) ∈ X.bd
 ·rw [if_pos hm]
  go_enter Tryz.func119, Tryz.ntmps119
  go_wp2_with (first
   | (go_at_call 115; refine hlet.out.mono ?_; rintro e w1 ⟨rfl, h1, k1⟩; obtain ⟨d0, d1, d2, d3, _⟩ := h1.cells; rw [HV.out] at d3; have H1 := Hid.mk (And.intro h1 k1); clear h1 k1)
   | (go_at_call 161; have hr := H1.out.1.bad; rw [HV.out] at hr; refine (contains_any hr.rds (Nat.le_trans HC.out.2.1 (by decide)) _ _).mono ?_; rintro e w2 ⟨rfl, rfl⟩; rw [show decide ((b : Int) ∈ (X.letB b 3).bd) = true from decide_eq_true hm]; clear hr)
   | (go_at_call 114; refine (hmk.out _ _ H1.out.1.chip).mono ?_; rintro e w3 ⟨rfl, h3, k3⟩))
  go_ret
  exact ⟨rfl, A, H1.out.1.chipTo h3 k3 HC.out.2.2.1 HC.out.2.2.2, Nxt.of (H1.out.2.trans (H1.out.1.kC k3))⟩
 ·rw [if_neg hm]
  go_enter Tryz.func119, Tryz.ntmps119
  go_wp2_with (first
   | (go_at_call 115; refine hlet.out.mono ?_; rintro e w1 ⟨rfl, h1, k1⟩; obtain ⟨d0, d1, d2, d3, _⟩ := h1.cells; rw [HV.out] at d3; have H1 := Hid.mk (And.intro h1 k1); clear h1 k1)
   | (go_at_call 161; have hr := H1.out.1.bad; rw [HV.out] at hr; refine (contains_any hr.rds (Nat.le_trans HC.out.2.1 (by decide)) _ _).mono ?_; rintro e w2 ⟨rfl, rfl⟩; rw [show decide ((b : Int) ∈ (X.letB b 3).bd) = false from decide_eq_false hm]; clear hr)
   | (at_builtin; refine We.wp_app ei30 rfl _ _ rfl (HV.out ▸ H1.out.1.bad : We.Ow w2 A.lo 3 1 (.slice ba X.bd.length bc) (rowsI X.bd)) (Nat.le_trans (H1.out.1.low _ (.inl rfl)) (Nat.le_of_lt (H1.out.1.lt _ (.inl rfl)))) #[.int .i64 b] rfl rfl rfl (by simp [Value.oneCell']) (by rw [rowsI_len]; have := HC.out.2.1; omega) ?_; intro v3 w3 o3 g3 p3; rw [<- HV.out] at g3 p3; obtain ⟨q0, q3, qf⟩ := H1.out.1.grownTop g3; have o4 : Ints w3 A.lo v3 (X.bd ++ [(b : Int)]) := (rowsI_app X.bd b ▸ o3 : We.Ow w3 A.lo 3 1 v3 (rowsI (X.bd ++ [(b : Int)]))); obtain ⟨va, vn, vc, rfl⟩ := o4.form3; have hb := H1.out.1.badTo o4 g3 (.inr p3); have H2 := Hid.mk hb; clear hb o3 o4 g3 p3 d0 d1 d2 d3)
   | (go_at_call 114; refine (hmk.out _ _ H2.out.1.chip).mono ?_; rintro e w4 ⟨rfl, h4, k4⟩))
  go_ret
  exact ⟨rfl, _, H2.out.1.chipTo h4 k4 HC.out.2.2.1 HC.out.2.2.2, (Nxt.of H1.out.2).trans ((⟨H2.out.2.1, H2.out.2.2, rfl, rfl, rfl, rfl, rfl⟩ : Nxt A _ X.C.B _ _).trans (Nxt.of (H2.out.1.kC k4)))⟩
def Wx.leave (X : Wx) (b : Nat) (e : Int) : Wx := if e = 53 then X.retire b else if e = 52 then X.letB b 2 else X
def Wx.leaveE (X : Wx) (b : Nat) (e : Int) : Int := if e = 53 then (markC X.C b).2 else if e = 52 then 0 else e
theorem leave_any {w : World} {A X} (h : Wtr w A X) (b : Nat) (hb : b < X.C.B) (hd : X.C.did < 999999) (hl : X.bd.length <= 100000) (er : Int) : Calls Tryz.prog 199 #[.pointer (some ⟨A.a, 0, none⟩), .int .i64 b, .int .i64 er] w fun e w' =>
  e = .returned (.int .i64 (X.leaveE b er)) /\ ∃ A', Wtr w' A' (X.leave b er) /\ Nxt A A' X.C.B w w' := by
 unfold Wx.leave Wx.leaveE
 by_cases h3 : er = 53
 ·subst h3
  have HR := Hid.mk (retire_any h b hb hd hl)
  rw [if_pos rfl, if_pos rfl]
  clear h
  go_enter Tryz.func199, Tryz.ntmps199
  go_wp2_with (go_at_call 119; refine HR.out.mono ?_; rintro e w1 ⟨rfl, h1⟩)
  go_ret
  exact ⟨rfl, h1⟩
 ·rw [if_neg h3, if_neg h3]
  by_cases h2 : er = 52
  ·subst h2
   have HF := Hid.mk (Lf.full_of (let_any h b hb 2 (by omega) (by omega)))
   obtain ⟨c0, c1, c2, c3, _⟩ := h.cells
   rw [if_pos rfl, if_pos rfl]
   clear h
   go_enter Tryz.func199, Tryz.ntmps199
   go_wp2_with (go_at_call 111; refine HF.out.mono ?_; rintro e w1 ⟨rfl, h1, k1⟩)
   go_ret
   exact ⟨rfl, A, h1, Nxt.of k1⟩
  ·rw [if_neg h2, if_neg h2]
   have H := Hid.mk h
   clear h
   go_enter Tryz.func199, Tryz.ntmps199
   go_wp2_with fail
   go_ret
   exact ⟨rfl, A, H.out, Nxt.of (Kp.refl _ _)⟩
end Go.Proofs.YtcmmhfjnhlaepabGreatDoor
namespace Go.Proofs.YtcmmhfjnhlaepabGreatDoor
open Go Go.RowKit
set_option maxRecDepth 100000
def Tk (X : Wx) (b : Nat) (X1 : Wx) (p : Int) : Prop := (X.o = b /\ X1 = X.took b /\ p = X.nx) \/ (X.o = -1 /\ Pick X.xs X.wn X.C.B b /\ X1 = (X.open b).took b /\ p = 0)
theorem Tk.C {X : Wx} {b X1 p} (h : Tk X b X1 p) : X1.C = X.C /\ X1.wn = X.wn /\ X1.bd = X.bd := by
 rcases h with ⟨_, rfl, _⟩ | ⟨_, _, rfl, _⟩ <;> exact ⟨rfl, rfl, rfl⟩
theorem Tk.lt {w : World} {A X} (hw : Wtr w A X) {b X1 p} (h : Tk X b X1 p) : b < X.C.B /\ 0 <= p /\ p < X.C.P := by
 have hk := hw.lif.ok.kb
 rcases h with ⟨h1, _, rfl⟩ | ⟨_, h1, _, rfl⟩
 ·have := hw.lif.ok.or
  exact ⟨by omega, hw.lif.ok.nxr.1, hw.lif.ok.nxo (by omega)⟩
 ·exact ⟨h1.lt, by omega, by omega⟩
theorem take_tk {w : World} {A X} (h : Wtr w A X) {b X1 p} (ht : Tk X b X1 p) : Calls Tryz.prog 197 #[.pointer (some ⟨A.a, 0, none⟩)] w fun e w' =>
  e = .returned (.tuple #[.int .i64 b, .int .i64 p, .bool true]) /\ Wtr w' A X1 /\ Kp (A.own X.C.B) w w' := by
 rcases ht with ⟨h1, rfl, rfl⟩ | ⟨h0, h1, rfl, rfl⟩
 ·exact take_open h b h1
 ·exact take_pick h h0 b h1
theorem tk_or {w : World} {A X} (h : Wtr w A X) : (X.o = -1 /\ ∀ i, i < X.C.B -> X.xs.getD i 0 ≠ 0) \/ ∃ b X1 p, Tk X b X1 p := by
 have ho := h.lif.ok.or
 by_cases e : X.o = -1
 ·rcases pick_or X.xs X.wn X.C.B with hp | ⟨j, hj⟩
  ·exact .inl ⟨e, hp⟩
  ·exact .inr ⟨j, _, _, .inr ⟨e, hj, rfl, rfl⟩⟩
 ·obtain ⟨b, hb⟩ := Int.eq_ofNat_of_zero_le (show 0 <= X.o by omega)
  exact .inr ⟨b, _, _, .inl ⟨hb, rfl, rfl⟩⟩
def Wx.prE (X : Wx) (b : Nat) (p : Int) (K S I O : Nat) (s : ByteArray) : Int := (progC X.C b p (frD X s) (frS X b K S I O s)).2
def Wx.prX (X : Wx) (b : Nat) (p : Int) (K S I O : Nat) (s : ByteArray) : Wx := { X with C := (progC X.C b p (frD X s) (frS X b K S I O s)).1 }
structure AppOk (J : Wx -> Prop) (Q : Int -> Int -> Wx -> Prop) (K S I O : Nat) (s : ByteArray) : Prop where
 base : ∀ X, J X -> X.C.did < 900000 /\ (∀ i, i < X.C.B -> Pg.mayB K I O (X.wn.getD i 0)) /\ s.size <= X.C.Z /\ X.bd.length <= 90000
 full : ∀ X, J X -> Lf.Ok X.C.B X.C.P X.xs X.o X.nx -> X.o = -1 -> (∀ i, i < X.C.B -> X.xs.getD i 0 ≠ 0) -> Q 0 130 X
 done : ∀ X (b : Nat) X1 (p : Int), J X -> Lf.Ok X.C.B X.C.P X.xs X.o X.nx -> b < X.C.B -> 0 <= p -> p < X.C.P -> Tk X b X1 p -> X1.prE b p K S I O s = 0 -> Q (b * X.C.P + p) 0 (X1.prX b p K S I O s)
 fail : ∀ X (b : Nat) X1 (p : Int), J X -> Lf.Ok X.C.B X.C.P X.xs X.o X.nx -> b < X.C.B -> 0 <= p -> p < X.C.P -> Tk X b X1 p -> X1.prE b p K S I O s ≠ 0 -> (X1.prX b p K S I O s).leaveE b (X1.prE b p K S I O s) ≠ 0 -> Q 0 ((X1.prX b p K S I O s).leaveE b (X1.prE b p K S I O s)) ((X1.prX b p K S I O s).leave b (X1.prE b p K S I O s))
 more : ∀ X (b : Nat) X1 (p : Int), J X -> Lf.Ok X.C.B X.C.P X.xs X.o X.nx -> b < X.C.B -> 0 <= p -> p < X.C.P -> Tk X b X1 p -> X1.prE b p K S I O s ≠ 0 -> (X1.prX b p K S I O s).leaveE b (X1.prE b p K S I O s) = 0 -> J ((X1.prX b p K S I O s).leave b (X1.prE b p K S I O s))
theorem progC_geo3 (C : Ch) (b p : Int) (d s : ByteArray) : (progC C b p d s).1.Z = C.Z /\ (progC C b p d s).1.did <= C.did + 1 := by
 unfold progC
 split
 ·split
  ·split
   ·exact ⟨rfl, by show C.did <= C.did + 1; omega⟩
   ·split
    ·exact ⟨rfl, Int.le_refl _⟩
    ·split <;> exact ⟨rfl, Int.le_refl _⟩
  ·exact ⟨rfl, by simp; omega⟩
 ·exact ⟨rfl, by simp; omega⟩
theorem markC_geo3 (C : Ch) (b : Int) : (markC C b).1.Z = C.Z := by
 unfold markC
 split
 ·split <;> rfl
 ·rfl
def Geq (X Y : Wx) : Prop := X.C.B = Y.C.B /\ X.C.P = Y.C.P /\ X.C.Z = Y.C.Z
theorem prX_geq (X : Wx) (b : Nat) (p : Int) (K S I O : Nat) (s : ByteArray) : Geq (X.prX b p K S I O s) X :=
 ⟨(progC_geo _ _ _ _ _).1, (progC_geo _ _ _ _ _).2, (progC_geo3 _ _ _ _ _).1⟩
theorem leave_geq (X : Wx) (b : Nat) (e : Int) : Geq (X.leave b e) X := by
 unfold Wx.leave
 split
 ·exact ⟨(markC_geo _ _).1, (markC_geo _ _).2, markC_geo3 _ _⟩
 ·split <;> exact ⟨rfl, rfl, rfl⟩
def left (xs : List Int) : Int := Lf.cnt xs 0 + Lf.cnt xs 1
theorem leave_xs {w : World} {A X} (hw : Wtr w A X) {b X1 p} (h : Tk X b X1 p) (K S I O : Nat) (s : ByteArray) {e : Int} (he : e ≠ 0) (h0 : (X1.prX b p K S I O s).leaveE b e = 0) : left ((X1.prX b p K S I O s).leave b e).xs = left X.xs - 1 := by
 obtain ⟨hb, _⟩ := h.lt hw
 have hl := hw.lif.ok.len
 have hx0 : X.xs.getD b 0 = 0 \/ X.xs.getD b 0 = 1 := by
  rcases h with ⟨h1, _⟩ | ⟨_, h1, _⟩
  ·exact .inr (hw.lif.ok.open_at b h1).2
  ·exact .inl h1.free
 have h1 : X1.xs.getD b 0 ≠ 3 /\ ∀ v, X1.xs.set b v = X.xs.set b v := by
  rcases h with ⟨h1, rfl, _⟩ | ⟨_, h1, rfl, _⟩
  ·show (Lf.tkX X.C.P X.xs b X.nx).getD b 0 ≠ 3 /\ ∀ v, (Lf.tkX X.C.P X.xs b X.nx).set b v = X.xs.set b v
   unfold Lf.tkX
   split
   ·rw [Lf.getD_set X.xs b b 2 (by omega), if_pos rfl]
    exact ⟨by decide, fun v => List.set_set ..⟩
   ·exact ⟨by omega, fun v => rfl⟩
  ·show (Lf.tkX X.C.P (X.xs.set b 1) b 0).getD b 0 ≠ 3 /\ ∀ v, (Lf.tkX X.C.P (X.xs.set b 1) b 0).set b v = X.xs.set b v
   unfold Lf.tkX
   split
   ·rw [Lf.getD_set _ b b 2 (by rw [List.length_set]; omega), if_pos rfl]
    exact ⟨by decide, fun v => by rw [List.set_set, List.set_set]⟩
   ·rw [Lf.getD_set X.xs b b 1 (by omega), if_pos rfl]
    exact ⟨by decide, fun v => List.set_set ..⟩
 have key : ∀ v : Int, v ≠ 0 -> v ≠ 1 -> left (X.xs.set b v) = left X.xs - 1 := by
  intro v v0 v1
  unfold left
  rw [Lf.cnt_set X.xs b (by omega) v 0, Lf.cnt_set X.xs b (by omega) v 1, if_neg v0, if_neg v1]
  rcases hx0 with e | e <;> rw [e] <;> simp <;> omega
 unfold Wx.leaveE at h0
 unfold Wx.leave
 by_cases e3 : e = 53
 ·rw [if_pos e3]
  show left (letX X1.xs b 3) = _
  unfold letX
  rw [if_neg h1.1, h1.2]
  exact key 3 (by decide) (by decide)
 ·rw [if_neg e3] at h0 |-
  by_cases e2 : e = 52
  ·rw [if_pos e2]
   show left (letX X1.xs b 2) = _
   unfold letX
   rw [if_neg h1.1, h1.2]
   exact key 2 (by decide) (by decide)
  ·rw [if_neg e2] at h0
   exact absurd h0 he
def rdRow (w : World) (g : Nat) : List Int := match w.heap[g]? with | some (.cells c _ _) => c.toList.map intOf | _ => []
theorem rdRow_is {w : World} {g t xs} (h : Row w g t .i64 xs) : rdRow w g = xs := by
 unfold rdRow
 rw [h]
 simp only [cellsOf]
 simp only [List.map_map]
 rw [show (intOf ∘ Value.int .i64) = id from rfl, List.map_id]
structure ApL (g1 g2 : Nat) (K S I O : Nat) (B P Z : Nat) (w : World) : Prop where
 tg : Pg.TB w g1 K S I O 0
 gm : w.heap[g2]? = some (.cells #[.int .i64 B, .int .i64 P, .int .i64 Z] 23 (0, 0))
 tab : Pg.Tab w
theorem ApL.off {g1 g2 K S I O B P Z : Nat} {w w' : World} {S' : Nat -> Prop} (h : ApL g1 g2 K S I O B P Z w) (k : Kp S' w w') (h1 : ¬ S' g1) (h2 : ¬ S' g2) (h0 : ¬ S' 0) : ApL g1 g2 K S I O B P Z w' :=
 ⟨(k.block g1 h.tg.lt h1).trans h.tg, (k.block g2 (Array.getElem?_eq_some_iff.1 h.gm).1 h2).trans h.gm, Tab.off h.tab k h0⟩
theorem ApL.cells {g1 g2 K S I O B P Z : Nat} {w : World} (h : ApL g1 g2 K S I O B P Z w) : w.cell? ⟨g2, 0, none⟩ = some (.int .i64 B) /\ w.cell? ⟨g2, 1, none⟩ = some (.int .i64 P) /\ w.cell? ⟨g2, 2, none⟩ = some (.int .i64 Z) := by
 refine ⟨?_, ?_, ?_⟩ <;> (rw [cell_of_row w g2 _ _ 23 _ h.gm]; rfl)
theorem apl_gm {g : Nat} (w1 : World) (c : Array Value) (hg : w1.heap.size ≠ g) : ((w1.alloc (.cells c 23)).setCell ⟨g, 4, none⟩ (.int .i64 0)).heap[w1.heap.size]? = some (.cells c 23 (0, 0)) :=
 (Below.heap_setCell _ _ _ _ hg).trans (heap_alloc_new w1 _)
theorem apl_start {w w2 W : World} {A X} {g1 g2 K S I O B P Z : Nat} (h : Wtr W A X) (t : Pg.TB W g1 K S I O 0) (g : W.heap[g2]? = some (.cells #[.int .i64 B, .int .i64 P, .int .i64 Z] 23 (0, 0))) (tb : Pg.Tab W) (b : Below w.heap.size w W) (b2 : Below W.heap.size W w2) :
  ApL g1 g2 K S I O B P Z w2 /\ Wtr w2 A X /\ Below w.heap.size w w2 /\ g1 < w2.heap.size /\ g2 < w2.heap.size := by
 have hl := (Array.getElem?_eq_some_iff.1 g).1
 exact ⟨⟨t.call b2, (b2.block g2 hl).trans g, tb.call b2⟩, h.call b2, below3 b b2, Nat.lt_of_lt_of_le t.lt b2.size, Nat.lt_of_lt_of_le hl b2.size⟩
theorem program_pr {w : World} {A X} (h : Wtr w A X) (hT : Pg.Tab w) (b : Nat) (hb : b < X.C.B) (p : Int) (K S I O : Nat) (W0 : Int) (hm : Pg.mayB K I O (X.wn.getD b 0)) (s : ByteArray) (hs : s.size <= X.C.Z) (hd : X.C.did < 999999) :
  Calls Tryz.prog 198 #[.pointer (some ⟨A.a, 0, none⟩), .int .i64 b, .int .i64 p, Pg.tagV K S I O W0, .string s] w fun e w' =>
   e = .returned (.int .i64 (X.prE b p K S I O s)) /\ Wtr w' A (X.prX b p K S I O s) /\ Kp (A.own X.C.B) w w' := program_any h hT b hb p K S I O W0 hm s hs hd
theorem nxt_from {A A' : Wl} {B : Nat} {w w2 w' : World} (b : Below w.heap.size w w2) (_ho : ∀ i, A.own B i -> i < w.heap.size) (n : Nxt A A' B w2 w') : Nxt A A' B w w' :=
 ⟨(Kp.ofBelow b).trans n.kp, fun i hi => (n.own i hi).imp id (fun h => Nat.le_trans b.size h), n.a, n.L, n.la, n.lo, n.lg⟩
theorem geq_trans {X Y Z : Wx} (h : Geq X Y) (k : Geq Y Z) : Geq X Z := ⟨h.1.trans k.1, h.2.1.trans k.2.1, h.2.2.trans k.2.2⟩
theorem geq3 {X2 X1 X' X : Wx} (h : Geq X2 X1) (e : X1.C = X'.C) (k : Geq X' X) : Geq X2 X := geq_trans h (geq_trans ⟨by rw [e], by rw [e], by rw [e]⟩ k)
theorem nxt_step {A A' A'' : Wl} {B B' : Nat} {w2 wr w' : World} (hG : B' = B) (hN : Nxt A A' B w2 wr) (n : Nxt A' A'' B' wr w') : Nxt A A'' B w2 w' := by subst hG; exact hN.trans n
theorem append_any {w : World} {A X} (h : Wtr w A X) (hT : Pg.Tab w) (J : Wx -> Prop) (Q : Int -> Int -> Wx -> Prop) (K S I O : Nat) (W0 : Int) (s : ByteArray) (hJ : J X) (ok : AppOk J Q K S I O s) :
  Calls Tryz.prog 152 #[.pointer (some ⟨A.a, 0, none⟩), Pg.tagV K S I O W0, .string s] w fun e w' => ∃ pl er X' A', e = .returned (.tuple #[.int .i64 pl, .int .i64 er]) /\ Q pl er X' /\ Geq X' X /\ Wtr w' A' X' /\ Nxt A A' X.C.B w w' := by
 obtain ⟨-, hb2, hb3, -⟩ := ok.base X hJ
 have hAl := h.lt _ (.inl rfl)
 obtain ⟨c0, -, -, -, -⟩ := h.cells
 have hgeo := h.chip.geo
 have hm0 : Pg.mayB K I O ((0 : Nat) : Int) := by
  have := hb2 0 (by omega)
  unfold Pg.mayB at this |-
  omega
 have hfr := Hid.mk (fun w hT => Pg.frame_ok K S I O 0 hm0 s X.C.Z hb3 (by omega) w hT)
 have T0 := Pg.TB.fresh w K S I O W0
 have B0 := (Below.refl w.heap.size w).alloc (Nat.le_refl _) (.cells #[.int .i64 K, .int .u64 S, .int .i64 I, .int .i64 O, .int .i64 W0] 97)
 have h1 := h.call B0
 have hlt := T0.lt
 have t1 := hT.call B0
 have HA := Hid.mk (And.intro (And.intro T0 B0) (And.intro t1 (And.intro h hT)))
 generalize hw0 : w.alloc (.cells #[.int .i64 K, .int .u64 S, .int .i64 I, .int .i64 O, .int .i64 W0] 97) = V0 at *
 have HW0 := Hid.mk hw0
 have H1 := Hid.mk h1
 have HO := Hid.mk (And.intro hJ ok)
 have HG := Hid.mk hgeo
 unfold Pg.tagV at hfr |-
 clear h h1 hT hJ ok hb2 hb3 hm0 T0 B0 t1 hw0 hgeo
 obtain ⟨B, hB⟩ : ∃ B, B = X.C.B := ⟨_, rfl⟩
 obtain ⟨P, hP⟩ : ∃ P, P = X.C.P := ⟨_, rfl⟩
 obtain ⟨Z, hZ⟩ : ∃ Z, Z = X.C.Z := ⟨_, rfl⟩
 have HE := Hid.mk (And.intro hB (And.intro hP hZ))
 rw [<- hZ] at hfr
 have hge := Hid.mk (geom_any H1.out.chip)
 rw [<- hB, <- hP, <- hZ] at hge
 clear hB hP hZ
 go_enter Tryz.func152, Tryz.ntmps152
 go_wp2_with (first
  | (go_at_call 8; rw [HW0.out]; refine hge.out.mono ?_; rintro e w1 ⟨rfl, b1⟩; have T2 := (((HA.out.1.1.call b1).alloc (.cells #[.int .i64 B, .int .i64 P, .int .i64 Z] 23))); have fz := T2.frozen 4; obtain ⟨u0, u1, u2, u3, u4⟩ := T2.five; have T3 := T2.set4 0; obtain ⟨v0, v1, v2, v3, v4⟩ := T3.five; have hg2 : w1.heap.size ≠ w.heap.size := (by have := b1.size; omega))
  | (go_at_call 142; have BW := ((below3 HA.out.1.2 b1).alloc (below3 HA.out.1.2 b1).size (.cells #[.int .i64 B, .int .i64 P, .int .i64 Z] 23)).setCell (p := ⟨w.heap.size, 4, none⟩) (Nat.le_refl _) (.int .i64 0); have G3 := apl_gm (g := w.heap.size) w1 #[.int .i64 B, .int .i64 P, .int .i64 Z] hg2; refine (hfr.out _ (HA.out.2.2.2.call BW)).mono ?_; rintro e w2 ⟨rfl, b2⟩; have HL := Hid.mk (apl_start (HA.out.2.2.1.call BW) T3 G3 (HA.out.2.2.2.call BW) BW b2); have hg3 : w.heap.size < w1.heap.size := (by have := b1.size; omega); clear BW T2 T3 G3 u0 u1 u2 u3 u4 v0 v1 v2 v3 v4 b1 b2))
 generalize w1.heap.size = g2 at *
 have hg1 := Hid.mk (show ∀ i, A.own X.C.B i -> i < w.heap.size from HA.out.2.2.1.lt)
 clear HA H1 hge hfr HW0 c0 fz
 go_loopw [] (fun wr => ∃ A' X', Wtr wr A' X' /\ J X' /\ Geq X' X /\ Nxt A A' X.C.B w2 wr) (fun wr => (left (rdRow wr A.lg)).toNat)
 case atStart => exact ⟨A, X, HL.out.2.1, HO.out.1, ⟨rfl, rfl, rfl⟩, Nxt.of (Kp.refl _ _)⟩
 case round =>
  obtain ⟨A', X', hW, hJ', hG, hN⟩ := hrel
  have hno : ∀ i, i = w.heap.size \/ i = g2 \/ i = 0 -> ¬ A'.own X'.C.B i := by
   intro i hi hx
   rw [hG.1] at hx
   have hz := HL.out.2.1.zero
   have q1 := HL.out.2.2.2.1
   have q2 := HL.out.2.2.2.2
   rcases hN.own i hx with y | y
   ·have := hg1.out i y
    rcases hi with rfl | rfl | rfl
    ·omega
    ·omega
    ·exact hz y
   ·omega
  have hloc : ApL w.heap.size g2 K S I O B P Z wr := by
   have hz := HL.out.2.1.zero
   exact HL.out.1.off hN.kp (fun x => by have := hg1.out _ x; omega) (fun x => by have := hg1.out _ x; omega) hz
  have bw := HL.out.2.2.1
  rcases tk_or hW with ⟨f1, f2⟩ | ⟨b, X1, p, ht⟩
  ·have HT := Hid.mk (take_full hW f1 f2)
   rw [hN.a] at HT
   have HR := Hid.mk (And.intro hW (And.intro hG (And.intro hN (And.intro bw (HO.out.2.full X' hJ' hW.lif.ok f1 f2)))))
   clear hW hJ' hG hN hno hloc bw f1 f2
   go_wp2_with (go_at_call 197; refine HT.out.mono ?_; rintro e w3 ⟨rfl, b3⟩)
   go_ret2
   exact ⟨0, 130, X', A', rfl, HR.out.2.2.2.2, HR.out.2.1, HR.out.1.call b3, nxt_from HR.out.2.2.2.1 hg1.out (HR.out.2.2.1.trans (Nxt.of (Kp.ofBelow b3)))⟩
  ·obtain ⟨hb, hp0, hp⟩ := ht.lt hW
   obtain ⟨e1, e2, e3⟩ := ht.C
   obtain ⟨q1, q2, q3, q4⟩ := HO.out.2.base X' hJ'
   have HT := Hid.mk (take_tk hW ht)
   rw [hN.a] at HT
   have HP := Hid.mk (fun (w3 : World) (h3 : Wtr w3 A' X1) (t3 : Pg.Tab w3) => program_pr h3 t3 b (by rw [e1]; exact hb) p K S I O 0 (by rw [e2]; exact q2 b hb) s (by rw [e1]; exact q3) (by rw [e1]; omega))
   rw [hN.a] at HP
   have g5 := progC_geo3 X1.C b p (frD X1 s) (frS X1 b K S I O s)
   have hgx := prX_geq X1 b p K S I O s
   have HQ := Hid.mk (fun (w4 : World) (h4 : Wtr w4 A' (X1.prX b p K S I O s)) => leave_any h4 b (by rw [hgx.1, e1]; exact hb) (by have := g5.2; rw [e1] at this; show (progC X1.C b p (frD X1 s) (frS X1 b K S I O s)).1.did < 999999; rw [e1]; omega) (by show X1.bd.length <= 100000; rw [e3]; omega) (X1.prE b p K S I O s))
   rw [hN.a, hgx.1, e1] at HQ
   have hdo := HO.out.2.done X' b X1 p hJ' hW.lif.ok hb hp0 hp ht
   have hfa := HO.out.2.fail X' b X1 p hJ' hW.lif.ok hb hp0 hp ht
   have hmo := HO.out.2.more X' b X1 p hJ' hW.lif.ok hb hp0 hp ht
   have hlx := fun h0 => leave_xs hW ht K S I O s (e := X1.prE b p K S I O s) h0
   have hlg := leave_geq (X1.prX b p K S I O s) b (X1.prE b p K S I O s)
   have hrd : rdRow wr A.lg = X'.xs := by rw [<- hN.lg]; exact rdRow_is hW.lif.row
   have hgg := HG.out
   have hmr := Lf.mul_range (a := (b : Int)) (b := (X'.C.P : Int)) (A := 32) (B := 16) (by have := hG.1; omega) (by have := hG.2.1; omega)
   have hPe : X'.C.P = P := by rw [hG.2.1, HE.out.2.1]
   rw [hPe] at hdo hmr hp
   have hp16 : p < 16 := by have := HE.out.2.1; omega
   obtain ⟨v, hv⟩ : ∃ v, (b : Int) * (P : Int) = v := ⟨_, rfl⟩
   rw [hv] at hdo hmr
   have hm : wrap64 ((b : Int) * (P : Int)) = v := by rw [hv]; unfold wrap64; omega
   have hgY := hgx
   generalize X1.prE b p K S I O s = er at *
   generalize X1.prX b p K S I O s = X2 at *
   have HRR := Hid.mk (And.intro hno (And.intro hloc (And.intro hG (And.intro hN (And.intro bw (And.intro e1 (And.intro hgY hlg)))))))
   clear hW hJ' hG hN hno hloc bw e2 e3 q1 q2 q3 q4 g5 hgx hgY hlg hgg hv hPe ht hb hp HG HE
   have hk1 : ∀ (w3 : World), Kp (A'.own X'.C.B) wr w3 -> ApL w.heap.size g2 K S I O B P Z w3 := fun w3 k3 => HRR.out.2.1.off k3 (HRR.out.1 _ (.inl rfl)) (HRR.out.1 _ (.inr (.inl rfl))) (HRR.out.1 _ (.inr (.inr rfl)))
   have hk2 : ∀ (w3 w4 : World), ApL w.heap.size g2 K S I O B P Z w3 -> Kp (A'.own X'.C.B) w3 w4 -> ApL w.heap.size g2 K S I O B P Z w4 := fun w3 w4 L3 k4 => L3.off k4 (HRR.out.1 _ (.inl rfl)) (HRR.out.1 _ (.inr (.inl rfl))) (HRR.out.1 _ (.inr (.inr rfl)))
   have HK := Hid.mk (And.intro hk1 hk2)
   clear hk1 hk2
   have hQd := Hid.mk hdo
   have hQf := Hid.mk (And.intro hfa (And.intro hmo hlx))
   have HRD := Hid.mk hrd
   clear hdo hfa hmo hlx hrd
   rw [e1] at HP
   unfold Pg.tagV at HP
   clear e1
   by_cases he : er = 0
   ·subst he
    go_wp2_with (first
     | (go_at_call 197; refine HT.out.mono ?_; rintro e w3 ⟨rfl, h3, k3⟩; have L3 := HK.out.1 _ k3; obtain ⟨t0, t1, t2, t3, t4⟩ := L3.tg.five; have H3 := Hid.mk (And.intro h3 (And.intro k3 L3)); clear h3 k3 L3)
     | (go_at_call 198; refine (HP.out _ H3.out.1 H3.out.2.2.tab).mono ?_; rintro e w4 ⟨rfl, h4, k4⟩; have L4 := HK.out.2 _ _ H3.out.2.2 k4; obtain ⟨m0, m1, m2⟩ := L4.cells; have H4 := Hid.mk (And.intro h4 (And.intro k4 L4)); clear h4 k4 L4))
    go_ret2
    obtain ⟨_, _, hG, hN, bw, e1, hgY, _⟩ := HRR.out
    exact ⟨v + p, 0, X2, A', rfl, hQd.out (by first | exact rfl | exact True.intro), geq3 hgY e1 hG, H4.out.1, nxt_from bw hg1.out (nxt_step hG.1 hN ((Nxt.of H3.out.2.1).trans (Nxt.of H4.out.2.1)))⟩
   ·by_cases hl : X2.leaveE b er = 0
    ·go_wp2_with (first
     | (go_at_call 197; refine HT.out.mono ?_; rintro e w3 ⟨rfl, h3, k3⟩; have L3 := HK.out.1 _ k3; obtain ⟨t0, t1, t2, t3, t4⟩ := L3.tg.five; have H3 := Hid.mk (And.intro h3 (And.intro k3 L3)); clear h3 k3 L3)
     | (go_at_call 198; refine (HP.out _ H3.out.1 H3.out.2.2.tab).mono ?_; rintro e w4 ⟨rfl, h4, k4⟩; have L4 := HK.out.2 _ _ H3.out.2.2 k4; obtain ⟨m0, m1, m2⟩ := L4.cells; have H4 := Hid.mk (And.intro h4 (And.intro k4 L4)); clear h4 k4 L4)
      | (go_at_call 199; refine (HQ.out _ H4.out.1).mono ?_; rintro e w5 ⟨rfl, A5, h5, n5⟩; rw [hl]; have H5 := Hid.mk (And.intro h5 n5); clear h5 n5))
     obtain ⟨_, _, hG, hN, bw, e1, hgY, hlg⟩ := HRR.out
     have n9 := nxt_step hG.1 hN ((Nxt.of H3.out.2.1).trans ((Nxt.of H4.out.2.1).trans H5.out.2))
     refine ⟨⟨A5, X2.leave b er, H5.out.1, hQf.out.2.1 he hl, geq3 (geq_trans hlg hgY) e1 hG, n9⟩, ?_⟩
     have r5 : rdRow w5 A.lg = (X2.leave b er).xs := by rw [<- n9.lg]; exact rdRow_is H5.out.1.lif.row
     have r6 := hQf.out.2.2 he hl
     have r7 : 0 <= left (X2.leave b er).xs := by unfold left; have := (Lf.cnt_range (X2.leave b er).xs 0).1; have := (Lf.cnt_range (X2.leave b er).xs 1).1; omega
     rw [r5, HRD.out]
     omega
    ·go_wp2_with (first
     | (go_at_call 197; refine HT.out.mono ?_; rintro e w3 ⟨rfl, h3, k3⟩; have L3 := HK.out.1 _ k3; obtain ⟨t0, t1, t2, t3, t4⟩ := L3.tg.five; have H3 := Hid.mk (And.intro h3 (And.intro k3 L3)); clear h3 k3 L3)
     | (go_at_call 198; refine (HP.out _ H3.out.1 H3.out.2.2.tab).mono ?_; rintro e w4 ⟨rfl, h4, k4⟩; have L4 := HK.out.2 _ _ H3.out.2.2 k4; obtain ⟨m0, m1, m2⟩ := L4.cells; have H4 := Hid.mk (And.intro h4 (And.intro k4 L4)); clear h4 k4 L4)
      | (go_at_call 199; refine (HQ.out _ H4.out.1).mono ?_; rintro e w5 ⟨rfl, A5, h5, n5⟩; have H5 := Hid.mk (And.intro h5 n5); clear h5 n5))
     go_ret2
     obtain ⟨_, _, hG, hN, bw, e1, hgY, hlg⟩ := HRR.out
     have n9 := nxt_step hG.1 hN ((Nxt.of H3.out.2.1).trans ((Nxt.of H4.out.2.1).trans H5.out.2))
     exact ⟨0, _, X2.leave b er, A5, rfl, hQf.out.1 he hl, geq3 (geq_trans hlg hgY) e1 hG, H5.out.1, nxt_from bw hg1.out n9⟩
end Go.Proofs.YtcmmhfjnhlaepabGreatDoor
