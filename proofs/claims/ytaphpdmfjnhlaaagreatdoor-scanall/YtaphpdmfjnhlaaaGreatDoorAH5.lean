/-
  What a state tells: Get, Refs, Live, Keys, Bad, Bads, Worn; and what no state tells. No condition. Slices of structs that a call itself has made: how they grow by append, and what their elements are. No condition. Space: what is told of one space. No condition. Spaces: all spaces, by their numbers. No condition. A state that the call itself has made, by what it has alone; a page that two spaces have. No condition. Rows of records that are handed in. No condition. A state beside blocks of the call's own; which blocks are bad and how often each was erased, told by records. No condition.
-/
import Derived.Test.YtaphpdmfjnhlaaaGreatDoorAH4
import Derived.Maps.AppendAt
import Derived.Laws.OwnMore
namespace Go.Proofs.YtaphpdmfjnhlaaaGreatDoor.S8
open Go Go.RowKit Go.Maps
def getA (t : Ab) (id page : Int) : Option Int := match gA t.sp id with | none => none | some x => mget x.ps page
set_option maxRecDepth 20000 in
theorem get_any {w s} (h : StAt w s) {id page : Int} (hi : K64 id) (hp : K64 page) :
  Calls Tryz.prog 28 #[.pointer (some ⟨s.p, 0, none⟩), .int .i64 id, .int .i64 page] w fun e w' => e = .returned (.tuple #[.int .i64 ((getA (ab s) id page).getD 0), .bool (getA (ab s) id page).isSome]) /\ w = w' := by
 have c0 := h.c0
 unfold getA
 cases hg : gsp s.sp id with
 | none =>
  rw [ab_gspN hg]
  have l0 := h.noSp hi hg
  clear h hg
  go_enter Tryz.func28, Tryz.ntmps28
  go_wp2
  go_ret2
  exact ⟨rfl, rfl⟩
 | some x =>
  rw [ab_gsp hg]
  have hxid := (gsp_some hg).2
  have hgx := gsp_id hg
  subst hxid
  have l0 := h.aSp hi hgx
  have hX := h.hsp x (gsp_some hg).1
  have q2 := hX.pb
  have l1 := hX.2.lookOk hp
  show Calls _ _ _ _ fun e w' => e = .returned (.tuple #[.int .i64 ((mget x.ps page).getD 0), .bool (mget x.ps page).isSome]) /\ w = w'
  generalize (mget x.ps page).getD 0 = a at *
  generalize (mget x.ps page).isSome = b at *
  clear h hg hgx hX
  go_enter Tryz.func28, Tryz.ntmps28
  go_wp2
  go_ret2
  exact ⟨rfl, rfl⟩
/-! no state -/
end Go.Proofs.YtaphpdmfjnhlaaaGreatDoor.S8
namespace Go.Proofs.YtaphpdmfjnhlaaaGreatDoor.S8
open Go Go.RowKit Go.Maps
abbrev Rws := List (List Value)
structure Ow (w : World) (B : Nat) (e : TypeId) (sz : Nat) (v : Value) (rows : Rws) : Prop where
 own : w.ownsRow B e sz v rows.length rows.flatten
 len : ∀ r ∈ rows, r.length = sz
 one : ∀ r ∈ rows, ∀ u ∈ r, u.oneCell' = true
theorem Ow.form {w : World} {B e sz v rows} (h : Ow w B e sz v rows) : ∃ a cap, v = .slice a rows.length cap := by
 rcases h.own.2 with ⟨h1, h2⟩ | ⟨g, cap, _, h1, _⟩
 ·exact ⟨none, 0, by rw [h1, h2]⟩
 ·exact ⟨_, cap, h1⟩
structure EI (t e sz bytes : Nat) : Prop where
 under : Tryz.prog.underlying t = some (.slice e)
 info : ∃ i z, Tryz.prog.info? e = some i /\ i.zero = some z /\ i.size = sz /\ i.bytes = bytes /\ z.cells.size = sz
 pos : 0 < sz
 top : bytes <= 64
theorem lit_cells (w : World) (cs : Array Value) (e : TypeId) : ∀ j u, cs.toList[j]? = some u -> (w.alloc (.cells cs e)).cell? ((⟨w.heap.size, 0, none⟩ : Addr).add j) = some u := by
 intro j u hu
 have ea : (⟨w.heap.size, 0, none⟩ : Addr).add j = ⟨w.heap.size, j, none⟩ := by unfold Addr.add; split <;> simp_all
 rw [ea, cell_of_row _ _ j _ e _ (heap_alloc_new w _), <- hu]
 simp
theorem Ow.more {w w' : World} {B e sz v v' rows} (h : Ow w B e sz v rows) {r : List Value} (hr : r.length = sz) (h1 : ∀ u ∈ r, u.oneCell' = true) (ho : w'.ownsRow B e sz v' (rows.length + 1) (rows.flatten ++ r)) : Ow w' B e sz v' (rows ++ [r]) := by
 refine ⟨?_, fun q hq => ?_, fun q hq => ?_⟩
 ·rw [List.length_append, List.flatten_append]
  simpa using ho
 all_goals
  rcases List.mem_append.1 hq with hq | hq
 ·exact h.len q hq
 ·rw [List.mem_singleton.1 hq]; exact hr
 ·exact h.one q hq
 ·rw [List.mem_singleton.1 hq]; exact h1
section
variable {ops : Array Oper} {rest : List Oper} {o : Oper} {a : Act} {Q : Exit -> Act -> World -> Prop}
end
end Go.Proofs.YtaphpdmfjnhlaaaGreatDoor.S8
namespace Go.Proofs.YtaphpdmfjnhlaaaGreatDoor.S8
open Go Go.RowKit Go.Maps
end Go.Proofs.YtaphpdmfjnhlaaaGreatDoor.S8
namespace Go.Proofs.YtaphpdmfjnhlaaaGreatDoor.S8
open Go Go.RowKit Go.Maps
end Go.Proofs.YtaphpdmfjnhlaaaGreatDoor.S8
namespace Go.Proofs.YtaphpdmfjnhlaaaGreatDoor.S8
open Go Go.RowKit Go.Maps
def Hold (B : Nat) (w0 : World) (P : Nat) (t : Ab) (w : World) : Prop := ∃ s, s.p = P /\ Whole w s /\ ab s = t /\ Below B w0 w /\ B <= w0.heap.size /\ ∀ i ∈ foot s, B <= i
def noAb : Ab := ⟨[], [], []⟩
theorem whole_new {w : World} {g : Nat} (h : StAt w (newSt g)) : Whole w (newSt g) := by
 refine ⟨h, ⟨?_, ?_, ?_, ?_, ?_, ?_, ?_, ?_, ?_⟩, ⟨fun a => ?_, fun a => ?_, fun a => ?_⟩⟩
 all_goals try (intro x hx; cases hx)
 ·exact List.Pairwise.nil
 ·exact List.Pairwise.nil
 ·exact List.Pairwise.nil
 ·simp [newSt, ab, cntA, mget]
 ·simp [newSt, ab, cntA]
 ·simp [newSt, ab, cntA]
theorem newW_any (w : World) : Calls Tryz.prog 34 #[] w fun e w' => e = .returned (.pointer (some ⟨w.heap.size + 4, 0, none⟩)) /\ Whole w' (newSt w.heap.size) /\ Below w.heap.size w w' :=
 (new_any w).mono fun _ _ h => ⟨h.1, whole_new h.2.1, h.2.2⟩
theorem foot_new (g : Nat) : ∀ i ∈ foot (newSt g), g <= i := by
 intro i hi
 simp [foot, maps, newSt] at hi
 omega
theorem Hold.below {B : Nat} {w0 w : World} {P t} (h : Hold B w0 P t w) : Below B w0 w := by
 obtain ⟨s, h1, h2, h3, h4, h5, h6⟩ := h
 exact h4
theorem hold_get {B : Nat} {w0 w : World} {P t} (h : Hold B w0 P t w) {id page : Int} (hi : K64 id) (hp : K64 page) : Calls Tryz.prog 28 #[.pointer (some ⟨P, 0, none⟩), .int .i64 id, .int .i64 page] w fun e w' => e = .returned (.tuple #[.int .i64 ((getA t id page).getD 0), .bool (getA t id page).isSome]) /\ w = w' := by
 obtain ⟨s, rfl, h2, rfl, h4, h5, h6⟩ := h
 exact get_any h2.at' hi hp
/-! a page that two spaces have -/
end Go.Proofs.YtaphpdmfjnhlaaaGreatDoor.S8
namespace Go.Proofs.YtaphpdmfjnhlaaaGreatDoor.S8
open Go Go.RowKit
abbrev R6 := Int × Int × Int × Int × Int × Int
def apR (t : Ab) (r : R6) : Ab × Int := apA t r.1 r.2.1 r.2.2.1 r.2.2.2.1 r.2.2.2.2.1 r.2.2.2.2.2
end Go.Proofs.YtaphpdmfjnhlaaaGreatDoor.S8
namespace Go.Proofs.YtaphpdmfjnhlaaaGreatDoor.S8
open Go Go.RowKit Go.Maps
def HoldZ (B : Nat) (w0 : World) (P : Nat) (t : Ab) (Z : List Nat) (w : World) : Prop :=
 ∃ s, s.p = P /\ Whole w s /\ ab s = t /\ Below B w0 w /\ B <= w0.heap.size /\ (∀ i ∈ foot s, B <= i) /\ ∀ z ∈ Z, (B <= z /\ z < w.heap.size) /\ z ∉ foot s
theorem HoldZ.hold {B : Nat} {w0 w : World} {P t Z} (h : HoldZ B w0 P t Z w) : Hold B w0 P t w := by
 obtain ⟨s, h1, h2, h3, h4, h5, h6, h7⟩ := h
 exact ⟨s, h1, h2, h3, h4, h5, h6⟩
theorem HoldZ.call {B : Nat} {w0 w w' : World} {P t Z} (h : HoldZ B w0 P t Z w) (q : Below w.heap.size w w') : HoldZ B w0 P t Z w' := by
 obtain ⟨s, h1, h2, h3, h4, h5, h6, h7⟩ := h
 exact ⟨s, h1, h2.call q, h3, h4.trans (q.mono (Nat.le_trans h5 h4.size)), h5, h6, fun z hz => ⟨⟨(h7 z hz).1.1, Nat.lt_of_lt_of_le (h7 z hz).1.2 q.size⟩, (h7 z hz).2⟩⟩
theorem newZ {B : Nat} {w0 w : World} {Z : List Nat} (b : Below B w0 w) (hB : B <= w0.heap.size) (hZ : ∀ z ∈ Z, B <= z /\ z < w.heap.size) : Calls Tryz.prog 34 #[] w fun e w' => e = .returned (.pointer (some ⟨w.heap.size + 4, 0, none⟩)) /\ HoldZ B w0 (w.heap.size + 4) noAb Z w' /\ Below w.heap.size w w' := by
 refine (newW_any w).mono ?_
 rintro e w' ⟨rfl, h1, h2⟩
 exact ⟨rfl, ⟨newSt w.heap.size, rfl, h1, rfl, b.trans (h2.mono (Nat.le_trans hB b.size)), hB, fun i hi => Nat.le_trans (Nat.le_trans hB b.size) (foot_new _ i hi), fun z hz => ⟨⟨(hZ z hz).1, Nat.lt_of_lt_of_le (hZ z hz).2 h2.size⟩, fun hm => by have := foot_new _ _ hm; have := (hZ z hz).2; omega⟩⟩, h2⟩
theorem applyZ {B : Nat} {w0 w : World} {P t Z} (h : HoldZ B w0 P t Z w) (r : R6) : Calls Tryz.prog 78 #[.pointer (some ⟨P, 0, none⟩), rv r.1 r.2.1 r.2.2.1 r.2.2.2.1 r.2.2.2.2.1 r.2.2.2.2.2] w fun e w' => e = .returned (.int .i64 (apR t r).2) /\ HoldZ B w0 P (apR t r).1 Z w' /\ (∀ z ∈ Z, w'.heap[z]? = w.heap[z]?) /\ Below B w w' := by
 obtain ⟨s, rfl, h2, rfl, h4, h5, h6, h7⟩ := h
 refine (apply_any h2 _ _ _ _ _ _).mono ?_
 rintro e w' ⟨rfl, s', g1, g2, g3⟩
 refine ⟨rfl, ⟨s', g3.home, g1, g2, g3.below h4 (Nat.le_trans h5 h4.size) h6, h5, g3.high (Nat.le_trans h5 h4.size) h6, fun z hz => ⟨⟨(h7 z hz).1.1, Nat.lt_of_lt_of_le (h7 z hz).1.2 g3.size⟩, fun hm => ?_⟩⟩, fun z hz => g3.block z (h7 z hz).1.2 (h7 z hz).2, g3.below (Below.refl _ w) (Nat.le_trans h5 h4.size) h6⟩
 rcases g3.own z hm with q | q
 ·exact (h7 z hz).2 q
 ·have := (h7 z hz).1.2
  omega
end Go.Proofs.YtaphpdmfjnhlaaaGreatDoor.S8
