/-
  Erasures where nothing happens; a geometry of a law's own beside its writer; Append where nothing is free. Pure, but for the last.
-/
import Derived.Test.YtbcnocbdifbocaaDoorAwk
namespace Go.Proofs.YtbcnocbdifbocaaDoor
open Go Go.RowKit
set_option maxRecDepth 100000

/-- a block was erased -/
def Wx.era (X : Wx) (b : Nat) : Wx := { X with C := { X.C with did := X.C.did + 1, worn := upd X.C.worn b (X.C.worn b + 1), pg := upd X.C.pg b (fun p => if p < X.C.P then ⟨#[]⟩ else X.C.pg b p) }, wn := X.wn.set b (X.wn.getD b 0 + 1), xs := X.xs.set b 0, o := if X.o = b then -1 else X.o }
theorem erase_go {X : Wx} {b : Nat} (hb : b < X.C.B) (hoff : X.C.off = false) (hc : X.C.cuts (X.C.did + 1) = none) (hd : X.C.dead b = false) (hf : X.C.fails (X.C.did + 1) = false) (h3 : X.xs.getD b 0 ≠ 3) : X.erE b = 0 ∧ X.erX b = X.era b := by
  have he := erase_plain (refB_ok hoff hb) hc hd hf
  unfold Wx.erE Wx.erX Wx.erC
  rw [he, if_pos rfl, if_pos rfl]
  refine ⟨rfl, ?_⟩
  unfold Wx.letB letX letO Wx.era
  simp only
  rw [if_neg h3, if_neg h3]
theorem era_xs {X : Wx} {b : Nat} (hl : b < X.xs.length) (i : Nat) : (X.era b).xs.getD i 0 = if i = b then 0 else X.xs.getD i 0 := by
  show (X.xs.set b 0).getD i 0 = _
  exact Lf.getD_set X.xs i b 0 hl
theorem era_wn {X : Wx} {b : Nat} (hl : b < X.wn.length) (i : Nat) : (X.era b).wn.getD i 0 = if i = b then X.wn.getD b 0 + 1 else X.wn.getD i 0 := by
  show (X.wn.set b _).getD i 0 = _
  exact Lf.getD_set X.wn i b _ hl
theorem era_pg (X : Wx) (b i p : Nat) : (X.era b).C.pg i p = if i = b then (if p < X.C.P then ⟨#[]⟩ else X.C.pg b p) else X.C.pg i p := by
  show upd X.C.pg b _ i p = _
  unfold upd
  split <;> rfl
theorem Fin.era {X : Wx} (h : Fin X) {b : Nat} (hb : b < X.xs.length) (hw : b < X.wn.length) (hd : X.C.dead b = false) (hn : X.wn.getD b 0 < 60000) : Fin (X.era b) := by
  refine ⟨h.off, fun i hi hx => ?_, fun i hi hx => ?_, fun i => ?_, h.geo⟩
  · rw [era_xs hb] at hx
    by_cases e : i = b
    · subst e
      exact ⟨hd, fun p hp => by rw [era_pg, if_pos rfl, if_pos (show p < X.C.P from hp)]⟩
    · rw [if_neg e] at hx
      obtain ⟨d1, d2⟩ := h.free i hi hx
      exact ⟨d1, fun p hp => by rw [era_pg, if_neg e]; exact d2 p hp⟩
  · rw [era_xs hb] at hx
    by_cases e : i = b
    · rw [if_pos e] at hx; omega
    · rw [if_neg e] at hx
      obtain ⟨d1, d2⟩ := h.opn i hi hx
      exact ⟨d1, fun p hp1 hp2 => by rw [era_pg, if_neg e]; exact d2 p hp1 hp2⟩
  · rw [era_wn hw]
    have := h.cnt b
    have := h.cnt i
    split <;> omega
theorem era_says {X : Wx} {b i p : Nat} {t : ByteArray} {K S I O W : Nat} (h : Says X.C i p t K S I O W) (hne : i ≠ b) : Says (X.era b).C i p t K S I O W := by
  obtain ⟨d, s, h1, h2, h3⟩ := h
  exact ⟨d, s, by rw [era_pg, if_neg hne]; exact h1, h2, h3⟩
/-- a law's own geometry beside its writer -/
structure RunG (w0 : World) (G b p z : Nat) (A : Wl) (X : Wx) (w : World) : Prop where
  run : Run w0 A X w
  geo : w.heap[G]? = some (.cells #[.int .i64 b, .int .i64 p, .int .i64 z] 23 (0, 0))
  apart : ¬ A.own X.C.B G
  eB : X.C.B = b
  eP : X.C.P = p
  eZ : X.C.Z = z
theorem RunG.call {w0 : World} {G b p z A X} {w w' : World} (h : RunG w0 G b p z A X w) (k : Below w.heap.size w w') : RunG w0 G b p z A X w' :=
  ⟨h.run.call k, (k.block G (Array.getElem?_eq_some_iff.1 h.geo).1).trans h.geo, h.apart, h.eB, h.eP, h.eZ⟩
theorem RunG.alloc {w0 : World} {G b p z A X} {w : World} (h : RunG w0 G b p z A X w) (o : Obj) : RunG w0 G b p z A X (w.alloc o) := h.call ((Below.refl _ w).alloc (Nat.le_refl _) o)
theorem RunG.drew {w0 : World} {G b p z A X} {w : World} (h : RunG w0 G b p z A X w) : RunG w0 G b p z A X w.drew := ⟨h.run.drew, h.geo, h.apart, h.eB, h.eP, h.eZ⟩
theorem RunG.drewN {w0 : World} {G b p z A X} {w : World} (h : RunG w0 G b p z A X w) (n : Nat) : RunG w0 G b p z A X (w.drewN n) := ⟨h.run.drewN n, h.geo, h.apart, h.eB, h.eP, h.eZ⟩
theorem RunG.next {w0 : World} {G b p z A A' X X'} {w w' : World} (h : RunG w0 G b p z A X w) (k : Wtr w' A' X') (n : Nxt A A' X.C.B w w') (g : Geq X' X) : RunG w0 G b p z A' X' w' := by
  have hl := (Array.getElem?_eq_some_iff.1 h.geo).1
  refine ⟨h.run.next k n, (n.kp.block G hl h.apart).trans h.geo, fun x => ?_, g.1.trans h.eB, g.2.1.trans h.eP, g.2.2.trans h.eZ⟩
  rw [g.1] at x
  rcases n.own G x with y | y
  · exact h.apart y
  · omega
theorem RunG.cells {w0 : World} {G b p z A X} {w : World} (h : RunG w0 G b p z A X w) : w.cell? ⟨G, 0, none⟩ = some (.int .i64 b) ∧ w.cell? ⟨G, 1, none⟩ = some (.int .i64 p) ∧ w.cell? ⟨G, 2, none⟩ = some (.int .i64 z) := by
  refine ⟨?_, ?_, ?_⟩ <;> (rw [cell_of_row w G _ _ 23 _ h.geo]; rfl)
theorem Run.from {w0 w1 w : World} {A X} (b : Below w0.heap.size w0 w1) (h : Run w1 A X w) : Run w0 A X w := ⟨h.wtr, ⟨h.below.os.trans b.os, h.below.tape.trans b.tape, h.below.output.trans b.output, Nat.le_trans b.size h.below.size, fun i hi => (h.below.block i (Nat.lt_of_lt_of_le hi b.size)).trans (b.block i hi)⟩, Nat.le_trans b.size h.lo, h.tab⟩
/-- a geometry is laid beside -/
theorem RunG.start {w0 w : World} {A X} (h : Run w0 A X w) (b p z : Nat) (eB : X.C.B = b) (eP : X.C.P = p) (eZ : X.C.Z = z) : RunG w0 w.heap.size b p z A X (w.alloc (.cells #[.int .i64 b, .int .i64 p, .int .i64 z] 23)) :=
  ⟨h.alloc _, heap_alloc_new w _, fun x => by have := h.wtr.lt _ x; omega, eB, eP, eZ⟩
theorem append_full {w0 w : World} {A X} (h : Run w0 A X w) {T : Nat → ByteArray} {Q : Nat → Nat} (hq : Sq X X.C.B 0 T Q) (n : Nat) (hn : n < 18446744073709551616) (s : ByteArray) (hs : s.size ≤ X.C.Z) (hc : X.C.cuts (X.C.did + 1) = none) (hf : X.C.fails (X.C.did + 1) = false) (W0 : Int) :
    Calls Tryd.prog 18 #[.pointer (some ⟨A.a, 0, none⟩), Pg.tagV 1 n 0 1 W0, .string s] w fun e w' => ∃ A', e = .returned (.tuple #[.int .i64 0, .int .i64 130]) ∧ Wtr w' A' X ∧ Nxt A A' X.C.B w w' := by
  have hg := h.wtr.chip.geo
  have hm := Lf.mul_range (a := (X.C.B : Int)) (b := (X.C.P : Int)) (A := 32) (B := 16) (by omega) (by omega)
  refine (append_plain h.wtr h.tab hq.fin n hn s hs (by rw [hq.did]; simp only [Int.natCast_add, Int.natCast_mul]; omega) (by rw [hq.bd]; simp) hc hf W0).mono ?_
  rintro e w' ⟨pl, er, X', A', rfl, hp, hgq, hw, hN⟩
  rcases hp with ⟨rfl, rfl, rfl, _⟩ | ⟨b, X1, q, ht, hb, hqP, rfl, rfl, rfl⟩
  · exact ⟨A', rfl, hw, hN⟩
  · have := (hq.tk h.wtr.lif.ok ht).1
    omega
end Go.Proofs.YtbcnocbdifbocaaDoor
