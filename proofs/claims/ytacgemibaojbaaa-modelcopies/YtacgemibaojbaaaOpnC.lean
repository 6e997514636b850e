/-
  What the proofs of this seat share: the program as it is laid; how a record that is handed in is opened. No condition. How a row of acts that is handed in is opened. No condition.
-/
import Derived.Test.YtacgemibaojbaaaMay
import Derived.Test.YtacgemibaojbaaaRows
import Derived.ProofKit
import Derived.OpenShut
import Derived.Stop.Joined
import Derived.ShutString
import Derived.ChangeOld
import Derived.Below
import Derived.Carry
import Derived.Laws.Cover2
import Derived.Lib.SmallJoins
import Derived.Deep.Slices
import Derived.Test.YtacgemibaojbaaaAwk
namespace Go.Proofs.Ytacgemibaojbaaa
open Go.ChangeShapes Go.WideShapes Go.ChangeAt Go.RowKit

/-- six numbers -/
abbrev R6 := Int × Int × Int × Int × Int × Int
def R6.wf (r : R6) : Prop := (Lit.int .i64 r.1).wf = true ∧ (Lit.int .i64 r.2.1).wf = true ∧ (Lit.int .i64 r.2.2.1).wf = true ∧ (Lit.int .i64 r.2.2.2.1).wf = true ∧ (Lit.int .i64 r.2.2.2.2.1).wf = true ∧ (Lit.int .i64 r.2.2.2.2.2).wf = true
def R6.at (w : World) (g o : Nat) (r : R6) : Prop := w.cell? ⟨g, o, none⟩ = some (.int .i64 r.1) ∧ w.cell? ⟨g, o + 1, none⟩ = some (.int .i64 r.2.1) ∧ w.cell? ⟨g, o + 2, none⟩ = some (.int .i64 r.2.2.1) ∧
  w.cell? ⟨g, o + 3, none⟩ = some (.int .i64 r.2.2.2.1) ∧ w.cell? ⟨g, o + 4, none⟩ = some (.int .i64 r.2.2.2.2.1) ∧ w.cell? ⟨g, o + 5, none⟩ = some (.int .i64 r.2.2.2.2.2)
/-- something that is done: its kind, a record, a text -/
structure Ac where
  k : Int
  r : R6
  s : ByteArray
/-- a row of acts that is handed in -/
structure Ac.at (w : World) (g o : Nat) (c : Ac) : Prop where
  k : w.cell? ⟨g, o, none⟩ = some (.int .i64 c.k)
  c1 : w.cell? ⟨g, o + 1, none⟩ = some (.int .i64 c.r.1)
  c2 : w.cell? ⟨g, o + 2, none⟩ = some (.int .i64 c.r.2.1)
  c3 : w.cell? ⟨g, o + 3, none⟩ = some (.int .i64 c.r.2.2.1)
  c4 : w.cell? ⟨g, o + 4, none⟩ = some (.int .i64 c.r.2.2.2.1)
  c5 : w.cell? ⟨g, o + 5, none⟩ = some (.int .i64 c.r.2.2.2.2.1)
  c6 : w.cell? ⟨g, o + 6, none⟩ = some (.int .i64 c.r.2.2.2.2.2)
  c7 : w.cell? ⟨g, o + 7, none⟩ = some (.string c.s)
def ActF (w : World) (a : Option Addr) (n : Nat) (f : Nat → Ac) : Prop := ∀ i, i < n → ∃ g o, a = some ⟨g, o, none⟩ ∧ g < w.heap.size ∧ (f i).at w g (o + i * 8) ∧ (f i).r.wf
theorem ActF.below {w w' : World} {a n f} (h : ActF w a n f) (b : Below w.heap.size w w') : ActF w' a n f := by
  intro i hi
  obtain ⟨g, o, ha, hg, q, hw⟩ := h i hi
  have e : ∀ j, w'.cell? ⟨g, j, none⟩ = w.cell? ⟨g, j, none⟩ := fun j => b.cell (p := ⟨g, j, none⟩) hg
  exact ⟨g, o, ha, Nat.lt_of_lt_of_le hg b.size, ⟨(e _).trans q.k, (e _).trans q.c1, (e _).trans q.c2, (e _).trans q.c3, (e _).trans q.c4, (e _).trans q.c5, (e _).trans q.c6, (e _).trans q.c7⟩, hw⟩
theorem own : ownKnob Try.prog.godebug = none := by kernel_rfl
theorem laidOut : laidOutB Try.prog = true := by kernel_rfl
theorem cells41 : Try.prog.cellsOf 41 = 6 := by kernel_rfl
theorem cells3 : Try.prog.cellsOf 3 = 1 := by kernel_rfl
theorem array6 {α : Type} {cs : Array α} (h : cs.size = 6) : ∃ c0 c1 c2 c3 c4 c5, cs = #[c0, c1, c2, c3, c4, c5] := by
  obtain ⟨l⟩ := cs
  match l, h with
  | [c0, c1, c2, c3, c4, c5], _ => exact ⟨c0, c1, c2, c3, c4, c5, rfl⟩
set_option maxRecDepth 100000 in
/-- the six numbers of a record's cells -/
theorem six_ints {H : Type} {enc : TypeId × Value → H} {W : World} {fuel : Nat} {c0 c1 c2 c3 c4 c5 : Value} {x : DataW H × List MemPlace} (h : DataW.trod enc Try.prog W 0 (fun _ => true) true fuel 41 [c0, c1, c2, c3, c4, c5] = some x) :
    ∃ K S P A T N, c0 = .int .i64 K ∧ c1 = .int .i64 S ∧ c2 = .int .i64 P ∧ c3 = .int .i64 A ∧ c4 = .int .i64 T ∧ c5 = .int .i64 N ∧ ((Lit.int .i64 K).wf = true ∧ (Lit.int .i64 S).wf = true ∧ (Lit.int .i64 P).wf = true ∧ (Lit.int .i64 A).wf = true ∧ (Lit.int .i64 T).wf = true ∧ (Lit.int .i64 N).wf = true) := by
  obtain ⟨xs, n, _, rfl, hl, hlen, hf⟩ := DataW.trod_struct Try.underlying41 h
  match xs, hlen with
  | [y0, y1, y2, y3, y4, y5], _ =>
    have g0 := hf 0 _ rfl
    have g1 := hf 1 _ rfl
    have g2 := hf 2 _ rfl
    have g3 := hf 3 _ rfl
    have g4 := hf 4 _ rfl
    have g5 := hf 5 _ rfl
    simp [cells3] at g0 g1 g2 g3 g4 g5
    obtain ⟨q0, e0, _, f0⟩ := DataW.trod_int Try.underlying3 g0
    obtain ⟨q1, e1, _, f1⟩ := DataW.trod_int Try.underlying3 g1
    obtain ⟨q2, e2, _, f2⟩ := DataW.trod_int Try.underlying3 g2
    obtain ⟨q3, e3, _, f3⟩ := DataW.trod_int Try.underlying3 g3
    obtain ⟨q4, e4, _, f4⟩ := DataW.trod_int Try.underlying3 g4
    obtain ⟨q5, e5, _, f5⟩ := DataW.trod_int Try.underlying3 g5
    simp at e0 e1 e2 e3 e4 e5
    exact ⟨q0, q1, q2, q3, q4, q5, e0, e1, e2, e3, e4, e5, f0, f1, f2, f3, f4, f5⟩
set_option maxRecDepth 100000 in
theorem open_rec {H : Type} {enc : TypeId × Value → H} {W : World} {b0 : Nat} {v : Value} {d : DataW H} {p : List MemPlace} (hv : Value.okWide Try.prog W .any b0 41 v) (h : DataW.Trod enc Try.prog W 0 (fun _ => true) true 41 v d p) :
    ∃ K S P A T N, v = rv K S P A T N := by
  obtain ⟨cs, rfl, hsz⟩ := okWide_struct Try.underlying41 hv
  obtain ⟨c0, c1, c2, c3, c4, c5, rfl⟩ := array6 (hsz.trans cells41)
  obtain ⟨fuel, hf⟩ := h
  obtain ⟨K, S, P, A, T, N, rfl, rfl, rfl, rfl, rfl, rfl, _⟩ := six_ints hf
  exact ⟨K, S, P, A, T, N, rfl⟩
theorem add_zero' (a : Addr) : a.add 0 = a := by unfold Addr.add; rw [if_pos rfl]
theorem cell_lt {w : World} {a : Addr} {v : Value} (h : w.cell? a = some v) : a.block < w.heap.size := by
  unfold World.cell? at h
  cases hb : w.heap[a.block]? with
  | none => rw [hb] at h; simp at h
  | some o => exact (Array.getElem?_eq_some_iff.1 hb).1
theorem add_plain {w : World} {a : Addr} {v : Value} (h : w.cell? a = some v) (i : Nat) : a.add i = ⟨a.block, a.off + i, none⟩ := by
  have hs := World.cell?_spot h
  cases a with
  | mk b o s =>
    simp only at hs
    subst hs
    unfold Addr.add
    split
    · rename_i h0
      subst h0
      rfl
    · rfl
theorem cells9 : Try.prog.cellsOf 9 = 1 := by kernel_rfl
set_option maxRecDepth 100000 in
theorem one_change {H : Type} {enc : TypeId × Value → H} {W : World} {fuel : Nat} {c0 c1 c2 c3 c4 c5 c6 : Value} {x : DataW H × List MemPlace} (h : DataW.trod enc Try.prog W 0 (fun _ => true) true fuel 43 [c0, c1, c2, c3, c4, c5, c6] = some x) :
    ∃ K S P A T N str, c0 = .int .i64 K ∧ c1 = .int .i64 S ∧ c2 = .int .i64 P ∧ c3 = .int .i64 A ∧ c4 = .int .i64 T ∧ c5 = .int .i64 N ∧ c6 = .string str ∧ R6.wf (K, S, P, A, T, N) := by
  obtain ⟨xs, n, _, rfl, hl, hlen, hf⟩ := DataW.trod_struct Try.underlying43 h
  match xs, hlen with
  | [y0, y1], _ =>
    have g0 := hf 0 _ rfl
    have g1 := hf 1 _ rfl
    simp [cells41, cells9] at g0 g1
    obtain ⟨K, S, P, A, T, N, rfl, rfl, rfl, rfl, rfl, rfl, hwf⟩ := six_ints g0
    obtain ⟨str, e1, _⟩ := DataW.trod_string Try.underlying9 g1
    simp at e1
    exact ⟨K, S, P, A, T, N, str, rfl, rfl, rfl, rfl, rfl, rfl, e1, hwf⟩
theorem cells43 : Try.prog.cellsOf 43 = 7 := by kernel_rfl
theorem cells45 : Try.prog.cellsOf 45 = 8 := by kernel_rfl
set_option maxRecDepth 100000 in
theorem one_act {H : Type} {enc : TypeId × Value → H} {W : World} {fuel : Nat} {k0 c0 c1 c2 c3 c4 c5 c6 : Value} {x : DataW H × List MemPlace} (h : DataW.trod enc Try.prog W 0 (fun _ => true) true fuel 45 [k0, c0, c1, c2, c3, c4, c5, c6] = some x) :
    ∃ k K S P A T N str, k0 = .int .i64 k ∧ c0 = .int .i64 K ∧ c1 = .int .i64 S ∧ c2 = .int .i64 P ∧ c3 = .int .i64 A ∧ c4 = .int .i64 T ∧ c5 = .int .i64 N ∧ c6 = .string str ∧ R6.wf (K, S, P, A, T, N) := by
  obtain ⟨xs, n, _, rfl, hl, hlen, hf⟩ := DataW.trod_struct Try.underlying45 h
  match xs, hlen with
  | [y0, y1], _ =>
    have g0 := hf 0 _ rfl
    have g1 := hf 1 _ rfl
    simp [cells3, cells43] at g0 g1
    obtain ⟨k, e0, _, _⟩ := DataW.trod_int Try.underlying3 g0
    obtain ⟨K, S, P, A, T, N, str, rfl, rfl, rfl, rfl, rfl, rfl, rfl, hwf⟩ := one_change g1
    simp at e0
    exact ⟨k, K, S, P, A, T, N, str, e0, rfl, rfl, rfl, rfl, rfl, rfl, rfl, hwf⟩
set_option maxRecDepth 100000 in
theorem acts_of {H : Type} {enc : TypeId × Value → H} {W : World} {fuel : Nat} {cs : List Value} {x : DataW H × List MemPlace} (h : DataW.trod enc Try.prog W 0 (fun _ => true) true fuel 22 cs = some x) :
    ∃ a len cap f, cs = [.slice a len cap] ∧ ActF W a len f := by
  rcases Go.Deep.open_slice Try.underlying22 h with ⟨hcs, hx⟩ | ⟨a, len', cap', m, n, D, Pl, hcs, hb, hl, hm, hmm, hx, hV⟩
  · exact ⟨none, 0, 0, fun _ => ⟨0, (0, 0, 0, 0, 0, 0), ByteArray.empty⟩, hcs, fun i hi => absurd hi (by omega)⟩
  · have hle : len' ≤ m := by rw [hmm]; simp; exact hl
    rw [cells45] at hV
    have each : ∀ i, i < len' → ∃ q : Ac, (W.cell? (a.add (i * 8)) = some (.int .i64 q.k) ∧ W.cell? ((a.add (i * 8)).add 1) = some (.int .i64 q.r.1) ∧ W.cell? ((a.add (i * 8)).add 2) = some (.int .i64 q.r.2.1) ∧ W.cell? ((a.add (i * 8)).add 3) = some (.int .i64 q.r.2.2.1) ∧ W.cell? ((a.add (i * 8)).add 4) = some (.int .i64 q.r.2.2.2.1) ∧ W.cell? ((a.add (i * 8)).add 5) = some (.int .i64 q.r.2.2.2.2.1) ∧ W.cell? ((a.add (i * 8)).add 6) = some (.int .i64 q.r.2.2.2.2.2) ∧ W.cell? ((a.add (i * 8)).add 7) = some (.string q.s)) ∧ R6.wf q.r := by
      intro i hi
      obtain ⟨cs', h1, h2⟩ := hV i (by omega)
      obtain ⟨_, hlen, hcell⟩ := World.cells?_some h1
      match cs', hlen with
      | [v0, v1, v2, v3, v4, v5, v6, v7], _ =>
        obtain ⟨k, K, S, P, A, T, N, str, rfl, rfl, rfl, rfl, rfl, rfl, rfl, rfl, hwf⟩ := one_act h2
        have k0 := hcell 0 (by omega)
        have k1 := hcell 1 (by omega)
        have k2 := hcell 2 (by omega)
        have k3 := hcell 3 (by omega)
        have k4 := hcell 4 (by omega)
        have k5 := hcell 5 (by omega)
        have k6 := hcell 6 (by omega)
        have k7 := hcell 7 (by omega)
        rw [add_zero'] at k0
        exact ⟨⟨k, (K, S, P, A, T, N), str⟩, ⟨k0, k1, k2, k3, k4, k5, k6, k7⟩, hwf⟩
    haveI : Inhabited Ac := ⟨⟨0, (0, 0, 0, 0, 0, 0), ByteArray.empty⟩⟩
    obtain ⟨f, hf⟩ := Go.Deep.choose_lt each
    refine ⟨some a, len', cap', f, hcs, fun i hi => ?_⟩
    have h0 := (hf 0 (by omega)).1.1
    rw [Nat.zero_mul, add_zero'] at h0
    have hs := World.cell?_spot h0
    obtain ⟨⟨e0, e1, e2, e3, e4, e5, e6, e7⟩, hwf⟩ := hf i hi
    rw [add_plain e0] at e1 e2 e3 e4 e5 e6 e7
    rw [add_plain h0] at e0 e1 e2 e3 e4 e5 e6 e7
    refine ⟨a.block, a.off, ?_, cell_lt h0, ⟨e0, e1, e2, e3, e4, e5, e6, e7⟩, hwf⟩
    cases a
    simp only at hs
    subst hs
    rfl
set_option maxRecDepth 100000 in
theorem open_acts {H : Type} {enc : TypeId × Value → H} {W : World} {b0 : Nat} {v : Value} {d : DataW H} {p : List MemPlace} (hv : Value.okWide Try.prog W .any b0 22 v) (h : DataW.Trod enc Try.prog W 0 (fun _ => true) true 22 v d p) :
    ∃ a len cap f, v = .slice a len cap ∧ ActF W a len f := by
  obtain ⟨a0, len, cap, rfl⟩ := okWide_slice Try.underlying22 hv
  obtain ⟨fuel, hf⟩ := h
  obtain ⟨a, len', cap', f, hcs, hx⟩ := acts_of hf
  simp [Value.cells] at hcs
  obtain ⟨rfl, rfl, rfl⟩ := hcs
  exact ⟨_, _, _, f, rfl, hx⟩
end Go.Proofs.Ytacgemibaojbaaa
