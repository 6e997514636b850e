/-
  How rows of numbers and of acts that are handed in are opened. No condition.
-/
import Derived.Test.YtbcnocbdifbocaaDoorFrame
import Derived.Test.YtbcnocbdifbocaaDoorLawR
namespace Go.Proofs.YtbcnocbdifbocaaDoor
open Go.ChangeShapes Go.WideShapes Go.ChangeAt Go.RowKit
theorem cells3 : Tryd.prog.cellsOf 3 = 1 := by kernel_rfl
theorem cells9 : Tryd.prog.cellsOf 9 = 1 := by kernel_rfl
theorem cells39 : Tryd.prog.cellsOf 39 = 3 := by kernel_rfl
theorem cell_lt {w : World} {a : Addr} {v : Value} (h : w.cell? a = some v) : a.block < w.heap.size := by
  unfold World.cell? at h
  cases hb : w.heap[a.block]? with
  | none => rw [hb] at h; simp at h
  | some o => exact (Array.getElem?_eq_some_iff.1 hb).1
theorem add_plain {w : World} {a : Addr} {v : Value} (h : w.cell? a = some v) (i : Nat) : a.add i = ⟨a.block, a.off + i, none⟩ := by
  have hs := World.cell?_spot h
  cases a with
  | mk b o s =>
    simp only at hs
    subst hs
    unfold Addr.add
    split
    · rename_i h0
      rw [h0]
      rfl
    · rfl
theorem add_zero' (a : Addr) : a.add 0 = a := by unfold Addr.add; rw [if_pos rfl]
set_option maxRecDepth 100000 in
theorem open_ints {H : Type} {enc : TypeId × Value → H} {W : World} {b0 : Nat} {v : Value} {d : DataW H} {p : List MemPlace} (hv : Value.okWide Tryd.prog W .any b0 24 v) (h : DataW.Trod enc Tryd.prog W 0 (fun _ => true) true 24 v d p) :
    ∃ (a : Option Addr) (len cap : Nat) (xs : Nat → Int), v = .slice a len cap ∧ len ≤ cap ∧ ∀ i, i < len → (∃ g o, a = some ⟨g, o, none⟩ ∧ g < W.heap.size ∧ W.cell? ⟨g, o + i, none⟩ = some (.int .i64 (xs i))) ∧ (Lit.int .i64 (xs i)).wf = true := by
  obtain ⟨a0, len, cap, rfl⟩ := okWide_slice Tryd.underlying24 hv
  obtain ⟨fuel, hf⟩ := h
  rcases Go.Deep.open_slice1 Tryd.underlying24 cells3 hf with ⟨hcs, hx⟩ | ⟨a, len', cap', m, n, V, D, Pl, hcs, hb, hl, hm, hmm, hx, hV⟩
  · simp [Value.cells] at hcs
    obtain ⟨rfl, rfl, rfl⟩ := hcs
    exact ⟨none, 0, 0, fun _ => 0, rfl, Nat.le_refl _, fun i hi => absurd hi (by omega)⟩
  · simp [Value.cells] at hcs
    obtain ⟨rfl, rfl, rfl⟩ := hcs
    have hle : len ≤ m := by rw [hmm]; simp; exact hl
    have each : ∀ i, i < len → ∃ x : Int, W.cell? (a.add i) = some (.int .i64 x) ∧ (Lit.int .i64 x).wf = true := by
      intro i hi
      obtain ⟨h1, h2⟩ := hV i (by omega)
      obtain ⟨x, e0, _, w0⟩ := DataW.trod_int Tryd.underlying3 h2
      simp at e0
      rw [e0] at h1
      exact ⟨x, h1, w0⟩
    obtain ⟨xs, hxs⟩ := Go.Deep.choose_lt each
    refine ⟨some a, len, cap, xs, rfl, hl, fun i hi => ⟨?_, (hxs i hi).2⟩⟩
    have h0 := (hxs 0 (by omega)).1
    rw [add_zero'] at h0
    have hs := World.cell?_spot h0
    have h1 := (hxs i hi).1
    rw [add_plain h0] at h1
    refine ⟨a.block, a.off, ?_, cell_lt h0, h1⟩
    cases a
    simp only at hs
    subst hs
    rfl
set_option maxRecDepth 100000 in
theorem open_acts {H : Type} {enc : TypeId × Value → H} {W : World} {b0 : Nat} {v : Value} {d : DataW H} {p : List MemPlace} (hv : Value.okWide Tryd.prog W .any b0 25 v) (h : DataW.Trod enc Tryd.prog W 0 (fun _ => true) true 25 v d p) :
    ∃ a len cap f, v = .slice a len cap ∧ ActsF W a len f := by
  obtain ⟨a0, len, cap, rfl⟩ := okWide_slice Tryd.underlying25 hv
  obtain ⟨fuel, hf⟩ := h
  rcases Go.Deep.open_slice Tryd.underlying25 hf with ⟨hcs, hx⟩ | ⟨a, len', cap', m, n, D, Pl, hcs, hb, hl, hm, hmm, hx, hV⟩
  · simp [Value.cells] at hcs
    obtain ⟨rfl, rfl, rfl⟩ := hcs
    exact ⟨none, 0, 0, fun _ => (0, 0, ⟨#[]⟩), rfl, fun i hi => absurd hi (by omega)⟩
  · simp [Value.cells] at hcs
    obtain ⟨rfl, rfl, rfl⟩ := hcs
    have hle : len ≤ m := by rw [hmm]; simp; exact hl
    rw [cells39] at hV
    have each : ∀ i, i < len → ∃ q : Int × Int × ByteArray, W.cell? (a.add (i * 3)) = some (.int .i64 q.1) ∧ W.cell? ((a.add (i * 3)).add 1) = some (.int .i64 q.2.1) ∧ W.cell? ((a.add (i * 3)).add 2) = some (.string q.2.2) := by
      intro i hi
      obtain ⟨cs', h1, h2⟩ := hV i (by omega)
      obtain ⟨_, hlen, hcell⟩ := World.cells?_some h1
      obtain ⟨xs, k, hk, hxy, _, hxl, hf⟩ := DataW.trod_struct Tryd.underlying39 h2
      match xs, hxl, cs', hlen with
      | [y0, y1, y2], _, [v0, v1, v2], _ =>
        have g0 := hf 0 _ rfl
        have g1 := hf 1 _ rfl
        have g2 := hf 2 _ rfl
        simp [cells3, cells9] at g0 g1 g2
        obtain ⟨q0, e0, _, w0⟩ := DataW.trod_int Tryd.underlying3 g0
        obtain ⟨q1, e1, _, w1⟩ := DataW.trod_int Tryd.underlying3 g1
        obtain ⟨q2, e2, _⟩ := DataW.trod_string Tryd.underlying9 g2
        simp at e0 e1 e2
        subst e0 e1 e2
        have k0 := hcell 0 (by omega)
        have k1 := hcell 1 (by omega)
        have k2 := hcell 2 (by omega)
        rw [add_zero'] at k0
        exact ⟨(q0, q1, q2), k0, k1, k2⟩
    obtain ⟨f, hf⟩ := Go.Deep.choose_lt each
    refine ⟨some a, len, cap, f, rfl, fun i hi => ?_⟩
    have h0 := (hf 0 (by omega)).1
    rw [Nat.zero_mul, add_zero'] at h0
    have hs := World.cell?_spot h0
    obtain ⟨e0, e1, e2⟩ := hf i hi
    rw [add_plain e0] at e1 e2
    rw [add_plain h0] at e0 e1 e2
    refine ⟨a.block, a.off, ?_, cell_lt h0, e0, e1, e2⟩
    cases a
    simp only at hs
    subst hs
    rfl
end Go.Proofs.YtbcnocbdifbocaaDoor
