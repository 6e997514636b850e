/-
  How a row of pieces that is handed in is opened. No condition.
-/
import Derived.Test.YtbhggcleijjofaaDoorOpnR
import Derived.Test.YtbhggcleijjofaaDoorLawN
namespace Go.Proofs.YtbhggcleijjofaaDoor
open Go.ChangeShapes Go.WideShapes Go.ChangeAt Go.RowKit
theorem cells50 : Tryd.prog.cellsOf 50 = 5 := by kernel_rfl
/-- the five numbers of a piece's cells -/
theorem five_ints {H : Type} {enc : TypeId × Value → H} {W : World} {fuel : Nat} {c0 c1 c2 c3 c4 : Value} {x : DataW H × List MemPlace} (h : DataW.trod enc Tryd.prog W 0 (fun _ => true) true fuel 50 [c0, c1, c2, c3, c4] = some x) :
    ∃ K S P A T, c0 = .int .i64 K ∧ c1 = .int .i64 S ∧ c2 = .int .i64 P ∧ c3 = .int .i64 A ∧ c4 = .int .i64 T := by
  obtain ⟨xs, n, _, rfl, hl, hlen, hf⟩ := DataW.trod_struct Tryd.underlying50 h
  match xs, hlen with
  | [y0, y1, y2, y3, y4], _ =>
    have g0 := hf 0 _ rfl
    have g1 := hf 1 _ rfl
    have g2 := hf 2 _ rfl
    have g3 := hf 3 _ rfl
    have g4 := hf 4 _ rfl
    simp [cells3] at g0 g1 g2 g3 g4
    obtain ⟨q0, e0, _, _⟩ := DataW.trod_int Tryd.underlying3 g0
    obtain ⟨q1, e1, _, _⟩ := DataW.trod_int Tryd.underlying3 g1
    obtain ⟨q2, e2, _, _⟩ := DataW.trod_int Tryd.underlying3 g2
    obtain ⟨q3, e3, _, _⟩ := DataW.trod_int Tryd.underlying3 g3
    obtain ⟨q4, e4, _, _⟩ := DataW.trod_int Tryd.underlying3 g4
    simp at e0 e1 e2 e3 e4
    exact ⟨q0, q1, q2, q3, q4, e0, e1, e2, e3, e4⟩
set_option maxRecDepth 100000 in
theorem pieces_of {H : Type} {enc : TypeId × Value → H} {W : World} {fuel : Nat} {cs : List Value} {x : DataW H × List MemPlace} (h : DataW.trod enc Tryd.prog W 0 (fun _ => true) true fuel 47 cs = some x) :
    ∃ a len cap f, cs = [.slice a len cap] ∧ PcsF W a len f := by
  rcases Go.Deep.open_slice Tryd.underlying47 h with ⟨hcs, hx⟩ | ⟨a, len', cap', m, n, D, Pl, hcs, hb, hl, hm, hmm, hx, hV⟩
  · exact ⟨none, 0, 0, fun _ => (0, 0, 0, 0, 0), hcs, fun i hi => absurd hi (by omega)⟩
  · have hle : len' ≤ m := by rw [hmm]; simp; exact hl
    rw [cells50] at hV
    have each : ∀ i, i < len' → ∃ q : P5, (W.cell? (a.add (i * 5)) = some (.int .i64 q.1) ∧ W.cell? ((a.add (i * 5)).add 1) = some (.int .i64 q.2.1) ∧ W.cell? ((a.add (i * 5)).add 2) = some (.int .i64 q.2.2.1) ∧ W.cell? ((a.add (i * 5)).add 3) = some (.int .i64 q.2.2.2.1) ∧ W.cell? ((a.add (i * 5)).add 4) = some (.int .i64 q.2.2.2.2)) := by
      intro i hi
      obtain ⟨cs', h1, h2⟩ := hV i (by omega)
      obtain ⟨_, hlen, hcell⟩ := World.cells?_some h1
      match cs', hlen with
      | [v0, v1, v2, v3, v4], _ =>
        obtain ⟨K, S, P, A, T, rfl, rfl, rfl, rfl, rfl⟩ := five_ints h2
        have k0 := hcell 0 (by omega)
        have k1 := hcell 1 (by omega)
        have k2 := hcell 2 (by omega)
        have k3 := hcell 3 (by omega)
        have k4 := hcell 4 (by omega)
        rw [Gp.add_zero'] at k0
        exact ⟨(K, S, P, A, T), k0, k1, k2, k3, k4⟩
    obtain ⟨f, hf⟩ := Go.Deep.choose_lt each
    refine ⟨some a, len', cap', f, hcs, fun i hi => ?_⟩
    have h0 := (hf 0 (by omega)).1
    rw [Nat.zero_mul, Gp.add_zero'] at h0
    have hs := World.cell?_spot h0
    obtain ⟨e0, e1, e2, e3, e4⟩ := hf i hi
    rw [Gp.add_plain e0] at e1 e2 e3 e4
    rw [Gp.add_plain h0] at e0 e1 e2 e3 e4
    refine ⟨a.block, a.off, ?_, Gp.cell_lt h0, e0, e1, e2, e3, e4⟩
    cases a
    simp only at hs
    subst hs
    rfl
set_option maxRecDepth 100000 in
theorem open_pieces {H : Type} {enc : TypeId × Value → H} {W : World} {b0 : Nat} {v : Value} {d : DataW H} {p : List MemPlace} (hv : Value.okWide Tryd.prog W .any b0 47 v) (h : DataW.Trod enc Tryd.prog W 0 (fun _ => true) true 47 v d p) :
    ∃ a len cap f, v = .slice a len cap ∧ PcsF W a len f := by
  obtain ⟨a0, len, cap, rfl⟩ := okWide_slice Tryd.underlying47 hv
  obtain ⟨fuel, hf⟩ := h
  obtain ⟨a, len', cap', f, hcs, hx⟩ := pieces_of hf
  simp [Value.cells] at hcs
  obtain ⟨rfl, rfl, rfl⟩ := hcs
  exact ⟨_, _, _, f, rfl, hx⟩
end Go.Proofs.YtbhggcleijjofaaDoor
