/-
  How a row of acts that is handed in is opened. No condition.
-/
import Derived.Test.YtkfkepjegdaadaaOpen
import Derived.Test.YtkfkepjegdaadaaLawD
namespace Go.Proofs.Ytkfkepjegdaadaa
open Go.ChangeShapes Go.WideShapes Go.ChangeAt Go.RowKit
theorem add_zero' (a : Addr) : a.add 0 = a := by unfold Addr.add; rw [if_pos rfl]
set_option maxRecDepth 100000 in
theorem acts_of {H : Type} {enc : TypeId × Value → H} {W : World} {fuel : Nat} {cs : List Value} {x : DataW H × List MemPlace} (h : DataW.trod enc Try.prog W 0 (fun _ => true) true fuel 28 cs = some x) :
    ∃ a len cap f, cs = [.slice a len cap] ∧ ActsF W a len f := by
  rcases Go.Deep.open_slice Try.underlying28 h with ⟨hcs, hx⟩ | ⟨a, len', cap', m, n, D, Pl, hcs, hb, hl, hm, hmm, hx, hV⟩
  · exact ⟨none, 0, 0, fun _ => (0, 0, 0, 0), hcs, fun i hi => absurd hi (by omega)⟩
  · have hle : len' ≤ m := by rw [hmm]; simp; exact hl
    rw [cells44] at hV
    have each : ∀ i, i < len' → ∃ q : Int × Int × Int × Int, (W.cell? (a.add (i * 4)) = some (.int .i64 q.1) ∧ W.cell? ((a.add (i * 4)).add 1) = some (.int .i64 q.2.1) ∧ W.cell? ((a.add (i * 4)).add 2) = some (.int .i64 q.2.2.1) ∧ W.cell? ((a.add (i * 4)).add 3) = some (.int .u8 q.2.2.2)) ∧ 0 ≤ q.2.2.2 ∧ q.2.2.2 < 256 := by
      intro i hi
      obtain ⟨cs', h1, h2⟩ := hV i (by omega)
      obtain ⟨_, hlen, hcell⟩ := World.cells?_some h1
      obtain ⟨xs, k, hk, hxy, _, hxl, hf⟩ := DataW.trod_struct Try.underlying44 h2
      match xs, hxl, cs', hlen with
      | [y0, y1, y2, y3], _, [v0, v1, v2, v3], _ =>
        have g0 := hf 0 _ rfl
        have g1 := hf 1 _ rfl
        have g2 := hf 2 _ rfl
        have g3 := hf 3 _ rfl
        simp [cells3, cells5] at g0 g1 g2 g3
        obtain ⟨q0, e0, _, w0⟩ := DataW.trod_int Try.underlying3 g0
        obtain ⟨q1, e1, _, w1⟩ := DataW.trod_int Try.underlying3 g1
        obtain ⟨q2, e2, _, w2⟩ := DataW.trod_int Try.underlying3 g2
        obtain ⟨q3, e3, _, w3⟩ := DataW.trod_int Try.underlying5 g3
        simp at e0 e1 e2 e3
        subst e0 e1 e2 e3
        have k0 := hcell 0 (by omega)
        have k1 := hcell 1 (by omega)
        have k2 := hcell 2 (by omega)
        have k3 := hcell 3 (by omega)
        rw [add_zero'] at k0
        exact ⟨(q0, q1, q2, q3), ⟨k0, k1, k2, k3⟩, wf_u8 w3⟩
    obtain ⟨f, hf⟩ := Go.Deep.choose_lt each
    refine ⟨some a, len', cap', f, hcs, fun i hi => ?_⟩
    have h0 := (hf 0 (by omega)).1.1
    rw [Nat.zero_mul, add_zero'] at h0
    have hs := World.cell?_spot h0
    obtain ⟨⟨e0, e1, e2, e3⟩, e4⟩ := hf i hi
    rw [add_plain e0] at e1 e2 e3
    rw [add_plain h0] at e0 e1 e2 e3
    refine ⟨a.block, a.off, ?_, cell_lt h0, e0, e1, e2, e3, e4⟩
    cases a
    simp only at hs
    subst hs
    rfl
set_option maxRecDepth 100000 in
theorem open_actsF {H : Type} {enc : TypeId × Value → H} {W : World} {b0 : Nat} {v : Value} {d : DataW H} {p : List MemPlace} (hv : Value.okWide Try.prog W .any b0 28 v) (h : DataW.Trod enc Try.prog W 0 (fun _ => true) true 28 v d p) :
    ∃ a len cap f, v = .slice a len cap ∧ ActsF W a len f := by
  obtain ⟨a0, len, cap, rfl⟩ := okWide_slice Try.underlying28 hv
  obtain ⟨fuel, hf⟩ := h
  obtain ⟨a, len', cap', f, hcs, hx⟩ := acts_of hf
  simp [Value.cells] at hcs
  obtain ⟨rfl, rfl, rfl⟩ := hcs
  exact ⟨_, _, _, f, rfl, hx⟩
end Go.Proofs.Ytkfkepjegdaadaa
