/-
  How a row of blocks that is handed in is opened. No condition.
-/
import Derived.Test.YtfaaoogdmfllbaaFrame
import Derived.Test.YtfaaoogdmfllbaaVic
namespace Go.Proofs.Ytfaaoogdmfllbaa
open Go.ChangeShapes Go.WideShapes Go.ChangeAt Go.RowKit
theorem cells27 : Try.prog.cellsOf 27 = 4 := by kernel_rfl
theorem cells3 : Try.prog.cellsOf 3 = 1 := by kernel_rfl
theorem add_zero' (a : Addr) : a.add 0 = a := by unfold Addr.add; rw [if_pos rfl]
theorem add_plain {w : World} {a : Addr} {v : Value} (h : w.cell? a = some v) (i : Nat) : a.add i = ⟨a.block, a.off + i, none⟩ := by
  have hs := World.cell?_spot h
  cases a with
  | mk b o s =>
    simp only at hs
    subst hs
    unfold Addr.add
    split
    · rename_i h0
      subst h0
      rfl
    · rfl
/-- the four numbers of a block's cells -/
theorem four_ints {H : Type} {enc : TypeId × Value → H} {W : World} {fuel : Nat} {c0 c1 c2 c3 : Value} {x : DataW H × List MemPlace} (h : DataW.trod enc Try.prog W 0 (fun _ => true) true fuel 27 [c0, c1, c2, c3] = some x) :
    ∃ K S P A, c0 = .int .i64 K ∧ c1 = .int .i64 S ∧ c2 = .int .i64 P ∧ c3 = .int .i64 A := by
  obtain ⟨xs, n, _, rfl, hl, hlen, hf⟩ := DataW.trod_struct Try.underlying27 h
  match xs, hlen with
  | [y0, y1, y2, y3], _ =>
    have g0 := hf 0 _ rfl
    have g1 := hf 1 _ rfl
    have g2 := hf 2 _ rfl
    have g3 := hf 3 _ rfl
    simp [cells3] at g0 g1 g2 g3
    obtain ⟨q0, e0, _, _⟩ := DataW.trod_int Try.underlying3 g0
    obtain ⟨q1, e1, _, _⟩ := DataW.trod_int Try.underlying3 g1
    obtain ⟨q2, e2, _, _⟩ := DataW.trod_int Try.underlying3 g2
    obtain ⟨q3, e3, _, _⟩ := DataW.trod_int Try.underlying3 g3
    simp at e0 e1 e2 e3
    exact ⟨q0, q1, q2, q3, e0, e1, e2, e3⟩
set_option maxRecDepth 100000 in
theorem seens_of {H : Type} {enc : TypeId × Value → H} {W : World} {fuel : Nat} {cs : List Value} {x : DataW H × List MemPlace} (h : DataW.trod enc Try.prog W 0 (fun _ => true) true fuel 22 cs = some x) :
    ∃ a len cap f, cs = [.slice a len cap] ∧ len ≤ cap ∧ (cap : Int) ≤ 9223372036854775807 ∧ Ss W a len f := by
  rcases Go.Deep.open_slice Try.underlying22 h with ⟨hcs, hx⟩ | ⟨a, len', cap', m, n, D, Pl, hcs, hb, hl, hm, hmm, hx, hV⟩
  · exact ⟨none, 0, 0, fun _ => (0, 0, 0, 0), hcs, Nat.le_refl _, by omega, fun i hi => absurd hi (by omega)⟩
  · have hle : len' ≤ m := by rw [hmm]; simp; exact hl
    rw [cells27] at hV
    have each : ∀ i, i < len' → ∃ q : Q4, (W.cell? (a.add (i * 4)) = some (.int .i64 q.1) ∧ W.cell? ((a.add (i * 4)).add 1) = some (.int .i64 q.2.1) ∧ W.cell? ((a.add (i * 4)).add 2) = some (.int .i64 q.2.2.1) ∧ W.cell? ((a.add (i * 4)).add 3) = some (.int .i64 q.2.2.2)) := by
      intro i hi
      obtain ⟨cs', h1, h2⟩ := hV i (by omega)
      obtain ⟨_, hlen, hcell⟩ := World.cells?_some h1
      match cs', hlen with
      | [v0, v1, v2, v3], _ =>
        obtain ⟨K, S, P, A, rfl, rfl, rfl, rfl⟩ := four_ints h2
        have k0 := hcell 0 (by omega)
        have k1 := hcell 1 (by omega)
        have k2 := hcell 2 (by omega)
        have k3 := hcell 3 (by omega)
        rw [add_zero'] at k0
        exact ⟨(K, S, P, A), k0, k1, k2, k3⟩
    obtain ⟨f, hf⟩ := Go.Deep.choose_lt each
    refine ⟨some a, len', cap', f, hcs, hl, ?_, fun i hi => ?_⟩
    · unfold maxLen at hm
      omega
    have h0 := (hf 0 (by omega)).1
    rw [Nat.zero_mul, add_zero'] at h0
    have hs := World.cell?_spot h0
    obtain ⟨e0, e1, e2, e3⟩ := hf i hi
    rw [add_plain e0] at e1 e2 e3
    rw [add_plain h0] at e0 e1 e2 e3
    refine ⟨a.block, a.off, ?_, World.block_lt_of_cell? _ _ h0, e0, e1, e2, e3⟩
    cases a
    simp only at hs
    subst hs
    rfl
set_option maxRecDepth 100000 in
theorem open_seens {H : Type} {enc : TypeId × Value → H} {W : World} {b0 : Nat} {v : Value} {d : DataW H} {p : List MemPlace} (hv : Value.okWide Try.prog W .any b0 22 v) (h : DataW.Trod enc Try.prog W 0 (fun _ => true) true 22 v d p) :
    ∃ a len cap f, v = .slice a len cap ∧ (len ≤ cap ∧ (cap : Int) ≤ 9223372036854775807 ∧ Ss W a len f) := by
  obtain ⟨a0, len, cap, rfl⟩ := okWide_slice Try.underlying22 hv
  obtain ⟨fuel, hf⟩ := h
  obtain ⟨a, len', cap', f, hcs, hx⟩ := seens_of hf
  simp [Value.cells] at hcs
  obtain ⟨rfl, rfl, rfl⟩ := hcs
  exact ⟨_, _, _, f, rfl, hx⟩
end Go.Proofs.Ytfaaoogdmfllbaa
