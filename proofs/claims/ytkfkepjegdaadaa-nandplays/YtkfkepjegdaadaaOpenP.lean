/-
  Faults as an argument: three slices, opened. No condition.
-/
import Derived.Test.YtkfkepjegdaadaaOpenA
import Derived.Test.YtkfkepjegdaadaaLawP
namespace Go.Proofs.Ytkfkepjegdaadaa
open Go Go.RowKit Go.WideShapes

/-- a row of cuts -/
def CutsF (w : World) (a : Option Addr) (n : Nat) (f : Nat → Int × Int × Int) : Prop := ∀ i, i < n → ∃ g o, a = some ⟨g, o, none⟩ ∧ g < w.heap.size ∧
  w.cell? ⟨g, o + i * 3, none⟩ = some (.int .i64 (f i).1) ∧ w.cell? ⟨g, o + i * 3 + 1, none⟩ = some (.int .i64 (f i).2.1) ∧ w.cell? ⟨g, o + i * 3 + 2, none⟩ = some (.int .u8 (f i).2.2)
theorem maxLen_is : maxLen = 9223372036854775807 := by decide
set_option maxRecDepth 100000 in
theorem cuts_of {H : Type} {enc : TypeId × Value → H} {W : World} {fuel : Nat} {cs : List Value} {x : DataW H × List MemPlace} (h : DataW.trod enc Try.prog W 0 (fun _ => true) true fuel 24 cs = some x) :
    ∃ a len cap f, cs = [.slice a len cap] ∧ (len ≤ cap ∧ len ≤ 9223372036854775807) ∧ CutsF W a len f ∧ ∀ i, i < len → (Lit.int .i64 (f i).1).wf = true ∧ 0 ≤ (f i).2.2 ∧ (f i).2.2 < 256 := by
  rcases Go.Deep.open_slice Try.underlying24 h with ⟨hcs, hx⟩ | ⟨a, len', cap', m, n, D, Pl, hcs, hb, hl, hm, hmm, hx, hV⟩
  · exact ⟨none, 0, 0, fun _ => (0, 0, 0), hcs, ⟨Nat.le_refl _, by omega⟩, fun i hi => absurd hi (by omega), fun i hi => absurd hi (by omega)⟩
  · have hle : len' ≤ m := by rw [hmm]; simp; exact hl
    rw [maxLen_is] at hm
    rw [cells57] at hV
    have each : ∀ i, i < len' → ∃ q : Int × Int × Int, (W.cell? (a.add (i * 3)) = some (.int .i64 q.1) ∧ W.cell? ((a.add (i * 3)).add 1) = some (.int .i64 q.2.1) ∧ W.cell? ((a.add (i * 3)).add 2) = some (.int .u8 q.2.2)) ∧ (Lit.int .i64 q.1).wf = true ∧ 0 ≤ q.2.2 ∧ q.2.2 < 256 := by
      intro i hi
      obtain ⟨cs', h1, h2⟩ := hV i (by omega)
      obtain ⟨_, hlen, hcell⟩ := World.cells?_some h1
      obtain ⟨xs, k, hk, hxy, _, hxl, hf⟩ := DataW.trod_struct Try.underlying57 h2
      match xs, hxl, cs', hlen with
      | [y0, y1, y2], _, [v0, v1, v2], _ =>
        have g0 := hf 0 _ rfl
        have g1 := hf 1 _ rfl
        have g2 := hf 2 _ rfl
        simp [cells3, cells5] at g0 g1 g2
        obtain ⟨q0, e0, _, w0⟩ := DataW.trod_int Try.underlying3 g0
        obtain ⟨q1, e1, _, w1⟩ := DataW.trod_int Try.underlying3 g1
        obtain ⟨q2, e2, _, w2⟩ := DataW.trod_int Try.underlying5 g2
        simp at e0 e1 e2
        subst e0 e1 e2
        have k0 := hcell 0 (by omega)
        have k1 := hcell 1 (by omega)
        have k2 := hcell 2 (by omega)
        rw [add_zero'] at k0
        exact ⟨(q0, q1, q2), ⟨k0, k1, k2⟩, w0, wf_u8 w2⟩
    obtain ⟨f, hf⟩ := Go.Deep.choose_lt each
    refine ⟨some a, len', cap', f, hcs, ⟨hl, by omega⟩, fun i hi => ?_, fun i hi => (hf i hi).2⟩
    have h0 := (hf 0 (by omega)).1.1
    rw [Nat.zero_mul, add_zero'] at h0
    have hs := World.cell?_spot h0
    obtain ⟨⟨e0, e1, e2⟩, _⟩ := hf i hi
    rw [add_plain e0] at e1 e2
    rw [add_plain h0] at e0 e1 e2
    refine ⟨a.block, a.off, ?_, cell_lt h0, e0, e1, e2⟩
    cases a
    simp only at hs
    subst hs
    rfl
set_option maxRecDepth 100000 in
theorem ints_max {H : Type} {enc : TypeId × Value → H} {W : World} {fuel : Nat} {a : Option Addr} {len cap : Nat} {x : DataW H × List MemPlace} (h : DataW.trod enc Try.prog W 0 (fun _ => true) true fuel 25 [.slice a len cap] = some x) : len ≤ 9223372036854775807 := by
  rcases Go.Deep.open_slice1 Try.underlying25 cells3 h with ⟨hcs, hx⟩ | ⟨a', len', cap', m, n, V, D, Pl, hcs, hb, hl, hm, _⟩
  · simp at hcs
    omega
  · simp at hcs
    rw [maxLen_is] at hm
    omega
theorem cells27 : Try.prog.cellsOf 27 = 3 := by kernel_rfl
theorem takeD {α : Type} (n : Nat) (f : Nat → α) (z : α) (i : Nat) (hi : i < ((List.range n).map f).length) : ((List.range n).map f).getD i z = f i := by
  rw [List.length_map, List.length_range] at hi
  simp [List.getD_eq_getElem?_getD, hi]
theorem CutsF.at {w : World} {a : Option Addr} {n : Nat} {f : Nat → Int × Int × Int} (h : CutsF w a n f) : CutsAt w (fun _ => False) a ((List.range (min n 8)).map f) := by
  intro i hi
  rw [takeD _ _ _ _ hi]
  rw [List.length_map, List.length_range] at hi
  obtain ⟨g, o, e, hg, c⟩ := h i (by omega)
  exact ⟨g, o, e, hg, fun x => x, c⟩
theorem IntsF.at {w : World} {a : Option Addr} {n : Nat} {f : Nat → Int} (h : IntsF w a n f) : IntsAt w (fun _ => False) a ((List.range (min n 8)).map f) := by
  intro i hi
  rw [takeD _ _ _ _ hi]
  rw [List.length_map, List.length_range] at hi
  obtain ⟨g, o, e, hg, c⟩ := h i (by omega)
  exact ⟨g, o, e, hg, fun x => x, c⟩
set_option maxRecDepth 100000 in
theorem open_faults {H : Type} {enc : TypeId × Value → H} {W : World} {b0 : Nat} {v : Value} {d : DataW H} {p : List MemPlace} (hv : Value.okWide Try.prog W .any b0 27 v) (h : DataW.Trod enc Try.prog W 0 (fun _ => true) true 27 v d p) :
    ∃ ca fa ba n1 c1 n2 c2 n3 c3 cl fl bl, v = .agg #[.slice ca n1 c1, .slice fa n2 c2, .slice ba n3 c3] ∧ FltO W ca fa ba n1 c1 n2 c2 n3 c3 cl fl bl := by
  obtain ⟨v0, v1, v2, y0, y1, y2, n, rfl, rfl, rfl, t0, t1, t2⟩ := Go.Joins.open_agg3 Try.underlying27 (by kernel_rfl) cells27 hv h
  obtain ⟨ca, n1, c1, f1, e1, k1, x1, w1⟩ := cuts_of t0
  obtain ⟨fa, n2, c2, f2, e2, k2, x2, w2⟩ := ints_of t1
  obtain ⟨ba, n3, c3, f3, e3, k3, x3, w3⟩ := ints_of t2
  simp at e1 e2 e3
  subst e1 e2 e3
  refine ⟨ca, fa, ba, n1, c1, n2, c2, n3, c3, (List.range (min n1 8)).map f1, (List.range (min n2 8)).map f2, (List.range (min n3 8)).map f3, rfl, ?_⟩
  refine ⟨x1.at, x2.at, x3.at, by simp, by simp, by simp, k1, ⟨k2, ints_max t1⟩, ⟨k3, ints_max t2⟩, fun x hx => ?_, fun x hx => ?_⟩
  · obtain ⟨i, hi, rfl⟩ := List.mem_map.1 hx
    rw [List.mem_range] at hi
    exact w1 i (by omega)
  · obtain ⟨i, hi, rfl⟩ := List.mem_map.1 hx
    rw [List.mem_range] at hi
    exact w2 i (by omega)
end Go.Proofs.Ytkfkepjegdaadaa
