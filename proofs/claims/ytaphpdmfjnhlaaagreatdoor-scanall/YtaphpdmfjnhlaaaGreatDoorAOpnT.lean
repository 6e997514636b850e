/-
  How a row of texts that is handed in is opened. No condition.
-/
import Derived.Test.YtaphpdmfjnhlaaaGreatDoorAOpnC
import Derived.SliceStrings
namespace Go.Proofs.YtaphpdmfjnhlaaaGreatDoor
open Go Go.ChangeShapes Go.WideShapes Go.ChangeAt Go.RowKit
theorem cells9 : Tryz.prog.cellsOf 9 = 1 := by kernel_rfl
def TxtF (w : World) (a : Option Addr) (n : Nat) (f : Nat -> ByteArray) : Prop := ∀ i, i < n -> ∃ g o, a = some ⟨g, o, none⟩ /\ g < w.heap.size /\ w.cell? ⟨g, o + i, none⟩ = some (.string (f i))
set_option maxRecDepth 100000 in
theorem open_texts {H : Type} {enc : TypeId × Value -> H} {W : World} {b0 : Nat} {v : Value} {d : DataW H} {p : List MemPlace} (hv : Value.okWide Tryz.prog W .any b0 63 v) (h : DataW.Trod enc Tryz.prog W 0 (fun _ => true) true 63 v d p) :
  ∃ a len cap f, v = .slice a len cap /\ TxtF W a len f := by
 obtain ⟨a0, len, cap, rfl⟩ := okWide_slice Tryz.underlying63 hv
 obtain ⟨fuel, hf⟩ := h
 rcases open_strings Tryz.underlying63 Tryz.underlying9 cells9 hf with ⟨hcs, hx⟩ | ⟨a, len', cap', ss, hcs, _, hl, hm, hz, hx, hcell, hsz⟩
 ·simp [Value.cells] at hcs
  obtain ⟨rfl, rfl, rfl⟩ := hcs
  exact ⟨none, 0, 0, fun _ => ⟨#[]⟩, rfl, fun i hi => absurd hi (by omega)⟩
 ·simp [Value.cells] at hcs
  obtain ⟨rfl, rfl, rfl⟩ := hcs
  refine ⟨some a, len, cap, fun i => ss.getD i ByteArray.empty, rfl, fun i hi => ?_⟩
  have hlen : len <= ss.length := by rw [hz]; simp; exact hl
  have h0 := hcell 0 (by omega)
  have hi2 := hcell i (by omega)
  rw [Gp.add_zero'] at h0
  have hs := World.cell?_spot h0
  rw [Gp.add_plain h0] at hi2
  refine ⟨a.block, a.off, ?_, Gp.cell_lt h0, hi2⟩
  cases a
  simp only at hs
  subst hs
  rfl
theorem cells5 : Tryz.prog.cellsOf 5 = 1 := by kernel_rfl
def BytF (w : World) (a : Option Addr) (n : Nat) (f : Nat -> Int) : Prop := ∀ i, i < n -> (0 <= f i /\ f i < 256) /\ ∃ g o, a = some ⟨g, o, none⟩ /\ g < w.heap.size /\ w.cell? ⟨g, o + i, none⟩ = some (.int .u8 (f i))
set_option maxRecDepth 100000 in
theorem open_byts {H : Type} {enc : TypeId × Value -> H} {W : World} {b0 : Nat} {v : Value} {d : DataW H} {p : List MemPlace} (hv : Value.okWide Tryz.prog W .any b0 64 v) (h : DataW.Trod enc Tryz.prog W 0 (fun _ => true) true 64 v d p) :
  ∃ a len cap f, v = .slice a len cap /\ BytF W a len f := by
 obtain ⟨a0, len, cap, rfl⟩ := okWide_slice Tryz.underlying64 hv
 obtain ⟨fuel, hf⟩ := h
 rcases Go.Deep.open_slice1 Tryz.underlying64 cells5 hf with ⟨hcs, hx⟩ | ⟨a, len', cap', m, n, V, D, Pl, hcs, hb, hl, hm, hmm, hx, hV⟩
 ·simp [Value.cells] at hcs
  obtain ⟨rfl, rfl, rfl⟩ := hcs
  exact ⟨none, 0, 0, fun _ => 0, rfl, fun i hi => absurd hi (by omega)⟩
 ·simp [Value.cells] at hcs
  obtain ⟨rfl, rfl, rfl⟩ := hcs
  have hle : len <= m := by rw [hmm]; simp; exact hl
  have each : ∀ i, i < len -> ∃ x : Int, W.cell? (a.add i) = some (.int .u8 x) /\ (Lit.int .u8 x).wf = true := by
   intro i hi
   obtain ⟨h1, h2⟩ := hV i (by omega)
   obtain ⟨x, e0, _, w0⟩ := DataW.trod_int Tryz.underlying5 h2
   simp at e0
   rw [e0] at h1
   exact ⟨x, h1, w0⟩
  obtain ⟨xs, hxs⟩ := Go.Deep.choose_lt each
  refine ⟨some a, len, cap, xs, rfl, fun i hi => ⟨wf_u8 (hxs i hi).2, ?_⟩⟩
  have h0 := (hxs 0 (by omega)).1
  rw [Gp.add_zero'] at h0
  have hs := World.cell?_spot h0
  have h1 := (hxs i hi).1
  rw [Gp.add_plain h0] at h1
  refine ⟨a.block, a.off, ?_, Gp.cell_lt h0, h1⟩
  cases a
  simp only at hs
  subst hs
  rfl
end Go.Proofs.YtaphpdmfjnhlaaaGreatDoor
