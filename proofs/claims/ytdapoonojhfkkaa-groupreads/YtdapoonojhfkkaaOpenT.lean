/-
  How a row of texts that is handed in is opened. No condition.
-/
import Derived.Test.YtdapoonojhfkkaaOpenR
import Derived.Test.YtdapoonojhfkkaaLawR
import Derived.SliceStrings
namespace Go.Proofs.Ytdapoonojhfkkaa
open Go.ChangeShapes Go.WideShapes Go.ChangeAt Go.RowKit
theorem cells9 : Try.prog.cellsOf 9 = 1 := by kernel_rfl
set_option maxRecDepth 100000 in
theorem open_texts {H : Type} {enc : TypeId × Value → H} {W : World} {b0 : Nat} {v : Value} {d : DataW H} {p : List MemPlace} (hv : Value.okWide Try.prog W .any b0 22 v) (h : DataW.Trod enc Try.prog W 0 (fun _ => true) true 22 v d p) :
    ∃ a len cap f, v = .slice a len cap ∧ TxtG W a len f := by
  obtain ⟨a0, len, cap, rfl⟩ := okWide_slice Try.underlying22 hv
  obtain ⟨fuel, hf⟩ := h
  rcases open_strings Try.underlying22 Try.underlying9 cells9 hf with ⟨hcs, hx⟩ | ⟨a, len', cap', ss, hcs, _, hl, hm, hz, hx, hcell, hsz⟩
  · simp [Value.cells] at hcs
    obtain ⟨rfl, rfl, rfl⟩ := hcs
    exact ⟨none, 0, 0, fun _ => ⟨#[]⟩, rfl, fun i hi => absurd hi (by omega)⟩
  · simp [Value.cells] at hcs
    obtain ⟨rfl, rfl, rfl⟩ := hcs
    refine ⟨some a, len, cap, fun i => ss.getD i ByteArray.empty, rfl, fun i hi => ?_⟩
    have hlen : len ≤ ss.length := by rw [hz]; simp; exact hl
    have h0 := hcell 0 (by omega)
    have hi2 := hcell i (by omega)
    rw [add_zero'] at h0
    have hs := World.cell?_spot h0
    rw [add_plain h0] at hi2
    refine ⟨a.block, a.off, ?_, cell_lt h0, hi2⟩
    cases a
    simp only at hs
    subst hs
    rfl
end Go.Proofs.Ytdapoonojhfkkaa
