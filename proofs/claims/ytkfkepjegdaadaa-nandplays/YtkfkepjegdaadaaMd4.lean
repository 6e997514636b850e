/-
  What do's ways want besides: a mark set, a page read. No condition.
-/
import Derived.Test.YtkfkepjegdaadaaMd3
namespace Go.Proofs.Ytkfkepjegdaadaa
open Go Go.RowKit

theorem Md.newMark {w : World} {S X C} (h : Md w S X C) {g cap b : Nat} (hg : g < w.heap.size) (hs : ¬ S g) (hc : ∀ i, i < C.B → w.cell? ⟨g, i, none⟩ = some (if i = b then .bool true else .bool (C.mark i))) :
    Md w S { X with gm := g, cm := cap } { C with mark := upd C.mark b true } :=
  ⟨h.cut, h.fail, h.ecut, h.efail, h.len, h.rng, h.pg, h.worn, h.dead, fun i hi => by
    rw [hc i hi]
    unfold upd
    by_cases e : i = b
    · simp [e]
    · simp [e], ⟨h.lt.1, h.lt.2.1, h.lt.2.2.1, hg⟩, ⟨h.out.1, h.out.2.1, h.out.2.2.1, hs⟩, h.geo, h.didr, h.wornr⟩
theorem ext_join (V : ByteArray) (z n : Nat) (h : V.size = n) (hz : z ≤ n) : V.extract 0 z ++ V.extract z n = V := by
  apply ByteArray.ext
  rw [ByteArray.data_append, ByteArray.data_extract, ByteArray.data_extract]
  have hv : V.data.size = n := h
  rw [Array.extract_append_extract, Nat.min_eq_left (Nat.zero_le _), Nat.max_eq_right hz, ← hv, Array.extract_size]
theorem markC_none {C : Ch} {b : Int} (hr : refB C b = 0) (hc : C.cuts (C.did + 1) = none) : markC C b = ({ actC C with mark := upd (actC C).mark b.toNat true }, 0) := by
  have eA : actC C = { C with did := C.did + 1 } := by
    unfold actC
    rw [hc]
    simp
  rw [eA]
  unfold markC
  rw [if_pos hr, hc]
theorem markC_some {C : Ch} {b k0 x0 : Int} (hr : refB C b = 0) (hc : C.cuts (C.did + 1) = some (k0, x0)) (hk : 0 < k0) : markC C b = ({ actC C with mark := upd (actC C).mark b.toNat true }, 51) := by
  have eA : actC C = { C with did := C.did + 1, off := true } := by
    unfold actC
    rw [hc]
    simp
  rw [eA]
  unfold markC
  rw [if_pos hr, hc]
  simp [hk]
theorem markC_cut {C : Ch} {b k0 x0 : Int} (hr : refB C b = 0) (hc : C.cuts (C.did + 1) = some (k0, x0)) (hk : ¬ 0 < k0) : markC C b = (actC C, 51) := by
  have eA : actC C = { C with did := C.did + 1, off := true } := by
    unfold actC
    rw [hc]
    simp
  rw [eA]
  unfold markC
  rw [if_pos hr, hc]
  have e : upd C.mark b.toNat (C.mark b.toNat) = C.mark := by
    funext i
    unfold upd
    split
    · rename_i h
      rw [h]
    · rfl
  simp [hk, e]
end Go.Proofs.Ytkfkepjegdaadaa
