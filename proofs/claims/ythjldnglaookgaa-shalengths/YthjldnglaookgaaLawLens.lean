/-
  The walk of the law ShaLengths.
-/
import Derived.Test.YthjldnglaookgaaLawSums
import Derived.Test.YthjldnglaookgaaRefSumA
import Derived.Deep.OwnRows
import Derived.Deep.RegionLaw
import Derived.Deep.RegionHeld3
import Derived.Deep.CutBlock
namespace Go.Proofs.Ythjldnglaookgaa
open Go Go.RowKit

theorem low8 (n : Int) : ∃ m : Nat, bits .and .i64 n 255 = (m : Int) ∧ m ≤ 255 := by
  unfold bits
  simp only []
  have h : (BitVec.ofInt IntKind.i64.bits n &&& BitVec.ofInt IntKind.i64.bits 255).toNat ≤ 255 := by
    rw [BitVec.toNat_and]
    exact Nat.and_le_right
  exact ⟨_, wrap_small _ (by omega) (by omega), h⟩
theorem byte_of (v : Int) (h0 : 0 ≤ v) (h1 : v < 256) : v = ((UInt8.ofNat v.toNat).toNat : Int) := by
  rw [UInt8.toNat_ofNat']
  omega
/-- what is kept while the digests are reckoned -/
def LensS (w w' : World) (g : Nat) (l : List UInt8) : Prop := HasBytes w' g l ∧ g < w'.heap.size ∧ Below w.heap.size w w'
theorem LensS.run {w w' : World} {g : Nat} {l : List UInt8} (h : LensS w w' g l) (m : Nat) (hm : m = l.length) : (convert 25 9 (.slice (some ⟨g, 0, none⟩) m m)).run Try.prog w' = .ok (.string ⟨l.toArray⟩) w' :=
  h.1.back 25 9 5 m m hm Try.underlying25 Try.underlying5 Try.underlying9
theorem LensS.call {w w1 w2 : World} {g : Nat} {l : List UInt8} {m : Nat} (hm : m = l.length) {X : Prop} (h : X ∧ LensS w w1 g l) (b : Below w1.heap.size w1 w2) :
    (convert 25 9 (.slice (some ⟨g, 0, none⟩) m m)).run Try.prog w2 = .ok (.string ⟨l.toArray⟩) w2 ∧ LensS w w2 g l := by
  have h2 : LensS w w2 g l := ⟨h.2.1.below b h.2.2.1, Nat.lt_of_lt_of_le h.2.2.1 b.size, below3 h.2.2.2 b⟩
  exact ⟨h2.run m hm, h2⟩

theorem shaLens_of (hc : RefSums) (n f : Int) (w : World) : Calls Try.prog 4 #[.int .i64 n, .int .u8 f] w fun e w' => e = .returned (.bool true) ∧ Below w.heap.size w w' := by
  have HC := Hid.mk hc
  clear hc
  obtain ⟨m, hm, m1⟩ := low8 n
  have hmk := run_make_row' (P := Try.prog) 25 5 (.int .u8 0) 1 Try.underlying25 info5y rfl .i64 .i64 m (by omega) (by omega)
  go_enter Try.func4, Try.ntmps4
  go_wp2_with fail
  go_loopw [6] (fun i wx => ∃ (k : Nat) (l : List UInt8), k ≤ m ∧ i = .int .i64 k ∧ l.length = m ∧ LensS w wx w.heap.size l) (fun i _ => m - (intOf i).toNat)
  case atStart =>
    exact ⟨0, List.replicate m 0, Nat.zero_le _, rfl, List.length_replicate, HasBytes.made w m 5, by rw [size_alloc]; omega, (Below.refl w.heap.size w).alloc (Nat.le_refl _) _⟩
  case round =>
    obtain ⟨k, l, hk, rfl, hl, hS⟩ := hrel
    by_cases hkm : k < m
    · obtain ⟨c0, c1⟩ := hS.1 k (by omega)
      have HS := Hid.mk (And.intro hl hS)
      clear hl hS
      go_wp2_with fail
      obtain ⟨hl, h1, h2, h3⟩ := HS.out
      refine ⟨⟨k + 1, l.set k (UInt8.ofNat ((f + (k : Int)) % 256).toNat), by omega, by go_num, by rw [List.length_set]; exact hl, ?_, ?_, ?_⟩, by simp [intOf]; omega⟩
      · have hs := h1.stored k (by omega) (UInt8.ofNat ((f + (k : Int)) % 256).toNat)
        rw [← byte_of ((f + (k : Int)) % 256) (by omega) (by omega)] at hs
        exact hs
      · simp only [World.setCell, Array.size_modify]
        exact h2
      · exact h3.setCell (p := ⟨w.heap.size, k, none⟩) (Nat.le_refl _) _
    · have hrun := hS.run m hl.symm
      have hsz : (⟨l.toArray⟩ : ByteArray).size ≤ 1000 := by rw [size_toArray]; omega
      generalize hstr : (⟨l.toArray⟩ : ByteArray) = str at *
      have hS0 : (convert 25 9 (.slice (some ⟨w.heap.size, 0, none⟩) m m)).run Try.prog wr.drew = .ok (.string str) wr.drew ∧ LensS w wr.drew w.heap.size l := by
        have h2 : LensS w wr.drew w.heap.size l := ⟨hS.1, hS.2.1, hS.2.2.drew⟩
        refine ⟨?_, h2⟩
        rw [← hstr]
        exact h2.run m hl.symm
      have hkeep : ∀ w1 w2 : World, (Sem.run Try.prog (convert 25 9 (.slice (some ⟨w.heap.size, 0, none⟩) m m)) w1 = .ok (.string str) w1 ∧ LensS w w1 w.heap.size l) → Below w1.heap.size w1 w2 → (Sem.run Try.prog (convert 25 9 (.slice (some ⟨w.heap.size, 0, none⟩) m m)) w2 = .ok (.string str) w2 ∧ LensS w w2 w.heap.size l) := by
        intro w1 w2 h b
        rw [← hstr]
        exact LensS.call hl.symm h b
      have HK := Hid.mk (And.intro hkeep hS0)
      clear hkeep hS hS0 hrun hstr hl
      go_wp2_with fail
      go_region_held3 (fun w' => Sem.run Try.prog (convert 25 9 (.slice (some ⟨w.heap.size, 0, none⟩) m m)) w' = .ok (.string str) w' ∧ LensS w w' w.heap.size l) (first | assumption | exact HK.out.2 | exact HK.out.1 _ _ (by assumption) (by assumption))
        (first
          | (go_at_call 7; refine (awake_any _).mono ?_; rintro e w1 ⟨rfl, b1⟩)
          | (go_at_call 9; refine (refSumB_any HC.out _ (by assumption) _).mono ?_; rintro e w3 ⟨rfl, b1⟩)
          | (go_at_call 8; refine (sumB_any _ (by assumption) _).mono ?_; rintro e w2 ⟨rfl, b1⟩))
      have hb : Below w.heap.size w w3 := (by assumption : Sem.run Try.prog (convert 25 9 (.slice (some ⟨w.heap.size, 0, none⟩) m m)) w3 = .ok (.string str) w3 ∧ LensS w w3 w.heap.size l).2.2.2
      go_wp2_with fail
      go_ret
      exact ⟨rfl, hb⟩
end Go.Proofs.Ythjldnglaookgaa
