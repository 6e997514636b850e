/-
  What the laws LifePlays and LifeRoom share: their acts, their sizes, and a Life beside a row of the law's own. No condition.
-/
import Derived.Test.YtclpcodcfcegdaaSam
namespace Go.Proofs.Ytclpcodcfcegdaa
open Go Go.RowKit

theorem wrap_small (x : Nat) (hx : x ≤ 1000000) : IntKind.i64.wrap (x : Int) = x := by rw [IntKind.wrap_i64]; omega
theorem low (n : Int) (m : Nat) (hm : m ≤ 1000000) : ∃ k : Nat, bits .and .i64 n (m : Int) = (k : Int) ∧ k ≤ m := by
  unfold bits
  simp only []
  have h : (BitVec.ofInt IntKind.i64.bits n &&& BitVec.ofInt IntKind.i64.bits (m : Int)).toNat ≤ m := by
    rw [BitVec.toNat_and]
    refine Nat.le_trans Nat.and_le_right ?_
    rw [BitVec.toNat_ofInt]
    show ((m : Int) % ((2 ^ 64 : Nat) : Int)).toNat ≤ m
    omega
  exact ⟨_, wrap_small _ (by omega), h⟩
/-- from this address on lie so many acts -/
def ActsF (w : World) (a : Option Addr) (n : Nat) (f : Nat → Int × Int) : Prop := ∀ i, i < n → ∃ g o, a = some ⟨g, o, none⟩ ∧ g < w.heap.size ∧
  w.cell? ⟨g, o + i * 2, none⟩ = some (.int .i64 (f i).1) ∧ w.cell? ⟨g, o + i * 2 + 1, none⟩ = some (.int .i64 (f i).2)
theorem ActsF.call {w w' : World} {a : Option Addr} {n : Nat} {f : Nat → Int × Int} (h : ActsF w a n f) (b : Below w.heap.size w w') : ActsF w' a n f := by
  intro i hi
  obtain ⟨g, o, ha, hg, h1, h2⟩ := h i hi
  refine ⟨g, o, ha, Nat.lt_of_lt_of_le hg b.size, ?_, ?_⟩
  · rw [b.cell (p := ⟨g, o + i * 2, none⟩) hg]; exact h1
  · rw [b.cell (p := ⟨g, o + i * 2 + 1, none⟩) hg]; exact h2
/-- a Life, and a row that says the same -/
structure Pl (w0 : World) (a g g2 n k : Nat) (xs : List Int) (o nx : Int) (w : World) : Prop where
  hd : Hd w0 a g n k xs o nx w
  row : Row w g2 3 .i64 xs
  n1 : g2 ≠ a
  n2 : g2 ≠ g
  new : w0.heap.size ≤ g2
theorem Pl.call {w0 : World} {a g g2 n k xs o nx} {w w' : World} (h : Pl w0 a g g2 n k xs o nx w) (b : Below w.heap.size w w') : Pl w0 a g g2 n k xs o nx w' := ⟨h.hd.call b, h.row.call b, h.n1, h.n2, h.new⟩
theorem Pl.kept {w0 : World} {a g g2 n k xs o nx} {w w' : World} (h : Pl w0 a g g2 n k xs o nx w) (b : Kp (ownL a g) w w') : Row w' g2 3 .i64 xs :=
  (b.block g2 h.row.lt (by rintro (e | e); exact h.n1 e; exact h.n2 e)).trans h.row
theorem Pl.both {w0 : World} {a g g2 n k xs o nx} {w w' : World} (h : Pl w0 a g g2 n k xs o nx w) {j : Nat} {v o' nx' : Int} (hl : Lif w' a g n k (xs.set j v) o' nx') (b : Kp (ownL a g) w w') : Pl w0 a g g2 n k (xs.set j v) o' nx' (w'.setCell ⟨g2, j, none⟩ (.int .i64 v)) := by
  have hd := h.hd.act hl b
  refine ⟨⟨hd.life.same (fun i hi => Below.heap_setCell w' _ _ i ?_), hd.below.setCell h.new _, hd.new⟩, (h.kept b).stored j v, h.n1, h.n2, h.new⟩
  rintro rfl
  rcases hi with e | e
  · exact h.n1 e
  · exact h.n2 e
theorem Pl.only {w0 : World} {a g g2 n k xs o nx} {w w' : World} (h : Pl w0 a g g2 n k xs o nx w) {o' nx' : Int} (hl : Lif w' a g n k xs o' nx') (b : Kp (ownL a g) w w') : Pl w0 a g g2 n k xs o' nx' w' :=
  ⟨h.hd.act hl b, h.kept b, h.n1, h.n2, h.new⟩
end Go.Proofs.Ytclpcodcfcegdaa
