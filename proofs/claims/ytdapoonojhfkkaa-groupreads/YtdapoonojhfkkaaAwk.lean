/-
  The law's own 'awake': a record there and back. No condition.
-/
import Derived.Test.YtdapoonojhfkkaaThere
namespace Go.Proofs.Ytdapoonojhfkkaa
open Go Go.RowKit

/-- a record in a block that the call made, and all else as it was -/
def Rx (w : World) (X : Nat) (l : List Int) (wr : World) : Prop := Row wr X 27 .i64 l ∧ w.heap.size ≤ X ∧ Below w.heap.size w wr
theorem Rx.call {w wr w2 : World} {X l} (h : Rx w X l wr) (b : Below wr.heap.size wr w2) : Rx w X l w2 := ⟨h.1.call b, h.2.1, below3 h.2.2 b⟩
theorem Rx.kept {w wr w2 : World} {X l g} (h : Rx w X l wr) (b : wr.grownBy w2 (some g)) (hg : X < g) : Rx w X l w2 :=
  ⟨h.1.kept b (by omega), h.2.1, below_grown h.2.2 b h.2.2.size (by have := h.2.1; omega)⟩
theorem Rx.alloc {w wr : World} {X l} (h : Rx w X l wr) (o : Obj) : Rx w X l (wr.alloc o) := ⟨h.1.alloc o, h.2.1, h.2.2.alloc h.2.2.size o⟩
end Go.Proofs.Ytdapoonojhfkkaa
