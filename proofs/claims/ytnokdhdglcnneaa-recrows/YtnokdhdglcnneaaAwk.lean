/-
  The law's own 'awake': a record there and back. No condition.
-/
import Derived.Test.YtnokdhdglcnneaaThere
namespace Go.Proofs.Ytnokdhdglcnneaa
open Go Go.RowKit

theorem end_empty {w : World} {g : Nat} (h : Rd w g ⟨#[]⟩ 0) : Calls Try.prog 13 #[.pointer (some ⟨g, 0, none⟩)] w fun x w' => x = .returned (.int .i64 0) ∧ w' = w := end_any h
/-- a record in a block that the call made, and all else as it was -/
def Rx (w : World) (X : Nat) (l : List Int) (wr : World) : Prop := Row wr X 23 .i64 l ∧ w.heap.size ≤ X ∧ Below w.heap.size w wr
theorem Rx.call {w wr w2 : World} {X l} (h : Rx w X l wr) (b : Below wr.heap.size wr w2) : Rx w X l w2 := ⟨h.1.call b, h.2.1, below3 h.2.2 b⟩
theorem Rx.kept {w wr w2 : World} {X l g} (h : Rx w X l wr) (b : wr.grownBy w2 (some g)) (hg : X < g) : Rx w X l w2 :=
  ⟨h.1.kept b (by omega), h.2.1, below_grown h.2.2 b h.2.2.size (by have := h.2.1; omega)⟩
theorem Rx.alloc {w wr : World} {X l} (h : Rx w X l wr) (o : Obj) : Rx w X l (wr.alloc o) := ⟨h.1.alloc o, h.2.1, h.2.2.alloc h.2.2.size o⟩
theorem awake_any (w : World) : Calls Try.prog 6 #[] w fun e w' => e = .returned (.bool true) ∧ Below w.heap.size w w' := by
  have hput := fun w => putMay_any may_awake w
  have htake := fun w g (h : Rd w g (putB 1 [1, 3, 300, 9, 0, 0]) 0) => takePut_last may_awake h
  have hchk := fun w => checkB_any 1 3 300 9 0 0 w
  have hchk0 := fun w => checkB_any 0 0 0 0 0 0 w
  rw [may_awake] at hchk
  rw [may_zero] at hchk0
  generalize putB 1 [1, 3, 300, 9, 0, 0] = B at *
  have HC := Hid.mk (And.intro hput (And.intro htake (And.intro hchk hchk0)))
  clear hput htake hchk hchk0
  go_enter Try.func6, Try.ntmps6
  go_upto_region 2 with fail
  have p1 : Rx w w.heap.size [1, 3, 300, 9, 0, 0] (w.alloc (.cells #[.int .i64 1, .int .i64 3, .int .i64 300, .int .i64 9, .int .i64 0, .int .i64 0] 23)) := ⟨Row.fresh w 23 .i64 [1, 3, 300, 9, 0, 0], Nat.le_refl _, below_one w _⟩
  generalize (w.alloc (.cells #[.int .i64 1, .int .i64 3, .int .i64 300, .int .i64 9, .int .i64 0, .int .i64 0] 23)) = W at *
  obtain ⟨c0, c1, c2, c3, c4, c5⟩ := p1.1.six
  have H := Hid.mk p1
  clear p1
  go_upto_region 3 with (first
    | (go_at_call 10; refine (HC.out.1 _).mono ?_; rintro e w1 ⟨rfl, b1⟩; replace H := Hid.mk (H.out.call b1); clear b1)
    | (go_at_call 9; refine (new_any _ _).mono ?_; rintro e w2 ⟨rfl, r1, b1⟩; have hg := Hid.mk (And.intro r1 H.out.1.lt); replace H := Hid.mk (H.out.call b1); clear b1 r1))
  clear c0 c1 c2 c3 c4 c5
  generalize w1.heap.size = G at *
  go_upto_region 4 with (go_at_call 11; refine (HC.out.2.1 _ _ hg.out.1).mono ?_; rintro e w3 ⟨rfl, r3, g3⟩; replace H := Hid.mk (H.out.kept g3 hg.out.2); unfold rv)
  have p1 := H.out.alloc (.cells #[.int .i64 1, .int .i64 3, .int .i64 300, .int .i64 9, .int .i64 0, .int .i64 0] 23)
  have p2 : Row (w3.alloc (.cells #[.int .i64 1, .int .i64 3, .int .i64 300, .int .i64 9, .int .i64 0, .int .i64 0] 23)) w3.heap.size 23 .i64 [1, 3, 300, 9, 0, 0] := Row.fresh w3 23 .i64 [1, 3, 300, 9, 0, 0]
  have p3 := r3.alloc (.cells #[.int .i64 1, .int .i64 3, .int .i64 300, .int .i64 9, .int .i64 0, .int .i64 0] 23)
  clear r3 g3 H hg
  generalize (w3.alloc (.cells #[.int .i64 1, .int .i64 3, .int .i64 300, .int .i64 9, .int .i64 0, .int .i64 0] 23)) = W3 at *
  generalize w3.heap.size = Y at *
  obtain ⟨c0, c1, c2, c3, c4, c5⟩ := p1.1.six
  obtain ⟨d0, d1, d2, d3, d4, d5⟩ := p2.six
  have H := Hid.mk p1
  have R3 := Hid.mk p3
  clear p1 p2 p3
  go_wp2_with (first
    | (go_at_call 13; refine (end_empty R3.out).mono ?_; rintro e w' ⟨rfl, rfl⟩)
    | (go_at_call 7; refine (checkB_any _ _ _ _ _ _ _).mono ?_; rintro e w4 ⟨rfl, b4⟩; replace H := Hid.mk (H.out.call b4); (first | rw [may_awake] | rw [may_zero])))
  go_ret
  exact ⟨rfl, H.out.2.2⟩
end Go.Proofs.Ytnokdhdglcnneaa
