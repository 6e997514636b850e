/-
  The laws' awake (13): a manifest there and back. Condition: the library's table of powers of ten holds what it was laid with (Tb).
-/
import Derived.Test.YtdolilgkjknckaaDoorMak
import Derived.Test.YtdolilgkjknckaaDoorTxt
namespace Go.Proofs.YtdolilgkjknckaaDoor
open Go Go.RowKit
set_option maxRecDepth 100000
def abcB : ByteArray := ⟨#[97, 98, 99]⟩
theorem mOk_of {v l : Int} {d : ByteArray} (m : Mok v l d) : mOk v l d = true := by
  unfold mOk vOk lOk dOk
  rw [m.d1, decide_eq_true m.v1, decide_eq_true m.v2, decide_eq_true m.l1, decide_eq_true m.l2]
  rfl
theorem awake_any (w : World) (ht : Tb w) : Calls Tryd.prog 13 #[] w fun e w' => e = .returned (.bool true) ∧ Below w.heap.size w w' := by
  have hm : Mok 3 3 (sumB abcB) := ⟨by omega, by omega, by omega, by omega, sumB_size _⟩
  have c1 : ∀ w, Calls Tryd.prog 17 #[.int .i64 3, .string ⟨#[97, 98, 99]⟩] w fun e w' => e = .returned (mv 3 3 (sumB abcB)) ∧ Below w.heap.size w w' := of_any 3 abcB (by decide)
  have c2 := text_any 3 3 (sumB abcB) hm
  have c3 := parse_any 3 3 (sumB abcB) hm
  have c4 := check_any 3 3 (sumB abcB)
  rw [mOk_of hm] at c4
  generalize restN 3 3 (sumB abcB) 1 = S at *
  generalize sumB abcB = D at *
  clear hm
  have hk := Hid.mk (And.intro ht (Below.refl w.heap.size w))
  clear ht
  go_enter Tryd.func13, Tryd.ntmps13
  go_wp2_with (first
    | (go_at_call 17; refine (c1 _).mono ?_; rintro e w1 ⟨rfl, b1⟩; replace hk := Hid.mk (show MS w w1.heap.size 3 3 D (w1.alloc (.cells #[.int .i64 3, .int .i64 3, .string D] 23)) from ⟨Mf.fresh w1 3 3 D, (hk.out.1.call b1).alloc _, b1.alloc b1.size _⟩); clear b1)
    | (go_at_call 11; refine (c2 _ hk.out.2.1).mono ?_; rintro e w2 ⟨rfl, b2⟩; replace hk := Hid.mk (hk.out.call b2); clear b2)
    | (go_at_call 12; refine (c3 _).mono ?_; rintro e w3 ⟨rfl, b3⟩; replace hk := Hid.mk (hk.out.call b3); clear b3; have a0 := fun o => (hk.out.1.alloc o).c0; have a1 := fun o => (hk.out.1.alloc o).c1; have a2 := fun o => (hk.out.1.alloc o).c2)
    | (go_at_call 15; refine (c4 _).mono ?_; rintro e w4 ⟨rfl, b4⟩))
  go_ret
  exact ⟨rfl, below3 (hk.out.2.2.alloc hk.out.2.2.size _) b4⟩
end Go.Proofs.YtdolilgkjknckaaDoor
