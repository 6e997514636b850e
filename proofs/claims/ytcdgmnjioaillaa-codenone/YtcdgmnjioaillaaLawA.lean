/-
  The walk of the law CodeNone.
-/
import Derived.Test.YtcdgmnjioaillaaBack
namespace Go.Proofs.Ytcdgmnjioaillaa
open Go Go.RowKit

theorem codeNone_any (n : Int) (w : World) : Calls Try.prog 7 #[.int .i64 n] w fun e w' => e = .returned (.bool true) ∧ Below w.heap.size w w' := by
  have hb := Hid.mk (Below.refl w.heap.size w)
  go_enter Try.func7, Try.ntmps7
  go_wp2_with (first
    | (go_at_call 13; refine (awake_any _).mono ?_; rintro e w1 ⟨rfl, b1⟩; replace hb := Hid.mk (below3 hb.out b1); clear b1)
    | (go_at_call 21; refine (bytes_nil _ _).mono ?_; rintro e w2 ⟨rfl, rfl⟩)
    | (go_at_call 10; refine (num_nil _ _).mono ?_; rintro e w3 ⟨rfl, b1⟩; replace hb := Hid.mk (below3 hb.out b1); clear b1)
    | (go_at_call 19; refine (text_nil _ _).mono ?_; rintro e w4 ⟨rfl, b1⟩; replace hb := Hid.mk (below3 hb.out b1); clear b1)
    | (go_at_call 12; refine (fixed_nil _ _).mono ?_; rintro e w5 ⟨rfl, b1⟩; replace hb := Hid.mk (below3 hb.out b1); clear b1)
    | (go_at_call 25; refine (left_nil _).mono ?_; rintro e w6 ⟨rfl, rfl⟩)
    | (go_at_call 24; refine (err_nil _).mono ?_; rintro e w7 ⟨rfl, rfl⟩)
    | (go_at_call 16; refine (end_nil _).mono ?_; rintro e w8 ⟨rfl, rfl⟩))
  go_ret
  exact ⟨rfl, hb.out⟩
end Go.Proofs.Ytcdgmnjioaillaa
