/-
  ModelNone: the walk. No condition.
-/
import Derived.Test.YtacgemibaojbaaaAwk
namespace Go.Proofs.Ytacgemibaojbaaa
open Go Go.RowKit Go.Maps

set_option maxRecDepth 20000 in
set_option maxHeartbeats 2000000 in
theorem modelNone_walk (id page : Int) (w : World) : Calls Try.prog 5 #[.int .i64 id, .int .i64 page] w fun e w' => e = .returned (.bool true) ∧ Below w.heap.size w w' := by
  have A := Hid.mk (awake_any w)
  have D := Hid.mk (fun W => none_do W 0 0 0 0 0 0)
  unfold rv at D
  have q : ∀ W, (binOp .eql 26 (.pointer none) (.pointer none)).run Try.prog W = .ok (.bool true) W := fun W => by kernel_rfl
  go_enter Try.func5, Try.ntmps5
  go_wp2_with (first
    | (go_at_call 21; refine (none_get _ _ _).mono ?_; rintro e W1 ⟨rfl, rfl⟩)
    | (go_at_call 8; refine A.out.mono ?_; rintro e W2 ⟨rfl, b2⟩)
    | (go_at_call 9; refine (none_begin _).mono ?_; rintro e W3 ⟨rfl, rfl⟩)
    | (go_at_call 12; refine (none_put _ _ _ _).mono ?_; rintro e W4 ⟨rfl, b4⟩)
    | (go_at_call 13; refine (D.out _).mono ?_; rintro e W5 ⟨rfl, b5⟩)
    | (go_at_call 10; refine (none_commit _).mono ?_; rintro e W6 ⟨rfl, rfl⟩)
    | (go_at_call 11; refine (none_abort _).mono ?_; rintro e W7 ⟨rfl, rfl⟩)
    | (go_at_call 19; refine (none_spaces _).mono ?_; rintro e W8 ⟨rfl, rfl⟩)
    | (go_at_call 18; refine (none_leaves _).mono ?_; rintro e W9 ⟨rfl, rfl⟩)
    | (go_at_call 20; refine (none_copy _).mono ?_; rintro e W10 ⟨rfl, rfl⟩))
  go_ret
  exact ⟨rfl, below3 (below3 b2 b4) b5⟩
end Go.Proofs.Ytacgemibaojbaaa
