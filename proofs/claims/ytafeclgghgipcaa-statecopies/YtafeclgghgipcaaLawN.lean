/-
  The walk of the law StateNone. No condition.
-/
import Derived.Test.YtafeclgghgipcaaHold
namespace Go.Proofs.Ytafeclgghgipcaa
open Go Go.RowKit Go.Maps

theorem awake0 (w : World) : Calls Try.prog 9 #[] w fun e w' => e = .returned (.bool true) ∧ Below w.heap.size w w' := awake_any (Below.refl _ w) (Nat.le_refl _)
theorem below4 {W w1 w2 : World} {o : Obj} (b1 : Below W.heap.size W w1) (b2 : Below (w1.alloc o).heap.size (w1.alloc o) w2) : Below W.heap.size W w2 := below3 (b1.alloc b1.size o) b2
set_option maxRecDepth 20000 in
set_option maxHeartbeats 4000000 in
theorem stateNone_any (K S P A T N : Int) (w : World) : Calls Try.prog 7 #[rv K S P A T N] w fun e w' => e = .returned (.bool true) ∧ Below w.heap.size w w' := by
  unfold rv
  have q1 := fun W => get_nil W S P
  have q2 := fun W => space_nil W S
  have q3 := fun (W : World) => apply_nil (w := W) (K := K) (S := S) (P := P) (A := A) (T := T) (N := N)
  have q4 := fun W => lay_nil W 1 0 0
  unfold rv at q3
  unfold sv svC at q2
  go_enter Try.func7, Try.ntmps7
  go_upto_region 2 with fail
  have r0 := Row.fresh w 36 .i64 [K, S, P, A, T, N]
  have b0 := (Below.refl _ w).alloc (Nat.le_refl _) (.cells (cellsOf .i64 [K, S, P, A, T, N]) 36)
  change Row (w.alloc (.cells #[.int .i64 K, .int .i64 S, .int .i64 P, .int .i64 A, .int .i64 T, .int .i64 N] 36)) w.heap.size 36 .i64 [K, S, P, A, T, N] at r0
  change Below w.heap.size w (w.alloc (.cells #[.int .i64 K, .int .i64 S, .int .i64 P, .int .i64 A, .int .i64 T, .int .i64 N] 36)) at b0
  generalize w.alloc (.cells #[.int .i64 K, .int .i64 S, .int .i64 P, .int .i64 A, .int .i64 T, .int .i64 N] 36) = W at *
  obtain ⟨c0, c1, c2, c3, c4, c5⟩ := r0.six
  have H := Hid.mk (And.intro r0 (And.intro b0 (And.intro q1 (And.intro q2 (And.intro q3 q4)))))
  clear r0 b0 q1 q2 q3 q4
  generalize hR : w.heap.size = R at *
  replace hR := Hid.mk hR
  go_upto_region 3 with (first | (go_at_call 13; refine (H.out.2.2.1 _).mono ?_; rintro e w1 ⟨rfl, rfl⟩))
  have hc : Hid (∀ W', Below W.heap.size W W' → W'.cell? ⟨R, 0, none⟩ = some (.int .i64 K) ∧ W'.cell? ⟨R, 1, none⟩ = some (.int .i64 S) ∧ W'.cell? ⟨R, 2, none⟩ = some (.int .i64 P) ∧ W'.cell? ⟨R, 3, none⟩ = some (.int .i64 A) ∧ W'.cell? ⟨R, 4, none⟩ = some (.int .i64 T) ∧ W'.cell? ⟨R, 5, none⟩ = some (.int .i64 N)) := fun W' b => (H.out.1.call b).six
  go_wp2_with (first
    | (go_at_call 21; refine (H.out.2.2.2.1 _).mono ?_; rintro e w1 ⟨rfl, b1⟩)
    | (go_at_call 9; refine (awake0 _).mono ?_; rintro e w2 ⟨rfl, b2⟩; have B2 := below4 b1 b2; obtain ⟨d0, d1, d2, d3, d4, d5⟩ := hc.out w2 B2; clear c0 c1 c2 c3 c4 c5)
    | (go_at_call 11; refine (H.out.2.2.2.2.1 _).mono ?_; rintro e w3 ⟨rfl, b3⟩; have B3 := below3 B2 b3; obtain ⟨e0, e1, e2, e3, e4, e5⟩ := hc.out w3 B3; clear d0 d1 d2 d3 d4 d5)
    | (go_at_call 22; refine (H.out.2.2.2.2.2 _).mono ?_; rintro e w4 ⟨rfl, rfl⟩)
    | (go_at_call 17; refine (copy_nil _).mono ?_; rintro e w4 ⟨rfl, rfl⟩)
    | (go_at_call 23; refine (spaces_nil _).mono ?_; rintro e w4 ⟨rfl, rfl⟩)
    | (go_at_call 24; refine (refs_nil _ _).mono ?_; rintro e w4 ⟨rfl, rfl⟩)
    | (go_at_call 25; refine (live_nil _).mono ?_; rintro e w4 ⟨rfl, rfl⟩)
    | (go_at_call 26; refine (keys_nil _).mono ?_; rintro e w4 ⟨rfl, rfl⟩)
    | (go_at_call 18; refine (bad_nil _ _).mono ?_; rintro e w4 ⟨rfl, rfl⟩)
    | (go_at_call 20; refine (bads_nil _).mono ?_; rintro e w4 ⟨rfl, rfl⟩)
    | (go_at_call 19; refine (worn_nil _ _).mono ?_; rintro e w4 ⟨rfl, rfl⟩)
    | (go_at_call 16; refine (dump_nil _).mono ?_; rintro e w4 ⟨rfl, rfl⟩))
  go_ret
  exact ⟨rfl, by rw [hR.out]; exact H.out.2.1.trans (B3.mono (by rw [← hR.out]; exact H.out.2.1.size))⟩
end Go.Proofs.Ytafeclgghgipcaa
