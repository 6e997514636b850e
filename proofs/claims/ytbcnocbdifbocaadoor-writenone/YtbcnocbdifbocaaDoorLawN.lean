/-
  The walk of WriteNone. Condition: the table's cells hold what the text lays.
-/
import Derived.Test.YtbcnocbdifbocaaDoorAwk
namespace Go.Proofs.YtbcnocbdifbocaaDoor
open Go Go.RowKit
set_option maxRecDepth 100000

set_option maxHeartbeats 1000000 in
theorem writeNone_any (B0 P0 Z0 n : Int) (w : World) (hT : Pg.Tab w) : Calls Tryd.prog 8 #[.agg #[.int .i64 B0, .int .i64 P0, .int .i64 Z0], .int .i64 n] w fun e w' => e = .returned (.bool true) ∧ Below w.heap.size w w' := by
  have hmk8 : ∀ w : World, (Instr.makeSlice 24 (.int .i64 8) (.int .i64 8)).run Tryd.prog w = .ok (.slice (some ⟨w.heap.size, 0, none⟩) 8 8) (w.alloc (.cells (madeCells #[.int .i64 0] 8) 3)) := run_make_row' (P := Tryd.prog) 24 3 (.int .i64 0) 8 Tryd.underlying24 Lf.Tryd.info3 rfl .i64 .i64 8 (by omega) (by omega)
  have hmk3 : ∀ w : World, (Instr.makeSlice 24 (.int .i64 3) (.int .i64 3)).run Tryd.prog w = .ok (.slice (some ⟨w.heap.size, 0, none⟩) 3 3) (w.alloc (.cells (madeCells #[.int .i64 0] 3) 3)) := run_make_row' (P := Tryd.prog) 24 3 (.int .i64 0) 8 Tryd.underlying24 Lf.Tryd.info3 rfl .i64 .i64 3 (by omega) (by omega)
  generalize madeCells #[.int .i64 0] 8 = c8 at hmk8
  generalize madeCells #[.int .i64 0] 3 = c3 at hmk3
  have B0' := (Below.refl w.heap.size w).alloc (Nat.le_refl _) (.cells #[.int .i64 B0, .int .i64 P0, .int .i64 Z0] 23)
  have hbg := Hid.mk (begun_none B0 P0 Z0 (w.alloc (.cells #[.int .i64 B0, .int .i64 P0, .int .i64 Z0] 23)) (hT.call B0').1)
  have HT := Hid.mk (And.intro B0' (hT.call B0'))
  have ht1 := Hid.mk tag1
  have hl4 := Hid.mk (Lf.new_any 4 4 (by omega) (by omega))
  have hrd := Hid.mk (wread_nil n)
  unfold Pg.tagV at hrd
  clear hT B0'
  go_enter Tryd.func8, Tryd.ntmps8
  go_upto_region 7 with (first
    | (go_at_call 9; refine hbg.out.mono ?_; rintro e w1 ⟨b, p, z, A, rfl, h1⟩; have HR := Hid.mk (And.intro (Run.beg h1 HT.out.2) (below3 HT.out.1 h1.below)); clear h1)
    | (go_at_call 27; refine (hl4.out _).mono ?_; rintro e w2 ⟨la, lg, rfl, -, b2, -⟩; replace HR := Hid.mk (And.intro (HR.out.1.call b2) (below3 HR.out.2 b2)); clear b2)
    | (go_at_call 19; refine (ht1.out _).mono ?_; rintro e w3 ⟨rfl, b2⟩; replace HR := Hid.mk (And.intro (HR.out.1.call b2) (below3 HR.out.2 b2)); clear b2)
    | (go_at_call 18; refine (append_nil _ _ _ _ _ _ _).mono ?_; rintro e w4 ⟨rfl, b2⟩; replace HR := Hid.mk (And.intro (HR.out.1.call b2) (below3 HR.out.2 b2)); clear b2)
    | (go_at_call 20; refine (hrd.out _).mono ?_; rintro e w5 ⟨rfl, b2⟩; replace HR := Hid.mk (And.intro ((HR.out.1.call b2).alloc (.cells #[.int .i64 0, .int .u64 0, .int .i64 0, .int .i64 0, .int .i64 0] 52)) ((below3 HR.out.2 b2).alloc (below3 HR.out.2 b2).size (.cells #[.int .i64 0, .int .u64 0, .int .i64 0, .int .i64 0, .int .i64 0] 52))); clear b2)
    | (go_at_call 28; refine (wnew_nil1 _ _ _).mono ?_; rintro e w6 ⟨rfl, rfl⟩))
  go_upto_region 8 with (first
    | (go_at_call 28; refine (wnew_nil2 _ _ _).mono ?_; rintro e w7 ⟨rfl, rfl⟩))
  go_upto_region 9 with (first
    | (go_at_call 28; have HX := Hid.mk (And.intro ((HR.out.1.alloc (.cells c8 3)).alloc (.cells c3 3)) ((HR.out.2.alloc HR.out.2.size (.cells c8 3)).alloc (HR.out.2.alloc HR.out.2.size (.cells c8 3)).size (.cells c3 3))); refine (wnew_few HX.out.1.wtr.chip la 3 3 _ (by omega)).mono ?_; rintro e w8 ⟨rfl, b2⟩; replace HR := Hid.mk (And.intro (HX.out.1.call b2) (below3 HX.out.2 b2)); clear b2 HX))
  clear hbg HT ht1 hl4 hrd hmk8 hmk3
  go_wp2_with (first
    | (go_at_call 10; refine (awake_any _ HR.out.1.tab).mono ?_; rintro e w9 ⟨rfl, b2⟩; replace HR := Hid.mk (below3 HR.out.2 b2); clear b2)
    | (go_at_call 15; refine (werase_nil _ _).mono ?_; rintro e wa ⟨rfl, rfl⟩)
    | (go_at_call 13; refine (life_nil _).mono ?_; rintro e wb ⟨rfl, rfl⟩)
    | (go_at_call 25; refine (wworn_nil _).mono ?_; rintro e wc ⟨rfl, rfl⟩)
    | (go_at_call 21; refine (bads_nil _).mono ?_; rintro e wd ⟨rfl, rfl⟩)
    | (go_at_call 29; refine (wears_nil _ _).mono ?_; rintro e we ⟨rfl, rfl⟩))
  go_ret
  exact ⟨rfl, HR.out.alloc HR.out.size _⟩
end Go.Proofs.YtbcnocbdifbocaaDoor
