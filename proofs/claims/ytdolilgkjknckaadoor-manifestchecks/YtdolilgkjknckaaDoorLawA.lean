/-
  ManifestChecks (6): which manifests may be. Condition: the library's table of powers of ten holds what it was laid with (Tb).
-/
import Derived.Test.YtdolilgkjknckaaDoorAwk
namespace Go.Proofs.YtdolilgkjknckaaDoor
open Go Go.RowKit
set_option maxRecDepth 100000
theorem checks_walk (v l : Int) (d : ByteArray) (w : World) (ht : Tb w) : Calls Tryd.prog 6 #[mv v l d] w fun e w' => e = .returned (.bool true) ∧ Below w.heap.size w w' := by
  have c1 := check_any v l d
  have c2 := refCheck_any v l d
  generalize mOk v l d = M at *
  have hM := ms_fresh w v l d ht
  go_enter Tryd.func6, Tryd.ntmps6
  go_wp2_with fail
  generalize w.alloc (.cells #[.int .i64 v, .int .i64 l, .string d] 23) = W1 at *
  obtain ⟨c0, c1', c2', hM2⟩ := hM.drew.cells
  have hS : Hid (W1.drew.cell? ⟨w.heap.size, 0, none⟩ = some (.int .i64 v) ∧ W1.drew.cell? ⟨w.heap.size, 1, none⟩ = some (.int .i64 l) ∧ W1.drew.cell? ⟨w.heap.size, 2, none⟩ = some (.string d) ∧ MS w w.heap.size v l d W1.drew) := ⟨c0, c1', c2', hM2⟩
  clear hM hM2 ht
  go_region_held3 (fun w' => w'.cell? ⟨w.heap.size, 0, none⟩ = some (.int .i64 v) ∧ w'.cell? ⟨w.heap.size, 1, none⟩ = some (.int .i64 l) ∧ w'.cell? ⟨w.heap.size, 2, none⟩ = some (.string d) ∧ MS w w.heap.size v l d w') (first | assumption | exact hS.out | exact mc_keep (by assumption) (by assumption) | fail)
    (first
      | (go_at_call 13; refine (awake_any _ (by assumption : _ ∧ _ ∧ _ ∧ MS w w.heap.size v l d _).2.2.2.2.1).mono ?_; rintro e w3 ⟨rfl, b3⟩)
      | (go_at_call 15; refine (c1 _).mono ?_; rintro e w3 ⟨rfl, b3⟩)
      | (go_at_call 19; refine (c2 _).mono ?_; rintro e w3 ⟨rfl, b3⟩))
  have hb2 := (by assumption : _ ∧ _ ∧ _ ∧ MS w w.heap.size v l d w3).2.2.2.2.2
  go_wp2_with fail
  go_ret
  exact ⟨by simp, hb2⟩
end Go.Proofs.YtdolilgkjknckaaDoor
