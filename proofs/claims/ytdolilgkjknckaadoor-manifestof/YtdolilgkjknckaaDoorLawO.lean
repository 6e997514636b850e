/-
  ManifestOf (5): an image's manifest. Condition: the library's table of powers of ten holds what it was laid with (Tb).
-/
import Derived.Test.YtdolilgkjknckaaDoorAwk
import Derived.Test.YtdolilgkjknckaaDoorRefSum
namespace Go.Proofs.YtdolilgkjknckaaDoor
open Go Go.RowKit
set_option maxRecDepth 100000
theorem of_walk (v : Int) (s : ByteArray) (w : World) (ht : Tb w) : Calls Tryd.prog 5 #[.int .i64 v, .string s] w fun e w' => e = .returned (.bool true) ∧ Below w.heap.size w w' := by
  have c0 := few_any s
  have hs := cut400_le s
  generalize cut400 s = S at *
  have c1 := of_any v S (by omega)
  have c2 : ∀ w, Calls Tryd.prog 18 #[.string S] w fun e w' => e = .returned (.string (sumB S)) ∧ Below w.heap.size w w' := Sh.refSum_any S (by omega)
  have c3 := check_any v S.size (sumB S)
  have c4 := refCheck_any v S.size (sumB S)
  generalize sumB S = D at *
  generalize mOk v S.size D = M at *
  have hk := Hid.mk (And.intro ht (Below.refl w.heap.size w))
  clear ht
  go_enter Tryd.func5, Tryd.ntmps5
  go_upto_region 3 with (first
    | (go_at_call 10; refine (c0 _).mono ?_; rintro e w0 ⟨rfl, hw0⟩; rw [hw0]; clear hw0)
    | (go_at_call 17; refine (c1 _).mono ?_; rintro e w1 ⟨rfl, b1⟩; replace hk := Hid.mk (show MS w w1.heap.size v S.size D (w1.alloc (.cells #[.int .i64 v, .int .i64 S.size, .string D] 23)) from ⟨Mf.fresh w1 v S.size D, (hk.out.1.call b1).alloc _, b1.alloc b1.size _⟩); clear b1))
  generalize w1.alloc (.cells #[.int .i64 v, .int .i64 S.size, .string D] 23) = W1 at *
  generalize w1.heap.size = G at *
  obtain ⟨a0, a1, a2, hM2⟩ := hk.out.drew.cells
  have hS : Hid (W1.drew.cell? ⟨G, 0, none⟩ = some (.int .i64 v) ∧ W1.drew.cell? ⟨G, 1, none⟩ = some (.int .i64 S.size) ∧ W1.drew.cell? ⟨G, 2, none⟩ = some (.string D) ∧ MS w G v S.size D W1.drew) := ⟨a0, a1, a2, hM2⟩
  clear hk hM2 c0 c1
  go_region_held3 (fun w' => w'.cell? ⟨G, 0, none⟩ = some (.int .i64 v) ∧ w'.cell? ⟨G, 1, none⟩ = some (.int .i64 S.size) ∧ w'.cell? ⟨G, 2, none⟩ = some (.string D) ∧ MS w G v S.size D w') (first | assumption | exact hS.out | exact mc_keep (by assumption) (by assumption) | fail)
    (first
      | (go_at_call 13; refine (awake_any _ (by assumption : _ ∧ _ ∧ _ ∧ MS w G v S.size D _).2.2.2.2.1).mono ?_; rintro e w3 ⟨rfl, b3⟩)
      | (go_at_call 18; refine (c2 _).mono ?_; rintro e w3 ⟨rfl, b3⟩)
      | (go_at_call 15; refine (c3 _).mono ?_; rintro e w3 ⟨rfl, b3⟩)
      | (go_at_call 19; refine (c4 _).mono ?_; rintro e w3 ⟨rfl, b3⟩))
  have hb2 := (by assumption : _ ∧ _ ∧ _ ∧ MS w G v S.size D w3).2.2.2.2.2
  go_wp2_with fail
  go_ret
  exact ⟨by simp, hb2⟩
end Go.Proofs.YtdolilgkjknckaaDoor
