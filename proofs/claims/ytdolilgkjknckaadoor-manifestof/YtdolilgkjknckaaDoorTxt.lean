/-
  A manifest's lines as the program writes them (manifest.Text 11) and as the answer does (14): the same. Condition: the library's table of powers of ten holds what it was laid with (Tb).
-/
import Derived.Test.YtdolilgkjknckaaDoorPrs
import Derived.Deep.RegionWith
import Derived.Deep.RegionHeld3
import Derived.Deep.DeepCutAuto
namespace Go.Proofs.YtdolilgkjknckaaDoor
open Go Go.RowKit
set_option maxRecDepth 100000
/-- what is held while a manifest in block g is read -/
def MS (w : World) (g : Nat) (v l : Int) (d : ByteArray) (w' : World) : Prop := Mf w' g v l d ∧ Tb w' ∧ Below w.heap.size w w'
theorem MS.call {w w1 w2 : World} {g v l d} (h : MS w g v l d w1) (b : Below w1.heap.size w1 w2) : MS w g v l d w2 := ⟨h.1.call b, h.2.1.call b, below3 h.2.2 b⟩
theorem MS.drew {w w1 : World} {g v l d} (h : MS w g v l d w1) : MS w g v l d w1.drew := ⟨h.1.drew, h.2.1.drew, h.2.2.drew⟩
/-- the same with its cells -/
def MC (w : World) (g : Nat) (v l : Int) (d : ByteArray) (w' : World) : Prop :=
  w'.cell? ⟨g, 0, none⟩ = some (.int .i64 v) ∧ w'.cell? ⟨g, 1, none⟩ = some (.int .i64 l) ∧ w'.cell? ⟨g, 2, none⟩ = some (.string d) ∧ MS w g v l d w'
theorem MS.cells {w w1 : World} {g v l d} (h : MS w g v l d w1) : MC w g v l d w1 := ⟨h.1.c0, h.1.c1, h.1.c2, h⟩
theorem mc_keep {w w1 w2 : World} {g v l d} (h : w1.cell? ⟨g, 0, none⟩ = some (.int .i64 v) ∧ w1.cell? ⟨g, 1, none⟩ = some (.int .i64 l) ∧ w1.cell? ⟨g, 2, none⟩ = some (.string d) ∧ MS w g v l d w1) (b : Below w1.heap.size w1 w2) :
    w2.cell? ⟨g, 0, none⟩ = some (.int .i64 v) ∧ w2.cell? ⟨g, 1, none⟩ = some (.int .i64 l) ∧ w2.cell? ⟨g, 2, none⟩ = some (.string d) ∧ MS w g v l d w2 := (h.2.2.2.call b).cells
theorem ms_fresh (w : World) (v l : Int) (d : ByteArray) (ht : Tb w) : MS w w.heap.size v l d (w.alloc (.cells #[.int .i64 v, .int .i64 l, .string d] 23)) :=
  ⟨Mf.fresh w v l d, ht.alloc _, (Below.refl _ _).alloc (Nat.le_refl _) _⟩
abbrev headB : ByteArray := ⟨#[116, 105, 110, 100, 101, 114, 98, 111, 120, 32, 105, 109, 97, 103, 101, 10, 118, 101, 114, 115, 105, 111, 110, 32]⟩
abbrev lenC : ByteArray := ⟨#[108, 101, 110, 103, 116, 104, 32]⟩
abbrev digC : ByteArray := ⟨#[100, 105, 103, 101, 115, 116, 32]⟩
theorem text_joins (V L H : ByteArray) : titleB ++ nl ++ (verB ++ V ++ nl ++ (lenB ++ L ++ nl ++ (digB ++ H ++ nl ++ ⟨#[]⟩))) = headB ++ V ++ nl ++ lenC ++ L ++ nl ++ digC ++ H ++ nl := by
  apply ByteArray.ext
  apply Array.ext'
  simp [titleB, nl, verB, lenB, digB]
set_option maxHeartbeats 1000000 in
theorem text_any (v l : Int) (d : ByteArray) (m : Mok v l d) (w : World) (ht : Tb w) :
    Calls Tryd.prog 11 #[mv v l d] w fun e w' => e = .returned (.string (restN v l d 1)) ∧ Below w.heap.size w w' := by
  have cv := digits_any v (by have := m.v1; omega) (by have := m.v2; omega)
  have cl := digits_any l (by have := m.l1; omega) (by have := m.l2; omega)
  have ch : ∀ w, Calls Tryd.prog 31 #[.string d] w fun e w' => e = .returned (.string (hexB d)) ∧ Below w.heap.size w w' := Sh.hex_any d (by rw [m.d1]; omega)
  have sv := decB_size v (by have := m.v1; omega) (by have := m.v2; omega)
  have sl := decB_size l (by have := m.l1; omega) (by have := m.l2; omega)
  have sh := hexB_size d m.d1
  have hR : restN v l d 1 = headB ++ decB v ++ nl ++ lenC ++ decB l ++ nl ++ digC ++ hexB d ++ nl := text_joins _ _ _
  generalize restN v l d 1 = R at *
  generalize decB v = V at *
  generalize decB l = L at *
  generalize hexB d = H at *
  have k0 : ¬ 9223372036854775807 < 24 + V.size := by omega
  have k1 : ¬ 9223372036854775806 < 24 + V.size := by omega
  have k2 : ¬ 9223372036854775799 < 24 + V.size := by omega
  have k3 : ¬ 9223372036854775807 < 24 + V.size + 1 + 7 + L.size := by omega
  have k4 : ¬ 9223372036854775806 < 24 + V.size + 1 + 7 + L.size := by omega
  have k5 : ¬ 9223372036854775799 < 24 + V.size + 1 + 7 + L.size := by omega
  have k6 : ¬ 9223372036854775735 < 24 + V.size + 1 + 7 + L.size := by omega
  have k7 : ¬ 9223372036854775734 < 24 + V.size + 1 + 7 + L.size := by omega
  have j0 : ¬ 9223372036854775807 < 24 + V.size + 1 := by omega
  have j1 : ¬ 9223372036854775807 < 24 + V.size + 1 + 7 := by omega
  have j2 : ¬ 9223372036854775807 < 24 + V.size + 1 + 7 + L.size + 1 := by omega
  have j3 : ¬ 9223372036854775807 < 24 + V.size + 1 + 7 + L.size + 1 + 7 := by omega
  have j4 : ¬ 9223372036854775807 < 24 + V.size + 1 + 7 + L.size + 1 + 7 + 64 := by omega
  have j5 : ¬ 9223372036854775807 < 24 + V.size + 1 + 7 + L.size + 1 + 7 + 64 + 1 := by omega
  have HR := Hid.mk hR
  clear hR m sv sl
  have hM := ms_fresh w v l d ht
  go_enter Tryd.func11, Tryd.ntmps11
  go_wp2_with fail
  generalize w.alloc (.cells #[.int .i64 v, .int .i64 l, .string d] 23) = W1 at *
  obtain ⟨c0, c1, c2, hM2⟩ := hM.drew.cells
  have hS : Hid (W1.drew.cell? ⟨w.heap.size, 0, none⟩ = some (.int .i64 v) ∧ W1.drew.cell? ⟨w.heap.size, 1, none⟩ = some (.int .i64 l) ∧ W1.drew.cell? ⟨w.heap.size, 2, none⟩ = some (.string d) ∧ MS w w.heap.size v l d W1.drew) := ⟨c0, c1, c2, hM2⟩
  clear hM hM2 ht
  go_region_held3 (fun w' => w'.cell? ⟨w.heap.size, 0, none⟩ = some (.int .i64 v) ∧ w'.cell? ⟨w.heap.size, 1, none⟩ = some (.int .i64 l) ∧ w'.cell? ⟨w.heap.size, 2, none⟩ = some (.string d) ∧ MS w w.heap.size v l d w') (first | assumption | exact hS.out | exact mc_keep (by assumption) (by assumption) | fail)
    (first
      | (go_at_call_of 29 v; refine (cv _ (by assumption : _ ∧ _ ∧ _ ∧ MS w w.heap.size v l d _).2.2.2.2.1).mono ?_; rintro e w3 ⟨rfl, b3⟩)
      | (go_at_call_of 29 l; refine (cl _ (by assumption : _ ∧ _ ∧ _ ∧ MS w w.heap.size v l d _).2.2.2.2.1).mono ?_; rintro e w3 ⟨rfl, b3⟩)
      | (go_at_call 31; refine (ch _).mono ?_; rintro e w3 ⟨rfl, b3⟩))
  have hb2 := (by assumption : _ ∧ _ ∧ _ ∧ MS w w.heap.size v l d w3).2.2.2.2.2
  go_wp2_with fail
  go_ret
  exact ⟨by rw [HR.out]; rfl, hb2⟩
end Go.Proofs.YtdolilgkjknckaaDoor
