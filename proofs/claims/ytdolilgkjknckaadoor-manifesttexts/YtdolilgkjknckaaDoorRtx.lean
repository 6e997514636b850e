/-
  A manifest's lines as the answer writes them (14): those of the program. No condition.
-/
import Derived.Test.YtdolilgkjknckaaDoorTxt
namespace Go.Proofs.YtdolilgkjknckaaDoor
open Go Go.RowKit
set_option maxRecDepth 100000
/-- what is held while the answer reads a manifest in block g -/
def NS (w : World) (g : Nat) (v l : Int) (d : ByteArray) (w' : World) : Prop := Mf w' g v l d ∧ Below w.heap.size w w'
theorem NS.call {w w1 w2 : World} {g v l d} (h : NS w g v l d w1) (b : Below w1.heap.size w1 w2) : NS w g v l d w2 := ⟨h.1.call b, below3 h.2 b⟩
theorem NS.drew {w w1 : World} {g v l d} (h : NS w g v l d w1) : NS w g v l d w1.drew := ⟨h.1.drew, h.2.drew⟩
theorem NS.cells {w w1 : World} {g v l d} (h : NS w g v l d w1) : w1.cell? ⟨g, 0, none⟩ = some (.int .i64 v) ∧ w1.cell? ⟨g, 1, none⟩ = some (.int .i64 l) ∧ w1.cell? ⟨g, 2, none⟩ = some (.string d) ∧ NS w g v l d w1 := ⟨h.1.c0, h.1.c1, h.1.c2, h⟩
theorem nc_keep {w w1 w2 : World} {g v l d} (h : w1.cell? ⟨g, 0, none⟩ = some (.int .i64 v) ∧ w1.cell? ⟨g, 1, none⟩ = some (.int .i64 l) ∧ w1.cell? ⟨g, 2, none⟩ = some (.string d) ∧ NS w g v l d w1) (b : Below w1.heap.size w1 w2) :
    w2.cell? ⟨g, 0, none⟩ = some (.int .i64 v) ∧ w2.cell? ⟨g, 1, none⟩ = some (.int .i64 l) ∧ w2.cell? ⟨g, 2, none⟩ = some (.string d) ∧ NS w g v l d w2 := (h.2.2.2.call b).cells
theorem ns_fresh (w : World) (v l : Int) (d : ByteArray) : NS w w.heap.size v l d (w.alloc (.cells #[.int .i64 v, .int .i64 l, .string d] 23)) :=
  ⟨Mf.fresh w v l d, (Below.refl _ _).alloc (Nat.le_refl _) _⟩
abbrev lenD : ByteArray := ⟨#[10, 108, 101, 110, 103, 116, 104, 32]⟩
abbrev digD : ByteArray := ⟨#[10, 100, 105, 103, 101, 115, 116, 32]⟩
theorem ref_joins (V L H : ByteArray) : titleB ++ nl ++ (verB ++ V ++ nl ++ (lenB ++ L ++ nl ++ (digB ++ H ++ nl ++ ⟨#[]⟩))) = headB ++ V ++ lenD ++ L ++ digD ++ H ++ nl := by
  apply ByteArray.ext
  apply Array.ext'
  simp [titleB, nl, verB, lenB, digB]
theorem refDig (v : Int) (h0 : 0 ≤ v) (h1 : v ≤ 2147483648) (w : World) : Calls Tryd.prog 34 #[.int .i64 v] w fun e w' => e = .returned (.string (decB v)) ∧ Below w.heap.size w w' := by
  obtain ⟨n, rfl⟩ := Int.eq_ofNat_of_zero_le h0
  unfold decB
  rw [itodi]
  exact refDigits_any n (by omega) w
set_option maxHeartbeats 1000000 in
theorem refText_any (v l : Int) (d : ByteArray) (m : Mok v l d) (w : World) :
    Calls Tryd.prog 14 #[mv v l d] w fun e w' => e = .returned (.string (restN v l d 1)) ∧ Below w.heap.size w w' := by
  have cv := refDig v (by have := m.v1; omega) (by have := m.v2; omega)
  have cl := refDig l (by have := m.l1; omega) (by have := m.l2; omega)
  have ch : ∀ w, Calls Tryd.prog 35 #[.string d] w fun e w' => e = .returned (.string (hexB d)) ∧ Below w.heap.size w w' := Sh.refHex_any d (by rw [m.d1]; omega)
  have sv := decB_size v (by have := m.v1; omega) (by have := m.v2; omega)
  have sl := decB_size l (by have := m.l1; omega) (by have := m.l2; omega)
  have sh := hexB_size d m.d1
  have hR : restN v l d 1 = headB ++ decB v ++ lenD ++ decB l ++ digD ++ hexB d ++ nl := ref_joins _ _ _
  generalize restN v l d 1 = R at *
  generalize decB v = V at *
  generalize decB l = L at *
  generalize hexB d = H at *
  have k0 : ¬ 9223372036854775807 < 24 + V.size := by omega
  have k1 : ¬ 9223372036854775807 < 24 + V.size + 8 := by omega
  have k2 : ¬ 9223372036854775807 < 24 + V.size + 8 + L.size := by omega
  have k3 : ¬ 9223372036854775807 < 24 + V.size + 8 + L.size + 8 := by omega
  have k4 : ¬ 9223372036854775807 < 24 + V.size + 8 + L.size + 8 + 64 := by omega
  have k5 : ¬ 9223372036854775807 < 24 + V.size + 8 + L.size + 8 + 64 + 1 := by omega
  have j1 : ¬ 9223372036854775799 < 24 + V.size := by omega
  have j3 : ¬ 9223372036854775799 < 24 + V.size + 8 + L.size := by omega
  have j4 : ¬ 9223372036854775735 < 24 + V.size + 8 + L.size := by omega
  have j5 : ¬ 9223372036854775734 < 24 + V.size + 8 + L.size := by omega
  have HR := Hid.mk hR
  clear hR m sv sl
  have hM := ns_fresh w v l d
  go_enter Tryd.func14, Tryd.ntmps14
  go_wp2_with fail
  generalize w.alloc (.cells #[.int .i64 v, .int .i64 l, .string d] 23) = W1 at *
  obtain ⟨c0, c1, c2, hM2⟩ := hM.drew.cells
  have hS : Hid (W1.drew.cell? ⟨w.heap.size, 0, none⟩ = some (.int .i64 v) ∧ W1.drew.cell? ⟨w.heap.size, 1, none⟩ = some (.int .i64 l) ∧ W1.drew.cell? ⟨w.heap.size, 2, none⟩ = some (.string d) ∧ NS w w.heap.size v l d W1.drew) := ⟨c0, c1, c2, hM2⟩
  clear hM hM2
  go_region_held3 (fun w' => w'.cell? ⟨w.heap.size, 0, none⟩ = some (.int .i64 v) ∧ w'.cell? ⟨w.heap.size, 1, none⟩ = some (.int .i64 l) ∧ w'.cell? ⟨w.heap.size, 2, none⟩ = some (.string d) ∧ NS w w.heap.size v l d w') (first | assumption | exact hS.out | exact nc_keep (by assumption) (by assumption) | fail)
    (first
      | (go_at_call_of 34 v; refine (cv _).mono ?_; rintro e w3 ⟨rfl, b3⟩)
      | (go_at_call_of 34 l; refine (cl _).mono ?_; rintro e w3 ⟨rfl, b3⟩)
      | (go_at_call 35; refine (ch _).mono ?_; rintro e w3 ⟨rfl, b3⟩))
  have hb2 := (by assumption : _ ∧ _ ∧ _ ∧ NS w w.heap.size v l d w3).2.2.2.2
  go_wp2_with fail
  go_ret
  exact ⟨by rw [HR.out]; rfl, hb2⟩
end Go.Proofs.YtdolilgkjknckaaDoor
