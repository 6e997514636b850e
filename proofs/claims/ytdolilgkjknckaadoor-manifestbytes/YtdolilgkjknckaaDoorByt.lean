/-
  A manifest's bytes (manifest.Put 21, the answer's Put 24; manifest.Take 22, the answer's Take 23). No condition.
-/
import Derived.Test.YtdolilgkjknckaaDoorRtx
import Derived.Test.YtdolilgkjknckaaDoorAtN
import Derived.Test.YtdolilgkjknckaaDoorBack
namespace Go.Proofs.YtdolilgkjknckaaDoor
open Go Go.RowKit
set_option maxRecDepth 100000
/-- a manifest's bytes -/
def putB (v l : Int) (d : ByteArray) : ByteArray := numB v.toNat ++ numB l.toNat ++ d
theorem numB_size (n : Nat) (h : n < 18446744073709551616) : (numB n).size ≤ 9 := numL_size n h
theorem wrap_u64 (v : Int) (h0 : 0 ≤ v) (h1 : v < 9223372036854775808) : IntKind.u64.wrap v = ((v.toNat : Nat) : Int) := by
  simp [IntKind.wrap, IntKind.bits, IntKind.signed]
  omega
set_option maxHeartbeats 1000000 in
theorem put_any (v l : Int) (d : ByteArray) (m : Mok v l d) (w : World) :
    Calls Tryd.prog 21 #[mv v l d] w fun e w' => e = .returned (.string (putB v l d)) ∧ Below w.heap.size w w' := by
  have cv := encNumB_any v.toNat (by have := m.v2; omega)
  have cl := encNumB_any l.toNat (by have := m.l2; omega)
  rw [← wrap_u64 v (by have := m.v1; omega) (by have := m.v2; omega)] at cv
  rw [← wrap_u64 l m.l1 (by have := m.l2; omega)] at cl
  have sv := numB_size v.toNat (by have := m.v2; omega)
  have sl := numB_size l.toNat (by have := m.l2; omega)
  have sd := m.d1
  unfold putB
  generalize numB v.toNat = V at *
  generalize numB l.toNat = L at *
  have k0 : ¬ 9223372036854775807 < V.size + L.size := by omega
  have k1 : ¬ 9223372036854775807 < V.size + L.size + 32 := by omega
  have j1 : ¬ 9223372036854775775 < V.size + L.size := by omega
  clear m sv sl
  have hM := ns_fresh w v l d
  go_enter Tryd.func21, Tryd.ntmps21
  go_wp2_with fail
  generalize w.alloc (.cells #[.int .i64 v, .int .i64 l, .string d] 23) = W1 at *
  obtain ⟨c0, c1, c2, hM2⟩ := hM.drew.cells
  have hS : Hid (W1.drew.cell? ⟨w.heap.size, 0, none⟩ = some (.int .i64 v) ∧ W1.drew.cell? ⟨w.heap.size, 1, none⟩ = some (.int .i64 l) ∧ W1.drew.cell? ⟨w.heap.size, 2, none⟩ = some (.string d) ∧ NS w w.heap.size v l d W1.drew) := ⟨c0, c1, c2, hM2⟩
  clear hM hM2
  go_region_held3 (fun w' => w'.cell? ⟨w.heap.size, 0, none⟩ = some (.int .i64 v) ∧ w'.cell? ⟨w.heap.size, 1, none⟩ = some (.int .i64 l) ∧ w'.cell? ⟨w.heap.size, 2, none⟩ = some (.string d) ∧ NS w w.heap.size v l d w') (first | assumption | exact hS.out | exact nc_keep (by assumption) (by assumption) | fail)
    (first
      | (go_at_call_of 46 (IntKind.u64.wrap v); refine (cv _).mono ?_; rintro e w3 ⟨rfl, b3⟩)
      | (go_at_call_of 46 (IntKind.u64.wrap l); refine (cl _).mono ?_; rintro e w3 ⟨rfl, b3⟩))
  have hb2 := (by assumption : _ ∧ _ ∧ _ ∧ NS w w.heap.size v l d w3).2.2.2.2
  go_wp2_with fail
  go_ret
  exact ⟨rfl, hb2⟩
set_option maxHeartbeats 1000000 in
theorem refPut_any (v l : Int) (d : ByteArray) (m : Mok v l d) (w : World) :
    Calls Tryd.prog 24 #[mv v l d] w fun e w' => e = .returned (.string (putB v l d)) ∧ Below w.heap.size w w' := by
  have cv := refNumB_any v.toNat (by have := m.v2; omega)
  have cl := refNumB_any l.toNat (by have := m.l2; omega)
  rw [← wrap_u64 v (by have := m.v1; omega) (by have := m.v2; omega)] at cv
  rw [← wrap_u64 l m.l1 (by have := m.l2; omega)] at cl
  have sv := numB_size v.toNat (by have := m.v2; omega)
  have sl := numB_size l.toNat (by have := m.l2; omega)
  have sd := m.d1
  unfold putB
  generalize numB v.toNat = V at *
  generalize numB l.toNat = L at *
  have k0 : ¬ 9223372036854775807 < V.size + L.size := by omega
  have k1 : ¬ 9223372036854775807 < V.size + L.size + 32 := by omega
  have j1 : ¬ 9223372036854775775 < V.size + L.size := by omega
  clear m sv sl
  have hM := ns_fresh w v l d
  go_enter Tryd.func24, Tryd.ntmps24
  go_wp2_with fail
  generalize w.alloc (.cells #[.int .i64 v, .int .i64 l, .string d] 23) = W1 at *
  obtain ⟨c0, c1, c2, hM2⟩ := hM.drew.cells
  have hS : Hid (W1.drew.cell? ⟨w.heap.size, 0, none⟩ = some (.int .i64 v) ∧ W1.drew.cell? ⟨w.heap.size, 1, none⟩ = some (.int .i64 l) ∧ W1.drew.cell? ⟨w.heap.size, 2, none⟩ = some (.string d) ∧ NS w w.heap.size v l d W1.drew) := ⟨c0, c1, c2, hM2⟩
  clear hM hM2
  go_region_held3 (fun w' => w'.cell? ⟨w.heap.size, 0, none⟩ = some (.int .i64 v) ∧ w'.cell? ⟨w.heap.size, 1, none⟩ = some (.int .i64 l) ∧ w'.cell? ⟨w.heap.size, 2, none⟩ = some (.string d) ∧ NS w w.heap.size v l d w') (first | assumption | exact hS.out | exact nc_keep (by assumption) (by assumption) | fail)
    (first
      | (go_at_call_of 51 (IntKind.u64.wrap v); refine (cv _).mono ?_; rintro e w3 ⟨rfl, b3⟩)
      | (go_at_call_of 51 (IntKind.u64.wrap l); refine (cl _).mono ?_; rintro e w3 ⟨rfl, b3⟩))
  have hb2 := (by assumption : _ ∧ _ ∧ _ ∧ NS w w.heap.size v l d w3).2.2.2.2
  go_wp2_with fail
  go_ret
  exact ⟨rfl, hb2⟩
end Go.Proofs.YtdolilgkjknckaaDoor
