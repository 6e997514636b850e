/-
  Faults that are not too many: the walk of cut. No condition.
-/
import Derived.Test.YtkfkepjegdaadaaMd
import Derived.BigRegion
namespace Go.Proofs.Ytkfkepjegdaadaa
open Go Go.RowKit

theorem info27 : (Try.prog.info? 27).map (·.size) = some 3 := by kernel_rfl
set_option maxRecDepth 100000 in
set_option maxHeartbeats 2000000 in
theorem cutf_any (ca fa ba : Option Addr) (n1 c1 n2 c2 n3 c3 m1 m2 m3 : Nat) (h1 : m1 = min n1 8) (h2 : m2 = min n2 8) (h3 : m3 = min n3 8) (k1 : n1 ≤ c1 ∧ n1 ≤ 9223372036854775807) (k2 : n2 ≤ c2 ∧ n2 ≤ 9223372036854775807) (k3 : n3 ≤ c3 ∧ n3 ≤ 9223372036854775807) (w : World) : Calls Try.prog 10 #[.agg #[.slice ca n1 c1, .slice fa n2 c2, .slice ba n3 c3]] w fun e w' =>
    e = .returned (.agg #[.slice ca m1 c1, .slice fa m2 c2, .slice ba m3 c3]) ∧ Below w.heap.size w w' := by
  go_enter Try.func10, Try.ntmps10
  go_upto_region 1 with fail
  have hA := heap_alloc_new w (.cells #[.slice ca n1 c1, .slice fa n2 c2, .slice ba n3 c3] 27)
  have hZ := heap_alloc_new (w.alloc (.cells #[.slice ca n1 c1, .slice fa n2 c2, .slice ba n3 c3] 27)) (.cells #[.slice none 0 0, .slice none 0 0, .slice none 0 0] 27)
  rw [size_alloc] at hZ
  have hb := below_two w (.cells #[.slice ca n1 c1, .slice fa n2 c2, .slice ba n3 c3] 27) (.cells #[.slice none 0 0, .slice none 0 0, .slice none 0 0] 27)
  have hA2 : ((w.alloc (.cells #[.slice ca n1 c1, .slice fa n2 c2, .slice ba n3 c3] 27)).alloc (.cells #[.slice none 0 0, .slice none 0 0, .slice none 0 0] 27)).heap[w.heap.size]? = some (.cells #[.slice ca n1 c1, .slice fa n2 c2, .slice ba n3 c3] 27 (0, 0)) := (Below.heap_alloc _ _ _ (by rw [size_alloc]; omega)).trans hA
  generalize (w.alloc (.cells #[.slice ca n1 c1, .slice fa n2 c2, .slice ba n3 c3] 27)).alloc (.cells #[.slice none 0 0, .slice none 0 0, .slice none 0 0] 27) = W at *
  have a0 : W.cell? ⟨w.heap.size, 0, none⟩ = some (.slice ca n1 c1) := cell_of_row _ _ 0 _ 27 _ hA2
  have a1 : W.cell? ⟨w.heap.size, 1, none⟩ = some (.slice fa n2 c2) := cell_of_row _ _ 1 _ 27 _ hA2
  have a2 : W.cell? ⟨w.heap.size, 2, none⟩ = some (.slice ba n3 c3) := cell_of_row _ _ 2 _ 27 _ hA2
  have z0 : W.cell? ⟨w.heap.size + 1, 0, none⟩ = some (.slice none 0 0) := cell_of_row _ _ 0 _ 27 _ hZ
  have z1 : W.cell? ⟨w.heap.size + 1, 1, none⟩ = some (.slice none 0 0) := cell_of_row _ _ 1 _ 27 _ hZ
  have z2 : W.cell? ⟨w.heap.size + 1, 2, none⟩ = some (.slice none 0 0) := cell_of_row _ _ 2 _ 27 _ hZ
  have zf : ∀ j, W.frozen? ⟨w.heap.size + 1, j, none⟩ = false := fun j => frozen_of_row W _ j _ 27 hZ
  have HH := Hid.mk (And.intro hA2 (And.intro hZ hb))
  clear hA hZ hb hA2
  go_region
  have e1 : (min (n1 : Int) 8).toNat = m1 := by omega
  have e2 : (min (n2 : Int) 8).toNat = m2 := by omega
  have e3 : (min (n3 : Int) 8).toNat = m3 := by omega
  rw [e1, e2, e3]
  have g0 := heap_setCell_same W (w.heap.size + 1) 0 _ 27 (.slice ca m1 c1) HH.out.2.1
  have g1 := heap_setCell_same _ (w.heap.size + 1) 1 _ 27 (.slice fa m2 c2) g0
  have g2 := heap_setCell_same _ (w.heap.size + 1) 2 _ 27 (.slice ba m3 c3) g1
  have gb : Below w.heap.size w ((((W.setCell ⟨w.heap.size + 1, 0, none⟩ (.slice ca m1 c1)).setCell ⟨w.heap.size + 1, 1, none⟩ (.slice fa m2 c2)).setCell ⟨w.heap.size + 1, 2, none⟩ (.slice ba m3 c3)).drew) := (((HH.out.2.2.setCell (by show w.heap.size ≤ w.heap.size + 1; omega) _).setCell (by show w.heap.size ≤ w.heap.size + 1; omega) _).setCell (by show w.heap.size ≤ w.heap.size + 1; omega) _).drew
  have g3 : ((((W.setCell ⟨w.heap.size + 1, 0, none⟩ (.slice ca m1 c1)).setCell ⟨w.heap.size + 1, 1, none⟩ (.slice fa m2 c2)).setCell ⟨w.heap.size + 1, 2, none⟩ (.slice ba m3 c3)).drew).heap[w.heap.size + 1]? = some (.cells #[.slice ca m1 c1, .slice fa m2 c2, .slice ba m3 c3] 27 (0, 0)) := g2
  have HG := Hid.mk (And.intro g3 gb)
  clear g0 g1 g2 g3 gb a0 a1 a2 z0 z1 z2 zf e1 e2 e3
  generalize (((W.setCell ⟨w.heap.size + 1, 0, none⟩ (.slice ca m1 c1)).setCell ⟨w.heap.size + 1, 1, none⟩ (.slice fa m2 c2)).setCell ⟨w.heap.size + 1, 2, none⟩ (.slice ba m3 c3)).drew = W9 at *
  go_wp2_with fail
  exact bodyPost_ret (results_cell_row rfl _ _ (w.heap.size + 1) 27 #[.slice ca m1 c1, .slice fa m2 c2, .slice ba m3 c3] (0, 0) _ rfl HG.out.1 Try.underlying27 rfl info27) rfl ⟨rfl, HG.out.2⟩
end Go.Proofs.Ytkfkepjegdaadaa
