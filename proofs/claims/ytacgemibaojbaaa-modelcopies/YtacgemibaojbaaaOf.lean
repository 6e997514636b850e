/-
  The record of a kind with these numbers: the walk of the answer's of. No condition.
-/
import Derived.Test.YtacgemibaojbaaaRow
namespace Go.Proofs.Ytacgemibaojbaaa
open Go Go.RowKit

/-- numbers, laid into a record -/
def laySet : List Fl → List Int → List Int → List Int
  | [], _, r => r
  | f :: fs, l, r => laySet fs l.tail (r.set f.1 (l.headD 0))
theorem laySet_len (fs : List Fl) (l r : List Int) : (laySet fs l r).length = r.length := by
  induction fs generalizing l r with
  | nil => rfl
  | cons f fs ih => rw [laySet, ih, List.length_set]
theorem info41 : (Try.prog.info? 41).map (·.size) = some 6 := by kernel_rfl
theorem rec_result {fn : Func} {p : Tmp} (h : fn.results = #[.cell p 41]) {tmps : Array Value} {w : World} {g : Nat} {cs : Array Value} (hp : tmps.getD p undef = .pointer (some ⟨g, 0, none⟩)) (hs : cs.size = 6) (hg : w.heap[g]? = some (.cells cs 41 (0, 0))) :
    (results fn tmps).run Try.prog w = .ok (.agg cs) w :=
  results_cell_row h tmps w g 41 cs (0, 0) _ hp hg Try.underlying41 rfl (by rw [hs]; exact info41)
theorem below_one (w : World) (o : Obj) : Below w.heap.size w (w.alloc o) := (Below.refl w.heap.size w).alloc (Nat.le_refl _) o
theorem of_1 (x y z : Int) (g cp : Nat) (w : World) (hg : g < w.heap.size) (c0 : w.cell? ⟨g, 0, none⟩ = some (.int .i64 x)) (c1 : w.cell? ⟨g, 1, none⟩ = some (.int .i64 y)) (c2 : w.cell? ⟨g, 2, none⟩ = some (.int .i64 z)) : Calls Try.prog 49 #[.int .i64 1, .slice (some ⟨g, 0, none⟩) 3 cp] w fun e w' => e = .returned (rv 1 x y z 0 0) ∧ Below w.heap.size w w' := by
  unfold rv
  go_enter Try.func49, Try.ntmps49
  go_wp2_with fail
  go_region
  go_wp2_with fail
  refine bodyPost_ret (rec_result rfl rfl rfl ?_) rfl ⟨rfl, ?_⟩
  · exact heap_alloc_new _ _
  · exact (below_one w _).drew
theorem of_2 (x y : Int) (g cp : Nat) (w : World) (hg : g < w.heap.size) (c0 : w.cell? ⟨g, 0, none⟩ = some (.int .i64 x)) (c1 : w.cell? ⟨g, 1, none⟩ = some (.int .i64 y)) : Calls Try.prog 49 #[.int .i64 2, .slice (some ⟨g, 0, none⟩) 2 cp] w fun e w' => e = .returned (rv 2 x y 0 0 0) ∧ Below w.heap.size w w' := by
  unfold rv
  go_enter Try.func49, Try.ntmps49
  go_wp2_with fail
  go_region
  go_wp2_with fail
  refine bodyPost_ret (rec_result rfl rfl rfl ?_) rfl ⟨rfl, ?_⟩
  · exact heap_alloc_new _ _
  · exact (below_one w _).drew
theorem of_3 (x y : Int) (g cp : Nat) (w : World) (hg : g < w.heap.size) (c0 : w.cell? ⟨g, 0, none⟩ = some (.int .i64 x)) (c1 : w.cell? ⟨g, 1, none⟩ = some (.int .i64 y)) : Calls Try.prog 49 #[.int .i64 3, .slice (some ⟨g, 0, none⟩) 2 cp] w fun e w' => e = .returned (rv 3 0 0 x y 0) ∧ Below w.heap.size w w' := by
  unfold rv
  go_enter Try.func49, Try.ntmps49
  go_wp2_with fail
  go_region
  go_wp2_with fail
  refine bodyPost_ret (rec_result rfl rfl rfl ?_) rfl ⟨rfl, ?_⟩
  · exact heap_alloc_new _ _
  · exact (below_one w _).drew
theorem of_4 (x y : Int) (g cp : Nat) (w : World) (hg : g < w.heap.size) (c0 : w.cell? ⟨g, 0, none⟩ = some (.int .i64 x)) (c1 : w.cell? ⟨g, 1, none⟩ = some (.int .i64 y)) : Calls Try.prog 49 #[.int .i64 4, .slice (some ⟨g, 0, none⟩) 2 cp] w fun e w' => e = .returned (rv 4 x 0 0 0 y) ∧ Below w.heap.size w w' := by
  unfold rv
  go_enter Try.func49, Try.ntmps49
  go_wp2_with fail
  go_region
  go_wp2_with fail
  refine bodyPost_ret (rec_result rfl rfl rfl ?_) rfl ⟨rfl, ?_⟩
  · exact heap_alloc_new _ _
  · exact (below_one w _).drew
theorem of_5 (x : Int) (g cp : Nat) (w : World) (hg : g < w.heap.size) (c0 : w.cell? ⟨g, 0, none⟩ = some (.int .i64 x)) : Calls Try.prog 49 #[.int .i64 5, .slice (some ⟨g, 0, none⟩) 1 cp] w fun e w' => e = .returned (rv 5 x 0 0 0 0) ∧ Below w.heap.size w w' := by
  unfold rv
  go_enter Try.func49, Try.ntmps49
  go_wp2_with fail
  refine bodyPost_ret (rec_result rfl rfl rfl ?_) rfl ⟨rfl, ?_⟩
  · exact heap_alloc_new _ _
  · exact (below_one w _)
theorem of_6 (x y : Int) (g cp : Nat) (w : World) (hg : g < w.heap.size) (c0 : w.cell? ⟨g, 0, none⟩ = some (.int .i64 x)) (c1 : w.cell? ⟨g, 1, none⟩ = some (.int .i64 y)) : Calls Try.prog 49 #[.int .i64 6, .slice (some ⟨g, 0, none⟩) 2 cp] w fun e w' => e = .returned (rv 6 x 0 0 y 0) ∧ Below w.heap.size w w' := by
  unfold rv
  go_enter Try.func49, Try.ntmps49
  go_wp2_with fail
  go_region
  go_wp2_with fail
  refine bodyPost_ret (rec_result rfl rfl rfl ?_) rfl ⟨rfl, ?_⟩
  · exact heap_alloc_new _ _
  · exact (below_one w _).drew
theorem of_7 (x : Int) (g cp : Nat) (w : World) (hg : g < w.heap.size) (c0 : w.cell? ⟨g, 0, none⟩ = some (.int .i64 x)) : Calls Try.prog 49 #[.int .i64 7, .slice (some ⟨g, 0, none⟩) 1 cp] w fun e w' => e = .returned (rv 7 x 0 0 0 0) ∧ Below w.heap.size w w' := by
  unfold rv
  go_enter Try.func49, Try.ntmps49
  go_wp2_with fail
  refine bodyPost_ret (rec_result rfl rfl rfl ?_) rfl ⟨rfl, ?_⟩
  · exact heap_alloc_new _ _
  · exact (below_one w _)
theorem of_8 (x : Int) (g cp : Nat) (w : World) (hg : g < w.heap.size) (c0 : w.cell? ⟨g, 0, none⟩ = some (.int .i64 x)) : Calls Try.prog 49 #[.int .i64 8, .slice (some ⟨g, 0, none⟩) 1 cp] w fun e w' => e = .returned (rv 8 0 0 x 0 0) ∧ Below w.heap.size w w' := by
  unfold rv
  go_enter Try.func49, Try.ntmps49
  go_wp2_with fail
  refine bodyPost_ret (rec_result rfl rfl rfl ?_) rfl ⟨rfl, ?_⟩
  · exact heap_alloc_new _ _
  · exact (below_one w _)
theorem of_9 (x y : Int) (g cp : Nat) (w : World) (hg : g < w.heap.size) (c0 : w.cell? ⟨g, 0, none⟩ = some (.int .i64 x)) (c1 : w.cell? ⟨g, 1, none⟩ = some (.int .i64 y)) : Calls Try.prog 49 #[.int .i64 9, .slice (some ⟨g, 0, none⟩) 2 cp] w fun e w' => e = .returned (rv 9 0 0 x 0 y) ∧ Below w.heap.size w w' := by
  unfold rv
  go_enter Try.func49, Try.ntmps49
  go_wp2_with fail
  go_region
  go_wp2_with fail
  refine bodyPost_ret (rec_result rfl rfl rfl ?_) rfl ⟨rfl, ?_⟩
  · exact heap_alloc_new _ _
  · exact (below_one w _).drew
theorem of_cells (K : Int) (l : List Int) (hl : l.length = (flds K).length) (h0 : 0 < (flds K).length) {w : World} {g : Nat} (cp : Nat) (hg : g < w.heap.size) (hc : ∀ j, j < l.length → w.cell? ⟨g, j, none⟩ = some (.int .i64 (l.getD j 0))) :
    Calls Try.prog 49 #[.int .i64 K, .slice (some ⟨g, 0, none⟩) (flds K).length cp] w fun e w' => e = .returned (rvL (laySet (flds K) l [K, 0, 0, 0, 0, 0])) ∧ Below w.heap.size w w' := by
  rcases kinds K with rfl | rfl | rfl | rfl | rfl | rfl | rfl | rfl | rfl | ⟨h1, h2, h3, h4, h5, h6, h7, h8, h9⟩
  · match l, hl with
    | [x, y, z], _ => exact of_1 x y z g cp w hg (hc 0 (by simp)) (hc 1 (by simp)) (hc 2 (by simp))
  · match l, hl with
    | [x, y], _ => exact of_2 x y g cp w hg (hc 0 (by simp)) (hc 1 (by simp))
  · match l, hl with
    | [x, y], _ => exact of_3 x y g cp w hg (hc 0 (by simp)) (hc 1 (by simp))
  · match l, hl with
    | [x, y], _ => exact of_4 x y g cp w hg (hc 0 (by simp)) (hc 1 (by simp))
  · match l, hl with
    | [x], _ => exact of_5 x g cp w hg (hc 0 (by simp))
  · match l, hl with
    | [x, y], _ => exact of_6 x y g cp w hg (hc 0 (by simp)) (hc 1 (by simp))
  · match l, hl with
    | [x], _ => exact of_7 x g cp w hg (hc 0 (by simp))
  · match l, hl with
    | [x], _ => exact of_8 x g cp w hg (hc 0 (by simp))
  · match l, hl with
    | [x, y], _ => exact of_9 x y g cp w hg (hc 0 (by simp)) (hc 1 (by simp))
  · rw [flds_none h1 h2 h3 h4 h5 h6 h7 h8 h9] at h0
    exact absurd h0 (by simp)
theorem of_any (K : Int) (l : List Int) (hl : l.length = (flds K).length) (h0 : 0 < (flds K).length) {w : World} {B : Nat} {a : Option Addr} (h : IsL w B a l) :
    Calls Try.prog 49 #[.int .i64 K, .slice a (flds K).length (flds K).length] w fun e w' => e = .returned (rvL (laySet (flds K) l [K, 0, 0, 0, 0, 0])) ∧ Below w.heap.size w w' := by
  obtain ⟨g, rfl, _, hr⟩ := h (by omega)
  exact of_cells K l hl h0 _ hr.lt (fun j hj => hr.cell j hj)
end Go.Proofs.Ytacgemibaojbaaa
