/-
  The answer's lists of a record's numbers, of their least and of their most; the record of such a list: the walks of row and of. No condition. The record of a kind with these numbers: the walk of the answer's of. No condition. Which records may be, as the answer reckons it: the walk of its Check. No condition. Which records may be, said plainly: both sides' Checks answer just that. No condition.
-/
import Derived.Test.YtbhggcleijjofaaDoorGChk
namespace Go.Proofs.YtbhggcleijjofaaDoor.Gp
open Go Go.RowKit

set_option maxRecDepth 100000

/-- a slice of these numbers at the head of a block from B on -/
def IsL (w : World) (B : Nat) (a : Option Addr) (l : List Int) : Prop := 0 < l.length → ∃ g, a = some ⟨g, 0, none⟩ ∧ B ≤ g ∧ Row w g 3 .i64 l
theorem IsL.same {w w' : World} {B a l} (h : IsL w B a l) (hh : ∀ g, g < w.heap.size → B ≤ g → w'.heap[g]? = w.heap[g]?) : IsL w' B a l := by
  intro h0
  obtain ⟨g, ha, hg, hb⟩ := h h0
  exact ⟨g, ha, hg, (hh g hb.lt hg).trans hb⟩
theorem IsL.call {w w' : World} {B a l} (h : IsL w B a l) (b : Below w.heap.size w w') : IsL w' B a l := h.same fun g hg _ => b.block g hg
theorem IsL.alloc {w : World} {B a l} (h : IsL w B a l) (o : Obj) : IsL (w.alloc o) B a l := h.same fun g hg _ => Below.heap_alloc w o g hg
theorem IsL.drew {w : World} {B a l} (h : IsL w B a l) : IsL w.drew B a l := h
theorem IsL.cell {w : World} {B a l} (h : IsL w B a l) (j : Nat) (hj : j < l.length) : ∃ g, a = some ⟨g, 0, none⟩ ∧ B ≤ g ∧ g < w.heap.size ∧ w.cell? ⟨g, j, none⟩ = some (.int .i64 (l.getD j 0)) := by
  obtain ⟨g, ha, hg, hb⟩ := h (by omega)
  exact ⟨g, ha, hg, hb.lt, hb.cell j hj⟩
/-- the numbers that a record's kind has -/
def valsL (fs : List Fl) (l : List Int) : List Int := fs.map fun f => l.getD f.1 0
def leasts (fs : List Fl) : List Int := fs.map fun f => f.2.1
def mosts (fs : List Fl) : List Int := fs.map fun f => f.2.2
/-- what row answers -/
def rowPost (w : World) (fs : List Fl) (l : List Int) (e : Ending) (w' : World) : Prop :=
  ∃ a b c, e = .returned (.tuple #[.slice a fs.length fs.length, .slice b fs.length fs.length, .slice c fs.length fs.length, .bool (decide (0 < fs.length))]) ∧
    Below w.heap.size w w' ∧ IsL w' w.heap.size a (valsL fs l) ∧ IsL w' w.heap.size b (leasts fs) ∧ IsL w' w.heap.size c (mosts fs)
theorem IsL.mk {w : World} {B g : Nat} {l : List Int} (hB : B ≤ g) (h : Row w g 3 .i64 l) : IsL w B (some ⟨g, 0, none⟩) l := fun _ => ⟨g, rfl, hB, h⟩
theorem row_done (w : World) (fs : List Fl) (l : List Int) (o : Obj) (x y z : Array Value) (n : Nat) (hn : n = fs.length) (hn0 : 0 < n) (hx : x = cellsOf .i64 (valsL fs l)) (hy : y = cellsOf .i64 (leasts fs)) (hz : z = cellsOf .i64 (mosts fs)) :
    rowPost w fs l (.returned (.tuple #[.slice (some ⟨w.heap.size + 1, 0, none⟩) n n, .slice (some ⟨w.heap.size + 1 + 1, 0, none⟩) n n, .slice (some ⟨w.heap.size + 1 + 1 + 1, 0, none⟩) n n, .bool true]))
      ((((w.alloc o).alloc (.cells x 3)).alloc (.cells y 3)).alloc (.cells z 3)) := by
  subst hx hy hz hn
  refine ⟨_, _, _, by rw [decide_eq_true hn0], below_four w _ _ _ _, IsL.mk (by omega) (((Row.fresh1 w _ 3 .i64 _).alloc _).alloc _), IsL.mk (by omega) ((Row.fresh2 w _ _ 3 .i64 _).alloc _), IsL.mk (by omega) ?_⟩
  have h := Row.fresh2 (w.alloc o) (.cells (cellsOf .i64 (valsL fs l)) 3) (.cells (cellsOf .i64 (leasts fs)) 3) 3 .i64 (mosts fs)
  rwa [size_alloc] at h
theorem results_tmp4 {fn : Func} {t u v x : Tmp} (h : fn.results = #[.tmp t, .tmp u, .tmp v, .tmp x]) (tmps : Array Value) (P : Program) (w : World) :
    (results fn tmps).run P w = .ok (.tuple #[tmps.getD t undef, tmps.getD u undef, tmps.getD v undef, tmps.getD x undef]) w := by
  simp [results, h]
theorem row_1 (S P A T N : Int) (w : World) : Calls Tryd.prog 39 #[rv 1 S P A T N] w (rowPost w (flds 1) [1, S, P, A, T, N]) := by
  unfold rv
  go_enter Tryd.func39, Tryd.ntmps39
  go_wp2_with fail
  refine bodyPost_ret (results_tmp4 rfl _ _ _) rfl ?_
  exact row_done w _ _ _ _ _ _ _ rfl (by decide) rfl rfl rfl
theorem row_2 (S P A T N : Int) (w : World) : Calls Tryd.prog 39 #[rv 2 S P A T N] w (rowPost w (flds 2) [2, S, P, A, T, N]) := by
  unfold rv
  go_enter Tryd.func39, Tryd.ntmps39
  go_wp2_with fail
  refine bodyPost_ret (results_tmp4 rfl _ _ _) rfl ?_
  exact row_done w _ _ _ _ _ _ _ rfl (by decide) rfl rfl rfl
theorem row_3 (S P A T N : Int) (w : World) : Calls Tryd.prog 39 #[rv 3 S P A T N] w (rowPost w (flds 3) [3, S, P, A, T, N]) := by
  unfold rv
  go_enter Tryd.func39, Tryd.ntmps39
  go_wp2_with fail
  refine bodyPost_ret (results_tmp4 rfl _ _ _) rfl ?_
  exact row_done w _ _ _ _ _ _ _ rfl (by decide) rfl rfl rfl
theorem row_4 (S P A T N : Int) (w : World) : Calls Tryd.prog 39 #[rv 4 S P A T N] w (rowPost w (flds 4) [4, S, P, A, T, N]) := by
  unfold rv
  go_enter Tryd.func39, Tryd.ntmps39
  go_wp2_with fail
  refine bodyPost_ret (results_tmp4 rfl _ _ _) rfl ?_
  exact row_done w _ _ _ _ _ _ _ rfl (by decide) rfl rfl rfl
theorem row_5 (S P A T N : Int) (w : World) : Calls Tryd.prog 39 #[rv 5 S P A T N] w (rowPost w (flds 5) [5, S, P, A, T, N]) := by
  unfold rv
  go_enter Tryd.func39, Tryd.ntmps39
  go_wp2_with fail
  refine bodyPost_ret (results_tmp4 rfl _ _ _) rfl ?_
  exact row_done w _ _ _ _ _ _ _ rfl (by decide) rfl rfl rfl
theorem row_6 (S P A T N : Int) (w : World) : Calls Tryd.prog 39 #[rv 6 S P A T N] w (rowPost w (flds 6) [6, S, P, A, T, N]) := by
  unfold rv
  go_enter Tryd.func39, Tryd.ntmps39
  go_wp2_with fail
  refine bodyPost_ret (results_tmp4 rfl _ _ _) rfl ?_
  exact row_done w _ _ _ _ _ _ _ rfl (by decide) rfl rfl rfl
theorem row_7 (S P A T N : Int) (w : World) : Calls Tryd.prog 39 #[rv 7 S P A T N] w (rowPost w (flds 7) [7, S, P, A, T, N]) := by
  unfold rv
  go_enter Tryd.func39, Tryd.ntmps39
  go_wp2_with fail
  refine bodyPost_ret (results_tmp4 rfl _ _ _) rfl ?_
  exact row_done w _ _ _ _ _ _ _ rfl (by decide) rfl rfl rfl
theorem row_8 (S P A T N : Int) (w : World) : Calls Tryd.prog 39 #[rv 8 S P A T N] w (rowPost w (flds 8) [8, S, P, A, T, N]) := by
  unfold rv
  go_enter Tryd.func39, Tryd.ntmps39
  go_wp2_with fail
  refine bodyPost_ret (results_tmp4 rfl _ _ _) rfl ?_
  exact row_done w _ _ _ _ _ _ _ rfl (by decide) rfl rfl rfl
theorem row_9 (S P A T N : Int) (w : World) : Calls Tryd.prog 39 #[rv 9 S P A T N] w (rowPost w (flds 9) [9, S, P, A, T, N]) := by
  unfold rv
  go_enter Tryd.func39, Tryd.ntmps39
  go_wp2_with fail
  refine bodyPost_ret (results_tmp4 rfl _ _ _) rfl ?_
  exact row_done w _ _ _ _ _ _ _ rfl (by decide) rfl rfl rfl
theorem row_0 (K S P A T N : Int) (w : World) (h1 : ¬ K = 1) (h2 : ¬ K = 2) (h3 : ¬ K = 3) (h4 : ¬ K = 4) (h5 : ¬ K = 5) (h6 : ¬ K = 6) (h7 : ¬ K = 7) (h8 : ¬ K = 8) (h9 : ¬ K = 9) :
    Calls Tryd.prog 39 #[rv K S P A T N] w (rowPost w (flds K) [K, S, P, A, T, N]) := by
  rw [flds_none h1 h2 h3 h4 h5 h6 h7 h8 h9]
  unfold rv
  go_enter Tryd.func39, Tryd.ntmps39
  go_wp2_with fail
  refine bodyPost_ret (results_tmp4 rfl _ _ _) rfl ?_
  exact ⟨none, none, none, rfl, (Below.refl w.heap.size w).alloc (Nat.le_refl _) _, fun h => by simp [valsL] at h, fun h => by simp [leasts] at h, fun h => by simp [mosts] at h⟩
theorem row_any (K S P A T N : Int) (w : World) : Calls Tryd.prog 39 #[rv K S P A T N] w (rowPost w (flds K) [K, S, P, A, T, N]) := by
  rcases kinds K with rfl | rfl | rfl | rfl | rfl | rfl | rfl | rfl | rfl | ⟨h1, h2, h3, h4, h5, h6, h7, h8, h9⟩
  · exact row_1 S P A T N w
  · exact row_2 S P A T N w
  · exact row_3 S P A T N w
  · exact row_4 S P A T N w
  · exact row_5 S P A T N w
  · exact row_6 S P A T N w
  · exact row_7 S P A T N w
  · exact row_8 S P A T N w
  · exact row_9 S P A T N w
  · exact row_0 K S P A T N w h1 h2 h3 h4 h5 h6 h7 h8 h9
set_option maxRecDepth 100000

/-- numbers, laid into a record -/
def laySet : List Fl → List Int → List Int → List Int
  | [], _, r => r
  | f :: fs, l, r => laySet fs l.tail (r.set f.1 (l.headD 0))
theorem laySet_len (fs : List Fl) (l r : List Int) : (laySet fs l r).length = r.length := by
  induction fs generalizing l r with
  | nil => rfl
  | cons f fs ih => rw [laySet, ih, List.length_set]
theorem info74 : (Tryd.prog.info? 74).map (·.size) = some 6 := by kernel_rfl
theorem rec_result {fn : Func} {p : Tmp} (h : fn.results = #[.cell p 74]) {tmps : Array Value} {w : World} {g : Nat} {cs : Array Value} (hp : tmps.getD p undef = .pointer (some ⟨g, 0, none⟩)) (hs : cs.size = 6) (hg : w.heap[g]? = some (.cells cs 74 (0, 0))) :
    (results fn tmps).run Tryd.prog w = .ok (.agg cs) w :=
  results_cell_row h tmps w g 74 cs (0, 0) _ hp hg Tryd.underlying74 rfl (by rw [hs]; exact info74)
theorem below_one (w : World) (o : Obj) : Below w.heap.size w (w.alloc o) := (Below.refl w.heap.size w).alloc (Nat.le_refl _) o
theorem of_1 (x y z : Int) (g cp : Nat) (w : World) (hg : g < w.heap.size) (c0 : w.cell? ⟨g, 0, none⟩ = some (.int .i64 x)) (c1 : w.cell? ⟨g, 1, none⟩ = some (.int .i64 y)) (c2 : w.cell? ⟨g, 2, none⟩ = some (.int .i64 z)) : Calls Tryd.prog 40 #[.int .i64 1, .slice (some ⟨g, 0, none⟩) 3 cp] w fun e w' => e = .returned (rv 1 x y z 0 0) ∧ Below w.heap.size w w' := by
  unfold rv
  go_enter Tryd.func40, Tryd.ntmps40
  go_wp2_with fail
  go_region
  go_wp2_with fail
  refine bodyPost_ret (rec_result rfl rfl rfl ?_) rfl ⟨rfl, ?_⟩
  · exact heap_alloc_new _ _
  · exact (below_one w _).drew
theorem of_2 (x y : Int) (g cp : Nat) (w : World) (hg : g < w.heap.size) (c0 : w.cell? ⟨g, 0, none⟩ = some (.int .i64 x)) (c1 : w.cell? ⟨g, 1, none⟩ = some (.int .i64 y)) : Calls Tryd.prog 40 #[.int .i64 2, .slice (some ⟨g, 0, none⟩) 2 cp] w fun e w' => e = .returned (rv 2 x y 0 0 0) ∧ Below w.heap.size w w' := by
  unfold rv
  go_enter Tryd.func40, Tryd.ntmps40
  go_wp2_with fail
  go_region
  go_wp2_with fail
  refine bodyPost_ret (rec_result rfl rfl rfl ?_) rfl ⟨rfl, ?_⟩
  · exact heap_alloc_new _ _
  · exact (below_one w _).drew
theorem of_3 (x y : Int) (g cp : Nat) (w : World) (hg : g < w.heap.size) (c0 : w.cell? ⟨g, 0, none⟩ = some (.int .i64 x)) (c1 : w.cell? ⟨g, 1, none⟩ = some (.int .i64 y)) : Calls Tryd.prog 40 #[.int .i64 3, .slice (some ⟨g, 0, none⟩) 2 cp] w fun e w' => e = .returned (rv 3 0 0 x y 0) ∧ Below w.heap.size w w' := by
  unfold rv
  go_enter Tryd.func40, Tryd.ntmps40
  go_wp2_with fail
  go_region
  go_wp2_with fail
  refine bodyPost_ret (rec_result rfl rfl rfl ?_) rfl ⟨rfl, ?_⟩
  · exact heap_alloc_new _ _
  · exact (below_one w _).drew
theorem of_4 (x y : Int) (g cp : Nat) (w : World) (hg : g < w.heap.size) (c0 : w.cell? ⟨g, 0, none⟩ = some (.int .i64 x)) (c1 : w.cell? ⟨g, 1, none⟩ = some (.int .i64 y)) : Calls Tryd.prog 40 #[.int .i64 4, .slice (some ⟨g, 0, none⟩) 2 cp] w fun e w' => e = .returned (rv 4 x 0 0 0 y) ∧ Below w.heap.size w w' := by
  unfold rv
  go_enter Tryd.func40, Tryd.ntmps40
  go_wp2_with fail
  go_region
  go_wp2_with fail
  refine bodyPost_ret (rec_result rfl rfl rfl ?_) rfl ⟨rfl, ?_⟩
  · exact heap_alloc_new _ _
  · exact (below_one w _).drew
theorem of_5 (x : Int) (g cp : Nat) (w : World) (hg : g < w.heap.size) (c0 : w.cell? ⟨g, 0, none⟩ = some (.int .i64 x)) : Calls Tryd.prog 40 #[.int .i64 5, .slice (some ⟨g, 0, none⟩) 1 cp] w fun e w' => e = .returned (rv 5 x 0 0 0 0) ∧ Below w.heap.size w w' := by
  unfold rv
  go_enter Tryd.func40, Tryd.ntmps40
  go_wp2_with fail
  refine bodyPost_ret (rec_result rfl rfl rfl ?_) rfl ⟨rfl, ?_⟩
  · exact heap_alloc_new _ _
  · exact (below_one w _)
theorem of_6 (x y : Int) (g cp : Nat) (w : World) (hg : g < w.heap.size) (c0 : w.cell? ⟨g, 0, none⟩ = some (.int .i64 x)) (c1 : w.cell? ⟨g, 1, none⟩ = some (.int .i64 y)) : Calls Tryd.prog 40 #[.int .i64 6, .slice (some ⟨g, 0, none⟩) 2 cp] w fun e w' => e = .returned (rv 6 x 0 0 y 0) ∧ Below w.heap.size w w' := by
  unfold rv
  go_enter Tryd.func40, Tryd.ntmps40
  go_wp2_with fail
  go_region
  go_wp2_with fail
  refine bodyPost_ret (rec_result rfl rfl rfl ?_) rfl ⟨rfl, ?_⟩
  · exact heap_alloc_new _ _
  · exact (below_one w _).drew
theorem of_7 (x : Int) (g cp : Nat) (w : World) (hg : g < w.heap.size) (c0 : w.cell? ⟨g, 0, none⟩ = some (.int .i64 x)) : Calls Tryd.prog 40 #[.int .i64 7, .slice (some ⟨g, 0, none⟩) 1 cp] w fun e w' => e = .returned (rv 7 x 0 0 0 0) ∧ Below w.heap.size w w' := by
  unfold rv
  go_enter Tryd.func40, Tryd.ntmps40
  go_wp2_with fail
  refine bodyPost_ret (rec_result rfl rfl rfl ?_) rfl ⟨rfl, ?_⟩
  · exact heap_alloc_new _ _
  · exact (below_one w _)
theorem of_8 (x : Int) (g cp : Nat) (w : World) (hg : g < w.heap.size) (c0 : w.cell? ⟨g, 0, none⟩ = some (.int .i64 x)) : Calls Tryd.prog 40 #[.int .i64 8, .slice (some ⟨g, 0, none⟩) 1 cp] w fun e w' => e = .returned (rv 8 0 0 x 0 0) ∧ Below w.heap.size w w' := by
  unfold rv
  go_enter Tryd.func40, Tryd.ntmps40
  go_wp2_with fail
  refine bodyPost_ret (rec_result rfl rfl rfl ?_) rfl ⟨rfl, ?_⟩
  · exact heap_alloc_new _ _
  · exact (below_one w _)
theorem of_9 (x y : Int) (g cp : Nat) (w : World) (hg : g < w.heap.size) (c0 : w.cell? ⟨g, 0, none⟩ = some (.int .i64 x)) (c1 : w.cell? ⟨g, 1, none⟩ = some (.int .i64 y)) : Calls Tryd.prog 40 #[.int .i64 9, .slice (some ⟨g, 0, none⟩) 2 cp] w fun e w' => e = .returned (rv 9 0 0 x 0 y) ∧ Below w.heap.size w w' := by
  unfold rv
  go_enter Tryd.func40, Tryd.ntmps40
  go_wp2_with fail
  go_region
  go_wp2_with fail
  refine bodyPost_ret (rec_result rfl rfl rfl ?_) rfl ⟨rfl, ?_⟩
  · exact heap_alloc_new _ _
  · exact (below_one w _).drew
theorem of_cells (K : Int) (l : List Int) (hl : l.length = (flds K).length) (h0 : 0 < (flds K).length) {w : World} {g : Nat} (cp : Nat) (hg : g < w.heap.size) (hc : ∀ j, j < l.length → w.cell? ⟨g, j, none⟩ = some (.int .i64 (l.getD j 0))) :
    Calls Tryd.prog 40 #[.int .i64 K, .slice (some ⟨g, 0, none⟩) (flds K).length cp] w fun e w' => e = .returned (rvL (laySet (flds K) l [K, 0, 0, 0, 0, 0])) ∧ Below w.heap.size w w' := by
  rcases kinds K with rfl | rfl | rfl | rfl | rfl | rfl | rfl | rfl | rfl | ⟨h1, h2, h3, h4, h5, h6, h7, h8, h9⟩
  · match l, hl with
    | [x, y, z], _ => exact of_1 x y z g cp w hg (hc 0 (by simp)) (hc 1 (by simp)) (hc 2 (by simp))
  · match l, hl with
    | [x, y], _ => exact of_2 x y g cp w hg (hc 0 (by simp)) (hc 1 (by simp))
  · match l, hl with
    | [x, y], _ => exact of_3 x y g cp w hg (hc 0 (by simp)) (hc 1 (by simp))
  · match l, hl with
    | [x, y], _ => exact of_4 x y g cp w hg (hc 0 (by simp)) (hc 1 (by simp))
  · match l, hl with
    | [x], _ => exact of_5 x g cp w hg (hc 0 (by simp))
  · match l, hl with
    | [x, y], _ => exact of_6 x y g cp w hg (hc 0 (by simp)) (hc 1 (by simp))
  · match l, hl with
    | [x], _ => exact of_7 x g cp w hg (hc 0 (by simp))
  · match l, hl with
    | [x], _ => exact of_8 x g cp w hg (hc 0 (by simp))
  · match l, hl with
    | [x, y], _ => exact of_9 x y g cp w hg (hc 0 (by simp)) (hc 1 (by simp))
  · rw [flds_none h1 h2 h3 h4 h5 h6 h7 h8 h9] at h0
    exact absurd h0 (by simp)
theorem of_any (K : Int) (l : List Int) (hl : l.length = (flds K).length) (h0 : 0 < (flds K).length) {w : World} {B : Nat} {a : Option Addr} (h : IsL w B a l) :
    Calls Tryd.prog 40 #[.int .i64 K, .slice a (flds K).length (flds K).length] w fun e w' => e = .returned (rvL (laySet (flds K) l [K, 0, 0, 0, 0, 0])) ∧ Below w.heap.size w w' := by
  obtain ⟨g, rfl, _, hr⟩ := h (by omega)
  exact of_cells K l hl h0 _ hr.lt (fun j hj => hr.cell j hj)
set_option maxRecDepth 100000

theorem IsL.mono {w : World} {B B' a l} (h : IsL w B a l) (hB : B' ≤ B) : IsL w B' a l := fun h0 => by
  obtain ⟨g, ha, hg, hb⟩ := h h0
  exact ⟨g, ha, by omega, hb⟩
/-- all numbers from the k-th on are within their limits -/
def within : List Int → List Int → List Int → Bool
  | x :: xs, y :: ys, z :: zs => if x < y ∨ z < x then false else within xs ys zs
  | _, _, _ => true
theorem drop_getDI (l : List Int) (k : Nat) (h : k < l.length) : l.drop k = l.getD k 0 :: l.drop (k + 1) := by
  rw [List.drop_eq_getElem_cons h]
  simp [List.getD_eq_getElem?_getD, h]
/-- what holds in the answer's Check -/
def RcS (w : World) (l : List Int) (a b c : Option Addr) (xs ls ms : List Int) (wr : World) : Prop :=
  Row wr w.heap.size 74 .i64 l ∧ IsL wr w.heap.size a xs ∧ IsL wr w.heap.size b ls ∧ IsL wr w.heap.size c ms ∧ Below w.heap.size w wr
theorem RcS.call {w wr w2 : World} {l a b c xs ls ms} (h : RcS w l a b c xs ls ms wr) (q : Below wr.heap.size wr w2) : RcS w l a b c xs ls ms w2 :=
  ⟨h.1.call q, h.2.1.call q, h.2.2.1.call q, h.2.2.2.1.call q, below3 h.2.2.2.2 q⟩
theorem RcS.drew {w wr : World} {l a b c xs ls ms} (h : RcS w l a b c xs ls ms wr) : RcS w l a b c xs ls ms wr.drew := ⟨h.1, h.2.1, h.2.2.1, h.2.2.2.1, h.2.2.2.2.drew⟩
theorem rc_mk {w w' : World} {K S P A T N : Int} {a b c xs ls ms} (h : RcS w [K, S, P, A, T, N] a b c xs ls ms w') : w'.cell? ⟨w.heap.size, 0, none⟩ = some (.int .i64 K) ∧ w'.cell? ⟨w.heap.size, 1, none⟩ = some (.int .i64 S) ∧ w'.cell? ⟨w.heap.size, 2, none⟩ = some (.int .i64 P) ∧ w'.cell? ⟨w.heap.size, 3, none⟩ = some (.int .i64 A) ∧ w'.cell? ⟨w.heap.size, 4, none⟩ = some (.int .i64 T) ∧ w'.cell? ⟨w.heap.size, 5, none⟩ = some (.int .i64 N) ∧ RcS w [K, S, P, A, T, N] a b c xs ls ms w'  :=
  ⟨h.1.six.1, h.1.six.2.1, h.1.six.2.2.1, h.1.six.2.2.2.1, h.1.six.2.2.2.2.1, h.1.six.2.2.2.2.2, h⟩
theorem refCheck_any (K S P A T N : Int) (w : World) : Calls Tryd.prog 23 #[rv K S P A T N] w fun e w' =>
    e = .returned (.bool (decide (0 < (flds K).length) && (decide (laySet (flds K) (valsL (flds K) [K, S, P, A, T, N]) [K, 0, 0, 0, 0, 0] = [K, S, P, A, T, N]) && within (valsL (flds K) [K, S, P, A, T, N]) (leasts (flds K)) (mosts (flds K))))) ∧ Below w.heap.size w w' := by
  have q1 : (valsL (flds K) [K, S, P, A, T, N]).length = (flds K).length := by simp [valsL]
  have q2 : (leasts (flds K)).length = (flds K).length := by simp [leasts]
  have q3 : (mosts (flds K)).length = (flds K).length := by simp [mosts]
  have hlay : (laySet (flds K) (valsL (flds K) [K, S, P, A, T, N]) [K, 0, 0, 0, 0, 0]).length = 6 := laySet_len _ _ _
  have hof := fun w B a (h : IsL w B a (valsL (flds K) [K, S, P, A, T, N])) (h0 : 0 < (flds K).length) => of_any K (valsL (flds K) [K, S, P, A, T, N]) q1 h0 h
  have hrow := row_any K S P A T N
  have h3 := flds_len K
  unfold rowPost at hrow
  generalize valsL (flds K) [K, S, P, A, T, N] = xs at *
  generalize leasts (flds K) = ls at *
  generalize mosts (flds K) = ms at *
  generalize laySet (flds K) xs [K, 0, 0, 0, 0, 0] = Y at *
  generalize (flds K).length = n at *
  obtain ⟨y0, y1, y2, y3, y4, y5, rfl⟩ := six hlay
  clear hlay
  have HO := Hid.mk (And.intro hof (And.intro q1 (And.intro q2 q3)))
  clear hof q1 q2 q3
  replace hrow := Hid.mk hrow
  generalize hRes : (decide (0 < n) && (decide ([y0, y1, y2, y3, y4, y5] = [K, S, P, A, T, N]) && within xs ls ms)) = Res
  replace hRes := Hid.mk hRes
  unfold rv
  go_enter Tryd.func23, Tryd.ntmps23
  go_upto_region 1 with fail
  have p1 : Row (w.alloc (.cells #[.int .i64 K, .int .i64 S, .int .i64 P, .int .i64 A, .int .i64 T, .int .i64 N] 74)) w.heap.size 74 .i64 [K, S, P, A, T, N] := Row.fresh w 74 .i64 [K, S, P, A, T, N]
  have p2 := below_one w (.cells #[.int .i64 K, .int .i64 S, .int .i64 P, .int .i64 A, .int .i64 T, .int .i64 N] 74)
  generalize (w.alloc (.cells #[.int .i64 K, .int .i64 S, .int .i64 P, .int .i64 A, .int .i64 T, .int .i64 N] 74)) = W at *
  obtain ⟨c0, c1, c2, c3, c4, c5⟩ := p1.six
  have H := Hid.mk (And.intro p1 p2)
  clear p1 p2
  go_upto_region 2 with (go_at_call 39; refine (hrow.out _).mono ?_; rintro e w1 ⟨a, b, c, rfl, b1, i1, i2, i3⟩)
  have s1 : RcS w [K, S, P, A, T, N] a b c xs ls ms w1 := ⟨H.out.1.call b1, i1.mono H.out.2.size, i2.mono H.out.2.size, i3.mono H.out.2.size, below3 H.out.2 b1⟩
  clear i1 i2 i3 b1 c0 c1 c2 c3 c4 c5 hrow
  by_cases hn : 0 < n
  case neg =>
    have hd : decide (0 < n) = false := decide_eq_false hn
    rw [hd]
    replace s1 := Hid.mk s1
    go_region
    go_wp2_with fail
    go_ret
    exact ⟨by rw [← hRes.out, hd]; rfl, s1.out.2.2.2.2.drew⟩
  have hd : decide (0 < n) = true := decide_eq_true hn
  rw [hd]
  clear hd
  have s0 := Hid.mk (rc_mk s1.drew)
  clear s1
  by_cases e0 : y0 = K
  case neg =>
    have hf : Res = false := by rw [← hRes.out]; simp [e0]
    replace hf := Hid.mk hf
    go_region_held3 (fun w' => w'.cell? ⟨w.heap.size, 0, none⟩ = some (.int .i64 K) ∧ w'.cell? ⟨w.heap.size, 1, none⟩ = some (.int .i64 S) ∧ w'.cell? ⟨w.heap.size, 2, none⟩ = some (.int .i64 P) ∧ w'.cell? ⟨w.heap.size, 3, none⟩ = some (.int .i64 A) ∧ w'.cell? ⟨w.heap.size, 4, none⟩ = some (.int .i64 T) ∧ w'.cell? ⟨w.heap.size, 5, none⟩ = some (.int .i64 N) ∧ RcS w [K, S, P, A, T, N] a b c xs ls ms w' ) (first | assumption | exact s0.out | exact rc_mk (RcS.call (And.right (And.right (And.right (And.right (And.right (And.right (by assumption))))))) (by assumption)) | fail)
      (first | (go_at_call 40; refine (HO.out.1 _ _ _ (And.right (And.right (And.right (And.right (And.right (And.right s0.out)))))).2.1 hn).mono ?_; rintro e w3 ⟨rfl, b3⟩; simp only [rvL_six]; unfold rv))
    have s3 : Hid (RcS w [K, S, P, A, T, N] a b c xs ls ms w3) := Hid.mk ((And.right (And.right (And.right (And.right (And.right (And.right s0.out)))))).call b3)
    clear s0 b3
    go_wp2_with fail
    go_ret
    exact ⟨by rw [hf.out]; rfl, s3.out.2.2.2.2⟩
  subst y0
  by_cases e0 : y1 = S
  case neg =>
    have hf : Res = false := by rw [← hRes.out]; simp [e0]
    replace hf := Hid.mk hf
    go_region_held3 (fun w' => w'.cell? ⟨w.heap.size, 0, none⟩ = some (.int .i64 K) ∧ w'.cell? ⟨w.heap.size, 1, none⟩ = some (.int .i64 S) ∧ w'.cell? ⟨w.heap.size, 2, none⟩ = some (.int .i64 P) ∧ w'.cell? ⟨w.heap.size, 3, none⟩ = some (.int .i64 A) ∧ w'.cell? ⟨w.heap.size, 4, none⟩ = some (.int .i64 T) ∧ w'.cell? ⟨w.heap.size, 5, none⟩ = some (.int .i64 N) ∧ RcS w [K, S, P, A, T, N] a b c xs ls ms w' ) (first | assumption | exact s0.out | exact rc_mk (RcS.call (And.right (And.right (And.right (And.right (And.right (And.right (by assumption))))))) (by assumption)) | fail)
      (first | (go_at_call 40; refine (HO.out.1 _ _ _ (And.right (And.right (And.right (And.right (And.right (And.right s0.out)))))).2.1 hn).mono ?_; rintro e w3 ⟨rfl, b3⟩; simp only [rvL_six]; unfold rv))
    have s3 : Hid (RcS w [K, S, P, A, T, N] a b c xs ls ms w3) := Hid.mk ((And.right (And.right (And.right (And.right (And.right (And.right s0.out)))))).call b3)
    clear s0 b3
    go_wp2_with fail
    go_ret
    exact ⟨by rw [hf.out]; rfl, s3.out.2.2.2.2⟩
  subst y1
  by_cases e0 : y2 = P
  case neg =>
    have hf : Res = false := by rw [← hRes.out]; simp [e0]
    replace hf := Hid.mk hf
    go_region_held3 (fun w' => w'.cell? ⟨w.heap.size, 0, none⟩ = some (.int .i64 K) ∧ w'.cell? ⟨w.heap.size, 1, none⟩ = some (.int .i64 S) ∧ w'.cell? ⟨w.heap.size, 2, none⟩ = some (.int .i64 P) ∧ w'.cell? ⟨w.heap.size, 3, none⟩ = some (.int .i64 A) ∧ w'.cell? ⟨w.heap.size, 4, none⟩ = some (.int .i64 T) ∧ w'.cell? ⟨w.heap.size, 5, none⟩ = some (.int .i64 N) ∧ RcS w [K, S, P, A, T, N] a b c xs ls ms w' ) (first | assumption | exact s0.out | exact rc_mk (RcS.call (And.right (And.right (And.right (And.right (And.right (And.right (by assumption))))))) (by assumption)) | fail)
      (first | (go_at_call 40; refine (HO.out.1 _ _ _ (And.right (And.right (And.right (And.right (And.right (And.right s0.out)))))).2.1 hn).mono ?_; rintro e w3 ⟨rfl, b3⟩; simp only [rvL_six]; unfold rv))
    have s3 : Hid (RcS w [K, S, P, A, T, N] a b c xs ls ms w3) := Hid.mk ((And.right (And.right (And.right (And.right (And.right (And.right s0.out)))))).call b3)
    clear s0 b3
    go_wp2_with fail
    go_ret
    exact ⟨by rw [hf.out]; rfl, s3.out.2.2.2.2⟩
  subst y2
  by_cases e0 : y3 = A
  case neg =>
    have hf : Res = false := by rw [← hRes.out]; simp [e0]
    replace hf := Hid.mk hf
    go_region_held3 (fun w' => w'.cell? ⟨w.heap.size, 0, none⟩ = some (.int .i64 K) ∧ w'.cell? ⟨w.heap.size, 1, none⟩ = some (.int .i64 S) ∧ w'.cell? ⟨w.heap.size, 2, none⟩ = some (.int .i64 P) ∧ w'.cell? ⟨w.heap.size, 3, none⟩ = some (.int .i64 A) ∧ w'.cell? ⟨w.heap.size, 4, none⟩ = some (.int .i64 T) ∧ w'.cell? ⟨w.heap.size, 5, none⟩ = some (.int .i64 N) ∧ RcS w [K, S, P, A, T, N] a b c xs ls ms w' ) (first | assumption | exact s0.out | exact rc_mk (RcS.call (And.right (And.right (And.right (And.right (And.right (And.right (by assumption))))))) (by assumption)) | fail)
      (first | (go_at_call 40; refine (HO.out.1 _ _ _ (And.right (And.right (And.right (And.right (And.right (And.right s0.out)))))).2.1 hn).mono ?_; rintro e w3 ⟨rfl, b3⟩; simp only [rvL_six]; unfold rv))
    have s3 : Hid (RcS w [K, S, P, A, T, N] a b c xs ls ms w3) := Hid.mk ((And.right (And.right (And.right (And.right (And.right (And.right s0.out)))))).call b3)
    clear s0 b3
    go_wp2_with fail
    go_ret
    exact ⟨by rw [hf.out]; rfl, s3.out.2.2.2.2⟩
  subst y3
  by_cases e0 : y4 = T
  case neg =>
    have hf : Res = false := by rw [← hRes.out]; simp [e0]
    replace hf := Hid.mk hf
    go_region_held3 (fun w' => w'.cell? ⟨w.heap.size, 0, none⟩ = some (.int .i64 K) ∧ w'.cell? ⟨w.heap.size, 1, none⟩ = some (.int .i64 S) ∧ w'.cell? ⟨w.heap.size, 2, none⟩ = some (.int .i64 P) ∧ w'.cell? ⟨w.heap.size, 3, none⟩ = some (.int .i64 A) ∧ w'.cell? ⟨w.heap.size, 4, none⟩ = some (.int .i64 T) ∧ w'.cell? ⟨w.heap.size, 5, none⟩ = some (.int .i64 N) ∧ RcS w [K, S, P, A, T, N] a b c xs ls ms w' ) (first | assumption | exact s0.out | exact rc_mk (RcS.call (And.right (And.right (And.right (And.right (And.right (And.right (by assumption))))))) (by assumption)) | fail)
      (first | (go_at_call 40; refine (HO.out.1 _ _ _ (And.right (And.right (And.right (And.right (And.right (And.right s0.out)))))).2.1 hn).mono ?_; rintro e w3 ⟨rfl, b3⟩; simp only [rvL_six]; unfold rv))
    have s3 : Hid (RcS w [K, S, P, A, T, N] a b c xs ls ms w3) := Hid.mk ((And.right (And.right (And.right (And.right (And.right (And.right s0.out)))))).call b3)
    clear s0 b3
    go_wp2_with fail
    go_ret
    exact ⟨by rw [hf.out]; rfl, s3.out.2.2.2.2⟩
  subst y4
  by_cases e0 : y5 = N
  case neg =>
    have hf : Res = false := by rw [← hRes.out]; simp [e0]
    replace hf := Hid.mk hf
    go_region_held3 (fun w' => w'.cell? ⟨w.heap.size, 0, none⟩ = some (.int .i64 K) ∧ w'.cell? ⟨w.heap.size, 1, none⟩ = some (.int .i64 S) ∧ w'.cell? ⟨w.heap.size, 2, none⟩ = some (.int .i64 P) ∧ w'.cell? ⟨w.heap.size, 3, none⟩ = some (.int .i64 A) ∧ w'.cell? ⟨w.heap.size, 4, none⟩ = some (.int .i64 T) ∧ w'.cell? ⟨w.heap.size, 5, none⟩ = some (.int .i64 N) ∧ RcS w [K, S, P, A, T, N] a b c xs ls ms w' ) (first | assumption | exact s0.out | exact rc_mk (RcS.call (And.right (And.right (And.right (And.right (And.right (And.right (by assumption))))))) (by assumption)) | fail)
      (first | (go_at_call 40; refine (HO.out.1 _ _ _ (And.right (And.right (And.right (And.right (And.right (And.right s0.out)))))).2.1 hn).mono ?_; rintro e w3 ⟨rfl, b3⟩; simp only [rvL_six]; unfold rv))
    have s3 : Hid (RcS w [K, S, P, A, T, N] a b c xs ls ms w3) := Hid.mk ((And.right (And.right (And.right (And.right (And.right (And.right s0.out)))))).call b3)
    clear s0 b3
    go_wp2_with fail
    go_ret
    exact ⟨by rw [hf.out]; rfl, s3.out.2.2.2.2⟩
  subst y5
  have hf : within xs ls ms = Res := by rw [← hRes.out, decide_eq_true hn]; simp
  clear hRes
  go_region_held3 (fun w' => w'.cell? ⟨w.heap.size, 0, none⟩ = some (.int .i64 K) ∧ w'.cell? ⟨w.heap.size, 1, none⟩ = some (.int .i64 S) ∧ w'.cell? ⟨w.heap.size, 2, none⟩ = some (.int .i64 P) ∧ w'.cell? ⟨w.heap.size, 3, none⟩ = some (.int .i64 A) ∧ w'.cell? ⟨w.heap.size, 4, none⟩ = some (.int .i64 T) ∧ w'.cell? ⟨w.heap.size, 5, none⟩ = some (.int .i64 N) ∧ RcS w [K, S, P, A, T, N] a b c xs ls ms w' ) (first | assumption | exact s0.out | exact rc_mk (RcS.call (And.right (And.right (And.right (And.right (And.right (And.right (by assumption))))))) (by assumption)) | fail)
    (first | (go_at_call 40; refine (HO.out.1 _ _ _ (And.right (And.right (And.right (And.right (And.right (And.right s0.out)))))).2.1 hn).mono ?_; rintro e w3 ⟨rfl, b3⟩; simp only [rvL_six]; unfold rv))
  have s3 : Hid (RcS w [K, S, P, A, T, N] a b c xs ls ms w3) := Hid.mk ((And.right (And.right (And.right (And.right (And.right (And.right s0.out)))))).call b3)
  obtain ⟨q1, q2, q3⟩ := HO.out.2
  clear s0 b3 HO
  replace hf := Hid.mk (And.intro hf (And.intro q1 (And.intro q2 q3)))
  clear q1 q2 q3
  go_upto_region 5 with fail
  go_loopw [7] (fun i wr => ∃ k : Nat, k ≤ n ∧ i = .int .i64 k ∧ within (xs.drop k) (ls.drop k) (ms.drop k) = Res ∧ RcS w [K, S, P, A, T, N] a b c xs ls ms wr) (fun i _ => n - (intOf i).toNat)
  case atStart => exact ⟨0, Nat.zero_le _, rfl, hf.out.1, s3.out⟩
  case round =>
    clear s3
    obtain ⟨k, hk, rfl, hw, hs⟩ := hrel
    by_cases hkn : k < n
    · obtain ⟨g1, rfl, _, l1, c1⟩ := hs.2.1.cell k (by rw [hf.out.2.1]; exact hkn)
      obtain ⟨g2, rfl, _, l2, c2⟩ := hs.2.2.1.cell k (by rw [hf.out.2.2.1]; exact hkn)
      obtain ⟨g3, rfl, _, l3, c3⟩ := hs.2.2.2.1.cell k (by rw [hf.out.2.2.2]; exact hkn)
      rw [drop_getDI xs k (by rw [hf.out.2.1]; exact hkn), drop_getDI ls k (by rw [hf.out.2.2.1]; exact hkn), drop_getDI ms k (by rw [hf.out.2.2.2]; exact hkn), within] at hw
      generalize xs.getD k 0 = x at *
      generalize ls.getD k 0 = lo at *
      generalize ms.getD k 0 = hi at *
      have HS := Hid.mk hs
      clear hs
      go_upto_region 7 with fail
      by_cases hlo : x < lo
      · rw [if_pos (Or.inl hlo)] at hw
        have HW := Hid.mk hw
        clear hw
        go_region
        go_wp2_with fail
        go_ret
        exact ⟨by rw [← HW.out]; rfl, HS.out.2.2.2.2.drew⟩
      · by_cases hhi : hi < x
        · rw [if_pos (Or.inr hhi)] at hw
          have HW := Hid.mk hw
          clear hw
          go_region
          go_wp2_with fail
          go_ret
          exact ⟨by rw [← HW.out]; rfl, HS.out.2.2.2.2.drew⟩
        · rw [if_neg (by omega)] at hw
          have HW := Hid.mk hw
          clear hw
          go_region
          go_wp2_with fail
          exact ⟨⟨k + 1, by omega, by go_num, HW.out, HS.out.drew⟩, by simp [intOf]; omega⟩
    · have hk2 : k = n := by omega
      rw [hk2, List.drop_of_length_le (by rw [hf.out.2.1]; exact Nat.le_refl _), within] at hw
      · have HW := Hid.mk hw
        have HS := Hid.mk hs
        clear hw hs hk2
        go_wp2_with fail
        go_ret
        exact ⟨by rw [← HW.out]; rfl, HS.out.2.2.2.2⟩
      · intro _ _ _ _ _ _ h
        cases h
set_option maxRecDepth 100000

/-- may a record be? -/
def mayR (K S P A T N : Int) : Prop :=
  (K = 1 ∧ 1 ≤ S ∧ S ≤ 15 ∧ 0 ≤ P ∧ P ≤ 1023 ∧ 0 ≤ A ∧ A ≤ 511 ∧ T = 0 ∧ N = 0) ∨ (K = 2 ∧ 1 ≤ S ∧ S ≤ 15 ∧ 0 ≤ P ∧ P ≤ 1023 ∧ A = 0 ∧ T = 0 ∧ N = 0) ∨
  (K = 3 ∧ S = 0 ∧ P = 0 ∧ 0 ≤ A ∧ A ≤ 511 ∧ 0 ≤ T ∧ T ≤ 511 ∧ N = 0) ∨ (K = 4 ∧ 1 ≤ S ∧ S ≤ 15 ∧ P = 0 ∧ A = 0 ∧ T = 0 ∧ 1 ≤ N ∧ N ≤ 1024) ∨
  (K = 5 ∧ 1 ≤ S ∧ S ≤ 15 ∧ P = 0 ∧ A = 0 ∧ T = 0 ∧ N = 0) ∨ (K = 6 ∧ 1 ≤ S ∧ S ≤ 15 ∧ P = 0 ∧ A = 0 ∧ 1 ≤ T ∧ T ≤ 15 ∧ N = 0) ∨
  (K = 7 ∧ 1 ≤ S ∧ S ≤ 15 ∧ P = 0 ∧ A = 0 ∧ T = 0 ∧ N = 0) ∨ (K = 8 ∧ S = 0 ∧ P = 0 ∧ 0 ≤ A ∧ A ≤ 31 ∧ T = 0 ∧ N = 0) ∨
  (K = 9 ∧ S = 0 ∧ P = 0 ∧ 0 ≤ A ∧ A ≤ 31 ∧ T = 0 ∧ 0 ≤ N ∧ N ≤ 1073741824)
theorem chk_iff (K S P A T N : Int) : chkL K [K, S, P, A, T, N] = true ↔ mayR K S P A T N := by
  rcases kinds K with rfl | rfl | rfl | rfl | rfl | rfl | rfl | rfl | rfl | ⟨h1, h2, h3, h4, h5, h6, h7, h8, h9⟩
  case inr.inr.inr.inr.inr.inr.inr.inr.inr =>
    unfold chkL
    rw [flds_none h1 h2 h3 h4 h5 h6 h7 h8 h9]
    simp [chkGo, mayR, h1, h2, h3, h4, h5, h6, h7, h8, h9]
  all_goals
    unfold chkL
    split
    · rename_i hq
      simp [flds, chkGo] at hq
      simp [mayR]
      omega
    · rename_i m hq
      simp [flds, chkGo] at hq
      simp [flds, mayR]
      first
      | obtain ⟨h1, h2, h3, rfl⟩ := hq
      | obtain ⟨h1, h2, rfl⟩ := hq
      | obtain ⟨h1, rfl⟩ := hq
      simp
      omega
theorem refChk_iff (K S P A T N : Int) : (decide (0 < (flds K).length) && (decide (laySet (flds K) (valsL (flds K) [K, S, P, A, T, N]) [K, 0, 0, 0, 0, 0] = [K, S, P, A, T, N]) && within (valsL (flds K) [K, S, P, A, T, N]) (leasts (flds K)) (mosts (flds K)))) = true ↔ mayR K S P A T N := by
  rcases kinds K with rfl | rfl | rfl | rfl | rfl | rfl | rfl | rfl | rfl | ⟨h1, h2, h3, h4, h5, h6, h7, h8, h9⟩
  case inr.inr.inr.inr.inr.inr.inr.inr.inr =>
    rw [flds_none h1 h2 h3 h4 h5 h6 h7 h8 h9]
    simp [mayR, h1, h2, h3, h4, h5, h6, h7, h8, h9]
  all_goals
    simp [flds, laySet, valsL, leasts, mosts, within, mayR]
    try omega
/-- both answer the same -/
def mayB (K S P A T N : Int) : Bool := chkL K [K, S, P, A, T, N]
theorem mayB_iff {K S P A T N : Int} : mayB K S P A T N = true ↔ mayR K S P A T N := chk_iff K S P A T N
theorem checkB_any (K S P A T N : Int) (w : World) : Calls Tryd.prog 41 #[rv K S P A T N] w fun e w' => e = .returned (.bool (mayB K S P A T N)) ∧ Below w.heap.size w w' := check_any K S P A T N w
theorem refCheckB_any (K S P A T N : Int) (w : World) : Calls Tryd.prog 23 #[rv K S P A T N] w fun e w' => e = .returned (.bool (mayB K S P A T N)) ∧ Below w.heap.size w w' := by
  have h := refCheck_any K S P A T N w
  have e : (decide (0 < (flds K).length) && (decide (laySet (flds K) (valsL (flds K) [K, S, P, A, T, N]) [K, 0, 0, 0, 0, 0] = [K, S, P, A, T, N]) && within (valsL (flds K) [K, S, P, A, T, N]) (leasts (flds K)) (mosts (flds K)))) = mayB K S P A T N :=
    Bool.eq_iff_iff.2 ((refChk_iff K S P A T N).trans mayB_iff.symm)
  rw [e] at h
  exact h
end Go.Proofs.YtbhggcleijjofaaDoor.Gp
