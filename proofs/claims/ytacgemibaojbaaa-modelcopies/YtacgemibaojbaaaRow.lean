/-
  The answer's lists of a record's numbers, of their least and of their most; the record of such a list: the walks of row and of. No condition.
-/
import Derived.Test.YtacgemibaojbaaaChk
namespace Go.Proofs.Ytacgemibaojbaaa
open Go Go.RowKit

/-- a slice of these numbers at the head of a block from B on -/
def IsL (w : World) (B : Nat) (a : Option Addr) (l : List Int) : Prop := 0 < l.length → ∃ g, a = some ⟨g, 0, none⟩ ∧ B ≤ g ∧ Row w g 3 .i64 l
theorem IsL.same {w w' : World} {B a l} (h : IsL w B a l) (hh : ∀ g, g < w.heap.size → B ≤ g → w'.heap[g]? = w.heap[g]?) : IsL w' B a l := by
  intro h0
  obtain ⟨g, ha, hg, hb⟩ := h h0
  exact ⟨g, ha, hg, (hh g hb.lt hg).trans hb⟩
theorem IsL.call {w w' : World} {B a l} (h : IsL w B a l) (b : Below w.heap.size w w') : IsL w' B a l := h.same fun g hg _ => b.block g hg
theorem IsL.alloc {w : World} {B a l} (h : IsL w B a l) (o : Obj) : IsL (w.alloc o) B a l := h.same fun g hg _ => Below.heap_alloc w o g hg
theorem IsL.drew {w : World} {B a l} (h : IsL w B a l) : IsL w.drew B a l := h
theorem IsL.cell {w : World} {B a l} (h : IsL w B a l) (j : Nat) (hj : j < l.length) : ∃ g, a = some ⟨g, 0, none⟩ ∧ B ≤ g ∧ g < w.heap.size ∧ w.cell? ⟨g, j, none⟩ = some (.int .i64 (l.getD j 0)) := by
  obtain ⟨g, ha, hg, hb⟩ := h (by omega)
  exact ⟨g, ha, hg, hb.lt, hb.cell j hj⟩
/-- the numbers that a record's kind has -/
def valsL (fs : List Fl) (l : List Int) : List Int := fs.map fun f => l.getD f.1 0
def leasts (fs : List Fl) : List Int := fs.map fun f => f.2.1
def mosts (fs : List Fl) : List Int := fs.map fun f => f.2.2
/-- what row answers -/
def rowPost (w : World) (fs : List Fl) (l : List Int) (e : Ending) (w' : World) : Prop :=
  ∃ a b c, e = .returned (.tuple #[.slice a fs.length fs.length, .slice b fs.length fs.length, .slice c fs.length fs.length, .bool (decide (0 < fs.length))]) ∧
    Below w.heap.size w w' ∧ IsL w' w.heap.size a (valsL fs l) ∧ IsL w' w.heap.size b (leasts fs) ∧ IsL w' w.heap.size c (mosts fs)
theorem IsL.mk {w : World} {B g : Nat} {l : List Int} (hB : B ≤ g) (h : Row w g 3 .i64 l) : IsL w B (some ⟨g, 0, none⟩) l := fun _ => ⟨g, rfl, hB, h⟩
theorem row_done (w : World) (fs : List Fl) (l : List Int) (o : Obj) (x y z : Array Value) (n : Nat) (hn : n = fs.length) (hn0 : 0 < n) (hx : x = cellsOf .i64 (valsL fs l)) (hy : y = cellsOf .i64 (leasts fs)) (hz : z = cellsOf .i64 (mosts fs)) :
    rowPost w fs l (.returned (.tuple #[.slice (some ⟨w.heap.size + 1, 0, none⟩) n n, .slice (some ⟨w.heap.size + 1 + 1, 0, none⟩) n n, .slice (some ⟨w.heap.size + 1 + 1 + 1, 0, none⟩) n n, .bool true]))
      ((((w.alloc o).alloc (.cells x 3)).alloc (.cells y 3)).alloc (.cells z 3)) := by
  subst hx hy hz hn
  refine ⟨_, _, _, by rw [decide_eq_true hn0], below_four w _ _ _ _, IsL.mk (by omega) (((Row.fresh1 w _ 3 .i64 _).alloc _).alloc _), IsL.mk (by omega) ((Row.fresh2 w _ _ 3 .i64 _).alloc _), IsL.mk (by omega) ?_⟩
  have h := Row.fresh2 (w.alloc o) (.cells (cellsOf .i64 (valsL fs l)) 3) (.cells (cellsOf .i64 (leasts fs)) 3) 3 .i64 (mosts fs)
  rwa [size_alloc] at h
theorem results_tmp4 {fn : Func} {t u v x : Tmp} (h : fn.results = #[.tmp t, .tmp u, .tmp v, .tmp x]) (tmps : Array Value) (P : Program) (w : World) :
    (results fn tmps).run P w = .ok (.tuple #[tmps.getD t undef, tmps.getD u undef, tmps.getD v undef, tmps.getD x undef]) w := by
  simp [results, h]
theorem row_1 (S P A T N : Int) (w : World) : Calls Try.prog 48 #[rv 1 S P A T N] w (rowPost w (flds 1) [1, S, P, A, T, N]) := by
  unfold rv
  go_enter Try.func48, Try.ntmps48
  go_wp2_with fail
  refine bodyPost_ret (results_tmp4 rfl _ _ _) rfl ?_
  exact row_done w _ _ _ _ _ _ _ rfl (by decide) rfl rfl rfl
theorem row_2 (S P A T N : Int) (w : World) : Calls Try.prog 48 #[rv 2 S P A T N] w (rowPost w (flds 2) [2, S, P, A, T, N]) := by
  unfold rv
  go_enter Try.func48, Try.ntmps48
  go_wp2_with fail
  refine bodyPost_ret (results_tmp4 rfl _ _ _) rfl ?_
  exact row_done w _ _ _ _ _ _ _ rfl (by decide) rfl rfl rfl
theorem row_3 (S P A T N : Int) (w : World) : Calls Try.prog 48 #[rv 3 S P A T N] w (rowPost w (flds 3) [3, S, P, A, T, N]) := by
  unfold rv
  go_enter Try.func48, Try.ntmps48
  go_wp2_with fail
  refine bodyPost_ret (results_tmp4 rfl _ _ _) rfl ?_
  exact row_done w _ _ _ _ _ _ _ rfl (by decide) rfl rfl rfl
theorem row_4 (S P A T N : Int) (w : World) : Calls Try.prog 48 #[rv 4 S P A T N] w (rowPost w (flds 4) [4, S, P, A, T, N]) := by
  unfold rv
  go_enter Try.func48, Try.ntmps48
  go_wp2_with fail
  refine bodyPost_ret (results_tmp4 rfl _ _ _) rfl ?_
  exact row_done w _ _ _ _ _ _ _ rfl (by decide) rfl rfl rfl
theorem row_5 (S P A T N : Int) (w : World) : Calls Try.prog 48 #[rv 5 S P A T N] w (rowPost w (flds 5) [5, S, P, A, T, N]) := by
  unfold rv
  go_enter Try.func48, Try.ntmps48
  go_wp2_with fail
  refine bodyPost_ret (results_tmp4 rfl _ _ _) rfl ?_
  exact row_done w _ _ _ _ _ _ _ rfl (by decide) rfl rfl rfl
theorem row_6 (S P A T N : Int) (w : World) : Calls Try.prog 48 #[rv 6 S P A T N] w (rowPost w (flds 6) [6, S, P, A, T, N]) := by
  unfold rv
  go_enter Try.func48, Try.ntmps48
  go_wp2_with fail
  refine bodyPost_ret (results_tmp4 rfl _ _ _) rfl ?_
  exact row_done w _ _ _ _ _ _ _ rfl (by decide) rfl rfl rfl
theorem row_7 (S P A T N : Int) (w : World) : Calls Try.prog 48 #[rv 7 S P A T N] w (rowPost w (flds 7) [7, S, P, A, T, N]) := by
  unfold rv
  go_enter Try.func48, Try.ntmps48
  go_wp2_with fail
  refine bodyPost_ret (results_tmp4 rfl _ _ _) rfl ?_
  exact row_done w _ _ _ _ _ _ _ rfl (by decide) rfl rfl rfl
theorem row_8 (S P A T N : Int) (w : World) : Calls Try.prog 48 #[rv 8 S P A T N] w (rowPost w (flds 8) [8, S, P, A, T, N]) := by
  unfold rv
  go_enter Try.func48, Try.ntmps48
  go_wp2_with fail
  refine bodyPost_ret (results_tmp4 rfl _ _ _) rfl ?_
  exact row_done w _ _ _ _ _ _ _ rfl (by decide) rfl rfl rfl
theorem row_9 (S P A T N : Int) (w : World) : Calls Try.prog 48 #[rv 9 S P A T N] w (rowPost w (flds 9) [9, S, P, A, T, N]) := by
  unfold rv
  go_enter Try.func48, Try.ntmps48
  go_wp2_with fail
  refine bodyPost_ret (results_tmp4 rfl _ _ _) rfl ?_
  exact row_done w _ _ _ _ _ _ _ rfl (by decide) rfl rfl rfl
theorem row_0 (K S P A T N : Int) (w : World) (h1 : ¬ K = 1) (h2 : ¬ K = 2) (h3 : ¬ K = 3) (h4 : ¬ K = 4) (h5 : ¬ K = 5) (h6 : ¬ K = 6) (h7 : ¬ K = 7) (h8 : ¬ K = 8) (h9 : ¬ K = 9) :
    Calls Try.prog 48 #[rv K S P A T N] w (rowPost w (flds K) [K, S, P, A, T, N]) := by
  rw [flds_none h1 h2 h3 h4 h5 h6 h7 h8 h9]
  unfold rv
  go_enter Try.func48, Try.ntmps48
  go_wp2_with fail
  refine bodyPost_ret (results_tmp4 rfl _ _ _) rfl ?_
  exact ⟨none, none, none, rfl, (Below.refl w.heap.size w).alloc (Nat.le_refl _) _, fun h => by simp [valsL] at h, fun h => by simp [leasts] at h, fun h => by simp [mosts] at h⟩
theorem row_any (K S P A T N : Int) (w : World) : Calls Try.prog 48 #[rv K S P A T N] w (rowPost w (flds K) [K, S, P, A, T, N]) := by
  rcases kinds K with rfl | rfl | rfl | rfl | rfl | rfl | rfl | rfl | rfl | ⟨h1, h2, h3, h4, h5, h6, h7, h8, h9⟩
  · exact row_1 S P A T N w
  · exact row_2 S P A T N w
  · exact row_3 S P A T N w
  · exact row_4 S P A T N w
  · exact row_5 S P A T N w
  · exact row_6 S P A T N w
  · exact row_7 S P A T N w
  · exact row_8 S P A T N w
  · exact row_9 S P A T N w
  · exact row_0 K S P A T N w h1 h2 h3 h4 h5 h6 h7 h8 h9
end Go.Proofs.Ytacgemibaojbaaa
