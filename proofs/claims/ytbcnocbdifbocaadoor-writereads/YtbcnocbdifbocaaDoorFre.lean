/-
  The walk of Wears: which blocks are one of these, with their counts. No condition.
-/
import Derived.Test.YtbcnocbdifbocaaDoorWx
namespace Go.Proofs.YtbcnocbdifbocaaDoor
open Go Go.RowKit
set_option maxRecDepth 100000

/-- the first n blocks that are one of these, with their counts -/
def frs (xs wn q : List Int) (n : Nat) : List (Int × Int) := ((List.range n).filter (fun b => decide (xs.getD b 0 ∈ q))).map (fun b : Nat => ((b : Int), wn.getD b 0))
theorem frs_succ (xs wn q : List Int) (n : Nat) : frs xs wn q (n + 1) = frs xs wn q n ++ if xs.getD n 0 ∈ q then [((n : Int), wn.getD n 0)] else [] := by
  unfold frs
  rw [List.range_succ, List.filter_append, List.map_append]
  congr 1
  by_cases h : xs.getD n 0 ∈ q
  · rw [if_pos h, List.filter_cons, if_pos (decide_eq_true h)]; rfl
  · rw [if_neg h, List.filter_cons, if_neg (by rw [decide_eq_false h]; decide)]; rfl
theorem below_grownO {B : Nat} {a w w' : World} {r : Option Nat} (h : Below B a w) (g : w.grownBy w' r) (hB : B ≤ w.heap.size) (hr : ∀ i, r = some i → B ≤ i) : Below B a w' :=
  ⟨g.os.trans h.os, g.tape.trans h.tape, g.output.trans h.output, Nat.le_trans h.size g.size, fun i hi => (g.block i (by omega) (fun e => by have := hr i e.symm; omega)).trans (h.block i hi)⟩
theorem frs_len (xs wn q : List Int) (n : Nat) : (frs xs wn q n).length ≤ n := by
  unfold frs
  rw [List.length_map]
  have := List.length_filter_le (fun b => decide (xs.getD b 0 ∈ q)) (List.range n)
  rw [List.length_range] at this
  exact this
def rowsW (l : List (Int × Int)) : We.Rws := l.map fun x => [.int .i64 x.1, .int .i64 x.2]
theorem rowsW_len (l : List (Int × Int)) : (rowsW l).length = l.length := by unfold rowsW; rw [List.length_map]
theorem rowsW_app (l : List (Int × Int)) (x : Int × Int) : rowsW l ++ [[.int .i64 x.1, .int .i64 x.2]] = rowsW (l ++ [x]) := by unfold rowsW; simp
theorem rowsW_ws {w : World} {B a n cap l} (h : We.Ow w B 98 2 (.slice a n cap) (rowsW l)) : We.Ws w a l.length (fun i => l.getD i (0, 0)) := by
  intro i hi
  obtain ⟨g, ha, _, hg, hc⟩ := h.at (j := i) (by rw [rowsW_len]; exact hi)
  have e : (rowsW l).getD i [] = [.int .i64 (l.getD i (0, 0)).1, .int .i64 (l.getD i (0, 0)).2] := by
    unfold rowsW
    simp [List.getD_eq_getElem?_getD, hi]
  refine ⟨g, 0, ha, hg, ?_, ?_⟩
  · have := hc 0 (by omega)
    rw [e] at this
    simpa using this
  · have := hc 1 (by omega)
    rw [e] at this
    simpa using this
/-- what the walk of Wears holds -/
structure WeS (w : World) (A : Wl) (X : Wx) (q : List Int) (qa : Option Addr) (j : Nat) (v : Value) (wr : World) : Prop where
  out : We.Ow wr w.heap.size 98 2 v (rowsW (frs X.xs X.wn q j))
  below : Below w.heap.size w wr
theorem wears_any {w : World} {A X} (h : Wtr w A X) (q : List Int) (hq : q.length ≤ 1000) (qa : Option Addr) (qc : Nat) (hqa : Rds w qa q) : Calls Tryd.prog 29 #[.pointer (some ⟨A.a, 0, none⟩), .slice qa q.length qc] w fun e w' =>
    ∃ v, e = .returned v ∧ We.Ow w' w.heap.size 98 2 v (rowsW (frs X.xs X.wn q X.C.B)) ∧ Below w.heap.size w w' := by
  obtain ⟨c0, c1, c2, c3, _⟩ := h.cells
  obtain ⟨wa, wc, hwv⟩ := h.wrn.form
  have hg := h.chip.geo
  have hwl := h.wlen
  rw [hwl] at hwv
  rw [hwv] at c2
  obtain ⟨n, hn⟩ : ∃ n, n = X.C.B := ⟨_, rfl⟩
  rw [← hn] at c2 ⊢
  have hn2 : n ≤ 32 := by omega
  have HN := Hid.mk hn
  have H := Hid.mk h
  have HW := Hid.mk hwv
  have HQ := Hid.mk (And.intro hqa hq)
  have HL := Hid.mk hwl
  obtain ⟨m, hm⟩ : ∃ m, m = q.length := ⟨_, rfl⟩
  rw [← hm]
  have HM := Hid.mk hm
  clear h hwv hqa hq hn hg hm hwl
  go_enter Tryd.func29, Tryd.ntmps29
  go_wp2_with fail
  go_loopw [5, 15] (fun v i wr => ∃ j : Nat, j ≤ n ∧ i = .int .i64 j ∧ WeS w A X q qa j v wr) (fun _ i _ => n - (intOf i).toNat)
  case atStart => exact ⟨0, Nat.zero_le _, rfl, We.Ow.nil _ _ _ _, Below.refl _ _⟩
  case round =>
    obtain ⟨j, hj, rfl, hs⟩ := hrel
    have HS := Hid.mk hs
    clear hs
    by_cases hlt : j < n
    · have hlt1 : (j : Int) < n := by omega
      have HX := Hid.mk (H.out.call HS.out.below)
      have hwr := HX.out.wrn
      rw [HW.out] at hwr
      obtain ⟨g, rfl, hgl, _, cj, _⟩ := hwr.cell (j := j) (by rw [HL.out, ← HN.out]; exact hlt)
      obtain ⟨d0, d1, d2, d3, _⟩ := HX.out.cells
      have his := Hid.mk (Lf.is_any HX.out.lif (j : Int))
      have hil : Lf.isL X.xs (j : Int) = X.xs.getD j 0 := Lf.isL_in X.xs j (by rw [HX.out.lif.ok.len, ← HN.out]; exact hlt)
      rw [hil] at his
      have hr : Rds ‹World› qa q := fun i hi => by
        obtain ⟨g, o, ha, hg, hc⟩ := HQ.out.1 i hi
        exact ⟨g, o, ha, Nat.lt_of_lt_of_le hg HS.out.below.size, (HS.out.below.cell (p := ⟨g, o + i, none⟩) hg).trans hc⟩
      have hct := Hid.mk (fun x => contains_any hr (Nat.le_trans HQ.out.2 (by decide)) qc x)
      rw [← HM.out] at hct
      have hfs := Hid.mk (frs_succ X.xs X.wn q j)
      have hfl := frs_len X.xs X.wn q j
      generalize X.xs.getD j 0 = y at *
      generalize X.wn.getD j 0 = z at *
      clear hwr hil hr
      by_cases hy : y ∈ q
      · have hyd : decide (y ∈ q) = true := decide_eq_true hy
        go_wp2_with (first
          | (go_at_call 14; refine his.out.mono ?_; rintro e w1 ⟨rfl, rfl⟩)
          | (go_at_call 46; refine (hct.out _).mono ?_; rintro e w2 ⟨rfl, rfl⟩; rw [hyd])
          | (at_builtin; refine We.wp_app ei70 rfl _ _ rfl HS.out.out HS.out.below.size #[.int .i64 j, .int .i64 z] rfl rfl rfl (by simp [Value.oneCell']) (by rw [rowsW_len]; omega) ?_; intro v3 w3 o3 g3 p3))
        refine ⟨⟨j + 1, by omega, by go_num, ?_, ?_⟩, by simp [intOf]; omega⟩
        · rw [hfs.out, if_pos hy, ← rowsW_app]
          exact o3
        · exact below_grownO HS.out.below g3 HS.out.below.size (fun i hi => (HS.out.out.lt i hi).1)
      · have hyd : decide (y ∈ q) = false := decide_eq_false hy
        go_wp2_with (first
          | (go_at_call 14; refine his.out.mono ?_; rintro e w1 ⟨rfl, rfl⟩)
          | (go_at_call 46; refine (hct.out _).mono ?_; rintro e w2 ⟨rfl, rfl⟩; rw [hyd]))
        refine ⟨⟨j + 1, by omega, by go_num, ?_, HS.out.below⟩, by simp [intOf]; omega⟩
        rw [hfs.out, if_neg hy, List.append_nil]
        exact HS.out.out
    · have hlt1 : ¬ (j : Int) < n := by omega
      have hjn : j = n := by omega
      subst hjn
      go_wp2_with fail
      go_ret
      exact ⟨_, rfl, HS.out.out, HS.out.below⟩
end Go.Proofs.YtbcnocbdifbocaaDoor
