/-
  The walk of Wears: which blocks are one of these, with their counts. No condition. Which free block is opened; the walk of take. No condition.
-/
import Derived.Test.YtbhggcleijjofaaDoorWx
namespace Go.Proofs.YtbhggcleijjofaaDoor
open Go Go.RowKit

set_option maxRecDepth 100000

/-- the first n blocks that are one of these, with their counts -/
def frs (xs wn q : List Int) (n : Nat) : List (Int × Int) := ((List.range n).filter (fun b => decide (xs.getD b 0 ∈ q))).map (fun b : Nat => ((b : Int), wn.getD b 0))
theorem frs_succ (xs wn q : List Int) (n : Nat) : frs xs wn q (n + 1) = frs xs wn q n ++ if xs.getD n 0 ∈ q then [((n : Int), wn.getD n 0)] else [] := by
  unfold frs
  rw [List.range_succ, List.filter_append, List.map_append]
  congr 1
  by_cases h : xs.getD n 0 ∈ q
  · rw [if_pos h, List.filter_cons, if_pos (decide_eq_true h)]; rfl
  · rw [if_neg h, List.filter_cons, if_neg (by rw [decide_eq_false h]; decide)]; rfl
theorem below_grownO {B : Nat} {a w w' : World} {r : Option Nat} (h : Below B a w) (g : w.grownBy w' r) (hB : B ≤ w.heap.size) (hr : ∀ i, r = some i → B ≤ i) : Below B a w' :=
  ⟨g.os.trans h.os, g.tape.trans h.tape, g.output.trans h.output, Nat.le_trans h.size g.size, fun i hi => (g.block i (by omega) (fun e => by have := hr i e.symm; omega)).trans (h.block i hi)⟩
theorem frs_len (xs wn q : List Int) (n : Nat) : (frs xs wn q n).length ≤ n := by
  unfold frs
  rw [List.length_map]
  have := List.length_filter_le (fun b => decide (xs.getD b 0 ∈ q)) (List.range n)
  rw [List.length_range] at this
  exact this
def rowsW (l : List (Int × Int)) : We.Rws := l.map fun x => [.int .i64 x.1, .int .i64 x.2]
theorem rowsW_len (l : List (Int × Int)) : (rowsW l).length = l.length := by unfold rowsW; rw [List.length_map]
theorem rowsW_app (l : List (Int × Int)) (x : Int × Int) : rowsW l ++ [[.int .i64 x.1, .int .i64 x.2]] = rowsW (l ++ [x]) := by unfold rowsW; simp
theorem rowsW_ws {w : World} {B a n cap l} (h : We.Ow w B 148 2 (.slice a n cap) (rowsW l)) : We.Ws w a l.length (fun i => l.getD i (0, 0)) := by
  intro i hi
  obtain ⟨g, ha, _, hg, hc⟩ := h.at (j := i) (by rw [rowsW_len]; exact hi)
  have e : (rowsW l).getD i [] = [.int .i64 (l.getD i (0, 0)).1, .int .i64 (l.getD i (0, 0)).2] := by
    unfold rowsW
    simp [List.getD_eq_getElem?_getD, hi]
  refine ⟨g, 0, ha, hg, ?_, ?_⟩
  · have := hc 0 (by omega)
    rw [e] at this
    simpa using this
  · have := hc 1 (by omega)
    rw [e] at this
    simpa using this
/-- what the walk of Wears holds -/
structure WeS (w : World) (A : Wl) (X : Wx) (q : List Int) (qa : Option Addr) (j : Nat) (v : Value) (wr : World) : Prop where
  out : We.Ow wr w.heap.size 148 2 v (rowsW (frs X.xs X.wn q j))
  below : Below w.heap.size w wr
theorem wears_any {w : World} {A X} (h : Wtr w A X) (q : List Int) (hq : q.length ≤ 1000) (qa : Option Addr) (qc : Nat) (hqa : Rds w qa q) : Calls Tryd.prog 63 #[.pointer (some ⟨A.a, 0, none⟩), .slice qa q.length qc] w fun e w' =>
    ∃ v, e = .returned v ∧ We.Ow w' w.heap.size 148 2 v (rowsW (frs X.xs X.wn q X.C.B)) ∧ Below w.heap.size w w' := by
  obtain ⟨c0, c1, c2, c3, _⟩ := h.cells
  obtain ⟨wa, wc, hwv⟩ := h.wrn.form
  have hg := h.chip.geo
  have hwl := h.wlen
  rw [hwl] at hwv
  rw [hwv] at c2
  obtain ⟨n, hn⟩ : ∃ n, n = X.C.B := ⟨_, rfl⟩
  rw [← hn] at c2 ⊢
  have hn2 : n ≤ 32 := by omega
  have HN := Hid.mk hn
  have H := Hid.mk h
  have HW := Hid.mk hwv
  have HQ := Hid.mk (And.intro hqa hq)
  have HL := Hid.mk hwl
  obtain ⟨m, hm⟩ : ∃ m, m = q.length := ⟨_, rfl⟩
  rw [← hm]
  have HM := Hid.mk hm
  clear h hwv hqa hq hn hg hm hwl
  go_enter Tryd.func63, Tryd.ntmps63
  go_wp2_with fail
  go_loopw [5, 15] (fun v i wr => ∃ j : Nat, j ≤ n ∧ i = .int .i64 j ∧ WeS w A X q qa j v wr) (fun _ i _ => n - (intOf i).toNat)
  case atStart => exact ⟨0, Nat.zero_le _, rfl, We.Ow.nil _ _ _ _, Below.refl _ _⟩
  case round =>
    obtain ⟨j, hj, rfl, hs⟩ := hrel
    have HS := Hid.mk hs
    clear hs
    by_cases hlt : j < n
    · have hlt1 : (j : Int) < n := by omega
      have HX := Hid.mk (H.out.call HS.out.below)
      have hwr := HX.out.wrn
      rw [HW.out] at hwr
      obtain ⟨g, rfl, hgl, _, cj, _⟩ := hwr.cell (j := j) (by rw [HL.out, ← HN.out]; exact hlt)
      obtain ⟨d0, d1, d2, d3, _⟩ := HX.out.cells
      have his := Hid.mk (Lf.is_any HX.out.lif (j : Int))
      have hil : Lf.isL X.xs (j : Int) = X.xs.getD j 0 := Lf.isL_in X.xs j (by rw [HX.out.lif.ok.len, ← HN.out]; exact hlt)
      rw [hil] at his
      have hr : Rds ‹World› qa q := fun i hi => by
        obtain ⟨g, o, ha, hg, hc⟩ := HQ.out.1 i hi
        exact ⟨g, o, ha, Nat.lt_of_lt_of_le hg HS.out.below.size, (HS.out.below.cell (p := ⟨g, o + i, none⟩) hg).trans hc⟩
      have hct := Hid.mk (fun x => contains_any hr (Nat.le_trans HQ.out.2 (by decide)) qc x)
      rw [← HM.out] at hct
      have hfs := Hid.mk (frs_succ X.xs X.wn q j)
      have hfl := frs_len X.xs X.wn q j
      generalize X.xs.getD j 0 = y at *
      generalize X.wn.getD j 0 = z at *
      clear hwr hil hr
      by_cases hy : y ∈ q
      · have hyd : decide (y ∈ q) = true := decide_eq_true hy
        go_wp2_with (first
          | (go_at_call 77; refine his.out.mono ?_; rintro e w1 ⟨rfl, rfl⟩)
          | (go_at_call 76; refine (hct.out _).mono ?_; rintro e w2 ⟨rfl, rfl⟩; rw [hyd])
          | (at_builtin; refine We.wp_app ei144 rfl _ _ rfl HS.out.out HS.out.below.size #[.int .i64 j, .int .i64 z] rfl rfl rfl (by simp [Value.oneCell']) (by rw [rowsW_len]; omega) ?_; intro v3 w3 o3 g3 p3))
        refine ⟨⟨j + 1, by omega, by go_num, ?_, ?_⟩, by simp [intOf]; omega⟩
        · rw [hfs.out, if_pos hy, ← rowsW_app]
          exact o3
        · exact below_grownO HS.out.below g3 HS.out.below.size (fun i hi => (HS.out.out.lt i hi).1)
      · have hyd : decide (y ∈ q) = false := decide_eq_false hy
        go_wp2_with (first
          | (go_at_call 77; refine his.out.mono ?_; rintro e w1 ⟨rfl, rfl⟩)
          | (go_at_call 76; refine (hct.out _).mono ?_; rintro e w2 ⟨rfl, rfl⟩; rw [hyd]))
        refine ⟨⟨j + 1, by omega, by go_num, ?_, HS.out.below⟩, by simp [intOf]; omega⟩
        rw [hfs.out, if_neg hy, List.append_nil]
        exact HS.out.out
    · have hlt1 : ¬ (j : Int) < n := by omega
      have hjn : j = n := by omega
      subst hjn
      go_wp2_with fail
      go_ret
      exact ⟨_, rfl, HS.out.out, HS.out.below⟩
set_option maxRecDepth 100000

theorem lst_lt (f : Nat → Int × Int) (j : Nat) : ∀ i : Nat, (i : Int) < We.lst f j → (f (We.lst f j).toNat).2 < (f i).2 := by
  induction j with
  | zero => intro i hi; have := We.lst_range f 0; omega
  | succ j ih =>
    intro i hi
    rw [We.lst_succ] at hi ⊢
    have hr := We.lst_range f j
    by_cases hc : We.lst f j < 0 ∨ (f j).2 < (f (We.lst f j).toNat).2
    · rw [if_pos hc] at hi ⊢
      rw [Int.toNat_natCast]
      rcases hc with hc | hc
      · have : 0 < j := by omega
        have := We.lst_pos f j this
        omega
      · have := We.lst_le f j i (by omega)
        omega
    · rw [if_neg hc] at hi ⊢
      exact ih i hi
/-- the free block that was erased least often, the first of several -/
structure Pick (xs wn : List Int) (n j : Nat) : Prop where
  lt : j < n
  free : xs.getD j 0 = 0
  least : ∀ i, i < n → xs.getD i 0 = 0 → wn.getD j 0 ≤ wn.getD i 0
  first : ∀ i, i < j → xs.getD i 0 = 0 → wn.getD j 0 < wn.getD i 0
theorem frs_mem {xs wn : List Int} {n : Nat} {p : Int × Int} (h : p ∈ frs xs wn [0] n) : ∃ j : Nat, j < n ∧ xs.getD j 0 = 0 ∧ p = ((j : Int), wn.getD j 0) := by
  unfold frs at h
  obtain ⟨j, hj, rfl⟩ := List.mem_map.1 h
  obtain ⟨h1, h2⟩ := List.mem_filter.1 hj
  exact ⟨j, List.mem_range.1 h1, by simpa using h2, rfl⟩
theorem frs_in {xs wn : List Int} {n j : Nat} (hj : j < n) (hx : xs.getD j 0 = 0) : ((j : Int), wn.getD j 0) ∈ frs xs wn [0] n := by
  unfold frs
  exact List.mem_map.2 ⟨j, List.mem_filter.2 ⟨List.mem_range.2 hj, by rw [hx]; rfl⟩, rfl⟩
theorem frs_sorted (xs wn q : List Int) (n : Nat) : (frs xs wn q n).Pairwise (fun a b => a.1 < b.1) := by
  unfold frs
  rw [List.pairwise_map]
  refine (List.pairwise_lt_range.filter _).imp ?_
  intro a b h
  simpa using h
theorem frs_pick {xs wn : List Int} {n : Nat} (h : 0 < (frs xs wn [0] n).length) : 0 ≤ We.lst (fun i => (frs xs wn [0] n).getD i (0, 0)) (frs xs wn [0] n).length ∧
    ∃ j : Nat, ((frs xs wn [0] n).getD (We.lst (fun i => (frs xs wn [0] n).getD i (0, 0)) (frs xs wn [0] n).length).toNat (0, 0)).1 = (j : Int) ∧ Pick xs wn n j := by
  have hp := We.lst_pos (fun i => (frs xs wn [0] n).getD i (0, 0)) _ h
  have hr := We.lst_range (fun i => (frs xs wn [0] n).getD i (0, 0)) (frs xs wn [0] n).length
  have hle := We.lst_le (fun i => (frs xs wn [0] n).getD i (0, 0)) (frs xs wn [0] n).length
  have hlt := lst_lt (fun i => (frs xs wn [0] n).getD i (0, 0)) (frs xs wn [0] n).length
  have hso := frs_sorted xs wn [0] n
  refine ⟨hp, ?_⟩
  generalize We.lst (fun i => (frs xs wn [0] n).getD i (0, 0)) (frs xs wn [0] n).length = k at *
  obtain ⟨k, rfl⟩ := Int.eq_ofNat_of_zero_le hp
  rw [Int.toNat_natCast] at *
  have hk : k < (frs xs wn [0] n).length := by omega
  have hg : ∀ i, (hi : i < (frs xs wn [0] n).length) → (frs xs wn [0] n).getD i (0, 0) = (frs xs wn [0] n)[i] := fun i hi => by simp [List.getD_eq_getElem?_getD, hi]
  have hmem : (frs xs wn [0] n)[k] ∈ frs xs wn [0] n := List.getElem_mem hk
  obtain ⟨j, hj, hx, he⟩ := frs_mem hmem
  have hek : (frs xs wn [0] n).getD k (0, 0) = ((j : Int), wn.getD j 0) := by rw [hg k hk, he]
  refine ⟨j, by rw [hek], hj, hx, fun i hi hxi => ?_, fun i hi hxi => ?_⟩
  · obtain ⟨q, hq, hqe⟩ := List.mem_iff_getElem.1 (frs_in (wn := wn) hi hxi)
    have := hle q hq
    rw [hek, hg q hq, hqe] at this
    exact this
  · obtain ⟨q, hq, hqe⟩ := List.mem_iff_getElem.1 (frs_in (wn := wn) (show i < n by omega) hxi)
    have hqk : q < k := by
      rcases Nat.lt_trichotomy q k with h1 | h1 | h1
      · exact h1
      · subst h1; rw [he] at hqe; simp at hqe; omega
      · have := List.pairwise_iff_getElem.1 hso k q hk hq h1
        rw [he, hqe] at this
        simp at this
        omega
    have := hlt q (by omega)
    rw [hek, hg q hq, hqe] at this
    exact this
/-- no block is free -/
theorem frs_none {xs wn : List Int} {n : Nat} (h : ∀ i, i < n → xs.getD i 0 ≠ 0) : frs xs wn [0] n = [] := by
  cases e : frs xs wn [0] n with
  | nil => rfl
  | cons a l =>
    obtain ⟨j, hj, hx, _⟩ := frs_mem (show a ∈ frs xs wn [0] n by rw [e]; simp)
    exact absurd hx (h j hj)
theorem pick_or (xs wn : List Int) (n : Nat) : (∀ i, i < n → xs.getD i 0 ≠ 0) ∨ ∃ j, Pick xs wn n j := by
  by_cases h : 0 < (frs xs wn [0] n).length
  · obtain ⟨_, j, _, hj⟩ := frs_pick h
    exact .inr ⟨j, hj⟩
  · refine .inl (fun i hi hx => h ?_)
    exact List.length_pos_of_mem (frs_in (wn := wn) hi hx)
theorem Pick.unique {xs wn : List Int} {n i j : Nat} (h : Pick xs wn n i) (k : Pick xs wn n j) : i = j := by
  rcases Nat.lt_trichotomy i j with e | e | e
  · have := k.first i e h.free; have := h.least j k.lt k.free; omega
  · exact e
  · have := h.first j e k.free; have := k.least i h.lt h.free; omega

/-- a free block is opened -/
def Wx.open (X : Wx) (j : Nat) : Wx := { X with xs := X.xs.set j 1, o := j, nx := 0 }
/-- a page of the open block is taken -/
def Wx.took (X : Wx) (b : Nat) : Wx := { X with xs := Lf.tkX X.C.P X.xs b X.nx, o := Lf.tkO X.C.P b X.nx, nx := X.nx + 1 }
theorem take_open {w : World} {A X} (h : Wtr w A X) (b : Nat) (ho : X.o = b) : Calls Tryd.prog 46 #[.pointer (some ⟨A.a, 0, none⟩)] w fun e w' =>
    e = .returned (.tuple #[.int .i64 b, .int .i64 X.nx, .bool true]) ∧ Wtr w' A (X.took b) ∧ Kp (A.own X.C.B) w w' := by
  have hat := Hid.mk (Lf.at_some h.lif (by omega))
  rw [ho] at hat
  have htk := Hid.mk (fun m => Lf.take_some (h.lif.drewN m) b ho)
  obtain ⟨c0, c1, c2, c3, _⟩ := h.cells
  have H := Hid.mk h
  clear h
  go_enter Tryd.func46, Tryd.ntmps46
  go_wp2_with (first
    | (go_at_call 62; refine hat.out.mono ?_; rintro e w1 ⟨rfl, m, rfl⟩)
    | (go_at_call 66; refine (htk.out _).mono ?_; rintro e w2 ⟨rfl, hl, hk⟩))
  go_ret3
  exact ⟨rfl, (H.out.drewN _).lifTo hl hk, ((Kp.refl _ w).drewN _).trans ((H.out.drewN _).kL hk)⟩
theorem ints_lit (w : World) (x : Int) : Rds (w.alloc (.cells #[.int .i64 x] 3)) (some ⟨w.heap.size, 0, none⟩) [x] := by
  intro i hi
  obtain rfl : i = 0 := by simpa using hi
  exact ⟨_, 0, rfl, by rw [size_alloc]; omega, (Row.fresh w 3 .i64 [x]).cell 0 (by simp)⟩
theorem take_full {w : World} {A X} (h : Wtr w A X) (ho : X.o = -1) (hf : ∀ i, i < X.C.B → X.xs.getD i 0 ≠ 0) : Calls Tryd.prog 46 #[.pointer (some ⟨A.a, 0, none⟩)] w fun e w' =>
    e = .returned (.tuple #[.int .i64 0, .int .i64 0, .bool false]) ∧ Below w.heap.size w w' := by
  have hat := Hid.mk (Lf.at_none h.lif ho)
  have hb0 := (Below.refl w.heap.size w).alloc (Nat.le_refl _) (.cells #[.int .i64 0] 3)
  have hwe := wears_any (h.alloc (.cells #[.int .i64 0] 3)) [0] (by decide) _ 1 (ints_lit w 0)
  rw [frs_none hf] at hwe
  have hls := fun {w : World} {v : Value} {B : Nat} (hv : We.Ow w B 148 2 v (rowsW [])) => hv
  obtain ⟨c0, c1, c2, c3, _⟩ := h.cells
  have HW := Hid.mk hwe
  have HB := Hid.mk hb0
  clear h hwe hb0
  go_enter Tryd.func46, Tryd.ntmps46
  go_wp2_with (first
    | (go_at_call 62; refine hat.out.mono ?_; rintro e w1 ⟨rfl, rfl⟩)
    | (go_at_call 63; refine HW.out.mono ?_; rintro e w2 ⟨v, rfl, hv, b2⟩; obtain ⟨va, vc, rfl⟩ := hv.form; have hw := rowsW_ws hv)
    | (go_at_call 64; refine (We.least_any hw (by decide)).mono ?_; rintro e w3 ⟨rfl, b3⟩))
  go_ret3
  exact ⟨rfl, below3 (below3 HB.out b2) b3⟩
theorem take_pick {w : World} {A X} (h : Wtr w A X) (ho : X.o = -1) (j : Nat) (hp : Pick X.xs X.wn X.C.B j) : Calls Tryd.prog 46 #[.pointer (some ⟨A.a, 0, none⟩)] w fun e w' =>
    e = .returned (.tuple #[.int .i64 j, .int .i64 0, .bool true]) ∧ Wtr w' A ((X.open j).took j) ∧ Kp (A.own X.C.B) w w' := by
  have hat := Hid.mk (Lf.at_none h.lif ho)
  have hb0 := (Below.refl w.heap.size w).alloc (Nat.le_refl _) (.cells #[.int .i64 0] 3)
  have hwe := wears_any (h.alloc (.cells #[.int .i64 0] 3)) [0] (by decide) _ 1 (ints_lit w 0)
  have hlen : 0 < (frs X.xs X.wn [0] X.C.B).length := List.length_pos_of_mem (frs_in (wn := X.wn) hp.lt hp.free)
  obtain ⟨hl0, j', hj', hp'⟩ := frs_pick hlen
  obtain rfl := hp.unique hp'
  have hlr := We.lst_range (fun i => (frs X.xs X.wn [0] X.C.B).getD i (0, 0)) (frs X.xs X.wn [0] X.C.B).length
  have hfl := frs_len X.xs X.wn [0] X.C.B
  have hgeo := h.chip.geo
  obtain ⟨c0, c1, c2, c3, _⟩ := h.cells
  generalize hF : frs X.xs X.wn [0] X.C.B = F at *
  generalize hK : We.lst (fun i => F.getD i (0, 0)) F.length = k at *
  obtain ⟨k, rfl⟩ := Int.eq_ofNat_of_zero_le hl0
  rw [Int.toNat_natCast] at hj'
  have hkl : k < F.length := by omega
  have hkl1 : (k : Int) < (F.length : Nat) := by omega
  have HW := Hid.mk hwe
  have HB := Hid.mk hb0
  have H := Hid.mk h
  have HO := Hid.mk (And.intro ho (And.intro hp.lt hp.free))
  have HG := Hid.mk (And.intro hj' (show F.length ≤ 1000 by omega))
  have HK := Hid.mk hK
  have hk0 : ¬ (k : Int) < 0 := by omega
  clear h hwe hb0 hp hp' ho hj' hfl hgeo hlr hlen hl0 hF hK
  go_enter Tryd.func46, Tryd.ntmps46
  go_upto_region 7 with (first
    | (go_at_call 62; refine hat.out.mono ?_; rintro e w1 ⟨rfl, rfl⟩)
    | (go_at_call 63; refine HW.out.mono ?_; rintro e w2 ⟨v, rfl, hv, b2⟩; obtain ⟨va, vc, rfl⟩ := hv.form; rw [rowsW_len]; have hw := rowsW_ws hv)
    | (go_at_call 64; refine (We.least_any hw HG.out.2).mono ?_; rintro e w3 ⟨rfl, b3⟩; rw [HK.out]))
  have hw3 := hw.call b3
  obtain ⟨g, o, rfl, hg, d0, d1⟩ := hw3 k hkl
  rw [HG.out.1] at d0
  have hX := (H.out.alloc (.cells #[.int .i64 0] 3)).call b2 |>.call b3
  have HX := Hid.mk hX
  obtain ⟨e0, e1, e2, e3, _⟩ := hX.cells
  have BB := Hid.mk (below3 (below3 HB.out b2) b3)
  clear hX hw hw3 hv b2 b3 HB HW hat c0 c1 c2 c3
  go_region_with (go_at_call 65; refine (Lf.open_yes (HX.out.lif.drewN _) j HO.out.2.1 HO.out.2.2 HO.out.1).mono ?_; rintro e w4 ⟨rfl, hl4, k4⟩)
  all_goals
    have X4 := (HX.out.drewN _).lifTo hl4 k4
    have K4 := ((Kp.ofBelow BB.out).drewN _).trans ((HX.out.drewN _).kL k4)
    obtain ⟨f0, f1, f2, f3, _⟩ := X4.cells
    have htk := Hid.mk (Lf.take_some X4.lif j rfl)
    have XX := Hid.mk (And.intro X4 K4)
    clear X4 K4 hl4 k4 e0 e1 e2 e3 d0 d1
    go_wp2_with (go_at_call 66; refine htk.out.mono ?_; rintro e w5 ⟨rfl, hl5, k5⟩)
    go_ret3
    exact ⟨rfl, XX.out.1.lifTo hl5 k5, XX.out.2.trans (XX.out.1.kL k5)⟩
end Go.Proofs.YtbhggcleijjofaaDoor
