/-
  Which free block is opened; the walk of take. No condition.
-/
import Derived.Test.YtbcnocbdifbocaaDoorFre
namespace Go.Proofs.YtbcnocbdifbocaaDoor
open Go Go.RowKit
set_option maxRecDepth 100000

theorem lst_lt (f : Nat → Int × Int) (j : Nat) : ∀ i : Nat, (i : Int) < We.lst f j → (f (We.lst f j).toNat).2 < (f i).2 := by
  induction j with
  | zero => intro i hi; have := We.lst_range f 0; omega
  | succ j ih =>
    intro i hi
    rw [We.lst_succ] at hi ⊢
    have hr := We.lst_range f j
    by_cases hc : We.lst f j < 0 ∨ (f j).2 < (f (We.lst f j).toNat).2
    · rw [if_pos hc] at hi ⊢
      rw [Int.toNat_natCast]
      rcases hc with hc | hc
      · have : 0 < j := by omega
        have := We.lst_pos f j this
        omega
      · have := We.lst_le f j i (by omega)
        omega
    · rw [if_neg hc] at hi ⊢
      exact ih i hi
/-- the free block that was erased least often, the first of several -/
structure Pick (xs wn : List Int) (n j : Nat) : Prop where
  lt : j < n
  free : xs.getD j 0 = 0
  least : ∀ i, i < n → xs.getD i 0 = 0 → wn.getD j 0 ≤ wn.getD i 0
  first : ∀ i, i < j → xs.getD i 0 = 0 → wn.getD j 0 < wn.getD i 0
theorem frs_mem {xs wn : List Int} {n : Nat} {p : Int × Int} (h : p ∈ frs xs wn [0] n) : ∃ j : Nat, j < n ∧ xs.getD j 0 = 0 ∧ p = ((j : Int), wn.getD j 0) := by
  unfold frs at h
  obtain ⟨j, hj, rfl⟩ := List.mem_map.1 h
  obtain ⟨h1, h2⟩ := List.mem_filter.1 hj
  exact ⟨j, List.mem_range.1 h1, by simpa using h2, rfl⟩
theorem frs_in {xs wn : List Int} {n j : Nat} (hj : j < n) (hx : xs.getD j 0 = 0) : ((j : Int), wn.getD j 0) ∈ frs xs wn [0] n := by
  unfold frs
  exact List.mem_map.2 ⟨j, List.mem_filter.2 ⟨List.mem_range.2 hj, by rw [hx]; rfl⟩, rfl⟩
theorem frs_sorted (xs wn q : List Int) (n : Nat) : (frs xs wn q n).Pairwise (fun a b => a.1 < b.1) := by
  unfold frs
  rw [List.pairwise_map]
  refine (List.pairwise_lt_range.filter _).imp ?_
  intro a b h
  simpa using h
theorem frs_pick {xs wn : List Int} {n : Nat} (h : 0 < (frs xs wn [0] n).length) : 0 ≤ We.lst (fun i => (frs xs wn [0] n).getD i (0, 0)) (frs xs wn [0] n).length ∧
    ∃ j : Nat, ((frs xs wn [0] n).getD (We.lst (fun i => (frs xs wn [0] n).getD i (0, 0)) (frs xs wn [0] n).length).toNat (0, 0)).1 = (j : Int) ∧ Pick xs wn n j := by
  have hp := We.lst_pos (fun i => (frs xs wn [0] n).getD i (0, 0)) _ h
  have hr := We.lst_range (fun i => (frs xs wn [0] n).getD i (0, 0)) (frs xs wn [0] n).length
  have hle := We.lst_le (fun i => (frs xs wn [0] n).getD i (0, 0)) (frs xs wn [0] n).length
  have hlt := lst_lt (fun i => (frs xs wn [0] n).getD i (0, 0)) (frs xs wn [0] n).length
  have hso := frs_sorted xs wn [0] n
  refine ⟨hp, ?_⟩
  generalize We.lst (fun i => (frs xs wn [0] n).getD i (0, 0)) (frs xs wn [0] n).length = k at *
  obtain ⟨k, rfl⟩ := Int.eq_ofNat_of_zero_le hp
  rw [Int.toNat_natCast] at *
  have hk : k < (frs xs wn [0] n).length := by omega
  have hg : ∀ i, (hi : i < (frs xs wn [0] n).length) → (frs xs wn [0] n).getD i (0, 0) = (frs xs wn [0] n)[i] := fun i hi => by simp [List.getD_eq_getElem?_getD, hi]
  have hmem : (frs xs wn [0] n)[k] ∈ frs xs wn [0] n := List.getElem_mem hk
  obtain ⟨j, hj, hx, he⟩ := frs_mem hmem
  have hek : (frs xs wn [0] n).getD k (0, 0) = ((j : Int), wn.getD j 0) := by rw [hg k hk, he]
  refine ⟨j, by rw [hek], hj, hx, fun i hi hxi => ?_, fun i hi hxi => ?_⟩
  · obtain ⟨q, hq, hqe⟩ := List.mem_iff_getElem.1 (frs_in (wn := wn) hi hxi)
    have := hle q hq
    rw [hek, hg q hq, hqe] at this
    exact this
  · obtain ⟨q, hq, hqe⟩ := List.mem_iff_getElem.1 (frs_in (wn := wn) (show i < n by omega) hxi)
    have hqk : q < k := by
      rcases Nat.lt_trichotomy q k with h1 | h1 | h1
      · exact h1
      · subst h1; rw [he] at hqe; simp at hqe; omega
      · have := List.pairwise_iff_getElem.1 hso k q hk hq h1
        rw [he, hqe] at this
        simp at this
        omega
    have := hlt q (by omega)
    rw [hek, hg q hq, hqe] at this
    exact this
/-- no block is free -/
theorem frs_none {xs wn : List Int} {n : Nat} (h : ∀ i, i < n → xs.getD i 0 ≠ 0) : frs xs wn [0] n = [] := by
  cases e : frs xs wn [0] n with
  | nil => rfl
  | cons a l =>
    obtain ⟨j, hj, hx, _⟩ := frs_mem (show a ∈ frs xs wn [0] n by rw [e]; simp)
    exact absurd hx (h j hj)
theorem pick_or (xs wn : List Int) (n : Nat) : (∀ i, i < n → xs.getD i 0 ≠ 0) ∨ ∃ j, Pick xs wn n j := by
  by_cases h : 0 < (frs xs wn [0] n).length
  · obtain ⟨_, j, _, hj⟩ := frs_pick h
    exact .inr ⟨j, hj⟩
  · refine .inl (fun i hi hx => h ?_)
    exact List.length_pos_of_mem (frs_in (wn := wn) hi hx)
theorem Pick.unique {xs wn : List Int} {n i j : Nat} (h : Pick xs wn n i) (k : Pick xs wn n j) : i = j := by
  rcases Nat.lt_trichotomy i j with e | e | e
  · have := k.first i e h.free; have := h.least j k.lt k.free; omega
  · exact e
  · have := h.first j e k.free; have := k.least i h.lt h.free; omega

/-- a free block is opened -/
def Wx.open (X : Wx) (j : Nat) : Wx := { X with xs := X.xs.set j 1, o := j, nx := 0 }
/-- a page of the open block is taken -/
def Wx.took (X : Wx) (b : Nat) : Wx := { X with xs := Lf.tkX X.C.P X.xs b X.nx, o := Lf.tkO X.C.P b X.nx, nx := X.nx + 1 }
theorem take_open {w : World} {A X} (h : Wtr w A X) (b : Nat) (ho : X.o = b) : Calls Tryd.prog 39 #[.pointer (some ⟨A.a, 0, none⟩)] w fun e w' =>
    e = .returned (.tuple #[.int .i64 b, .int .i64 X.nx, .bool true]) ∧ Wtr w' A (X.took b) ∧ Kp (A.own X.C.B) w w' := by
  have hat := Hid.mk (Lf.at_some h.lif (by omega))
  rw [ho] at hat
  have htk := Hid.mk (fun m => Lf.take_some (h.lif.drewN m) b ho)
  obtain ⟨c0, c1, c2, c3, _⟩ := h.cells
  have H := Hid.mk h
  clear h
  go_enter Tryd.func39, Tryd.ntmps39
  go_wp2_with (first
    | (go_at_call 16; refine hat.out.mono ?_; rintro e w1 ⟨rfl, m, rfl⟩)
    | (go_at_call 65; refine (htk.out _).mono ?_; rintro e w2 ⟨rfl, hl, hk⟩))
  go_ret3
  exact ⟨rfl, (H.out.drewN _).lifTo hl hk, ((Kp.refl _ w).drewN _).trans ((H.out.drewN _).kL hk)⟩
theorem ints_lit (w : World) (x : Int) : Rds (w.alloc (.cells #[.int .i64 x] 3)) (some ⟨w.heap.size, 0, none⟩) [x] := by
  intro i hi
  obtain rfl : i = 0 := by simpa using hi
  exact ⟨_, 0, rfl, by rw [size_alloc]; omega, (Row.fresh w 3 .i64 [x]).cell 0 (by simp)⟩
theorem take_full {w : World} {A X} (h : Wtr w A X) (ho : X.o = -1) (hf : ∀ i, i < X.C.B → X.xs.getD i 0 ≠ 0) : Calls Tryd.prog 39 #[.pointer (some ⟨A.a, 0, none⟩)] w fun e w' =>
    e = .returned (.tuple #[.int .i64 0, .int .i64 0, .bool false]) ∧ Below w.heap.size w w' := by
  have hat := Hid.mk (Lf.at_none h.lif ho)
  have hb0 := (Below.refl w.heap.size w).alloc (Nat.le_refl _) (.cells #[.int .i64 0] 3)
  have hwe := wears_any (h.alloc (.cells #[.int .i64 0] 3)) [0] (by decide) _ 1 (ints_lit w 0)
  rw [frs_none hf] at hwe
  have hls := fun {w : World} {v : Value} {B : Nat} (hv : We.Ow w B 98 2 v (rowsW [])) => hv
  obtain ⟨c0, c1, c2, c3, _⟩ := h.cells
  have HW := Hid.mk hwe
  have HB := Hid.mk hb0
  clear h hwe hb0
  go_enter Tryd.func39, Tryd.ntmps39
  go_wp2_with (first
    | (go_at_call 16; refine hat.out.mono ?_; rintro e w1 ⟨rfl, rfl⟩)
    | (go_at_call 29; refine HW.out.mono ?_; rintro e w2 ⟨v, rfl, hv, b2⟩; obtain ⟨va, vc, rfl⟩ := hv.form; have hw := rowsW_ws hv)
    | (go_at_call 63; refine (We.least_any hw (by decide)).mono ?_; rintro e w3 ⟨rfl, b3⟩))
  go_ret3
  exact ⟨rfl, below3 (below3 HB.out b2) b3⟩
theorem take_pick {w : World} {A X} (h : Wtr w A X) (ho : X.o = -1) (j : Nat) (hp : Pick X.xs X.wn X.C.B j) : Calls Tryd.prog 39 #[.pointer (some ⟨A.a, 0, none⟩)] w fun e w' =>
    e = .returned (.tuple #[.int .i64 j, .int .i64 0, .bool true]) ∧ Wtr w' A ((X.open j).took j) ∧ Kp (A.own X.C.B) w w' := by
  have hat := Hid.mk (Lf.at_none h.lif ho)
  have hb0 := (Below.refl w.heap.size w).alloc (Nat.le_refl _) (.cells #[.int .i64 0] 3)
  have hwe := wears_any (h.alloc (.cells #[.int .i64 0] 3)) [0] (by decide) _ 1 (ints_lit w 0)
  have hlen : 0 < (frs X.xs X.wn [0] X.C.B).length := List.length_pos_of_mem (frs_in (wn := X.wn) hp.lt hp.free)
  obtain ⟨hl0, j', hj', hp'⟩ := frs_pick hlen
  obtain rfl := hp.unique hp'
  have hlr := We.lst_range (fun i => (frs X.xs X.wn [0] X.C.B).getD i (0, 0)) (frs X.xs X.wn [0] X.C.B).length
  have hfl := frs_len X.xs X.wn [0] X.C.B
  have hgeo := h.chip.geo
  obtain ⟨c0, c1, c2, c3, _⟩ := h.cells
  generalize hF : frs X.xs X.wn [0] X.C.B = F at *
  generalize hK : We.lst (fun i => F.getD i (0, 0)) F.length = k at *
  obtain ⟨k, rfl⟩ := Int.eq_ofNat_of_zero_le hl0
  rw [Int.toNat_natCast] at hj'
  have hkl : k < F.length := by omega
  have hkl1 : (k : Int) < (F.length : Nat) := by omega
  have HW := Hid.mk hwe
  have HB := Hid.mk hb0
  have H := Hid.mk h
  have HO := Hid.mk (And.intro ho (And.intro hp.lt hp.free))
  have HG := Hid.mk (And.intro hj' (show F.length ≤ 1000 by omega))
  have HK := Hid.mk hK
  have hk0 : ¬ (k : Int) < 0 := by omega
  clear h hwe hb0 hp hp' ho hj' hfl hgeo hlr hlen hl0 hF hK
  go_enter Tryd.func39, Tryd.ntmps39
  go_upto_region 7 with (first
    | (go_at_call 16; refine hat.out.mono ?_; rintro e w1 ⟨rfl, rfl⟩)
    | (go_at_call 29; refine HW.out.mono ?_; rintro e w2 ⟨v, rfl, hv, b2⟩; obtain ⟨va, vc, rfl⟩ := hv.form; rw [rowsW_len]; have hw := rowsW_ws hv)
    | (go_at_call 63; refine (We.least_any hw HG.out.2).mono ?_; rintro e w3 ⟨rfl, b3⟩; rw [HK.out]))
  have hw3 := hw.call b3
  obtain ⟨g, o, rfl, hg, d0, d1⟩ := hw3 k hkl
  rw [HG.out.1] at d0
  have hX := (H.out.alloc (.cells #[.int .i64 0] 3)).call b2 |>.call b3
  have HX := Hid.mk hX
  obtain ⟨e0, e1, e2, e3, _⟩ := hX.cells
  have BB := Hid.mk (below3 (below3 HB.out b2) b3)
  clear hX hw hw3 hv b2 b3 HB HW hat c0 c1 c2 c3
  go_region_with (go_at_call 64; refine (Lf.open_yes (HX.out.lif.drewN _) j HO.out.2.1 HO.out.2.2 HO.out.1).mono ?_; rintro e w4 ⟨rfl, hl4, k4⟩)
  all_goals
    have X4 := (HX.out.drewN _).lifTo hl4 k4
    have K4 := ((Kp.ofBelow BB.out).drewN _).trans ((HX.out.drewN _).kL k4)
    obtain ⟨f0, f1, f2, f3, _⟩ := X4.cells
    have htk := Hid.mk (Lf.take_some X4.lif j rfl)
    have XX := Hid.mk (And.intro X4 K4)
    clear X4 K4 hl4 k4 e0 e1 e2 e3 d0 d1
    go_wp2_with (go_at_call 65; refine htk.out.mono ?_; rintro e w5 ⟨rfl, hl5, k5⟩)
    go_ret3
    exact ⟨rfl, XX.out.1.lifTo hl5 k5, XX.out.2.trans (XX.out.1.kL k5)⟩
end Go.Proofs.YtbcnocbdifbocaaDoor
