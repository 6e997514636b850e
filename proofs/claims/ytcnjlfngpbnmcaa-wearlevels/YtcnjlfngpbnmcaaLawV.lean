/-
  The walk of the law WearLevels. No condition.
-/
import Derived.Test.YtcnjlfngpbnmcaaLawL
namespace Go.Proofs.Ytcnjlfngpbnmcaa
open Go Go.RowKit

/-- a row of numbers, two by two -/
def tw (xs : List Int) (i : Nat) : Int × Int := (xs.getD (i * 2) 0, xs.getD (i * 2 + 1) 0)
theorem tw_ws {w : World} {g n : Nat} {xs : List Int} (h : Row w g 25 .i64 xs) (hl : xs.length = n * 2) : Ws w (some ⟨g, 0, none⟩) n (tw xs) := by
  intro i hi
  refine ⟨g, 0, rfl, h.lt, ?_, ?_⟩
  · rw [Nat.zero_add]; exact h.cell (i * 2) (by omega)
  · rw [Nat.zero_add]; exact h.cell (i * 2 + 1) (by omega)
theorem getD_set (xs : List Int) (i j : Nat) (v : Int) (h : j < xs.length) : (xs.set j v).getD i 0 = if i = j then v else xs.getD i 0 := by
  rw [List.getD_eq_getElem?_getD, List.getD_eq_getElem?_getD, List.getElem?_set]
  by_cases e : j = i
  · subst e; simp [h]
  · rw [if_neg e, if_neg (fun x => e x.symm)]
theorem tw_block (xs : List Int) (j i : Nat) (v : Int) (h : j * 2 < xs.length) : (tw (xs.set (j * 2) v) i).2 = (tw xs i).2 := by
  show (xs.set (j * 2) v).getD (i * 2 + 1) 0 = _
  rw [getD_set xs _ _ v h, if_neg (by omega)]
  rfl
theorem tw_count (xs : List Int) (j i : Nat) (v : Int) (h : j * 2 + 1 < xs.length) : (tw (xs.set (j * 2 + 1) v) i).2 = if i = j then v else (tw xs i).2 := by
  show (xs.set (j * 2 + 1) v).getD (i * 2 + 1) 0 = _
  rw [getD_set xs _ _ v h]
  by_cases e : i = j
  · rw [if_pos (by omega), if_pos e]
  · rw [if_neg (by omega), if_neg e]; rfl
/-- all counts are apart by one at most, and so often one was taken -/
def Lv (n : Nat) (xs : List Int) (j : Nat) : Prop := ∃ c : Int, 0 ≤ c ∧ ∀ i, i < n → (c ≤ (tw xs i).2 ∧ (tw xs i).2 ≤ c + 1) ∧ (tw xs i).2 ≤ j
theorem Lv.next {n : Nat} {xs : List Int} {j m : Nat} (h : Lv n xs j) (hl : xs.length = n * 2) (hm : m < n) (hmin : ∀ i, i < n → (tw xs m).2 ≤ (tw xs i).2) : Lv n (xs.set (m * 2 + 1) ((tw xs m).2 + 1)) (j + 1) := by
  obtain ⟨c, hc, h⟩ := h
  have hM := h m hm
  by_cases e : (tw xs m).2 = c
  · refine ⟨c, hc, fun i hi => ?_⟩
    rw [tw_count xs m i _ (by omega)]
    have := h i hi
    split <;> omega
  · refine ⟨c + 1, by omega, fun i hi => ?_⟩
    rw [tw_count xs m i _ (by omega)]
    have := h i hi
    have := hmin i hi
    split <;> omega
theorem Lv.spread {n : Nat} {xs : List Int} {j : Nat} (h : Lv n xs j) (h0 : 0 < n) : spr (tw xs) n ≤ 1 ∧ 0 ≤ spr (tw xs) n := by
  obtain ⟨c, hc, h⟩ := h
  unfold spr
  rw [if_neg (by omega)]
  have h1 := lst_pos (tw xs) n h0
  have h2 := lst_range (tw xs) n
  have h3 := h (lst (tw xs) n).toNat (by omega)
  have h4 := (grt_ge (tw xs) (tw xs 0).2 n).2 (lst (tw xs) n).toNat (by omega)
  rcases grt_one (tw xs) (tw xs 0).2 n with e | ⟨i, hi, e⟩
  · rw [e] at h4 ⊢; have := h 0 h0; omega
  · rw [e] at h4 ⊢; have := h i hi; omega
theorem madeRow (n : Nat) : madeCells #[.int .i64 0, .int .i64 0] n = cellsOf .i64 (List.replicate n 0) := by
  unfold madeCells cellsOf
  apply Array.ext
  · simp
  · intro i h1 h2
    have : i % 2 = 0 ∨ i % 2 = 1 := by omega
    rcases this with h | h <;> simp [h]
theorem Try.info25 : (Try.prog.info? 25).map (fun i => (i.zero, i.size, i.bytes)) = some (some (.agg #[.int .i64 0, .int .i64 0]), 2, 16) := by kernel_rfl
theorem run_make_wears (n : Nat) (hn : n ≤ 1000) (w : World) : (Instr.makeSlice 22 (.int .i64 n) (.int .i64 n)).run Try.prog w = .ok (.slice (some ⟨w.heap.size, 0, none⟩) n n) (w.alloc (.cells (cellsOf .i64 (List.replicate (n * 2) 0)) 25)) := by
  obtain ⟨i, hi, hzz⟩ := Option.map_eq_some_iff.1 Try.info25
  simp only [Prod.mk.injEq] at hzz
  obtain ⟨hz, hs, hb⟩ := hzz
  have hr := run_make (P := Try.prog) w 22 25 i (.agg #[.int .i64 0, .int .i64 0]) Try.underlying22 hi hz .i64 .i64 n n (by omega) (Int.le_refl _) (by rw [hb]; omega) (by omega)
  rw [hs, Int.toNat_natCast] at hr
  rw [← madeRow]
  exact hr
/-- what the law holds of its row -/
structure Vw (w : World) (n : Nat) (xs : List Int) (wr : World) : Prop where
  row : Row wr w.heap.size 25 .i64 xs
  len : xs.length = n * 2
  below : Below w.heap.size w wr
theorem Vw.call {w : World} {n xs} {wr w' : World} (h : Vw w n xs wr) (b : Below wr.heap.size wr w') : Vw w n xs w' := ⟨h.row.call b, h.len, below3 h.below b⟩
theorem Vw.set {w : World} {n xs} {wr : World} (h : Vw w n xs wr) (j : Nat) (v : Int) : Vw w n (xs.set j v) (wr.setCell ⟨w.heap.size, j, none⟩ (.int .i64 v)) :=
  ⟨h.row.stored j v, by simpa using h.len, h.below.setCell (Nat.le_refl _) _⟩
set_option maxRecDepth 20000 in
theorem wearLevels_any (x0 x1 : Int) (w : World) : Calls Try.prog 5 #[.int .i64 x0, .int .i64 x1] w fun e w' => e = .returned (.bool true) ∧ Below w.heap.size w w' := by
  obtain ⟨b, hb, hb1⟩ := low x0 15 (by omega)
  obtain ⟨t, ht, ht1⟩ := low x1 255 (by omega)
  simp only [Int.cast_ofNat_Int] at hb ht
  obtain ⟨n, hn⟩ : ∃ n : Nat, 1 + (b : Int) = n := ⟨1 + b, by omega⟩
  have hn1 : 1 ≤ n ∧ n ≤ 16 := by omega
  have hwr : IntKind.i64.wrap (1 + (b : Int)) = n := by rw [hn]; exact wrap_small n (by omega)
  have hmk := run_make_wears n (by omega)
  go_enter Try.func5, Try.ntmps5
  go_upto_region 3 with fail
  clear hmk hwr hn hb hb1
  have v0 : Vw w n (List.replicate (n * 2) 0) (w.alloc (.cells (cellsOf .i64 (List.replicate (n * 2) 0)) 25)) := ⟨Row.fresh w 25 .i64 _, by simp, (Below.refl _ w).alloc (Nat.le_refl _) _⟩
  have z0 : ∀ i, i < n → (tw (List.replicate (n * 2) 0) i).2 = 0 := fun i hi => by
    show (List.replicate (n * 2) (0 : Int)).getD (i * 2 + 1) 0 = 0
    have : i * 2 + 1 < n * 2 := by omega
    simp [List.getD_eq_getElem?_getD, this]
  generalize w.alloc (.cells (cellsOf .i64 (List.replicate (n * 2) 0)) 25) = W at *
  generalize List.replicate (n * 2) (0 : Int) = xs0 at *
  have HV := Hid.mk (And.intro v0 z0)
  clear v0 z0
  go_loopw [6] (fun i wr => ∃ (j : Nat) (xs : List Int), j ≤ n ∧ i = .int .i64 j ∧ (∀ i, i < n → (tw xs i).2 = 0) ∧ Vw w n xs wr) (fun i _ => n - (intOf i).toNat)
  case atStart => exact ⟨0, xs0, Nat.zero_le _, rfl, HV.out.2, HV.out.1⟩
  case round =>
    clear HV
    obtain ⟨j, xs, hj, rfl, hz, hv⟩ := hrel
    by_cases hlt : j < n
    · have hlt1 : (j : Int) < n := by omega
      have hjl : j * 2 < xs.length := by rw [hv.len]; omega
      have c0 := hv.row.cell (j * 2) hjl
      have f0 := hv.row.frozen (j * 2)
      generalize xs.getD (j * 2) 0 = y at *
      have HV := Hid.mk (And.intro hv (And.intro hz hjl))
      clear hv hz hjl
      go_wp2_with fail
      exact ⟨⟨j + 1, xs.set (j * 2) j, by omega, by go_num, fun i hi => by rw [tw_block xs j i _ HV.out.2.2]; exact HV.out.2.1 i hi, HV.out.1.set (j * 2) j⟩, by simp [intOf]; omega⟩
    · have hlt1 : ¬ (j : Int) < n := by omega
      have hl0 : Lv n xs 0 := ⟨0, Int.le_refl _, fun i hi => by rw [hz i hi]; omega⟩
      have HV := Hid.mk (And.intro hv hl0)
      clear hv hl0 hz
      go_upto_region 7 with fail
      go_loopw [7] (fun i wr => ∃ (q : Nat) (xs : List Int), q ≤ t ∧ i = .int .i64 q ∧ Lv n xs q ∧ Vw w n xs wr) (fun i _ => t - (intOf i).toNat)
      case atStart => exact ⟨0, xs, Nat.zero_le _, rfl, HV.out.2, HV.out.1⟩
      case round =>
        clear HV
        clear xs
        obtain ⟨q, xs, hq, rfl, hl, hv⟩ := hrel
        by_cases hqt : q < t
        · have hqt1 : (q : Int) < t := by omega
          have hL := least_any (cap := n) (tw_ws hv.row hv.len) (by omega)
          have hp := lst_pos (tw xs) n (by omega)
          have hrg := lst_range (tw xs) n
          have hmin := lst_le (tw xs) n
          obtain ⟨m, hm⟩ : ∃ m : Nat, lst (tw xs) n = m := ⟨(lst (tw xs) n).toNat, by omega⟩
          rw [hm, Int.toNat_natCast] at hmin
          rw [hm] at hL hrg
          have hmn : m < n := by omega
          have hmn1 : (m : Int) < n := by omega
          have hnx := hl.next hv.len hmn hmin
          have hb : 0 ≤ (tw xs m).2 ∧ (tw xs m).2 ≤ q := by
            obtain ⟨c, hc, h⟩ := hl
            have := h m hmn
            omega
          have hml : m * 2 + 1 < xs.length := by rw [hv.len]; omega
          clear hp hrg hm hmin hl
          have HV := Hid.mk (And.intro hv (And.intro hL (And.intro hnx hml)))
          clear hv hL hnx hml
          go_upto_region 12 with (go_at_call 8; refine HV.out.2.1.mono ?_; rintro e w2 ⟨rfl, b2⟩)
          have hv2 := HV.out.1.call b2
          have hnx := HV.out.2.2.1
          have c0 := hv2.row.cell (m * 2 + 1) HV.out.2.2.2
          have f0 := hv2.row.frozen (m * 2 + 1)
          change w2.cell? ⟨w.heap.size, m * 2 + 1, none⟩ = some (Value.int .i64 (tw xs m).2) at c0
          clear b2 HV
          generalize (tw xs m).2 = M at *
          have HV := Hid.mk (And.intro (hv2.set (m * 2 + 1) (M + 1)) hnx)
          clear hv2 hnx
          go_upto_region 13 with fail
          generalize w2.setCell ⟨w.heap.size, m * 2 + 1, none⟩ (.int .i64 (M + 1)) = W2 at *
          generalize xs.set (m * 2 + 1) (M + 1) = ys at *
          have hS := spread_any (cap := n) (tw_ws HV.out.1.row HV.out.1.len) (by omega) (fun i hi => by
            obtain ⟨c, hc, h⟩ := HV.out.2
            have := h i hi
            omega)
          obtain ⟨s1, s0⟩ := HV.out.2.spread (by omega)
          replace hS := Hid.mk hS
          generalize spr (tw ys) n = s at *
          clear c0 f0
          go_wp2_with (first | (go_at_call 9; refine hS.out.mono ?_; rintro e w3 ⟨rfl, b3⟩))
          exact ⟨⟨q + 1, ys, by omega, by go_num, HV.out.2, HV.out.1.call b3⟩, by simp [intOf]; omega⟩
        · have hqt1 : ¬ (q : Int) < t := by omega
          have HV := Hid.mk hv
          clear hv hl
          go_wp2_with (first | (go_at_call 7; refine (awake_any _).mono ?_; rintro e w3 ⟨rfl, b3⟩))
          go_ret
          exact ⟨rfl, (HV.out.call b3).below⟩
end Go.Proofs.Ytcnjlfngpbnmcaa
