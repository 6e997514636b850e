/-
  The answer's numbers of four parts: times, most.
-/
import Derived.Test.YtdolilgkjknckaaDoorFirst
namespace Go.Proofs.YtdolilgkjknckaaDoor.Sh
open Go Go.RowKit

/-- parts below 2 to the power of 32 -/
def Small (l : List Int) : Prop := ∀ j, 0 ≤ l.getD j 0 ∧ l.getD j 0 < 4294967296
theorem Small.set {l : List Int} (h : Small l) (j : Nat) (x : Int) (h0 : 0 ≤ x) (h1 : x < 4294967296) : Small (l.set j x) := by
  intro i
  by_cases e : j = i
  · subst e
    by_cases hj : j < l.length
    · rw [List.getD_eq_getElem?_getD, List.getElem?_set_self hj]
      exact ⟨h0, h1⟩
    · rw [List.set_eq_of_length_le (by omega)]
      exact h j
  · rw [List.getD_eq_getElem?_getD, List.getElem?_set_ne e, ← List.getD_eq_getElem?_getD]
    exact h i
theorem Small.zeros (n : Nat) : Small (List.replicate n 0) := by
  intro j
  by_cases h : j < n
  · simp [List.getD_eq_getElem?_getD, h]
  · simp [List.getD_eq_getElem?_getD, h]
theorem part_bd (o x y v : Int) (o0 : 0 ≤ o) (o1 : o < 4294967296) (x0 : 0 ≤ x) (x1 : x < 4294967296) (y0 : 0 ≤ y) (y1 : y < 4294967296) (v0 : 0 ≤ v) (v1 : v < 4294967296) :
    0 ≤ x * y ∧ x * y ≤ 18446744065119617025 ∧ 0 ≤ o + x * y + v ∧ o + x * y + v ≤ 18446744073709551615 := by
  have h1 : x * y ≤ 4294967295 * 4294967295 := Int.mul_le_mul (by omega) (by omega) y0 (by omega)
  have h2 : 0 ≤ x * y := Int.mul_nonneg x0 y0
  omega
/-- a row of the product, as far as k -/
def tIn (a b : List Int) (i : Nat) (o : List Int) : Nat → List Int × Int
  | 0 => (o, 0)
  | k + 1 => (((tIn a b i o k).1.set (i + k) (((tIn a b i o k).1.getD (i + k) 0 + a.getD i 0 * b.getD k 0 + (tIn a b i o k).2) % 4294967296)),
      ((tIn a b i o k).1.getD (i + k) 0 + a.getD i 0 * b.getD k 0 + (tIn a b i o k).2) / 4294967296)
theorem tIn_succ (a b : List Int) (i : Nat) (o : List Int) (k : Nat) : tIn a b i o (k + 1) = (((tIn a b i o k).1.set (i + k) (((tIn a b i o k).1.getD (i + k) 0 + a.getD i 0 * b.getD k 0 + (tIn a b i o k).2) % 4294967296)),
      ((tIn a b i o k).1.getD (i + k) 0 + a.getD i 0 * b.getD k 0 + (tIn a b i o k).2) / 4294967296) := rfl
theorem tIn_small (a b : List Int) (i : Nat) (o : List Int) (ha : Small a) (hb : Small b) (ho : Small o) (k : Nat) : Small (tIn a b i o k).1 ∧ 0 ≤ (tIn a b i o k).2 ∧ (tIn a b i o k).2 < 4294967296 := by
  induction k with
  | zero => exact ⟨ho, Int.le_refl 0, (by decide : (0 : Int) < 4294967296)⟩
  | succ k ih =>
    obtain ⟨h1, h2, h3⟩ := ih
    obtain ⟨p1, p2, p3, p4⟩ := part_bd _ _ _ _ (h1 (i + k)).1 (h1 (i + k)).2 (ha i).1 (ha i).2 (hb k).1 (hb k).2 h2 h3
    rw [tIn]
    refine ⟨h1.set _ _ (by omega) (by omega), ?_, ?_⟩
    · show 0 ≤ _ / _
      omega
    · show _ / _ < _
      omega
def tOut (a b : List Int) : Nat → List Int
  | 0 => List.replicate 4 0
  | i + 1 => (tIn a b i (tOut a b i) (4 - i)).1
@[irreducible] def timesL (a b : List Int) : List Int := tOut a b 4
theorem tIn_length (a b : List Int) (i : Nat) (o : List Int) (k : Nat) : (tIn a b i o k).1.length = o.length := by
  induction k with
  | zero => rfl
  | succ k ih => rw [tIn, List.length_set, ih]
theorem tOut_length (a b : List Int) (i : Nat) : (tOut a b i).length = 4 := by
  induction i with
  | zero => rfl
  | succ i ih => rw [tOut, tIn_length, ih]
theorem tOut_small (a b : List Int) (ha : Small a) (hb : Small b) (i : Nat) : Small (tOut a b i) := by
  induction i with
  | zero => exact Small.zeros 4
  | succ i ih => exact (tIn_small a b i _ ha hb ih _).1
theorem timesL_eq (a b : List Int) : timesL a b = tOut a b 4 := by unfold timesL; rfl
theorem timesL_length (a b : List Int) : (timesL a b).length = 4 := by rw [timesL_eq, tOut_length]
theorem timesL_small (a b : List Int) (ha : Small a) (hb : Small b) : Small (timesL a b) := by rw [timesL_eq]; exact tOut_small a b ha hb 4
theorem info91 : (Tryd.prog.info? 91).map (·.size) = some 4 := by kernel_rfl

theorem times_any (a b : List Int) (ha : a.length = 4) (hb : b.length = 4) (sa : Small a) (sb : Small b) (w : World) :
    Calls Tryd.prog 63 #[.agg (cellsOf .u64 a), .agg (cellsOf .u64 b)] w fun e w' => e = .returned (.agg (cellsOf .u64 (timesL a b))) ∧ Below w.heap.size w w' := by
  generalize hR : timesL a b = R
  have HR := Hid.mk hR
  clear hR
  go_enter Tryd.func63, Tryd.ntmps63
  go_wp2_with fail
  have s0 : Row ((((w.alloc (.cells (cellsOf .u64 a) 91)).alloc (.cells (cellsOf .u64 b) 91)).alloc (.cells (cellsOf .u64 (List.replicate 4 0)) 91)).alloc (.cells (cellsOf .u64 (List.replicate 4 0)) 91)) w.heap.size 91 .u64 a := (((Row.fresh w 91 .u64 a).alloc _).alloc _).alloc _
  have s1 : Row ((((w.alloc (.cells (cellsOf .u64 a) 91)).alloc (.cells (cellsOf .u64 b) 91)).alloc (.cells (cellsOf .u64 (List.replicate 4 0)) 91)).alloc (.cells (cellsOf .u64 (List.replicate 4 0)) 91)) (w.heap.size + 1) 91 .u64 b := ((Row.fresh1 w _ 91 .u64 b).alloc _).alloc _
  have s2 : Row ((((w.alloc (.cells (cellsOf .u64 a) 91)).alloc (.cells (cellsOf .u64 b) 91)).alloc (.cells (cellsOf .u64 (List.replicate 4 0)) 91)).alloc (.cells (cellsOf .u64 (List.replicate 4 0)) 91)) (w.heap.size + 1 + 1) 91 .u64 (List.replicate 4 0) := (Row.fresh2 w _ _ 91 .u64 _).alloc _
  have s3 : Row ((((w.alloc (.cells (cellsOf .u64 a) 91)).alloc (.cells (cellsOf .u64 b) 91)).alloc (.cells (cellsOf .u64 (List.replicate 4 0)) 91)).alloc (.cells (cellsOf .u64 (List.replicate 4 0)) 91)) (w.heap.size + 1 + 1 + 1) 91 .u64 (List.replicate 4 0) := by
    have h := Row.fresh2 (w.alloc (.cells (cellsOf .u64 a) 91)) (.cells (cellsOf .u64 b) 91) (.cells (cellsOf .u64 (List.replicate 4 0)) 91) 91 .u64 (List.replicate 4 0)
    rwa [size_alloc] at h
  have sbl : Below w.heap.size w ((((w.alloc (.cells (cellsOf .u64 a) 91)).alloc (.cells (cellsOf .u64 b) 91)).alloc (.cells (cellsOf .u64 (List.replicate 4 0)) 91)).alloc (.cells (cellsOf .u64 (List.replicate 4 0)) 91)) :=
    ((((Below.refl w.heap.size w).alloc (Nat.le_refl _) _).alloc (by simp only [size_alloc]; omega) _).alloc (by simp only [size_alloc]; omega) _).alloc (by simp only [size_alloc]; omega) _
  go_loopw [6] (fun i wr => ∃ n : Nat, n ≤ 4 ∧ i = .int .i64 n ∧ Row wr w.heap.size 91 .u64 a ∧ Row wr (w.heap.size + 1) 91 .u64 b ∧ Row wr (w.heap.size + 1 + 1) 91 .u64 (List.replicate 4 0) ∧ Row wr (w.heap.size + 1 + 1 + 1) 91 .u64 (tOut a b n) ∧ Below w.heap.size w wr)
    (fun i _ => 4 - (intOf i).toNat)
  case atStart => exact ⟨0, Nat.zero_le _, rfl, s0, s1, s2, s3, sbl⟩
  case round =>
    clear s0 s1 s2 s3 sbl
    obtain ⟨n, hn, rfl, q0, q1, q2, q3, qb⟩ := hrel
    by_cases hn4 : n < 4
    · have HQ := Hid.mk (And.intro q0 (And.intro q1 (And.intro q2 (And.intro q3 qb))))
      clear q0 q1 q2 q3 qb
      have hdec : decide ((n : Int) < 4) = true := by
        rw [decide_eq_true_eq]
        omega
      go_wp2_with fail
      go_loopw [7, 8] (fun ov k wx => ∃ m : Nat, m ≤ 4 - n ∧ k = .int .i64 m ∧ ov = .int .u64 (tIn a b n (tOut a b n) m).2 ∧ Row wx w.heap.size 91 .u64 a ∧ Row wx (w.heap.size + 1) 91 .u64 b ∧ Row wx (w.heap.size + 1 + 1) 91 .u64 (List.replicate 4 0) ∧ Row wx (w.heap.size + 1 + 1 + 1) 91 .u64 (tIn a b n (tOut a b n) m).1 ∧ Below w.heap.size w wx)
        (fun _ k _ => 4 - n - (intOf k).toNat)
      case atStart =>
        obtain ⟨q0, q1, q2, q3, qb⟩ := HQ.out
        exact ⟨0, Nat.zero_le _, rfl, rfl, q0, q1, q2, q3, qb⟩
      case round =>
        clear HQ
        obtain ⟨m, hm, rfl, rfl, q0, q1, q2, q3, qb⟩ := hrel
        by_cases hm4 : m < 4 - n
        · have hl : (tIn a b n (tOut a b n) m).1.length = 4 := by rw [tIn_length, tOut_length]
          have c0 := q0.cell n (by omega)
          have c1 := q1.cell m (by omega)
          have c3 := q3.cell (n + m) (by omega)
          have f3 := q3.frozen (n + m)
          obtain ⟨t1, t2, t3⟩ := tIn_small a b n (tOut a b n) sa sb (tOut_small a b sa sb n) m
          obtain ⟨p1, p2, p3, p4⟩ := part_bd _ _ _ _ (t1 (n + m)).1 (t1 (n + m)).2 (sa n).1 (sa n).2 (sb m).1 (sb m).2 t2 t3
          have z0 := (t1 (n + m)).1
          have z1 := (t1 (n + m)).2
          clear t1
          have hsucc := tIn_succ a b n (tOut a b n) m
          generalize hT : tIn a b n (tOut a b n) m = T at *
          generalize hx0 : a.getD n 0 = x at *
          generalize hx1 : b.getD m 0 = y at *
          generalize hx3 : T.1.getD (n + m) 0 = z at *
          have HQ := Hid.mk (And.intro hsucc (And.intro q0 (And.intro q1 (And.intro q2 (And.intro q3 qb)))))
          clear hsucc hT hx0 hx1 hx3 q0 q1 q2 q3 qb hl
          go_wp2_with fail
          go_quiet (fail)
          go_wp2_with fail
          go_roundw
          case rel =>
            obtain ⟨hsucc, q0, q1, q2, q3, qb⟩ := HQ.out
            refine ⟨m + 1, by omega, by go_num, ?_, (q0.drewN _).other (by show w.heap.size + 1 + 1 + 1 ≠ w.heap.size; omega) _, (q1.drewN _).other (by show w.heap.size + 1 + 1 + 1 ≠ w.heap.size + 1; omega) _, (q2.drewN _).other (by show w.heap.size + 1 + 1 + 1 ≠ w.heap.size + 1 + 1; omega) _, ?_, (below_drewN qb).setCell (by show w.heap.size ≤ w.heap.size + 1 + 1 + 1; omega) _⟩
            · rw [hsucc]
            · rw [hsucc]
              exact (q3.drewN _).stored (n + m) _
          case measure => simp [intOf]; omega
        · have hm2 : m = 4 - n := by omega
          rw [hm2] at q3
          have HQ := Hid.mk (And.intro q0 (And.intro q1 (And.intro q2 (And.intro q3 qb))))
          clear q0 q1 q2 q3 qb hm2
          generalize (tIn a b n (tOut a b n) m).2 = ov at *
          go_wp2_with fail
          obtain ⟨q0, q1, q2, q3, qb⟩ := HQ.out
          exact ⟨⟨n + 1, by omega, by go_num, q0, q1, q2, q3, qb⟩, by simp [intOf]; omega⟩
    · have hn2 : n = 4 := by omega
      rw [hn2, ← timesL_eq, HR.out] at q3
      have hRl : R.length = 4 := by rw [← HR.out, timesL_length]
      clear hn2 HR
      go_wp2_with (first | (refine wpList_loadRow rfl 91 _ rfl _ rfl q3 Tryd.underlying91 (by rw [hRl]; exact info91) ?_) | (refine wpList_storeRow rfl 91 _ _ rfl _ rfl rfl q2 (by rw [hRl]; exact info91) (by rw [hRl]; rfl) rfl ?_))
      have hrw := q2.whole R
      refine bodyPost_ret (v := .agg (cellsOf .u64 R)) (Row.result (p := 4) (ty := 91) Tryd.results63 hrw ?_ Tryd.underlying91 (by rw [hRl]; exact info91)) ?_ ?_
      · simp [Act.put]
      · simp [Act.put]
      · exact ⟨rfl, below_setRow qb (by omega) _⟩
end Go.Proofs.YtdolilgkjknckaaDoor.Sh
