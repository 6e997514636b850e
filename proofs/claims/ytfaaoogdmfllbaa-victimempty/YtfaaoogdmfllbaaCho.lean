/-
  The walks of Choose and Empty. No condition.
-/
import Derived.Test.YtfaaoogdmfllbaaVic
namespace Go.Proofs.Ytfaaoogdmfllbaa
open Go Go.RowKit

@[go_sem] theorem run_store_float {P : Program} {w : World} {a : Addr} {m : Mode} (k : FloatKind) (x : Nat) : (store a (.float k x) m).run P w = stored P w a (.float k x) m := run_store P w a _ m rfl
theorem madeF (n : Nat) : madeCells #[.float .f64 0] n = cellsF (List.replicate n 0) := by
  unfold madeCells cellsF
  apply Array.ext
  · simp
  · intro i h1 h2
    simp [Nat.mod_one]
theorem Try.info24 : (Try.prog.info? 24).map (fun i => (i.zero, i.size, i.bytes)) = some (some (.float .f64 0), 1, 8) := by kernel_rfl
theorem run_make_floats (n : Nat) (hn : n ≤ 1000) (w : World) : (Instr.makeSlice 37 (.int .i64 n) (.int .i64 n)).run Try.prog w = .ok (.slice (some ⟨w.heap.size, 0, none⟩) n n) (w.alloc (.cells (cellsF (List.replicate n 0)) 24)) := by
  obtain ⟨i, hi, hzz⟩ := Option.map_eq_some_iff.1 Try.info24
  simp only [Prod.mk.injEq] at hzz
  obtain ⟨hz, hs, hb⟩ := hzz
  have hr := run_make (P := Try.prog) w 37 24 i (.float .f64 0) Try.underlying37 hi hz .i64 .i64 n n (by omega) (Int.le_refl _) (by rw [hb]; omega) (by omega)
  rw [hs, Int.toNat_natCast, Nat.mul_one] at hr
  rw [← madeF]
  exact hr
/-- what Choose holds of its row -/
structure Cw (w : World) (n : Nat) (f : Nat → Q4) (j : Nat) (xs : List Nat) (wr : World) : Prop where
  row : FRow wr w.heap.size xs
  len : xs.length = n
  fit : ∀ i, xs.getD i 0 < 18446744073709551616
  worth : ∀ i, i < j → WIs (wq (f i)) (xs.getD i 0)
  below : Below w.heap.size w wr
theorem Cw.call {w : World} {n f j xs} {wr w' : World} (h : Cw w n f j xs wr) (b : Below wr.heap.size wr w') : Cw w n f j xs w' := ⟨h.row.call b, h.len, h.fit, h.worth, below3 h.below b⟩
theorem getD_setN (xs : List Nat) (i j : Nat) (v : Nat) (h : j < xs.length) : (xs.set j v).getD i 0 = if i = j then v else xs.getD i 0 := by
  rw [List.getD_eq_getElem?_getD, List.getD_eq_getElem?_getD, List.getElem?_set]
  by_cases e : j = i
  · subst e; simp [h]
  · rw [if_neg e, if_neg (fun x => e x.symm)]
theorem Cw.set {w : World} {n f j xs} {wr : World} (h : Cw w n f j xs wr) (hj : j < n) {r : Nat} (hr : WIs (wq (f j)) r) : Cw w n f (j + 1) (xs.set j r) (wr.setCell ⟨w.heap.size, j, none⟩ (.float .f64 r)) := by
  have hl : j < xs.length := by rw [h.len]; exact hj
  refine ⟨h.row.stored j r, by simpa using h.len, fun i => ?_, fun i hi => ?_, h.below.setCell (Nat.le_refl _) _⟩
  · rw [getD_setN xs i j r hl]; split
    · exact hr.1
    · exact h.fit i
  · rw [getD_setN xs i j r hl]
    by_cases e : i = j
    · subst e; rw [if_pos rfl]; exact hr
    · rw [if_neg e]; exact h.worth i (by omega)
set_option maxRecDepth 20000 in
theorem choose_any {w : World} {a : Option Addr} {n cap : Nat} {f : Nat → Q4} (h : Ss w a n f) (hn : n ≤ 1000) : Calls Try.prog 11 #[.slice a n cap] w fun e w' => e = .returned (.int .i64 (bst (fun i => wq (f i)) n)) ∧ Below w.heap.size w w' := by
  have H := Hid.mk h
  have hmk := run_make_floats n hn
  obtain ⟨Z, hZ0⟩ : ∃ Z, bst (fun i => wq (f i)) n = Z := ⟨_, rfl⟩
  rw [hZ0]
  have hZ := Hid.mk hZ0
  clear hZ0
  have hW := Hid.mk worth_any
  clear h
  go_enter Try.func11, Try.ntmps11
  go_upto_region 2 with fail
  clear hmk
  have v0 : Cw w n f 0 (List.replicate n 0) (w.alloc (.cells (cellsF (List.replicate n 0)) 24)) := ⟨FRow.fresh w _, by simp, fun i => by rw [List.getD_eq_getElem?_getD, List.getElem?_replicate]; split <;> simp, fun i hi => by omega, (Below.refl _ w).alloc (Nat.le_refl _) _⟩
  generalize w.alloc (.cells (cellsF (List.replicate n 0)) 24) = W at *
  generalize List.replicate n 0 = xs0 at *
  have HV := Hid.mk v0
  clear v0
  go_upto_region 3 with fail
  go_loopw [11] (fun i wr => ∃ (j : Nat) (xs : List Nat), j ≤ n ∧ i = .int .i64 j ∧ Cw w n f j xs wr) (fun i _ => n - (intOf i).toNat)
  case atStart => exact ⟨0, xs0, Nat.zero_le _, rfl, HV.out⟩
  case round =>
    clear HV
    obtain ⟨j, xs, hj, rfl, hv⟩ := hrel
    by_cases hlt : j < n
    · have hlt1 : (j : Int) < n := by omega
      obtain ⟨g, o, rfl, hg, c0, c1, c2, c3⟩ := H.out.call hv.below j hlt
      have HV := Hid.mk hv
      clear hv
      have hWj := Hid.mk (hW.out (f j))
      have hset := Hid.mk (fun (wr : World) (r : Nat) (h : Cw w n f j xs wr) (hr : WIs (wq (f j)) r) => h.set hlt hr)
      have hwr := Hid.mk (fun (w' : World) (h : Cw w n f j xs w') => And.intro (h.row.cell j (by rw [h.len]; exact hlt)) (h.row.frozen j))
      generalize hq : f j = q at *
      clear hq
      obtain ⟨q0, q1, q2, q3⟩ := q
      simp only at c0 c1 c2 c3
      simp only at hWj
      go_upto_region 5 with fail
      have bA := Hid.mk ((Below.refl _ wr).alloc (Nat.le_refl _) (.cells #[.int .i64 q0, .int .i64 q1, .int .i64 q2, .int .i64 q3] 27))
      go_wp2_with (first | (go_at_call 16; refine (hWj.out _).mono ?_; rintro e w1 ⟨r, rfl, hr, b1⟩; have H1 := Hid.mk (HV.out.call (below3 bA.out b1)); obtain ⟨d0, d1⟩ := hwr.out _ H1.out; generalize xs.getD j 0 = y at *))
      exact ⟨⟨j + 1, xs.set j r, by omega, by go_num, hset.out _ _ H1.out hr⟩, by simp [intOf]; omega⟩
    · have hlt1 : ¬ (j : Int) < n := by omega
      have hjn : j = n := by omega
      subst hjn
      have hB := best_any ⟨w.heap.size, 0, none⟩ j j (fun i => xs.getD i 0) wr (Nat.le_refl _) (by simp [maxLen]; omega) (fun i hi => by
        have e : (⟨w.heap.size, 0, none⟩ : Addr).add i = ⟨w.heap.size, i, none⟩ := by unfold Addr.add; split <;> simp_all
        rw [e]; exact hv.row.cell i (by rw [hv.len]; exact hi)) hv.fit
      rw [best_is (fun i => wq (f i)) _ j hv.worth, hZ.out] at hB
      replace hB := Hid.mk hB
      have HV := Hid.mk hv
      clear hv
      clear hZ
      go_wp2_with (go_at_call 17; refine hB.out.mono ?_; rintro e w' ⟨rfl, rfl⟩)
      go_ret
      exact ⟨rfl, HV.out.below⟩
/-- the place of the first of which no page lives -/
def emp (f : Nat → Q4) : Nat → Int
  | 0 => -1
  | k + 1 => if emp f k < 0 ∧ (f k).2.1 = 0 then (k : Int) else emp f k
theorem emp_succ (f : Nat → Q4) (k : Nat) : emp f (k + 1) = if emp f k < 0 ∧ (f k).2.1 = 0 then (k : Int) else emp f k := rfl
theorem emp_range (f : Nat → Q4) (k : Nat) : -1 ≤ emp f k ∧ emp f k < k := by
  induction k with
  | zero => show (-1 : Int) ≤ -1 ∧ (-1 : Int) < 0; omega
  | succ k ih => rw [emp_succ]; split <;> omega
theorem emp_low (f : Nat → Q4) (k : Nat) : emp f k < 0 ↔ ∀ i, i < k → ¬ (f i).2.1 = 0 := by
  induction k with
  | zero => exact ⟨fun _ i hi => by omega, fun _ => show (-1 : Int) < 0 by decide⟩
  | succ k ih =>
    rw [emp_succ]
    by_cases h : emp f k < 0 ∧ (f k).2.1 = 0
    · rw [if_pos h]
      exact ⟨fun q => by omega, fun q => absurd h.2 (q k (by omega))⟩
    · rw [if_neg h, ih]
      constructor
      · intro q i hi
        by_cases e : i = k
        · subst e; exact fun z => h ⟨ih.2 q, z⟩
        · exact q i (by omega)
      · exact fun q i hi => q i (by omega)
theorem emp_at (f : Nat → Q4) (k : Nat) (h0 : 0 ≤ emp f k) : (f (emp f k).toNat).2.1 = 0 ∧ ∀ i, i < (emp f k).toNat → ¬ (f i).2.1 = 0 := by
  induction k with
  | zero => exact absurd h0 (show ¬ (0 : Int) ≤ -1 by decide)
  | succ k ih =>
    rw [emp_succ] at h0 ⊢
    by_cases h : emp f k < 0 ∧ (f k).2.1 = 0
    · rw [if_pos h, Int.toNat_natCast]
      exact ⟨h.2, (emp_low f k).1 h.1⟩
    · rw [if_neg h] at h0 ⊢
      exact ih h0
/-- once found it stays -/
theorem emp_stays (f : Nat → Q4) (k d : Nat) (h0 : 0 ≤ emp f k) : emp f (k + d) = emp f k := by
  induction d with
  | zero => rfl
  | succ d ih => rw [← Nat.add_assoc, emp_succ, if_neg (by omega), ih]
set_option maxRecDepth 20000 in
theorem empty_any {w : World} {a : Option Addr} {n cap : Nat} {f : Nat → Q4} (h : Ss w a n f) (hn : n ≤ 1000) : Calls Try.prog 12 #[.slice a n cap] w fun e w' => e = .returned (.int .i64 (emp f n)) ∧ Below w.heap.size w w' := by
  have H := Hid.mk h
  obtain ⟨Z, hZ0⟩ : ∃ Z, emp f n = Z := ⟨_, rfl⟩
  rw [hZ0]
  have hZ := Hid.mk hZ0
  clear hZ0 h
  go_enter Try.func12, Try.ntmps12
  go_upto_region 2 with fail
  go_loopw [7] (fun i wr => ∃ (j : Nat), j ≤ n ∧ i = .int .i64 j ∧ emp f j < 0 ∧ Below w.heap.size w wr) (fun i _ => n - (intOf i).toNat)
  case atStart => exact ⟨0, Nat.zero_le _, rfl, (by decide : (-1 : Int) < 0), Below.refl _ _⟩
  case round =>
    obtain ⟨j, hj, rfl, he, hb⟩ := hrel
    have HB := Hid.mk (And.intro hb he)
    clear hb he
    by_cases hlt : j < n
    · have hlt1 : (j : Int) < n := by omega
      obtain ⟨g, o, rfl, hg, c0, c1, c2, c3⟩ := H.out.call HB.out.1 j hlt
      have hs := Hid.mk (emp_succ f j)
      have hst := Hid.mk (emp_stays f (j + 1) (n - (j + 1)))
      generalize hq : f j = q at *
      clear hq
      obtain ⟨q0, q1, q2, q3⟩ := q
      simp only at c0 c1 c2 c3
      by_cases h0 : q1 = 0
      · have e1 : emp f (j + 1) = j := by rw [hs.out, if_pos ⟨HB.out.2, h0⟩]
        have e2 : (j : Int) = Z := by
          have := hst.out (by rw [e1]; omega)
          rw [show j + 1 + (n - (j + 1)) = n by omega, hZ.out, e1] at this
          exact this.symm
        replace e2 := Hid.mk e2
        clear e1 hs hst
        have h1 : (q1 == 0) = true := by simp [h0]
        clear h0
        go_wp2_with fail
        go_ret
        exact ⟨by rw [← e2.out]; rfl, HB.out.1.alloc HB.out.1.size _⟩
      · have e1 : emp f (j + 1) < 0 := by rw [hs.out, if_neg (fun z => h0 z.2)]; exact HB.out.2
        replace e1 := Hid.mk e1
        clear hs hst
        have h1 : (q1 == 0) = false := by simp [h0]
        clear h0
        go_wp2_with fail
        exact ⟨⟨j + 1, by omega, by go_num, e1.out, HB.out.1.alloc HB.out.1.size _⟩, by simp [intOf]; omega⟩
    · have hlt1 : ¬ (j : Int) < n := by omega
      have hjn : j = n := by omega
      subst hjn
      have hr := emp_range f j
      have e2 : Z = -1 := by have := HB.out.2; have := hZ.out; omega
      replace e2 := Hid.mk e2
      clear hr
      go_wp2_with fail
      go_ret
      exact ⟨by rw [e2.out]; rfl, HB.out.1⟩
end Go.Proofs.Ytfaaoogdmfllbaa
