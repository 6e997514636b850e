/-
  What is told of all blocks, a geometry; and all of it without a chip: the walks of Worn, Dead, Geometry, and of every function at nil. No condition.
-/
import Derived.Test.YtbcnocbdifbocaaDoorNew
namespace Go.Proofs.YtbcnocbdifbocaaDoor
open Go Go.RowKit

theorem results_cell1 {fn : Func} {p : Tmp} {ty : TypeId} (h : fn.results = #[.cell p ty]) (tmps : Array Value) (P : Program) (w : World) :
    (results fn tmps).run P w = ((asAddr (tmps.getD p undef)).run P w).andThen fun a w₁ => (loadVar ty a).run P w₁ := by
  simp only [results, h]
  simp [Sem.run_bind]
theorem Tryd.info3 : (Tryd.prog.info? 3).map (fun i => (i.zero, i.size, i.bytes)) = some (some (.int .i64 0), 1, 8) := by kernel_rfl
theorem Tryd.info4 : (Tryd.prog.info? 4).map (fun i => (i.zero, i.size, i.bytes)) = some (some (.bool false), 1, 1) := by kernel_rfl
theorem worn_any {w : World} {L C} (h : Chip w L C) : Calls Tryd.prog 24 #[.pointer (some ⟨L.a, 0, none⟩)] w fun e w' =>
    e = .returned (.slice (some ⟨w.heap.size, 0, none⟩) C.B C.B) ∧ w'.rowIs w.heap.size 3 C.B (fun b => .int .i64 (C.worn b)) ∧ Below w.heap.size w w' := by
  obtain ⟨mc, mf, n, k, _, _, c0, c1, c2, c3, c4, c5, c6, c7, _⟩ := h.cellA
  have hg := h.geo
  have hmk := run_make_row' (P := Tryd.prog) 24 3 (.int .i64 0) 8 Tryd.underlying24 Tryd.info3 rfl .i64 .i64 C.B (by omega) (by omega)
  have HH := Hid.mk h
  clear h
  go_enter Tryd.func24, Tryd.ntmps24
  go_upto_region 5 with fail
  have hr0 := World.rowIs_made w (.int .i64 0) C.B 3
  have hb0 := (Below.refl w.heap.size w).alloc (Nat.le_refl _) (.cells (madeCells #[.int .i64 0] C.B) 3)
  have HR0 := Hid.mk (And.intro hr0 hb0)
  generalize w.alloc (.cells (madeCells #[.int .i64 0] C.B) 3) = W0 at *
  clear hr0 hb0 c0 c1 c2 c3 c4 c5 c6 c7 hmk
  go_loopw [15] (fun i wr => ∃ k : Nat, k ≤ C.B ∧ i = .int .i64 k ∧ wr.rowIs w.heap.size 3 C.B (fun b => if b < k then .int .i64 (C.worn b) else .int .i64 0) ∧ Below w.heap.size w wr) (fun i _ => C.B - (intOf i).toNat)
  case atStart => exact ⟨0, Nat.zero_le _, rfl, HR0.out.1.congr (fun i _ => by rw [if_neg (by omega)]), HR0.out.2⟩
  case round =>
    obtain ⟨j, hj, rfl, hr, hb⟩ := hrel
    clear HR0 W0
    by_cases hjn : j < C.B
    · have hj1 : (j : Int) < C.B := by omega
      obtain ⟨_, _, _, _, _, _, _, _, _, c3, _⟩ := (HH.out.call hb).cellA
      obtain ⟨_, b1, _, _⟩ := (HH.out.call hb).cellB j hjn
      have r0 := hr.cell hjn
      have f0 := hr.frozen j
      have HR := Hid.mk (And.intro hr hb)
      rw [if_neg (by omega)] at r0
      clear hr hb
      go_wp2_with fail
      refine ⟨⟨j + 1, by omega, by go_num, (HR.out.1.set j _).congr (fun i hi => ?_), HR.out.2.setCell (Nat.le_refl _) _⟩, by simp [intOf]; omega⟩
      by_cases e : i = j
      · subst e
        rw [if_pos rfl, if_pos (by omega)]
      · rw [if_neg e]
        by_cases e2 : i < j
        · rw [if_pos e2, if_pos (by omega)]
        · rw [if_neg e2, if_neg (by omega)]
    · have hj1 : ¬ (j : Int) < C.B := by omega
      have HR := Hid.mk (And.intro hr hb)
      clear hr hb
      go_wp2_with fail
      go_ret
      exact ⟨rfl, HR.out.1.congr (fun i hi => by rw [if_pos (by omega)]), HR.out.2⟩
theorem dead_any {w : World} {L C} (h : Chip w L C) : Calls Tryd.prog 23 #[.pointer (some ⟨L.a, 0, none⟩)] w fun e w' =>
    e = .returned (.slice (some ⟨w.heap.size, 0, none⟩) C.B C.B) ∧ w'.rowIs w.heap.size 4 C.B (fun b => .bool (C.dead b)) ∧ Below w.heap.size w w' := by
  obtain ⟨mc, mf, n, k, _, _, c0, c1, c2, c3, c4, c5, c6, c7, _⟩ := h.cellA
  have hg := h.geo
  have hmk := run_make_row' (P := Tryd.prog) 36 4 (.bool false) 1 Tryd.underlying36 Tryd.info4 rfl .i64 .i64 C.B (by omega) (by omega)
  have HH := Hid.mk h
  clear h
  go_enter Tryd.func23, Tryd.ntmps23
  go_upto_region 5 with fail
  have hr0 := World.rowIs_made w (.bool false) C.B 4
  have hb0 := (Below.refl w.heap.size w).alloc (Nat.le_refl _) (.cells (madeCells #[.bool false] C.B) 4)
  have HR0 := Hid.mk (And.intro hr0 hb0)
  generalize w.alloc (.cells (madeCells #[.bool false] C.B) 4) = W0 at *
  clear hr0 hb0 c0 c1 c2 c3 c4 c5 c6 c7 hmk
  go_loopw [15] (fun i wr => ∃ k : Nat, k ≤ C.B ∧ i = .int .i64 k ∧ wr.rowIs w.heap.size 4 C.B (fun b => if b < k then .bool (C.dead b) else .bool false) ∧ Below w.heap.size w wr) (fun i _ => C.B - (intOf i).toNat)
  case atStart => exact ⟨0, Nat.zero_le _, rfl, HR0.out.1.congr (fun i _ => by rw [if_neg (by omega)]), HR0.out.2⟩
  case round =>
    obtain ⟨j, hj, rfl, hr, hb⟩ := hrel
    clear HR0 W0
    by_cases hjn : j < C.B
    · have hj1 : (j : Int) < C.B := by omega
      obtain ⟨_, _, _, _, _, _, _, _, _, c3, _⟩ := (HH.out.call hb).cellA
      obtain ⟨_, _, b2, _⟩ := (HH.out.call hb).cellB j hjn
      have r0 := hr.cell hjn
      have f0 := hr.frozen j
      have HR := Hid.mk (And.intro hr hb)
      rw [if_neg (by omega)] at r0
      clear hr hb
      go_wp2_with fail
      refine ⟨⟨j + 1, by omega, by go_num, (HR.out.1.set j _).congr (fun i hi => ?_), HR.out.2.setCell (Nat.le_refl _) _⟩, by simp [intOf]; omega⟩
      by_cases e : i = j
      · subst e
        rw [if_pos rfl, if_pos (by omega)]
      · rw [if_neg e]
        by_cases e2 : i < j
        · rw [if_pos e2, if_pos (by omega)]
        · rw [if_neg e2, if_neg (by omega)]
    · have hj1 : ¬ (j : Int) < C.B := by omega
      have HR := Hid.mk (And.intro hr hb)
      clear hr hb
      go_wp2_with fail
      go_ret
      exact ⟨rfl, HR.out.1.congr (fun i hi => by rw [if_pos (by omega)]), HR.out.2⟩
theorem geom_any {w : World} {L C} (h : Chip w L C) : Calls Tryd.prog 11 #[.pointer (some ⟨L.a, 0, none⟩)] w fun e w' => e = .returned (.agg #[.int .i64 C.B, .int .i64 C.P, .int .i64 C.Z]) ∧ Below w.heap.size w w' := by
  obtain ⟨mc, mf, n, k, _, _, c0, c1, c2, c3, c4, c5, c6, c7, _⟩ := h.cellA
  have la : L.a < w.heap.size := h.lt (Or.inl rfl)
  clear h
  go_enter Tryd.func11, Tryd.ntmps11
  go_wp2_with fail
  exact bodyPost_ret (v := .agg #[.int .i64 C.B, .int .i64 C.P, .int .i64 C.Z]) (by rw [results_cell1 rfl]; go_simp) rfl ⟨rfl, (Below.refl w.heap.size w).alloc (Nat.le_refl _) _⟩
/- no chip -/
theorem power_nil (w : World) : Calls Tryd.prog 26 #[.pointer none] w fun e w' => e = .returned (.tuple #[]) ∧ w' = w := by
  go_enter Tryd.func26, Tryd.ntmps26
  go_wp2
  go_end0
  exact ⟨rfl, rfl⟩
theorem arm_nil (v : Value) (a b c : Value) (hv : v = .agg #[a, b, c]) (w : World) : Calls Tryd.prog 49 #[.pointer none, v] w fun e w' => e = .returned (.tuple #[]) ∧ Below w.heap.size w w' := by
  subst hv
  go_enter Tryd.func49, Tryd.ntmps49
  go_wp2
  exact bodyPost_ret (results_none rfl _ _ _) rfl ⟨rfl, (Below.refl w.heap.size w).alloc (Nat.le_refl _) _⟩
theorem refuse_nil (b : Int) (w : World) : Calls Tryd.prog 44 #[.pointer none, .int .i64 b] w fun e w' => e = .returned (.int .i64 1) ∧ w' = w := by
  go_enter Tryd.func44, Tryd.ntmps44
  go_wp2
  go_ret
  exact ⟨rfl, rfl⟩
theorem refusep_nil (b p : Int) (w : World) : Calls Tryd.prog 67 #[.pointer none, .int .i64 b, .int .i64 p] w fun e w' => e = .returned (.int .i64 1) ∧ w' = w := by
  go_enter Tryd.func67, Tryd.ntmps67
  go_wp2_with (go_at_call 44; refine (refuse_nil _ _).mono ?_; rintro e w' ⟨rfl, rfl⟩)
  go_ret
  exact ⟨rfl, rfl⟩
theorem read_nil (b p : Int) (w : World) : Calls Tryd.prog 42 #[.pointer none, .int .i64 b, .int .i64 p] w fun e w' => e = .returned (.tuple #[.string ⟨#[]⟩, .string ⟨#[]⟩, .int .i64 1]) ∧ w' = w := by
  go_enter Tryd.func42, Tryd.ntmps42
  go_wp2_with (go_at_call 67; refine (refusep_nil _ _ _).mono ?_; rintro e w' ⟨rfl, rfl⟩)
  go_ret3
  exact ⟨rfl, rfl⟩
theorem marked_nil (b : Int) (w : World) : Calls Tryd.prog 22 #[.pointer none, .int .i64 b] w fun e w' => e = .returned (.tuple #[.bool false, .int .i64 1]) ∧ w' = w := by
  go_enter Tryd.func22, Tryd.ntmps22
  go_wp2_with (go_at_call 44; refine (refuse_nil _ _).mono ?_; rintro e w' ⟨rfl, rfl⟩)
  go_ret2
  exact ⟨rfl, rfl⟩
theorem prog_nil (b p : Int) (x y : ByteArray) (w : World) : Calls Tryd.prog 66 #[.pointer none, .int .i64 b, .int .i64 p, .string x, .string y] w fun e w' => e = .returned (.int .i64 1) ∧ w' = w := by
  go_enter Tryd.func66, Tryd.ntmps66
  go_wp2_with (go_at_call 67; refine (refusep_nil _ _ _).mono ?_; rintro e w' ⟨rfl, rfl⟩)
  go_ret
  exact ⟨rfl, rfl⟩
theorem erase_nil (b : Int) (w : World) : Calls Tryd.prog 33 #[.pointer none, .int .i64 b] w fun e w' => e = .returned (.int .i64 1) ∧ w' = w := by
  go_enter Tryd.func33, Tryd.ntmps33
  go_wp2_with (go_at_call 44; refine (refuse_nil _ _).mono ?_; rintro e w' ⟨rfl, rfl⟩)
  go_ret
  exact ⟨rfl, rfl⟩
theorem mark_nil (b : Int) (w : World) : Calls Tryd.prog 56 #[.pointer none, .int .i64 b] w fun e w' => e = .returned (.int .i64 1) ∧ w' = w := by
  go_enter Tryd.func56, Tryd.ntmps56
  go_wp2_with (go_at_call 44; refine (refuse_nil _ _).mono ?_; rintro e w' ⟨rfl, rfl⟩)
  go_ret
  exact ⟨rfl, rfl⟩
theorem worn_nil (w : World) : Calls Tryd.prog 24 #[.pointer none] w fun e w' => e = .returned (.slice none 0 0) ∧ w' = w := by
  go_enter Tryd.func24, Tryd.ntmps24
  go_wp2
  go_ret
  exact ⟨rfl, rfl⟩
theorem dead_nil (w : World) : Calls Tryd.prog 23 #[.pointer none] w fun e w' => e = .returned (.slice none 0 0) ∧ w' = w := by
  go_enter Tryd.func23, Tryd.ntmps23
  go_wp2
  go_ret
  exact ⟨rfl, rfl⟩
theorem geom_nil (w : World) : Calls Tryd.prog 11 #[.pointer none] w fun e w' => e = .returned (.agg #[.int .i64 0, .int .i64 0, .int .i64 0]) ∧ Below w.heap.size w w' := by
  go_enter Tryd.func11, Tryd.ntmps11
  go_wp2_with fail
  exact bodyPost_ret (v := .agg #[.int .i64 0, .int .i64 0, .int .i64 0]) (by rw [results_cell1 rfl]; go_simp) rfl ⟨rfl, (Below.refl w.heap.size w).alloc (Nat.le_refl _) _⟩
theorem new_refused (B P Z : Int) (h : okG B P Z = false) (v a b c : Value) (hv : v = .agg #[a, b, c]) (w : World) : Calls Tryd.prog 31 #[.agg #[.int .i64 B, .int .i64 P, .int .i64 Z], v] w fun e w' => e = .returned (.tuple #[.pointer none, .int .i64 1]) ∧ Below w.heap.size w w' := by
  subst hv
  go_enter Tryd.func31, Tryd.ntmps31
  go_wp2_with (go_at_call 47; refine (check_any _ _ _ _).mono ?_; rintro e w1 ⟨rfl, b1⟩; rw [h])
  go_ret2
  exact ⟨rfl, below3 (below_two w _ _) b1⟩
end Go.Proofs.YtbcnocbdifbocaaDoor
