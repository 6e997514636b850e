/-
  The plain transaction's own functions: a page put into the plain one, walked. No condition.
-/
import Derived.Test.YtacgemibaojbaaaPlc
namespace Go.Proofs.Ytacgemibaojbaaa
open Go Go.RowKit Go.Maps

theorem cells36 : (Try.prog.info? 36).map (·.size) = some 5 := by kernel_rfl
theorem p5_result {fn : Func} {p u : Tmp} (h : fn.results = #[.cell p 36, .tmp u]) {tmps : Array Value} {w : World} {g : Nat} {v0 v1 v2 v3 v4 : Value} (hp : tmps.getD p undef = .pointer (some ⟨g, 0, none⟩)) (hg : Box5 w g v0 v1 v2 v3 v4) :
    (results fn tmps).run Try.prog w = .ok (.tuple #[.agg #[v0, v1, v2, v3, v4], tmps.getD u undef]) w := by
  rw [results_cell_tmp h, hp]
  have q := run_loadVar_row (P := Try.prog) w g 36 36 #[v0, v1, v2, v3, v4] (0, 0) _ hg Try.underlying36 rfl cells36
  simp only [asAddr, Sem.run_pure, Result.andThen, q]
def set5 (w : World) (g : Nat) (v0 v1 v2 v3 v4 : Value) : World := ((((w.setCell ⟨g, 0, none⟩ v0).setCell ⟨g, 1, none⟩ v1).setCell ⟨g, 2, none⟩ v2).setCell ⟨g, 3, none⟩ v3).setCell ⟨g, 4, none⟩ v4
theorem set5_box {w : World} {g : Nat} {z0 z1 z2 z3 z4 : Value} (h : Box5 w g z0 z1 z2 z3 z4) (v0 v1 v2 v3 v4 : Value) : Box5 (set5 w g v0 v1 v2 v3 v4) g v0 v1 v2 v3 v4 := by
  unfold set5 Box5
  have h1 := heap_setCell_same w g 0 _ 36 v0 h
  have h2 := heap_setCell_same _ g 1 _ 36 v1 h1
  have h3 := heap_setCell_same _ g 2 _ 36 v2 h2
  have h4 := heap_setCell_same _ g 3 _ 36 v3 h3
  exact heap_setCell_same _ g 4 _ 36 v4 h4
theorem set5_kp (w : World) (g : Nat) (v0 v1 v2 v3 v4 : Value) : Kp w (set5 w g v0 v1 v2 v3 v4) g g :=
  kp_trans (kp_trans (kp_trans (kp_trans (kp_set _ _ _ _ _ (.inr rfl) _) (kp_set _ _ _ _ _ (.inr rfl) _)) (kp_set _ _ _ _ _ (.inr rfl) _)) (kp_set _ _ _ _ _ (.inr rfl) _)) (kp_set _ _ _ _ _ (.inr rfl) _)
/-- what a plain one that is turned answers and leaves -/
def PtD (B : Nat) (R : Ab × Int) (tx : List ByteArray) (w : World) (e : Ending) (w' : World) : Prop :=
  ∃ u0 u1 u2 u3 ut, e = .returned (.tuple #[.agg #[u0, u1, u2, u3, ut], .int .i64 R.2]) ∧ RAt w' B u0 u1 u2 u3 (rs R.1) ∧ Ow w' B 9 1 ut (tx.map rT) ∧ Below w.heap.size w w'
theorem RAt.kp {w w' : World} {B g v0 v1 v2 v3 m} (h : RAt w B v0 v1 v2 v3 m) (k : Kp w w' g g) {cs : Array Value} {t : TypeId} (hg : w.heap[g]? = some (.cells cs t (0, 0))) (h1 : t = 36 ∨ t = 38) : RAt w' B v0 v1 v2 v3 m := by
  have n0 := h.sp.ne hg (by rcases h1 with rfl | rfl <;> decide)
  have n1 := h.lv.ne hg (by rcases h1 with rfl | rfl <;> decide)
  have n2 := h.bad.ne hg (by rcases h1 with rfl | rfl <;> decide)
  have n3 := h.worn.ne hg (by rcases h1 with rfl | rfl <;> decide)
  exact ⟨h.sp.kp k n0 n0, h.lv.kp k n1 n1, h.bad.kp k n2 n2, h.worn.kp k n3 n3⟩
theorem lay_err {Y : Ab} {S P A : Int} (h : (layA Y S P A).2 ≠ 0) : (layA Y S P A).1 = Y := by
  unfold layA at h ⊢
  cases hg : gA Y.sp S with
  | none => rfl
  | some x =>
    rw [hg] at h
    simp only at h ⊢
    split
    · rfl
    · rename_i q
      rw [if_neg q] at h
      exact absurd rfl h
theorem made3 (w4 : World) (str : ByteArray) : Ow ((w4.alloc (.cells #[.string str] 9)).alloc (.cells #[] 9)).drew w4.heap.size 9 1 (.slice (some ⟨w4.heap.size + 1, 0, none⟩) 0 0) [] := by
  have q := (Ow.made (w4.alloc (.cells #[.string str] 9)) (B := w4.heap.size) (by rw [size_alloc]; omega) 9 1).drew
  rw [size_alloc] at q
  exact q
theorem mk1 {w4 w5 : World} (g : ((w4.alloc (.cells #[] 9)).drew).grownBy w5 (some w4.heap.size)) : Below w4.heap.size w4 w5 :=
  ((Below.refl _ w4).alloc (Nat.le_refl _) (.cells #[] 9)).drew.grown g (by show _ ≤ (w4.alloc _).heap.size; rw [size_alloc]; omega) (fun k hk => by cases hk; exact Nat.le_refl _)
theorem mk2 {w4 w5 : World} {O : Obj} (g : (((w4.alloc (.cells #[] 9)).alloc O).drew).grownBy w5 (some w4.heap.size)) : Below w4.heap.size w4 w5 ∧ w5.heap[w4.heap.size + 1]? = some O := by
  refine ⟨(((Below.refl _ w4).alloc (Nat.le_refl _) (.cells #[] 9)).alloc (by rw [size_alloc]; omega) O).drew.grown g (by show _ ≤ ((w4.alloc _).alloc _).heap.size; simp only [size_alloc]; omega) (fun k hk => by cases hk; exact Nat.le_refl _), ?_⟩
  have q := heap_alloc_new (w4.alloc (.cells #[] 9)) O
  rw [size_alloc] at q
  exact (g.block (w4.heap.size + 1) (by show _ < ((w4.alloc _).alloc _).heap.size; simp only [size_alloc]; omega) (fun e => by simp at e)).trans q
theorem mk3 {w4 w5 : World} {O : Obj} (g : (((w4.alloc O).alloc (.cells #[] 9)).drew).grownBy w5 (some (w4.heap.size + 1))) : Below w4.heap.size w4 w5 ∧ w5.heap[w4.heap.size]? = some O := by
  refine ⟨(((Below.refl _ w4).alloc (Nat.le_refl _) O).alloc (by rw [size_alloc]; omega) (.cells #[] 9)).drew.grown g (by show _ ≤ ((w4.alloc _).alloc _).heap.size; simp only [size_alloc]; omega) (fun k hk => by cases hk; omega), ?_⟩
  have q := heap_alloc_new w4 O
  refine (g.block w4.heap.size (by show _ < ((w4.alloc _).alloc _).heap.size; simp only [size_alloc]; omega) (fun e => by simp at e)).trans ?_
  exact (Below.heap_alloc _ _ w4.heap.size (by rw [size_alloc]; omega)).trans q
set_option maxRecDepth 20000 in
set_option maxHeartbeats 4000000 in
theorem pput_any {w : World} {B v0 v1 v2 v3 vt} {Y : Ab} {tx : List ByteArray} (h : RAt w B v0 v1 v2 v3 (rs Y)) (hi : InvA Y) (hB : B ≤ w.heap.size) (ht : Ow w B 9 1 vt (tx.map rT)) (hn : tx.length ≤ 1000) (S P : Int) (str : ByteArray) :
    Calls Try.prog 32 #[.agg #[v0, v1, v2, v3, vt], .int .i64 S, .int .i64 P, .string str] w (PtD B (layA Y S P (1000 + tx.length)) (if (layA Y S P (1000 + tx.length)).2 = 0 then tx ++ [str] else tx) w) := by
  obtain ⟨a0, n0, c0, rfl⟩ := h.sp.isSl
  obtain ⟨a1, n1, c1, rfl⟩ := h.lv.isSl
  obtain ⟨a2, n2, c2, rfl⟩ := h.bad.isSl
  obtain ⟨a3, n3, c3, rfl⟩ := h.worn.isSl
  obtain ⟨a4, c4, rfl⟩ := ht.form
  rw [List.length_map] at ht ⊢
  have b2 : Below w.heap.size w ((w.alloc (.cells #[.slice a0 n0 c0, .slice a1 n1 c1, .slice a2 n2 c2, .slice a3 n3 c3, .slice a4 tx.length c4] 36)).alloc (.cells #[.slice none 0 0, .slice none 0 0, .slice none 0 0, .slice none 0 0, .slice none 0 0] 36)) := ((Below.refl _ w).alloc (Nat.le_refl _) _).alloc (by rw [size_alloc]; omega) _
  have x1 : Box5 ((w.alloc (.cells #[.slice a0 n0 c0, .slice a1 n1 c1, .slice a2 n2 c2, .slice a3 n3 c3, .slice a4 tx.length c4] 36)).alloc (.cells #[.slice none 0 0, .slice none 0 0, .slice none 0 0, .slice none 0 0, .slice none 0 0] 36)) w.heap.size (.slice a0 n0 c0) (.slice a1 n1 c1) (.slice a2 n2 c2) (.slice a3 n3 c3) (.slice a4 tx.length c4) := (Below.heap_alloc _ _ w.heap.size (by rw [size_alloc]; omega)).trans (heap_alloc_new w _)
  have x2 : Box5 ((w.alloc (.cells #[.slice a0 n0 c0, .slice a1 n1 c1, .slice a2 n2 c2, .slice a3 n3 c3, .slice a4 tx.length c4] 36)).alloc (.cells #[.slice none 0 0, .slice none 0 0, .slice none 0 0, .slice none 0 0, .slice none 0 0] 36)) (w.heap.size + 1) (.slice none 0 0) (.slice none 0 0) (.slice none 0 0) (.slice none 0 0) (.slice none 0 0) := by
    have q := heap_alloc_new (w.alloc (.cells #[.slice a0 n0 c0, .slice a1 n1 c1, .slice a2 n2 c2, .slice a3 n3 c3, .slice a4 tx.length c4] 36)) (.cells #[.slice none 0 0, .slice none 0 0, .slice none 0 0, .slice none 0 0, .slice none 0 0] 36)
    rw [size_alloc] at q
    exact q
  have hdo := do_any (h.call b2) (Nat.le_trans hB b2.size) (lens_rs hi) (K := 1) (S := S) (P := P) (A := 1000 + tx.length) (T := 0) (N := 0) (by omega)
  rw [do_lay hi] at hdo
  have hle := fun q => lay_err (Y := Y) (S := S) (P := P) (A := 1000 + tx.length) q
  generalize layA Y S P (1000 + tx.length) = R at *
  obtain ⟨Y', E⟩ := R
  simp only at hle hdo ⊢
  have H := Hid.mk (And.intro h (And.intro ht (And.intro b2 (And.intro x1 (And.intro x2 hle)))))
  unfold rv at hdo
  have HD := Hid.mk hdo
  obtain ⟨k0, k1, k2, k3, k4⟩ := x1.cells
  clear h hi ht b2 x1 x2 hdo hle
  generalize hTX : (if E = 0 then tx ++ [str] else tx) = TX'
  replace hTX := Hid.mk hTX
  go_enter Try.func32, Try.ntmps32
  go_upto_region 1 with fail
  generalize ((w.alloc (.cells #[.slice a0 n0 c0, .slice a1 n1 c1, .slice a2 n2 c2, .slice a3 n3 c3, .slice a4 tx.length c4] 36)).alloc (.cells #[.slice none 0 0, .slice none 0 0, .slice none 0 0, .slice none 0 0, .slice none 0 0] 36)) = W2 at *
  generalize hG : w.heap.size = G at *
  go_upto_region 2 with (first | (go_at_call 35; refine HD.out.mono ?_; rintro e w3 ⟨u0, u1, u2, u3, rfl, R3, b3, -, -, -, -⟩; obtain ⟨d0, m0, e0, rfl⟩ := R3.sp.isSl; obtain ⟨d1, m1, e1, rfl⟩ := R3.lv.isSl; obtain ⟨d2, m2, e2, rfl⟩ := R3.bad.isSl; obtain ⟨d3, m3, e3, rfl⟩ := R3.worn.isSl; simp only))
  have y1 := (H.out.2.2.2.1.call b3).call (below_al w3 (.cells #[.slice d0 m0 e0, .slice d1 m1 e1, .slice d2 m2 e2, .slice d3 m3 e3] 33))
  have y2 := (H.out.2.2.2.2.1.call b3).call (below_al w3 (.cells #[.slice d0 m0 e0, .slice d1 m1 e1, .slice d2 m2 e2, .slice d3 m3 e3] 33))
  have z4 := Box4.fresh w3 (.slice d0 m0 e0) (.slice d1 m1 e1) (.slice d2 m2 e2) (.slice d3 m3 e3)
  have R4 := R3.alloc (.cells #[.slice d0 m0 e0, .slice d1 m1 e1, .slice d2 m2 e2, .slice d3 m3 e3] 33)
  have B4 : Below G w (w3.alloc (.cells #[.slice d0 m0 e0, .slice d1 m1 e1, .slice d2 m2 e2, .slice d3 m3 e3] 33)) := by
    have q := H.out.2.2.1
    exact q.trans ((below3 b3 (below_al w3 _)).mono (by have := q.size; omega))
  clear k0 k1 k2 k3 k4 b3 R3 HD
  generalize w3.alloc (.cells #[.slice d0 m0 e0, .slice d1 m1 e1, .slice d2 m2 e2, .slice d3 m3 e3] 33) = w4 at *
  generalize w3.heap.size = g10 at *
  have T4 : Ow w4 B 9 1 (.slice a4 tx.length c4) (tx.map rT) := by subst hG; exact H.out.2.1.call B4
  obtain ⟨k0, k1, k2, k3, k4⟩ := y1.cells
  obtain ⟨j0, j1, j2, j3, j4⟩ := y2.cells
  obtain ⟨i0, i1, i2, i3⟩ := z4.cells
  have f0 := y2.fz 0
  have f1 := y2.fz 1
  have f2 := y2.fz 2
  have f3 := y2.fz 3
  have f4 := y2.fz 4
  by_cases hE : E = 0
  · subst hE
    have hTX' : tx ++ [str] = TX' := by have := hTX.out; rw [if_pos rfl] at this; exact this
    subst hTX'
    have lG : G < w4.heap.size := y1.lt
    have lG1 : G + 1 < w4.heap.size := y2.lt
    have l10 : g10 < w4.heap.size := z4.lt
    have hnn : ((tx.map rT : Rws)).length ≤ 100000 := by rw [List.length_map]; omega
    have hnn2 : ((tx.map rT : Rws)).length < 1000000 := by omega
    have HH := Hid.mk (And.intro T4 (And.intro R4 (And.intro B4 (And.intro y2 z4))))
    clear T4 R4 B4 y1 y2 z4 hTX
    go_upto_region 4 with fail
    go_region_law (first
      | (refine step_appE (B0 := w4.heap.size) (B := B) (rows := tx.map rT) ei9 (by rfl) _ _ (by rfl) (by first | exact (Ow.made w4 (Nat.le_refl _) 9 1).drew | exact ((Ow.made w4 (Nat.le_refl _) 9 1).alloc _).drew | exact made3 w4 str) (by first | exact (HH.out.1.alloc _).drew | exact ((HH.out.1.alloc _).alloc _).drew) (by first | (show _ ≤ (w4.alloc _).heap.size; rw [size_alloc]; omega) | (show _ ≤ ((w4.alloc _).alloc _).heap.size; simp only [size_alloc]; omega)) (by rfl) (by rfl) hnn ?_; intro v5 w5 o5 g5; have b5 : Below w4.heap.size w4 w5 := (by first | exact mk1 g5 | exact (mk2 g5).1 | exact (mk3 g5).1); obtain ⟨j0', j1', j2', j3', j4'⟩ := (HH.out.2.2.2.1.call b5).cells; obtain ⟨i0', i1', i2', i3'⟩ := (HH.out.2.2.2.2.call b5).cells; have l5 := b5.size; have l5a : g10 < w5.heap.size := Nat.lt_of_lt_of_le l10 b5.size; have l5b : G + 1 < w5.heap.size := Nat.lt_of_lt_of_le lG1 b5.size)
      | (refine step_appO ei9 (by rfl) _ _ (by rfl) (by first | exact o5 | exact o5.alloc _) (by first | exact (mk2 g5).2 | exact (mk3 g5).2 | exact heap_alloc_new _ _) (by rfl) (by first | exact l5 | (rw [size_alloc]; omega)) (by rfl) (by rfl) hnn2 ?_; intro v6 w6 o6 g6; obtain ⟨a6, c6, e6⟩ := o6.form; rw [snoc_len] at e6; subst e6; have b6 : Below w4.heap.size w4 w6 := (by first | exact b5.grown g6 b5.size (fun b hb => (o5.lt b hb).1) | exact (b5.alloc b5.size _).grown g6 (by rw [size_alloc]; omega) (fun b hb => (o5.lt b hb).1)); obtain ⟨p0, p1, p2, p3, p4⟩ := (HH.out.2.2.2.1.call b6).cells; obtain ⟨t0, t1, t2, t3⟩ := (HH.out.2.2.2.2.call b6).cells; have s0 := (HH.out.2.2.2.1.call b6).fz 0; have s1 := (HH.out.2.2.2.1.call b6).fz 1; have s2 := (HH.out.2.2.2.1.call b6).fz 2; have s3 := (HH.out.2.2.2.1.call b6).fz 3; have s4 := (HH.out.2.2.2.1.call b6).fz 4; have l6 : G + 1 < w6.heap.size := Nat.lt_of_lt_of_le lG1 b6.size))
    all_goals
      go_wp2_with fail
      subst hG
      have q := HH.out
      have y6 := q.2.2.2.1.call b6
      have B6 : Below w.heap.size w w6 := below3 q.2.2.1 b6
      have A1 := (q.2.1.call b6).kp (set5_kp w6 (w.heap.size + 1) (.slice d0 m0 e0) (.slice d1 m1 e1) (.slice d2 m2 e2) (.slice d3 m3 e3) (.slice a6 (tx.length + 1) c6)) y6 (.inl rfl)
      have A2 := (o6.lower (Nat.le_trans hB q.2.2.1.size)).kp (set5_kp w6 (w.heap.size + 1) (.slice d0 m0 e0) (.slice d1 m1 e1) (.slice d2 m2 e2) (.slice d3 m3 e3) (.slice a6 (tx.length + 1) c6)) (o6.ne y6 (by decide)) (o6.ne y6 (by decide))
      have A3 := kp_bel B6 (set5_kp w6 (w.heap.size + 1) (.slice d0 m0 e0) (.slice d1 m1 e1) (.slice d2 m2 e2) (.slice d3 m3 e3) (.slice a6 (tx.length + 1) c6)) (by omega) (by omega)
      exact bodyPost_ret (p5_result rfl rfl (set5_box y6 _ _ _ _ _)) rfl ⟨_, _, _, _, _, rfl, A1, by rw [List.map_append]; exact A2, A3⟩
  · have hEb : (E != 0) = true := by simpa using hE
    have hTX' : tx = TX' := by have := hTX.out; rw [if_neg hE] at this; exact this
    subst hTX'
    have hY := H.out.2.2.2.2.2 hE
    have HH := Hid.mk (And.intro T4 (And.intro R4 (And.intro B4 (And.intro y2 (And.intro H.out.1 hY)))))
    clear T4 R4 B4 y1 y2 z4 hTX hE hY
    go_wp2_with fail
    subst hG
    have q := HH.out
    have A1 := (q.2.2.2.2.1.call q.2.2.1).kp (set5_kp w4 (w.heap.size + 1) (.slice a0 n0 c0) (.slice a1 n1 c1) (.slice a2 n2 c2) (.slice a3 n3 c3) (.slice a4 tx.length c4)) q.2.2.2.1 (.inl rfl)
    have A2 := q.1.kp (set5_kp w4 (w.heap.size + 1) (.slice a0 n0 c0) (.slice a1 n1 c1) (.slice a2 n2 c2) (.slice a3 n3 c3) (.slice a4 tx.length c4)) (q.1.ne q.2.2.2.1 (by decide)) (q.1.ne q.2.2.2.1 (by decide))
    have A3 := kp_bel q.2.2.1 (set5_kp w4 (w.heap.size + 1) (.slice a0 n0 c0) (.slice a1 n1 c1) (.slice a2 n2 c2) (.slice a3 n3 c3) (.slice a4 tx.length c4)) (by omega) (by omega)
    exact bodyPost_ret (p5_result rfl rfl (set5_box q.2.2.2.1 _ _ _ _ _)) rfl ⟨_, _, _, _, _, rfl, by rw [q.2.2.2.2.2]; exact A1, A2, A3⟩
end Go.Proofs.Ytacgemibaojbaaa
