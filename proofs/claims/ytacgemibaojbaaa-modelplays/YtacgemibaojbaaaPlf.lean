/-
  The plain transaction's own functions: Put. No condition. The plain transaction's own functions: Do. No condition.
-/
import Derived.Test.YtacgemibaojbaaaPld
namespace Go.Proofs.Ytacgemibaojbaaa
open Go Go.RowKit Go.Maps

/-- a plain transaction in a block of its own -/
def Box6 (w : World) (g : Nat) (v0 v1 v2 v3 v4 : Value) (n : Int) : Prop := w.heap[g]? = some (.cells #[v0, v1, v2, v3, v4, .int .i64 n] 38 (0, 0))
theorem Box6.lt {w g v0 v1 v2 v3 v4 n} (h : Box6 w g v0 v1 v2 v3 v4 n) : g < w.heap.size := (Array.getElem?_eq_some_iff.1 h).1
theorem Box6.call {w w' : World} {g v0 v1 v2 v3 v4 n} (h : Box6 w g v0 v1 v2 v3 v4 n) (b : Below w.heap.size w w') : Box6 w' g v0 v1 v2 v3 v4 n := (b.block g h.lt).trans h
theorem Box6.cells {w g v0 v1 v2 v3 v4 n} (h : Box6 w g v0 v1 v2 v3 v4 n) : w.cell? ⟨g, 0, none⟩ = some v0 ∧ w.cell? ⟨g, 1, none⟩ = some v1 ∧ w.cell? ⟨g, 2, none⟩ = some v2 ∧ w.cell? ⟨g, 3, none⟩ = some v3 ∧ w.cell? ⟨g, 4, none⟩ = some v4 ∧ w.cell? ⟨g, 5, none⟩ = some (.int .i64 n) := by
  refine ⟨?_, ?_, ?_, ?_, ?_, ?_⟩ <;> rw [cell_of_row w g _ _ 38 _ h] <;> rfl
theorem Box6.fz {w g v0 v1 v2 v3 v4 n} (h : Box6 w g v0 v1 v2 v3 v4 n) (j : Nat) : w.frozen? ⟨g, j, none⟩ = false := frozen_of_row w g j _ 38 h
theorem cells38 : (Try.prog.info? 38).map (·.size) = some 6 := by kernel_rfl
theorem p6_result {fn : Func} {p u : Tmp} (h : fn.results = #[.cell p 38, .tmp u]) {tmps : Array Value} {w : World} {g : Nat} {v0 v1 v2 v3 v4 : Value} {n : Int} (hp : tmps.getD p undef = .pointer (some ⟨g, 0, none⟩)) (hg : Box6 w g v0 v1 v2 v3 v4 n) :
    (results fn tmps).run Try.prog w = .ok (.tuple #[.agg #[v0, v1, v2, v3, v4, .int .i64 n], tmps.getD u undef]) w := by
  rw [results_cell_tmp h, hp]
  have q := run_loadVar_row (P := Try.prog) w g 38 38 #[v0, v1, v2, v3, v4, .int .i64 n] (0, 0) _ hg Try.underlying38 rfl cells38
  simp only [asAddr, Sem.run_pure, Result.andThen, q]
def set6 (w : World) (g : Nat) (v0 v1 v2 v3 v4 : Value) (n : Int) : World := (((((w.setCell ⟨g, 0, none⟩ v0).setCell ⟨g, 1, none⟩ v1).setCell ⟨g, 2, none⟩ v2).setCell ⟨g, 3, none⟩ v3).setCell ⟨g, 4, none⟩ v4).setCell ⟨g, 5, none⟩ (.int .i64 n)
theorem set6_box {w : World} {g : Nat} {z0 z1 z2 z3 z4 : Value} {m : Int} (h : Box6 w g z0 z1 z2 z3 z4 m) (v0 v1 v2 v3 v4 : Value) (n : Int) : Box6 (set6 w g v0 v1 v2 v3 v4 n) g v0 v1 v2 v3 v4 n := by
  unfold set6 Box6
  have h1 := heap_setCell_same w g 0 _ 38 v0 h
  have h2 := heap_setCell_same _ g 1 _ 38 v1 h1
  have h3 := heap_setCell_same _ g 2 _ 38 v2 h2
  have h4 := heap_setCell_same _ g 3 _ 38 v3 h3
  have h5 := heap_setCell_same _ g 4 _ 38 v4 h4
  exact heap_setCell_same _ g 5 _ 38 (.int .i64 n) h5
theorem set6_kp (w : World) (g : Nat) (v0 v1 v2 v3 v4 : Value) (n : Int) : Kp w (set6 w g v0 v1 v2 v3 v4 n) g g :=
  kp_trans (kp_trans (kp_trans (kp_trans (kp_trans (kp_set _ _ _ _ _ (.inr rfl) _) (kp_set _ _ _ _ _ (.inr rfl) _)) (kp_set _ _ _ _ _ (.inr rfl) _)) (kp_set _ _ _ _ _ (.inr rfl) _)) (kp_set _ _ _ _ _ (.inr rfl) _)) (kp_set _ _ _ _ _ (.inr rfl) _)
/-- what a plain transaction that is turned answers and leaves -/
def P6D (B : Nat) (r : PP × Int) (w : World) (e : Ending) (w' : World) : Prop :=
  ∃ u0 u1 u2 u3 ut, e = .returned (.tuple #[.agg #[u0, u1, u2, u3, ut, .int .i64 r.1.n], .int .i64 r.2]) ∧ RAt w' B u0 u1 u2 u3 (rs r.1.y) ∧ Ow w' B 9 1 ut (r.1.tx.map rT) ∧ Below w.heap.size w w'
/-- a plain transaction's slices, wherever they lie -/
structure PAt (w : World) (B : Nat) (v0 v1 v2 v3 vt : Value) (y : Ab) (tx : List ByteArray) : Prop where
  st : RAt w B v0 v1 v2 v3 (rs y)
  tx : Ow w B 9 1 vt (tx.map rT)
theorem PAt.call {w w' : World} {B v0 v1 v2 v3 vt y tx} (h : PAt w B v0 v1 v2 v3 vt y tx) (b : Below w.heap.size w w') : PAt w' B v0 v1 v2 v3 vt y tx := ⟨h.st.call b, h.tx.call b⟩
/-- an answer is stored -/
theorem p6_fin {w W : World} {B g : Nat} {v0 v1 v2 v3 vt z0 z1 z2 z3 z4 : Value} {m : Int} {y : Ab} {tx : List ByteArray} (h : PAt W B v0 v1 v2 v3 vt y tx) (hz : Box6 W g z0 z1 z2 z3 z4 m) (b : Below w.heap.size w W) (hg : w.heap.size ≤ g) (n : Int) :
    Box6 (set6 W g v0 v1 v2 v3 vt n) g v0 v1 v2 v3 vt n ∧ RAt (set6 W g v0 v1 v2 v3 vt n) B v0 v1 v2 v3 (rs y) ∧ Ow (set6 W g v0 v1 v2 v3 vt n) B 9 1 vt (tx.map rT) ∧ Below w.heap.size w (set6 W g v0 v1 v2 v3 vt n) :=
  ⟨set6_box hz _ _ _ _ _ _, h.st.kp (set6_kp W g v0 v1 v2 v3 vt n) hz (.inr rfl), h.tx.kp (set6_kp W g v0 v1 v2 v3 vt n) (h.tx.ne hz (by decide)) (h.tx.ne hz (by decide)), kp_bel b (set6_kp W g v0 v1 v2 v3 vt n) hg hg⟩
/-- what a function of the plain transaction lays first -/
structure P3 (w : World) (B G : Nat) (v0 v1 v2 v3 vt : Value) (Q : PP) (pl ks rr rp : Int) (gr gz : Nat) (W : World) : Prop where
  box : Box6 W G v0 v1 v2 v3 vt Q.n
  rm : RmB W gr pl ks rr rp
  zr : Box6 W gz (.slice none 0 0) (.slice none 0 0) (.slice none 0 0) (.slice none 0 0) (.slice none 0 0) 0
  at' : PAt W B v0 v1 v2 v3 vt Q.y Q.tx
  bel : Below w.heap.size w W
theorem P3.call {w B G v0 v1 v2 v3 vt Q pl ks rr rp gr gz W W'} (h : P3 w B G v0 v1 v2 v3 vt Q pl ks rr rp gr gz W) (b : Below W.heap.size W W') : P3 w B G v0 v1 v2 v3 vt Q pl ks rr rp gr gz W' :=
  ⟨h.box.call b, h.rm.call b, h.zr.call b, h.at'.call b, below3 h.bel b⟩
set_option maxRecDepth 20000 in
set_option maxHeartbeats 4000000 in
theorem put_pl {w : World} {B v0 v1 v2 v3 vt} {Q : PP} (h : PAt w B v0 v1 v2 v3 vt Q.y Q.tx) (hi : InvA Q.y) (hB : B ≤ w.heap.size) (hn : Q.tx.length ≤ 1000) (hn8 : Q.n ≤ 8) (pl ks rr rp S P : Int) (str : ByteArray) (hiR : InvA (layA Q.y S P (1000 + Q.tx.length)).1) :
    Calls Try.prog 14 #[.agg #[v0, v1, v2, v3, vt, .int .i64 Q.n], .int .i64 S, .int .i64 P, .string str, .agg #[.int .i64 pl, .int .i64 ks, .int .i64 rr, .int .i64 rp], .int .i64 64] w (P6D B (putP Q pl ks S P str) w) := by
  obtain ⟨a0, n0, c0, rfl⟩ := h.st.sp.isSl
  obtain ⟨a1, n1, c1, rfl⟩ := h.st.lv.isSl
  obtain ⟨a2, n2, c2, rfl⟩ := h.st.bad.isSl
  obtain ⟨a3, n3, c3, rfl⟩ := h.st.worn.isSl
  obtain ⟨a4, n4, c4, rfl⟩ := h.tx.isSl
  obtain ⟨Y, tx, nn⟩ := Q
  simp only at h hi hn hn8 hiR
  have b3 : Below w.heap.size w (((w.alloc (.cells #[.slice a0 n0 c0, .slice a1 n1 c1, .slice a2 n2 c2, .slice a3 n3 c3, .slice a4 n4 c4, .int .i64 nn] 38)).alloc (.cells #[.int .i64 pl, .int .i64 ks, .int .i64 rr, .int .i64 rp] 24)).alloc (.cells #[.slice none 0 0, .slice none 0 0, .slice none 0 0, .slice none 0 0, .slice none 0 0, .int .i64 0] 38)) := (((Below.refl _ w).alloc (Nat.le_refl _) _).alloc (by rw [size_alloc]; omega) _).alloc (by simp only [size_alloc]; omega) _
  have p3 : P3 w B w.heap.size (.slice a0 n0 c0) (.slice a1 n1 c1) (.slice a2 n2 c2) (.slice a3 n3 c3) (.slice a4 n4 c4) ⟨Y, tx, nn⟩ pl ks rr rp (w.heap.size + 1) (w.heap.size + 1 + 1) (((w.alloc (.cells #[.slice a0 n0 c0, .slice a1 n1 c1, .slice a2 n2 c2, .slice a3 n3 c3, .slice a4 n4 c4, .int .i64 nn] 38)).alloc (.cells #[.int .i64 pl, .int .i64 ks, .int .i64 rr, .int .i64 rp] 24)).alloc (.cells #[.slice none 0 0, .slice none 0 0, .slice none 0 0, .slice none 0 0, .slice none 0 0, .int .i64 0] 38)) := by
    refine ⟨?_, ?_, ?_, h.call b3, b3⟩
    · exact (Below.heap_alloc _ _ w.heap.size (by simp only [size_alloc]; omega)).trans ((Below.heap_alloc _ _ w.heap.size (by rw [size_alloc]; omega)).trans (heap_alloc_new w _))
    · have q := heap_alloc_new (w.alloc (.cells #[.slice a0 n0 c0, .slice a1 n1 c1, .slice a2 n2 c2, .slice a3 n3 c3, .slice a4 n4 c4, .int .i64 nn] 38)) (.cells #[.int .i64 pl, .int .i64 ks, .int .i64 rr, .int .i64 rp] 24)
      rw [size_alloc] at q
      exact (Below.heap_alloc _ _ (w.heap.size + 1) (by simp only [size_alloc]; omega)).trans q
    · have q := heap_alloc_new ((w.alloc (.cells #[.slice a0 n0 c0, .slice a1 n1 c1, .slice a2 n2 c2, .slice a3 n3 c3, .slice a4 n4 c4, .int .i64 nn] 38)).alloc (.cells #[.int .i64 pl, .int .i64 ks, .int .i64 rr, .int .i64 rp] 24)) (.cells #[.slice none 0 0, .slice none 0 0, .slice none 0 0, .slice none 0 0, .slice none 0 0, .int .i64 0] 38)
      rw [size_alloc, size_alloc] at q
      exact q
  generalize hRes : putP ⟨Y, tx, nn⟩ pl ks S P str = Res at *
  unfold putP at hRes
  simp only at hRes
  have same : ∀ (E : Int) (W : World), P3 w B w.heap.size (.slice a0 n0 c0) (.slice a1 n1 c1) (.slice a2 n2 c2) (.slice a3 n3 c3) (.slice a4 n4 c4) ⟨Y, tx, nn⟩ pl ks rr rp (w.heap.size + 1) (w.heap.size + 1 + 1) W → Box6 (set6 W (w.heap.size + 1 + 1) (.slice a0 n0 c0) (.slice a1 n1 c1) (.slice a2 n2 c2) (.slice a3 n3 c3) (.slice a4 n4 c4) nn) (w.heap.size + 1 + 1) (.slice a0 n0 c0) (.slice a1 n1 c1) (.slice a2 n2 c2) (.slice a3 n3 c3) (.slice a4 n4 c4) nn ∧ P6D B (⟨Y, tx, nn⟩, E) w (.returned (.tuple #[.agg #[.slice a0 n0 c0, .slice a1 n1 c1, .slice a2 n2 c2, .slice a3 n3 c3, .slice a4 n4 c4, .int .i64 nn], .int .i64 E])) (set6 W (w.heap.size + 1 + 1) (.slice a0 n0 c0) (.slice a1 n1 c1) (.slice a2 n2 c2) (.slice a3 n3 c3) (.slice a4 n4 c4) nn) := fun E W q => by
    have f := p6_fin q.at' q.zr q.bel (by omega) nn
    exact ⟨f.1, _, _, _, _, _, rfl, f.2.1, f.2.2.1, f.2.2.2⟩
  have SM := Hid.mk same
  clear same h b3
  by_cases h1 : (64 : Int) < (str.size : Int)
  · rw [if_pos h1] at hRes
    subst hRes
    go_enter Try.func14, Try.ntmps14
    go_upto_region 1 with fail
    generalize (((w.alloc (.cells #[.slice a0 n0 c0, .slice a1 n1 c1, .slice a2 n2 c2, .slice a3 n3 c3, .slice a4 n4 c4, .int .i64 nn] 38)).alloc (.cells #[.int .i64 pl, .int .i64 ks, .int .i64 rr, .int .i64 rp] 24)).alloc (.cells #[.slice none 0 0, .slice none 0 0, .slice none 0 0, .slice none 0 0, .slice none 0 0, .int .i64 0] 38)) = W at *
    obtain ⟨k0, k1, k2, k3, k4, k5⟩ := p3.box.cells
    obtain ⟨z0, z1, z2, z3, z4, z5⟩ := p3.zr.cells
    have f0 := p3.zr.fz 0
    have f1 := p3.zr.fz 1
    have f2 := p3.zr.fz 2
    have f3 := p3.zr.fz 3
    have f4 := p3.zr.fz 4
    have f5 := p3.zr.fz 5
    have PP3 := Hid.mk p3
    clear p3
    generalize hG : w.heap.size = G at *
    go_wp2_with fail
    have q := SM.out 173 W PP3.out
    refine bodyPost_ret (p6_result rfl rfl q.1) rfl ?_
    exact q.2
  · rw [if_neg h1] at hRes
    have hcl : ∀ W, P3 w B w.heap.size (.slice a0 n0 c0) (.slice a1 n1 c1) (.slice a2 n2 c2) (.slice a3 n3 c3) (.slice a4 n4 c4) ⟨Y, tx, nn⟩ pl ks rr rp (w.heap.size + 1) (w.heap.size + 1 + 1) W → Calls Try.prog 31 #[.agg #[.slice a0 n0 c0, .slice a1 n1 c1, .slice a2 n2 c2, .slice a3 n3 c3], .int .i64 S] W fun e w' => e = .returned (.int .i64 (clA Y S)) ∧ Below W.heap.size W w' := fun W q => sealed_rs q.at'.st hi S
    have hpp : ∀ W, P3 w B w.heap.size (.slice a0 n0 c0) (.slice a1 n1 c1) (.slice a2 n2 c2) (.slice a3 n3 c3) (.slice a4 n4 c4) ⟨Y, tx, nn⟩ pl ks rr rp (w.heap.size + 1) (w.heap.size + 1 + 1) W → Calls Try.prog 32 #[.agg #[.slice a0 n0 c0, .slice a1 n1 c1, .slice a2 n2 c2, .slice a3 n3 c3, .slice a4 n4 c4], .int .i64 S, .int .i64 P, .string str] W (PtD B (layA Y S P (1000 + tx.length)) (if (layA Y S P (1000 + tx.length)).2 = 0 then tx ++ [str] else tx) W) := fun W q => pput_any q.at'.st hi (Nat.le_trans hB q.bel.size) q.at'.tx hn S P str
    have hft : ∀ (W : World) (u0 u1 u2 u3 ut : Value), RAt W B u0 u1 u2 u3 (rs (layA Y S P (1000 + tx.length)).1) → IsSl ut → Calls Try.prog 33 #[.agg #[u0, u1, u2, u3, ut], .agg #[.int .i64 pl, .int .i64 ks, .int .i64 rr, .int .i64 rp]] W fun e w' => e = .returned (.bool (fitB pl ks (layA Y S P (1000 + tx.length)).1)) ∧ Below W.heap.size W w' := fun W u0 u1 u2 u3 ut q t => rfits_any q hiR t pl ks rr rp
    generalize layA Y S P (1000 + tx.length) = R at *
    generalize clA Y S = E1 at *
    obtain ⟨Y', E⟩ := R
    simp only at hpp hft hRes hiR
    have HC := Hid.mk (And.intro hcl (And.intro hpp hft))
    clear hcl hpp hft hi hiR hn
    unfold stepP at hRes
    simp only at hRes
    have hE1 := Hid.mk (Classical.em (E1 = 0))
    go_enter Try.func14, Try.ntmps14
    go_upto_region 3 with fail
    generalize (((w.alloc (.cells #[.slice a0 n0 c0, .slice a1 n1 c1, .slice a2 n2 c2, .slice a3 n3 c3, .slice a4 n4 c4, .int .i64 nn] 38)).alloc (.cells #[.int .i64 pl, .int .i64 ks, .int .i64 rr, .int .i64 rp] 24)).alloc (.cells #[.slice none 0 0, .slice none 0 0, .slice none 0 0, .slice none 0 0, .slice none 0 0, .int .i64 0] 38)) = W at *
    obtain ⟨k0, k1, k2, k3, k4, k5⟩ := p3.box.cells
    obtain ⟨z0, z1, z2, z3, z4, z5⟩ := p3.zr.cells
    have f0 := p3.zr.fz 0
    have f1 := p3.zr.fz 1
    have f2 := p3.zr.fz 2
    have f3 := p3.zr.fz 3
    have f4 := p3.zr.fz 4
    have f5 := p3.zr.fz 5
    obtain ⟨o0, o1, o2, o3⟩ := p3.rm.cells
    have c33 := Hid.mk (HC.out.1 W p3)
    have PP3 := Hid.mk p3
    clear p3
    generalize hG : w.heap.size = G at *
    go_upto_region 4 with (first | (go_at_call 31; refine c33.out.mono ?_; rintro e w4 ⟨rfl, b4⟩))
    have p4 := PP3.out.call b4
    clear c33 PP3 b4 k0 k1 k2 k3 k4 k5 z0 z1 z2 z3 z4 z5 f0 f1 f2 f3 f4 f5 o0 o1 o2 o3
    obtain ⟨k0, k1, k2, k3, k4, k5⟩ := p4.box.cells
    obtain ⟨z0, z1, z2, z3, z4, z5⟩ := p4.zr.cells
    have f0 := p4.zr.fz 0
    have f1 := p4.zr.fz 1
    have f2 := p4.zr.fz 2
    have f3 := p4.zr.fz 3
    have f4 := p4.zr.fz 4
    have f5 := p4.zr.fz 5
    obtain ⟨o0, o1, o2, o3⟩ := p4.rm.cells
    rcases hE1.out with hz | hz
    · subst hz
      rw [if_neg (fun q => q rfl)] at hRes
      clear hE1
      by_cases h8 : 8 ≤ nn
      · rw [if_pos h8] at hRes
        subst hRes
        have PP4 := Hid.mk p4
        clear p4
        go_wp2_with fail
        have q := SM.out 171 w4 PP4.out
        refine bodyPost_ret (p6_result rfl rfl q.1) rfl ?_
        exact q.2
      · rw [if_neg h8] at hRes
        have c34 := HC.out.2.1 w4 p4
        replace hRes := Hid.mk hRes
        replace c34 := Hid.mk c34
        have PP4 := Hid.mk p4
        clear p4
        go_upto_region 9 with (first | (go_at_call 32; refine c34.out.mono ?_; rintro e w5 ⟨u0, u1, u2, u3, ut, rfl, R5, T5, b5⟩; obtain ⟨d0, m0, e0, rfl⟩ := R5.sp.isSl; obtain ⟨d1, m1, e1, rfl⟩ := R5.lv.isSl; obtain ⟨d2, m2, e2, rfl⟩ := R5.bad.isSl; obtain ⟨d3, m3, e3, rfl⟩ := R5.worn.isSl; obtain ⟨d4, m4, e4, rfl⟩ := T5.isSl; simp only))
        have p5 := (PP4.out.call b5).call (below_al w5 (.cells #[.slice d0 m0 e0, .slice d1 m1 e1, .slice d2 m2 e2, .slice d3 m3 e3, .slice d4 m4 e4] 36))
        have y5 : Box5 (w5.alloc (.cells #[.slice d0 m0 e0, .slice d1 m1 e1, .slice d2 m2 e2, .slice d3 m3 e3, .slice d4 m4 e4] 36)) w5.heap.size (.slice d0 m0 e0) (.slice d1 m1 e1) (.slice d2 m2 e2) (.slice d3 m3 e3) (.slice d4 m4 e4) := heap_alloc_new _ _
        have A5 : PAt (w5.alloc (.cells #[.slice d0 m0 e0, .slice d1 m1 e1, .slice d2 m2 e2, .slice d3 m3 e3, .slice d4 m4 e4] 36)) B (.slice d0 m0 e0) (.slice d1 m1 e1) (.slice d2 m2 e2) (.slice d3 m3 e3) (.slice d4 m4 e4) Y' (if E = 0 then tx ++ [str] else tx) := ⟨R5.alloc _, T5.alloc _⟩
        clear c34 PP4 b5 R5 T5 k0 k1 k2 k3 k4 k5 z0 z1 z2 z3 z4 z5 f0 f1 f2 f3 f4 f5 o0 o1 o2 o3
        generalize w5.alloc (.cells #[.slice d0 m0 e0, .slice d1 m1 e1, .slice d2 m2 e2, .slice d3 m3 e3, .slice d4 m4 e4] 36) = w6 at *
        generalize w5.heap.size = g15 at *
        obtain ⟨k0, k1, k2, k3, k4, k5⟩ := p5.box.cells
        obtain ⟨z0, z1, z2, z3, z4, z5⟩ := p5.zr.cells
        have f0 := p5.zr.fz 0
        have f1 := p5.zr.fz 1
        have f2 := p5.zr.fz 2
        have f3 := p5.zr.fz 3
        have f4 := p5.zr.fz 4
        have f5 := p5.zr.fz 5
        obtain ⟨o0, o1, o2, o3⟩ := p5.rm.cells
        by_cases hE : E = 0
        · subst hE
          have hRes2 := hRes.out
          rw [if_neg (fun q => q rfl)] at hRes2
          simp only [if_true] at A5
          obtain ⟨t0, t1, t2, t3, t4⟩ := y5.cells
          have c35 := HC.out.2.2 w6 _ _ _ _ (.slice d4 m4 e4) A5.st ⟨_, _, _, rfl⟩
          replace c35 := Hid.mk c35
          have PP5 := Hid.mk (And.intro p5 (And.intro y5 A5))
          clear p5 y5 A5
          have hfb : fitB pl ks Y' = decide (¬ (pl < (liveA Y' : Int) ∨ ks < (pagesN Y'.sp : Int))) := by
            unfold fitB
            by_cases q1 : (liveA Y' : Int) ≤ pl <;> by_cases q2 : (pagesN Y'.sp : Int) ≤ ks <;> simp [q1, q2]
          replace hfb := Hid.mk hfb
          replace hRes2 := Hid.mk hRes2
          go_upto_region 11 with fail
          by_cases hr : pl < (liveA Y' : Int) ∨ ks < (pagesN Y'.sp : Int)
          · have hRes3 := hRes2.out
            rw [if_pos hr] at hRes3
            have hb : fitB pl ks Y' = false := by rw [hfb.out]; exact decide_eq_false (fun q => q hr)
            rw [hb] at c35
            clear hfb hb hr hRes2
            subst hRes3
            clear hRes
            go_upto_region 12 with (first | (go_at_call 33; refine c35.out.mono ?_; rintro e w7 ⟨rfl, b7⟩))
            have p7 := PP5.out.1.call b7
            clear k0 k1 k2 k3 k4 k5 z0 z1 z2 z3 z4 z5 f0 f1 f2 f3 f4 f5 o0 o1 o2 o3 t0 t1 t2 t3 t4
            obtain ⟨k0, k1, k2, k3, k4, k5⟩ := p7.box.cells
            obtain ⟨z0, z1, z2, z3, z4, z5⟩ := p7.zr.cells
            have f0 := p7.zr.fz 0
            have f1 := p7.zr.fz 1
            have f2 := p7.zr.fz 2
            have f3 := p7.zr.fz 3
            have f4 := p7.zr.fz 4
            have f5 := p7.zr.fz 5
            obtain ⟨o0, o1, o2, o3⟩ := p7.rm.cells
            have PP7 := Hid.mk p7
            clear p7
            go_wp2_with fail
            have q := SM.out 172 w7 PP7.out
            refine bodyPost_ret (p6_result rfl rfl q.1) rfl ?_
            exact q.2
          · have hRes3 := hRes2.out
            rw [if_neg hr] at hRes3
            have hb : fitB pl ks Y' = true := by rw [hfb.out]; exact decide_eq_true hr
            rw [hb] at c35
            clear hfb hb hr hRes2
            subst hRes3
            clear hRes
            go_upto_region 13 with (first | (go_at_call 33; refine c35.out.mono ?_; rintro e w7 ⟨rfl, b7⟩))
            have p7 := PP5.out.1.call b7
            have y7 := PP5.out.2.1.call b7
            have A7 := PP5.out.2.2.call b7
            clear k0 k1 k2 k3 k4 k5 z0 z1 z2 z3 z4 z5 f0 f1 f2 f3 f4 f5 o0 o1 o2 o3 t0 t1 t2 t3 t4
            obtain ⟨k0, k1, k2, k3, k4, k5⟩ := p7.box.cells
            obtain ⟨z0, z1, z2, z3, z4, z5⟩ := p7.zr.cells
            have f0 := p7.zr.fz 0
            have f1 := p7.zr.fz 1
            have f2 := p7.zr.fz 2
            have f3 := p7.zr.fz 3
            have f4 := p7.zr.fz 4
            have f5 := p7.zr.fz 5
            obtain ⟨o0, o1, o2, o3⟩ := p7.rm.cells
            obtain ⟨t0, t1, t2, t3, t4⟩ := y7.cells
            have PP7 := Hid.mk (And.intro p7 A7)
            clear p7 y7 A7
            go_wp2_with fail
            subst hG
            have f := p6_fin PP7.out.2 PP7.out.1.zr PP7.out.1.bel (by omega) (nn + 1 : Int)
            refine bodyPost_ret (p6_result rfl rfl f.1) rfl ?_
            exact ⟨_, _, _, _, _, rfl, f.2.1, f.2.2.1, f.2.2.2⟩
        · have hEb : (E != 0) = true := by simpa using hE
          have hRes2 := hRes.out
          rw [if_pos hE] at hRes2
          subst hRes2
          have PP5 := Hid.mk p5
          clear p5 y5 A5 hRes hE
          go_wp2_with fail
          have q := SM.out E w6 PP5.out
          refine bodyPost_ret (p6_result rfl rfl q.1) rfl ?_
          exact q.2
    · rw [if_pos hz] at hRes
      subst hRes
      have hEb : (E1 != 0) = true := by simpa using hz
      have PP4 := Hid.mk p4
      clear p4 hE1 hz
      go_wp2_with fail
      have q := SM.out E1 w4 PP4.out
      refine bodyPost_ret (p6_result rfl rfl q.1) rfl ?_
      exact q.2
theorem do_ap {Y : Ab} (h : InvA Y) {K S P A T N : Int} (hm : mayB K S P A T N = true) : doR (rs Y) K S P A T N = (rs (apA Y K S P A T N).1, (apA Y K S P A T N).2) := by
  have q := ap_same h K S P A T N
  unfold apR' at q
  rw [if_neg (by rw [hm]; decide)] at q
  exact q
set_option maxRecDepth 20000 in
set_option maxHeartbeats 4000000 in
theorem do_pl {w : World} {B v0 v1 v2 v3 vt} {Q : PP} (h : PAt w B v0 v1 v2 v3 vt Q.y Q.tx) (hi : InvA Q.y) (hB : B ≤ w.heap.size) (hn8 : Q.n ≤ 8) (pl ks rr rp K S P A T N : Int) (hiR : kindB K = true → InvA (apA Q.y K S P A T N).1) :
    Calls Try.prog 15 #[.agg #[v0, v1, v2, v3, vt, .int .i64 Q.n], rv K S P A T N, .agg #[.int .i64 pl, .int .i64 ks, .int .i64 rr, .int .i64 rp]] w (P6D B (doP Q pl ks K S P A T N) w) := by
  obtain ⟨a0, n0, c0, rfl⟩ := h.st.sp.isSl
  obtain ⟨a1, n1, c1, rfl⟩ := h.st.lv.isSl
  obtain ⟨a2, n2, c2, rfl⟩ := h.st.bad.isSl
  obtain ⟨a3, n3, c3, rfl⟩ := h.st.worn.isSl
  obtain ⟨a4, n4, c4, rfl⟩ := h.tx.isSl
  obtain ⟨Y, tx, nn⟩ := Q
  simp only at h hi hn8 hiR
  unfold rv
  have b3 : Below w.heap.size w ((((w.alloc (.cells #[.slice a0 n0 c0, .slice a1 n1 c1, .slice a2 n2 c2, .slice a3 n3 c3, .slice a4 n4 c4, .int .i64 nn] 38)).alloc (.cells #[.int .i64 K, .int .i64 S, .int .i64 P, .int .i64 A, .int .i64 T, .int .i64 N] 41)).alloc (.cells #[.int .i64 pl, .int .i64 ks, .int .i64 rr, .int .i64 rp] 24)).alloc (.cells #[.slice none 0 0, .slice none 0 0, .slice none 0 0, .slice none 0 0, .slice none 0 0, .int .i64 0] 38)) := ((((Below.refl _ w).alloc (Nat.le_refl _) _).alloc (by rw [size_alloc]; omega) _).alloc (by simp only [size_alloc]; omega) _).alloc (by simp only [size_alloc]; omega) _
  have p3 : P3 w B w.heap.size (.slice a0 n0 c0) (.slice a1 n1 c1) (.slice a2 n2 c2) (.slice a3 n3 c3) (.slice a4 n4 c4) ⟨Y, tx, nn⟩ pl ks rr rp (w.heap.size + 1 + 1) (w.heap.size + 1 + 1 + 1) ((((w.alloc (.cells #[.slice a0 n0 c0, .slice a1 n1 c1, .slice a2 n2 c2, .slice a3 n3 c3, .slice a4 n4 c4, .int .i64 nn] 38)).alloc (.cells #[.int .i64 K, .int .i64 S, .int .i64 P, .int .i64 A, .int .i64 T, .int .i64 N] 41)).alloc (.cells #[.int .i64 pl, .int .i64 ks, .int .i64 rr, .int .i64 rp] 24)).alloc (.cells #[.slice none 0 0, .slice none 0 0, .slice none 0 0, .slice none 0 0, .slice none 0 0, .int .i64 0] 38)) := by
    refine ⟨?_, ?_, ?_, h.call b3, b3⟩
    · exact (Below.heap_alloc _ _ w.heap.size (by simp only [size_alloc]; omega)).trans ((Below.heap_alloc _ _ w.heap.size (by simp only [size_alloc]; omega)).trans ((Below.heap_alloc _ _ w.heap.size (by rw [size_alloc]; omega)).trans (heap_alloc_new w _)))
    · have q := heap_alloc_new ((w.alloc (.cells #[.slice a0 n0 c0, .slice a1 n1 c1, .slice a2 n2 c2, .slice a3 n3 c3, .slice a4 n4 c4, .int .i64 nn] 38)).alloc (.cells #[.int .i64 K, .int .i64 S, .int .i64 P, .int .i64 A, .int .i64 T, .int .i64 N] 41)) (.cells #[.int .i64 pl, .int .i64 ks, .int .i64 rr, .int .i64 rp] 24)
      rw [size_alloc, size_alloc] at q
      exact (Below.heap_alloc _ _ (w.heap.size + 1 + 1) (by simp only [size_alloc]; omega)).trans q
    · have q := heap_alloc_new (((w.alloc (.cells #[.slice a0 n0 c0, .slice a1 n1 c1, .slice a2 n2 c2, .slice a3 n3 c3, .slice a4 n4 c4, .int .i64 nn] 38)).alloc (.cells #[.int .i64 K, .int .i64 S, .int .i64 P, .int .i64 A, .int .i64 T, .int .i64 N] 41)).alloc (.cells #[.int .i64 pl, .int .i64 ks, .int .i64 rr, .int .i64 rp] 24)) (.cells #[.slice none 0 0, .slice none 0 0, .slice none 0 0, .slice none 0 0, .slice none 0 0, .int .i64 0] 38)
      rw [size_alloc, size_alloc, size_alloc] at q
      exact q
  have r3 : Row ((((w.alloc (.cells #[.slice a0 n0 c0, .slice a1 n1 c1, .slice a2 n2 c2, .slice a3 n3 c3, .slice a4 n4 c4, .int .i64 nn] 38)).alloc (.cells #[.int .i64 K, .int .i64 S, .int .i64 P, .int .i64 A, .int .i64 T, .int .i64 N] 41)).alloc (.cells #[.int .i64 pl, .int .i64 ks, .int .i64 rr, .int .i64 rp] 24)).alloc (.cells #[.slice none 0 0, .slice none 0 0, .slice none 0 0, .slice none 0 0, .slice none 0 0, .int .i64 0] 38)) (w.heap.size + 1) 41 .i64 [K, S, P, A, T, N] := by
    have q := heap_alloc_new (w.alloc (.cells #[.slice a0 n0 c0, .slice a1 n1 c1, .slice a2 n2 c2, .slice a3 n3 c3, .slice a4 n4 c4, .int .i64 nn] 38)) (.cells #[.int .i64 K, .int .i64 S, .int .i64 P, .int .i64 A, .int .i64 T, .int .i64 N] 41)
    rw [size_alloc] at q
    exact (Below.heap_alloc _ _ (w.heap.size + 1) (by simp only [size_alloc]; omega)).trans ((Below.heap_alloc _ _ (w.heap.size + 1) (by simp only [size_alloc]; omega)).trans q)
  generalize hRes : doP ⟨Y, tx, nn⟩ pl ks K S P A T N = Res at *
  unfold doP at hRes
  simp only at hRes
  have same : ∀ (E : Int) (W : World), P3 w B w.heap.size (.slice a0 n0 c0) (.slice a1 n1 c1) (.slice a2 n2 c2) (.slice a3 n3 c3) (.slice a4 n4 c4) ⟨Y, tx, nn⟩ pl ks rr rp (w.heap.size + 1 + 1) (w.heap.size + 1 + 1 + 1) W → Box6 (set6 W (w.heap.size + 1 + 1 + 1) (.slice a0 n0 c0) (.slice a1 n1 c1) (.slice a2 n2 c2) (.slice a3 n3 c3) (.slice a4 n4 c4) nn) (w.heap.size + 1 + 1 + 1) (.slice a0 n0 c0) (.slice a1 n1 c1) (.slice a2 n2 c2) (.slice a3 n3 c3) (.slice a4 n4 c4) nn ∧ P6D B (⟨Y, tx, nn⟩, E) w (.returned (.tuple #[.agg #[.slice a0 n0 c0, .slice a1 n1 c1, .slice a2 n2 c2, .slice a3 n3 c3, .slice a4 n4 c4, .int .i64 nn], .int .i64 E])) (set6 W (w.heap.size + 1 + 1 + 1) (.slice a0 n0 c0) (.slice a1 n1 c1) (.slice a2 n2 c2) (.slice a3 n3 c3) (.slice a4 n4 c4) nn) := fun E W q => by
    have f := p6_fin q.at' q.zr q.bel (by omega) nn
    exact ⟨f.1, _, _, _, _, _, rfl, f.2.1, f.2.2.1, f.2.2.2⟩
  have hcl : ∀ W, P3 w B w.heap.size (.slice a0 n0 c0) (.slice a1 n1 c1) (.slice a2 n2 c2) (.slice a3 n3 c3) (.slice a4 n4 c4) ⟨Y, tx, nn⟩ pl ks rr rp (w.heap.size + 1 + 1) (w.heap.size + 1 + 1 + 1) W → Calls Try.prog 31 #[.agg #[.slice a0 n0 c0, .slice a1 n1 c1, .slice a2 n2 c2, .slice a3 n3 c3], .int .i64 S] W fun e w' => e = .returned (.int .i64 (clA Y S)) ∧ Below W.heap.size W w' := fun W q => sealed_rs q.at'.st hi S
  have hck : ∀ W, Calls Try.prog 34 #[.agg #[.int .i64 K, .int .i64 S, .int .i64 P, .int .i64 A, .int .i64 T, .int .i64 N]] W fun e w' => e = .returned (.bool (mayB K S P A T N)) ∧ Below W.heap.size W w' := fun W => refCheckB_any K S P A T N W
  have hdo : mayB K S P A T N = true → kindB K = true → ∀ W, P3 w B w.heap.size (.slice a0 n0 c0) (.slice a1 n1 c1) (.slice a2 n2 c2) (.slice a3 n3 c3) (.slice a4 n4 c4) ⟨Y, tx, nn⟩ pl ks rr rp (w.heap.size + 1 + 1) (w.heap.size + 1 + 1 + 1) W → Calls Try.prog 35 #[.agg #[.slice a0 n0 c0, .slice a1 n1 c1, .slice a2 n2 c2, .slice a3 n3 c3], .agg #[.int .i64 K, .int .i64 S, .int .i64 P, .int .i64 A, .int .i64 T, .int .i64 N]] W (DoR W B (.slice a0 n0 c0) (.slice a1 n1 c1) (.slice a2 n2 c2) (.slice a3 n3 c3) (rs (apA Y K S P A T N).1, (apA Y K S P A T N).2)) := fun hm hk W q => by
    have z := do_any q.at'.st (Nat.le_trans hB q.bel.size) (lens_rs hi) (K := K) (S := S) (P := P) (A := A) (T := T) (N := N) (by unfold kindB at hk; simp only [Bool.or_eq_true, beq_iff_eq] at hk; omega)
    rw [do_ap hi hm] at z
    exact z
  have hft : kindB K = true → ∀ (W : World) (u0 u1 u2 u3 ut : Value), RAt W B u0 u1 u2 u3 (rs (apA Y K S P A T N).1) → IsSl ut → Calls Try.prog 33 #[.agg #[u0, u1, u2, u3, ut], .agg #[.int .i64 pl, .int .i64 ks, .int .i64 rr, .int .i64 rp]] W fun e w' => e = .returned (.bool (fitB pl ks (apA Y K S P A T N).1)) ∧ Below W.heap.size W w' := fun hk W u0 u1 u2 u3 ut q t => rfits_any q (hiR hk) t pl ks rr rp
  have SM := Hid.mk same
  clear same h b3 hi hiR
  generalize apA Y K S P A T N = R at *
  generalize clA Y S = E1 at *
  obtain ⟨Y', E⟩ := R
  simp only at hdo hft hRes
  unfold stepP at hRes
  simp only at hRes
  by_cases hkb : kindB K = true
  · cases hm : mayB K S P A T N with
    | false =>
      rw [hkb, hm] at hRes
      rw [if_pos (by decide)] at hRes
      subst hRes
      rw [hm] at hck
      have HC := Hid.mk hck
      clear hck hdo hft hcl hm
      by_cases hK2 : K = 2
      · subst hK2
        go_enter Try.func15, Try.ntmps15
        go_upto_region 1 with fail
        generalize ((((w.alloc (.cells #[.slice a0 n0 c0, .slice a1 n1 c1, .slice a2 n2 c2, .slice a3 n3 c3, .slice a4 n4 c4, .int .i64 nn] 38)).alloc (.cells #[.int .i64 2, .int .i64 S, .int .i64 P, .int .i64 A, .int .i64 T, .int .i64 N] 41)).alloc (.cells #[.int .i64 pl, .int .i64 ks, .int .i64 rr, .int .i64 rp] 24)).alloc (.cells #[.slice none 0 0, .slice none 0 0, .slice none 0 0, .slice none 0 0, .slice none 0 0, .int .i64 0] 38)) = W at *
        obtain ⟨k0, k1, k2, k3, k4, k5⟩ := p3.box.cells
        obtain ⟨z0, z1, z2, z3, z4, z5⟩ := p3.zr.cells
        have f0 := p3.zr.fz 0
        have f1 := p3.zr.fz 1
        have f2 := p3.zr.fz 2
        have f3 := p3.zr.fz 3
        have f4 := p3.zr.fz 4
        have f5 := p3.zr.fz 5
        obtain ⟨o0, o1, o2, o3⟩ := p3.rm.cells
        obtain ⟨x0, x1, x2, x3, x4, x5⟩ := r3.six
        have PP3 := Hid.mk (And.intro p3 r3)
        clear p3 r3
        generalize hG : w.heap.size = G at *
        go_upto_region 2 with (first | (go_at_call 34; refine (HC.out _).mono ?_; rintro e w4 ⟨rfl, b4⟩))
        have p4 := PP3.out.1.call b4
        have r4 := PP3.out.2.call b4
        clear k0 k1 k2 k3 k4 k5 z0 z1 z2 z3 z4 z5 f0 f1 f2 f3 f4 f5 o0 o1 o2 o3 x0 x1 x2 x3 x4 x5
        obtain ⟨k0, k1, k2, k3, k4, k5⟩ := p4.box.cells
        obtain ⟨z0, z1, z2, z3, z4, z5⟩ := p4.zr.cells
        have f0 := p4.zr.fz 0
        have f1 := p4.zr.fz 1
        have f2 := p4.zr.fz 2
        have f3 := p4.zr.fz 3
        have f4 := p4.zr.fz 4
        have f5 := p4.zr.fz 5
        obtain ⟨o0, o1, o2, o3⟩ := p4.rm.cells
        obtain ⟨x0, x1, x2, x3, x4, x5⟩ := r4.six
        have PP4 := Hid.mk p4
        clear p4 r4
        go_wp2_with fail
        have q := SM.out 1 w4 PP4.out
        refine bodyPost_ret (p6_result rfl rfl q.1) rfl ?_
        exact q.2
      · have hK2b : (K == 2) = false := by simpa using hK2
        have hK47 : 4 ≤ K ∧ K ≤ 7 := by unfold kindB at hkb; simp only [Bool.or_eq_true, beq_iff_eq] at hkb; omega
        obtain ⟨hK4, hK7⟩ := hK47
        clear hkb hK2
        go_enter Try.func15, Try.ntmps15
        go_upto_region 1 with fail
        generalize ((((w.alloc (.cells #[.slice a0 n0 c0, .slice a1 n1 c1, .slice a2 n2 c2, .slice a3 n3 c3, .slice a4 n4 c4, .int .i64 nn] 38)).alloc (.cells #[.int .i64 K, .int .i64 S, .int .i64 P, .int .i64 A, .int .i64 T, .int .i64 N] 41)).alloc (.cells #[.int .i64 pl, .int .i64 ks, .int .i64 rr, .int .i64 rp] 24)).alloc (.cells #[.slice none 0 0, .slice none 0 0, .slice none 0 0, .slice none 0 0, .slice none 0 0, .int .i64 0] 38)) = W at *
        obtain ⟨k0, k1, k2, k3, k4, k5⟩ := p3.box.cells
        obtain ⟨z0, z1, z2, z3, z4, z5⟩ := p3.zr.cells
        have f0 := p3.zr.fz 0
        have f1 := p3.zr.fz 1
        have f2 := p3.zr.fz 2
        have f3 := p3.zr.fz 3
        have f4 := p3.zr.fz 4
        have f5 := p3.zr.fz 5
        obtain ⟨o0, o1, o2, o3⟩ := p3.rm.cells
        obtain ⟨x0, x1, x2, x3, x4, x5⟩ := r3.six
        have PP3 := Hid.mk (And.intro p3 r3)
        clear p3 r3
        generalize hG : w.heap.size = G at *
        go_upto_region 2 with (first | (go_at_call 34; refine (HC.out _).mono ?_; rintro e w4 ⟨rfl, b4⟩))
        have p4 := PP3.out.1.call b4
        have r4 := PP3.out.2.call b4
        clear k0 k1 k2 k3 k4 k5 z0 z1 z2 z3 z4 z5 f0 f1 f2 f3 f4 f5 o0 o1 o2 o3 x0 x1 x2 x3 x4 x5
        obtain ⟨k0, k1, k2, k3, k4, k5⟩ := p4.box.cells
        obtain ⟨z0, z1, z2, z3, z4, z5⟩ := p4.zr.cells
        have f0 := p4.zr.fz 0
        have f1 := p4.zr.fz 1
        have f2 := p4.zr.fz 2
        have f3 := p4.zr.fz 3
        have f4 := p4.zr.fz 4
        have f5 := p4.zr.fz 5
        obtain ⟨o0, o1, o2, o3⟩ := p4.rm.cells
        obtain ⟨x0, x1, x2, x3, x4, x5⟩ := r4.six
        have PP4 := Hid.mk p4
        clear p4 r4
        go_wp2_with fail
        have q := SM.out 1 w4 PP4.out
        refine bodyPost_ret (p6_result rfl rfl q.1) rfl ?_
        exact q.2
    | true =>
      rw [hkb, hm] at hRes
      rw [if_neg (by decide)] at hRes
      rw [hm] at hck
      have HC := Hid.mk hck
      have HDO := Hid.mk (hdo hm hkb)
      have HFT := Hid.mk (hft hkb)
      have HCL := Hid.mk hcl
      clear hck hdo hft hcl hm
      by_cases hK2 : K = 2
      · subst hK2
        simp only [true_and] at hRes
        have hE1 := Hid.mk (Classical.em (E1 = 0))
        go_enter Try.func15, Try.ntmps15
        go_upto_region 1 with fail
        generalize ((((w.alloc (.cells #[.slice a0 n0 c0, .slice a1 n1 c1, .slice a2 n2 c2, .slice a3 n3 c3, .slice a4 n4 c4, .int .i64 nn] 38)).alloc (.cells #[.int .i64 2, .int .i64 S, .int .i64 P, .int .i64 A, .int .i64 T, .int .i64 N] 41)).alloc (.cells #[.int .i64 pl, .int .i64 ks, .int .i64 rr, .int .i64 rp] 24)).alloc (.cells #[.slice none 0 0, .slice none 0 0, .slice none 0 0, .slice none 0 0, .slice none 0 0, .int .i64 0] 38)) = W at *
        obtain ⟨k0, k1, k2, k3, k4, k5⟩ := p3.box.cells
        obtain ⟨z0, z1, z2, z3, z4, z5⟩ := p3.zr.cells
        have f0 := p3.zr.fz 0
        have f1 := p3.zr.fz 1
        have f2 := p3.zr.fz 2
        have f3 := p3.zr.fz 3
        have f4 := p3.zr.fz 4
        have f5 := p3.zr.fz 5
        obtain ⟨o0, o1, o2, o3⟩ := p3.rm.cells
        obtain ⟨x0, x1, x2, x3, x4, x5⟩ := r3.six
        have PP3 := Hid.mk (And.intro p3 r3)
        clear p3 r3
        generalize hG : w.heap.size = G at *
        go_upto_region 3 with (first | (go_at_call 34; refine (HC.out _).mono ?_; rintro e w3 ⟨rfl, b3⟩))
        have p3 := PP3.out.1.call b3
        have r3 := PP3.out.2.call b3
        clear k0 k1 k2 k3 k4 k5 z0 z1 z2 z3 z4 z5 f0 f1 f2 f3 f4 f5 o0 o1 o2 o3 x0 x1 x2 x3 x4 x5
        obtain ⟨k0, k1, k2, k3, k4, k5⟩ := p3.box.cells
        obtain ⟨z0, z1, z2, z3, z4, z5⟩ := p3.zr.cells
        have f0 := p3.zr.fz 0
        have f1 := p3.zr.fz 1
        have f2 := p3.zr.fz 2
        have f3 := p3.zr.fz 3
        have f4 := p3.zr.fz 4
        have f5 := p3.zr.fz 5
        obtain ⟨o0, o1, o2, o3⟩ := p3.rm.cells
        obtain ⟨x0, x1, x2, x3, x4, x5⟩ := r3.six
        have c33 := Hid.mk (HCL.out w3 p3)
        have QQ3 := Hid.mk (And.intro p3 r3)
        clear p3 r3 PP3 b3
        go_upto_region 5 with (first | (go_at_call 31; refine c33.out.mono ?_; rintro e w4 ⟨rfl, b4⟩))
        have p4 := QQ3.out.1.call b4
        have r4 := QQ3.out.2.call b4
        clear k0 k1 k2 k3 k4 k5 z0 z1 z2 z3 z4 z5 f0 f1 f2 f3 f4 f5 o0 o1 o2 o3 x0 x1 x2 x3 x4 x5 b4 c33
        obtain ⟨k0, k1, k2, k3, k4, k5⟩ := p4.box.cells
        obtain ⟨z0, z1, z2, z3, z4, z5⟩ := p4.zr.cells
        have f0 := p4.zr.fz 0
        have f1 := p4.zr.fz 1
        have f2 := p4.zr.fz 2
        have f3 := p4.zr.fz 3
        have f4 := p4.zr.fz 4
        have f5 := p4.zr.fz 5
        obtain ⟨o0, o1, o2, o3⟩ := p4.rm.cells
        obtain ⟨x0, x1, x2, x3, x4, x5⟩ := r4.six
        rcases hE1.out with hz | hz
        · subst hz
          rw [if_neg (fun q => q rfl)] at hRes
          clear hE1 HC HCL QQ3
          by_cases h8 : 8 ≤ nn
          · rw [if_pos h8] at hRes
            subst hRes
            have PP4 := Hid.mk p4
            clear p4 r4
            go_wp2_with fail
            have q := SM.out 171 w4 PP4.out
            refine bodyPost_ret (p6_result rfl rfl q.1) rfl ?_
            exact q.2
          · rw [if_neg h8] at hRes
            have c30 := HDO.out w4 p4
            replace hRes := Hid.mk hRes
            replace c30 := Hid.mk c30
            have PP4 := Hid.mk (And.intro p4 r4)
            clear p4 r4
            go_upto_region 10 with (first | (go_at_call 35; refine c30.out.mono ?_; rintro e w5 ⟨u0, u1, u2, u3, rfl, R5, b5, -, -, -, -⟩; obtain ⟨d0, m0, e0, rfl⟩ := R5.sp.isSl; obtain ⟨d1, m1, e1, rfl⟩ := R5.lv.isSl; obtain ⟨d2, m2, e2, rfl⟩ := R5.bad.isSl; obtain ⟨d3, m3, e3, rfl⟩ := R5.worn.isSl; simp only))
            have p5 := (PP4.out.1.call b5).call (below_al w5 (.cells #[.slice d0 m0 e0, .slice d1 m1 e1, .slice d2 m2 e2, .slice d3 m3 e3] 33))
            have r5 := (PP4.out.2.call b5).call (below_al w5 (.cells #[.slice d0 m0 e0, .slice d1 m1 e1, .slice d2 m2 e2, .slice d3 m3 e3] 33))
            have y5 := Box4.fresh w5 (.slice d0 m0 e0) (.slice d1 m1 e1) (.slice d2 m2 e2) (.slice d3 m3 e3)
            have A5 := R5.alloc (.cells #[.slice d0 m0 e0, .slice d1 m1 e1, .slice d2 m2 e2, .slice d3 m3 e3] 33)
            clear c30 PP4 b5 R5 k0 k1 k2 k3 k4 k5 z0 z1 z2 z3 z4 z5 f0 f1 f2 f3 f4 f5 o0 o1 o2 o3 x0 x1 x2 x3 x4 x5
            generalize w5.alloc (.cells #[.slice d0 m0 e0, .slice d1 m1 e1, .slice d2 m2 e2, .slice d3 m3 e3] 33) = w6 at *
            generalize w5.heap.size = g9 at *
            obtain ⟨k0, k1, k2, k3, k4, k5⟩ := p5.box.cells
            obtain ⟨z0, z1, z2, z3, z4, z5⟩ := p5.zr.cells
            have f0 := p5.zr.fz 0
            have f1 := p5.zr.fz 1
            have f2 := p5.zr.fz 2
            have f3 := p5.zr.fz 3
            have f4 := p5.zr.fz 4
            have f5 := p5.zr.fz 5
            obtain ⟨o0, o1, o2, o3⟩ := p5.rm.cells
            obtain ⟨x0, x1, x2, x3, x4, x5⟩ := r5.six
            by_cases hE : E = 0
            · subst hE
              have hRes2 := hRes.out
              rw [if_neg (fun q => q rfl)] at hRes2
              obtain ⟨t0, t1, t2, t3⟩ := y5.cells
              have PP5 := Hid.mk (And.intro p5 A5)
              clear p5 y5 A5 r5
              have hfb : fitB pl ks Y' = decide (¬ (pl < (liveA Y' : Int) ∨ ks < (pagesN Y'.sp : Int))) := by
                unfold fitB
                by_cases q1 : (liveA Y' : Int) ≤ pl <;> by_cases q2 : (pagesN Y'.sp : Int) ≤ ks <;> simp [q1, q2]
              replace hfb := Hid.mk hfb
              replace hRes2 := Hid.mk hRes2
              go_upto_region 13 with fail
              have p6 := PP5.out.1.call (below_al w6 (.cells #[.slice d0 m0 e0, .slice d1 m1 e1, .slice d2 m2 e2, .slice d3 m3 e3, .slice a4 n4 c4] 36))
              have y6 : Box5 (w6.alloc (.cells #[.slice d0 m0 e0, .slice d1 m1 e1, .slice d2 m2 e2, .slice d3 m3 e3, .slice a4 n4 c4] 36)) w6.heap.size (.slice d0 m0 e0) (.slice d1 m1 e1) (.slice d2 m2 e2) (.slice d3 m3 e3) (.slice a4 n4 c4) := heap_alloc_new _ _
              have A6 : PAt (w6.alloc (.cells #[.slice d0 m0 e0, .slice d1 m1 e1, .slice d2 m2 e2, .slice d3 m3 e3, .slice a4 n4 c4] 36)) B (.slice d0 m0 e0) (.slice d1 m1 e1) (.slice d2 m2 e2) (.slice d3 m3 e3) (.slice a4 n4 c4) Y' tx := ⟨PP5.out.2.alloc _, PP5.out.1.at'.tx.alloc _⟩
              clear k0 k1 k2 k3 k4 k5 z0 z1 z2 z3 z4 z5 f0 f1 f2 f3 f4 f5 o0 o1 o2 o3 x0 x1 x2 x3 x4 x5 t0 t1 t2 t3
              generalize w6.alloc (.cells #[.slice d0 m0 e0, .slice d1 m1 e1, .slice d2 m2 e2, .slice d3 m3 e3, .slice a4 n4 c4] 36) = w8 at *
              generalize w6.heap.size = g10 at *
              obtain ⟨t0, t1, t2, t3, t4⟩ := y6.cells
              obtain ⟨o0, o1, o2, o3⟩ := p6.rm.cells
              have c35 := HFT.out w8 _ _ _ _ (.slice a4 n4 c4) A6.st ⟨_, _, _, rfl⟩
              replace c35 := Hid.mk c35
              have PP6 := Hid.mk (And.intro p6 (And.intro y6 A6))
              clear p6 y6 A6
              by_cases hr : pl < (liveA Y' : Int) ∨ ks < (pagesN Y'.sp : Int)
              · have hRes3 := hRes2.out
                rw [if_pos hr] at hRes3
                have hb : fitB pl ks Y' = false := by rw [hfb.out]; exact decide_eq_false (fun q => q hr)
                rw [hb] at c35
                clear hfb hb hr hRes2
                subst hRes3
                clear hRes
                go_upto_region 14 with (first | (go_at_call 33; refine c35.out.mono ?_; rintro e w7 ⟨rfl, b7⟩))
                have p7 := PP6.out.1.call b7
                clear t0 t1 t2 t3 t4 o0 o1 o2 o3
                obtain ⟨k0, k1, k2, k3, k4, k5⟩ := p7.box.cells
                obtain ⟨z0, z1, z2, z3, z4, z5⟩ := p7.zr.cells
                have f0 := p7.zr.fz 0
                have f1 := p7.zr.fz 1
                have f2 := p7.zr.fz 2
                have f3 := p7.zr.fz 3
                have f4 := p7.zr.fz 4
                have f5 := p7.zr.fz 5
                obtain ⟨o0, o1, o2, o3⟩ := p7.rm.cells
                have PP7 := Hid.mk p7
                clear p7
                go_wp2_with fail
                have q := SM.out 172 w7 PP7.out
                refine bodyPost_ret (p6_result rfl rfl q.1) rfl ?_
                exact q.2
              · have hRes3 := hRes2.out
                rw [if_neg hr] at hRes3
                have hb : fitB pl ks Y' = true := by rw [hfb.out]; exact decide_eq_true hr
                rw [hb] at c35
                clear hfb hb hr hRes2
                subst hRes3
                clear hRes
                go_upto_region 15 with (first | (go_at_call 33; refine c35.out.mono ?_; rintro e w7 ⟨rfl, b7⟩))
                have p7 := PP6.out.1.call b7
                have y7 := PP6.out.2.1.call b7
                have A7 := PP6.out.2.2.call b7
                clear t0 t1 t2 t3 t4 o0 o1 o2 o3
                obtain ⟨k0, k1, k2, k3, k4, k5⟩ := p7.box.cells
                obtain ⟨z0, z1, z2, z3, z4, z5⟩ := p7.zr.cells
                have f0 := p7.zr.fz 0
                have f1 := p7.zr.fz 1
                have f2 := p7.zr.fz 2
                have f3 := p7.zr.fz 3
                have f4 := p7.zr.fz 4
                have f5 := p7.zr.fz 5
                obtain ⟨o0, o1, o2, o3⟩ := p7.rm.cells
                obtain ⟨t0, t1, t2, t3, t4⟩ := y7.cells
                have PP7 := Hid.mk (And.intro p7 A7)
                clear p7 y7 A7
                go_wp2_with fail
                subst hG
                have f := p6_fin PP7.out.2 PP7.out.1.zr PP7.out.1.bel (by omega) (nn + 1 : Int)
                refine bodyPost_ret (p6_result rfl rfl f.1) rfl ?_
                exact ⟨_, _, _, _, _, rfl, f.2.1, f.2.2.1, f.2.2.2⟩
            · have hEb : (E != 0) = true := by simpa using hE
              have hRes2 := hRes.out
              rw [if_pos hE] at hRes2
              subst hRes2
              have PP5 := Hid.mk p5
              clear p5 y5 A5 hRes hE r5
              go_wp2_with fail
              have q := SM.out E w6 PP5.out
              refine bodyPost_ret (p6_result rfl rfl q.1) rfl ?_
              exact q.2
        · rw [if_pos hz] at hRes
          subst hRes
          have hEb : (E1 != 0) = true := by simpa using hz
          have PP4 := Hid.mk p4
          clear p4 hE1 hz r4
          go_wp2_with fail
          have q := SM.out E1 w4 PP4.out
          refine bodyPost_ret (p6_result rfl rfl q.1) rfl ?_
          exact q.2
      · have hK2b : (K == 2) = false := by simpa using hK2
        have hK47 : 4 ≤ K ∧ K ≤ 7 := by unfold kindB at hkb; simp only [Bool.or_eq_true, beq_iff_eq] at hkb; omega
        obtain ⟨hK4, hK7⟩ := hK47
        rw [if_neg (fun q => hK2 q.1)] at hRes
        clear hkb hK2
        go_enter Try.func15, Try.ntmps15
        go_upto_region 1 with fail
        generalize ((((w.alloc (.cells #[.slice a0 n0 c0, .slice a1 n1 c1, .slice a2 n2 c2, .slice a3 n3 c3, .slice a4 n4 c4, .int .i64 nn] 38)).alloc (.cells #[.int .i64 K, .int .i64 S, .int .i64 P, .int .i64 A, .int .i64 T, .int .i64 N] 41)).alloc (.cells #[.int .i64 pl, .int .i64 ks, .int .i64 rr, .int .i64 rp] 24)).alloc (.cells #[.slice none 0 0, .slice none 0 0, .slice none 0 0, .slice none 0 0, .slice none 0 0, .int .i64 0] 38)) = W at *
        obtain ⟨k0, k1, k2, k3, k4, k5⟩ := p3.box.cells
        obtain ⟨z0, z1, z2, z3, z4, z5⟩ := p3.zr.cells
        have f0 := p3.zr.fz 0
        have f1 := p3.zr.fz 1
        have f2 := p3.zr.fz 2
        have f3 := p3.zr.fz 3
        have f4 := p3.zr.fz 4
        have f5 := p3.zr.fz 5
        obtain ⟨o0, o1, o2, o3⟩ := p3.rm.cells
        obtain ⟨x0, x1, x2, x3, x4, x5⟩ := r3.six
        have PP3 := Hid.mk (And.intro p3 r3)
        clear p3 r3
        generalize hG : w.heap.size = G at *
        go_upto_region 3 with (first | (go_at_call 34; refine (HC.out _).mono ?_; rintro e w4 ⟨rfl, b4⟩))
        have p4 := PP3.out.1.call b4
        have r4 := PP3.out.2.call b4
        clear k0 k1 k2 k3 k4 k5 z0 z1 z2 z3 z4 z5 f0 f1 f2 f3 f4 f5 o0 o1 o2 o3 x0 x1 x2 x3 x4 x5 b4 PP3 HC HCL
        obtain ⟨k0, k1, k2, k3, k4, k5⟩ := p4.box.cells
        obtain ⟨z0, z1, z2, z3, z4, z5⟩ := p4.zr.cells
        have f0 := p4.zr.fz 0
        have f1 := p4.zr.fz 1
        have f2 := p4.zr.fz 2
        have f3 := p4.zr.fz 3
        have f4 := p4.zr.fz 4
        have f5 := p4.zr.fz 5
        obtain ⟨o0, o1, o2, o3⟩ := p4.rm.cells
        obtain ⟨x0, x1, x2, x3, x4, x5⟩ := r4.six
        by_cases h8 : 8 ≤ nn
        · rw [if_pos h8] at hRes
          subst hRes
          have PP4 := Hid.mk p4
          clear p4 r4
          go_wp2_with fail
          have q := SM.out 171 w4 PP4.out
          refine bodyPost_ret (p6_result rfl rfl q.1) rfl ?_
          exact q.2
        · rw [if_neg h8] at hRes
          have c30 := HDO.out w4 p4
          replace hRes := Hid.mk hRes
          replace c30 := Hid.mk c30
          have PP4 := Hid.mk (And.intro p4 r4)
          clear p4 r4
          go_upto_region 10 with (first | (go_at_call 35; refine c30.out.mono ?_; rintro e w5 ⟨u0, u1, u2, u3, rfl, R5, b5, -, -, -, -⟩; obtain ⟨d0, m0, e0, rfl⟩ := R5.sp.isSl; obtain ⟨d1, m1, e1, rfl⟩ := R5.lv.isSl; obtain ⟨d2, m2, e2, rfl⟩ := R5.bad.isSl; obtain ⟨d3, m3, e3, rfl⟩ := R5.worn.isSl; simp only))
          have p5 := (PP4.out.1.call b5).call (below_al w5 (.cells #[.slice d0 m0 e0, .slice d1 m1 e1, .slice d2 m2 e2, .slice d3 m3 e3] 33))
          have r5 := (PP4.out.2.call b5).call (below_al w5 (.cells #[.slice d0 m0 e0, .slice d1 m1 e1, .slice d2 m2 e2, .slice d3 m3 e3] 33))
          have y5 := Box4.fresh w5 (.slice d0 m0 e0) (.slice d1 m1 e1) (.slice d2 m2 e2) (.slice d3 m3 e3)
          have A5 := R5.alloc (.cells #[.slice d0 m0 e0, .slice d1 m1 e1, .slice d2 m2 e2, .slice d3 m3 e3] 33)
          clear c30 PP4 b5 R5 k0 k1 k2 k3 k4 k5 z0 z1 z2 z3 z4 z5 f0 f1 f2 f3 f4 f5 o0 o1 o2 o3 x0 x1 x2 x3 x4 x5
          generalize w5.alloc (.cells #[.slice d0 m0 e0, .slice d1 m1 e1, .slice d2 m2 e2, .slice d3 m3 e3] 33) = w6 at *
          generalize w5.heap.size = g9 at *
          obtain ⟨k0, k1, k2, k3, k4, k5⟩ := p5.box.cells
          obtain ⟨z0, z1, z2, z3, z4, z5⟩ := p5.zr.cells
          have f0 := p5.zr.fz 0
          have f1 := p5.zr.fz 1
          have f2 := p5.zr.fz 2
          have f3 := p5.zr.fz 3
          have f4 := p5.zr.fz 4
          have f5 := p5.zr.fz 5
          obtain ⟨o0, o1, o2, o3⟩ := p5.rm.cells
          obtain ⟨x0, x1, x2, x3, x4, x5⟩ := r5.six
          by_cases hE : E = 0
          · subst hE
            have hRes2 := hRes.out
            rw [if_neg (fun q => q rfl)] at hRes2
            obtain ⟨t0, t1, t2, t3⟩ := y5.cells
            have PP5 := Hid.mk (And.intro p5 A5)
            clear p5 y5 A5 r5
            have hfb : fitB pl ks Y' = decide (¬ (pl < (liveA Y' : Int) ∨ ks < (pagesN Y'.sp : Int))) := by
              unfold fitB
              by_cases q1 : (liveA Y' : Int) ≤ pl <;> by_cases q2 : (pagesN Y'.sp : Int) ≤ ks <;> simp [q1, q2]
            replace hfb := Hid.mk hfb
            replace hRes2 := Hid.mk hRes2
            go_upto_region 13 with fail
            have p6 := PP5.out.1.call (below_al w6 (.cells #[.slice d0 m0 e0, .slice d1 m1 e1, .slice d2 m2 e2, .slice d3 m3 e3, .slice a4 n4 c4] 36))
            have y6 : Box5 (w6.alloc (.cells #[.slice d0 m0 e0, .slice d1 m1 e1, .slice d2 m2 e2, .slice d3 m3 e3, .slice a4 n4 c4] 36)) w6.heap.size (.slice d0 m0 e0) (.slice d1 m1 e1) (.slice d2 m2 e2) (.slice d3 m3 e3) (.slice a4 n4 c4) := heap_alloc_new _ _
            have A6 : PAt (w6.alloc (.cells #[.slice d0 m0 e0, .slice d1 m1 e1, .slice d2 m2 e2, .slice d3 m3 e3, .slice a4 n4 c4] 36)) B (.slice d0 m0 e0) (.slice d1 m1 e1) (.slice d2 m2 e2) (.slice d3 m3 e3) (.slice a4 n4 c4) Y' tx := ⟨PP5.out.2.alloc _, PP5.out.1.at'.tx.alloc _⟩
            clear k0 k1 k2 k3 k4 k5 z0 z1 z2 z3 z4 z5 f0 f1 f2 f3 f4 f5 o0 o1 o2 o3 x0 x1 x2 x3 x4 x5 t0 t1 t2 t3
            generalize w6.alloc (.cells #[.slice d0 m0 e0, .slice d1 m1 e1, .slice d2 m2 e2, .slice d3 m3 e3, .slice a4 n4 c4] 36) = w8 at *
            generalize w6.heap.size = g10 at *
            obtain ⟨t0, t1, t2, t3, t4⟩ := y6.cells
            obtain ⟨o0, o1, o2, o3⟩ := p6.rm.cells
            have c35 := HFT.out w8 _ _ _ _ (.slice a4 n4 c4) A6.st ⟨_, _, _, rfl⟩
            replace c35 := Hid.mk c35
            have PP6 := Hid.mk (And.intro p6 (And.intro y6 A6))
            clear p6 y6 A6
            by_cases hr : pl < (liveA Y' : Int) ∨ ks < (pagesN Y'.sp : Int)
            · have hRes3 := hRes2.out
              rw [if_pos hr] at hRes3
              have hb : fitB pl ks Y' = false := by rw [hfb.out]; exact decide_eq_false (fun q => q hr)
              rw [hb] at c35
              clear hfb hb hr hRes2
              subst hRes3
              clear hRes
              go_upto_region 14 with (first | (go_at_call 33; refine c35.out.mono ?_; rintro e w7 ⟨rfl, b7⟩))
              have p7 := PP6.out.1.call b7
              clear t0 t1 t2 t3 t4 o0 o1 o2 o3
              obtain ⟨k0, k1, k2, k3, k4, k5⟩ := p7.box.cells
              obtain ⟨z0, z1, z2, z3, z4, z5⟩ := p7.zr.cells
              have f0 := p7.zr.fz 0
              have f1 := p7.zr.fz 1
              have f2 := p7.zr.fz 2
              have f3 := p7.zr.fz 3
              have f4 := p7.zr.fz 4
              have f5 := p7.zr.fz 5
              obtain ⟨o0, o1, o2, o3⟩ := p7.rm.cells
              have PP7 := Hid.mk p7
              clear p7
              go_wp2_with fail
              have q := SM.out 172 w7 PP7.out
              refine bodyPost_ret (p6_result rfl rfl q.1) rfl ?_
              exact q.2
            · have hRes3 := hRes2.out
              rw [if_neg hr] at hRes3
              have hb : fitB pl ks Y' = true := by rw [hfb.out]; exact decide_eq_true hr
              rw [hb] at c35
              clear hfb hb hr hRes2
              subst hRes3
              clear hRes
              go_upto_region 15 with (first | (go_at_call 33; refine c35.out.mono ?_; rintro e w7 ⟨rfl, b7⟩))
              have p7 := PP6.out.1.call b7
              have y7 := PP6.out.2.1.call b7
              have A7 := PP6.out.2.2.call b7
              clear t0 t1 t2 t3 t4 o0 o1 o2 o3
              obtain ⟨k0, k1, k2, k3, k4, k5⟩ := p7.box.cells
              obtain ⟨z0, z1, z2, z3, z4, z5⟩ := p7.zr.cells
              have f0 := p7.zr.fz 0
              have f1 := p7.zr.fz 1
              have f2 := p7.zr.fz 2
              have f3 := p7.zr.fz 3
              have f4 := p7.zr.fz 4
              have f5 := p7.zr.fz 5
              obtain ⟨o0, o1, o2, o3⟩ := p7.rm.cells
              obtain ⟨t0, t1, t2, t3, t4⟩ := y7.cells
              have PP7 := Hid.mk (And.intro p7 A7)
              clear p7 y7 A7
              go_wp2_with fail
              subst hG
              have f := p6_fin PP7.out.2 PP7.out.1.zr PP7.out.1.bel (by omega) (nn + 1 : Int)
              refine bodyPost_ret (p6_result rfl rfl f.1) rfl ?_
              exact ⟨_, _, _, _, _, rfl, f.2.1, f.2.2.1, f.2.2.2⟩
          · have hEb : (E != 0) = true := by simpa using hE
            have hRes2 := hRes.out
            rw [if_pos hE] at hRes2
            subst hRes2
            have PP5 := Hid.mk p5
            clear p5 y5 A5 hRes hE r5
            go_wp2_with fail
            have q := SM.out E w6 PP5.out
            refine bodyPost_ret (p6_result rfl rfl q.1) rfl ?_
            exact q.2
  · have hkf : kindB K = false := by simpa using hkb
    rw [hkf] at hRes
    rw [Bool.false_and, if_pos rfl] at hRes
    subst hRes
    clear hck hdo hft hcl
    have hK2 : (K == 2) = false := by unfold kindB at hkf; simp only [Bool.or_eq_false_iff] at hkf; exact hkf.1.1.1.1
    have hK : ¬ (4 ≤ K ∧ K ≤ 7) := fun q => by
      unfold kindB at hkf
      simp only [Bool.or_eq_false_iff, beq_eq_false_iff_ne] at hkf
      omega
    by_cases hK4 : 4 ≤ K
    · have hK7 : ¬ K ≤ 7 := fun q => hK ⟨hK4, q⟩
      clear hK hkb hkf
      go_enter Try.func15, Try.ntmps15
      go_upto_region 1 with fail
      generalize ((((w.alloc (.cells #[.slice a0 n0 c0, .slice a1 n1 c1, .slice a2 n2 c2, .slice a3 n3 c3, .slice a4 n4 c4, .int .i64 nn] 38)).alloc (.cells #[.int .i64 K, .int .i64 S, .int .i64 P, .int .i64 A, .int .i64 T, .int .i64 N] 41)).alloc (.cells #[.int .i64 pl, .int .i64 ks, .int .i64 rr, .int .i64 rp] 24)).alloc (.cells #[.slice none 0 0, .slice none 0 0, .slice none 0 0, .slice none 0 0, .slice none 0 0, .int .i64 0] 38)) = W at *
      obtain ⟨k0, k1, k2, k3, k4, k5⟩ := p3.box.cells
      obtain ⟨z0, z1, z2, z3, z4, z5⟩ := p3.zr.cells
      have f0 := p3.zr.fz 0
      have f1 := p3.zr.fz 1
      have f2 := p3.zr.fz 2
      have f3 := p3.zr.fz 3
      have f4 := p3.zr.fz 4
      have f5 := p3.zr.fz 5
      obtain ⟨o0, o1, o2, o3⟩ := p3.rm.cells
      obtain ⟨x0, x1, x2, x3, x4, x5⟩ := r3.six
      have PP3 := Hid.mk (And.intro p3 r3)
      clear p3 r3
      generalize hG : w.heap.size = G at *
      go_wp2_with fail
      have q := SM.out 1 W PP3.out.1
      refine bodyPost_ret (p6_result rfl rfl q.1) rfl ?_
      exact q.2
    · clear hK hkb hkf
      go_enter Try.func15, Try.ntmps15
      go_upto_region 1 with fail
      generalize ((((w.alloc (.cells #[.slice a0 n0 c0, .slice a1 n1 c1, .slice a2 n2 c2, .slice a3 n3 c3, .slice a4 n4 c4, .int .i64 nn] 38)).alloc (.cells #[.int .i64 K, .int .i64 S, .int .i64 P, .int .i64 A, .int .i64 T, .int .i64 N] 41)).alloc (.cells #[.int .i64 pl, .int .i64 ks, .int .i64 rr, .int .i64 rp] 24)).alloc (.cells #[.slice none 0 0, .slice none 0 0, .slice none 0 0, .slice none 0 0, .slice none 0 0, .int .i64 0] 38)) = W at *
      obtain ⟨k0, k1, k2, k3, k4, k5⟩ := p3.box.cells
      obtain ⟨z0, z1, z2, z3, z4, z5⟩ := p3.zr.cells
      have f0 := p3.zr.fz 0
      have f1 := p3.zr.fz 1
      have f2 := p3.zr.fz 2
      have f3 := p3.zr.fz 3
      have f4 := p3.zr.fz 4
      have f5 := p3.zr.fz 5
      obtain ⟨o0, o1, o2, o3⟩ := p3.rm.cells
      obtain ⟨x0, x1, x2, x3, x4, x5⟩ := r3.six
      have PP3 := Hid.mk (And.intro p3 r3)
      clear p3 r3
      generalize hG : w.heap.size = G at *
      go_wp2_with fail
      have q := SM.out 1 W PP3.out.1
      refine bodyPost_ret (p6_result rfl rfl q.1) rfl ?_
      exact q.2
end Go.Proofs.Ytacgemibaojbaaa
