/-
  The walks of the answer's Do, way by way (DoE). No condition. The walks of the answer's Do, way by way (DoF). No condition. The walks of the answer's Do, way by way (DoG). No condition.
-/
import Derived.Test.YtacgemibaojbaaaDo0
namespace Go.Proofs.Ytacgemibaojbaaa
open Go Go.RowKit Go.Maps

set_option maxRecDepth 20000 in
set_option maxHeartbeats 4000000 in
theorem do7_seal {w : World} {B v0 v1 v2 v3 m} (h : RAt w B v0 v1 v2 v3 m) (hB : B ≤ w.heap.size) (hn : Lens m) {S P A T N : Int} {j : Nat} (hi : fndGo S m.sp 0 = (j : Int)) (hj : j < m.sp.length) {x1 x2 : Int} {x3 : Bool} (hx : m.sp.getD j (0, 0, false) = (x1, x2, x3)) :
    Calls Try.prog 35 #[.agg #[v0, v1, v2, v3], rv 7 S P A T N] w (DoR w B v0 v1 v2 v3 ({ m with sp := mI (x1, x2, true) m.sp }, 0)) := by
  obtain ⟨a0, n0, c0, rfl⟩ := h.sp.isSl
  obtain ⟨a1, n1, c1, rfl⟩ := h.lv.isSl
  obtain ⟨a2, n2, c2, rfl⟩ := h.bad.isSl
  obtain ⟨a3, n3, c3, rfl⟩ := h.worn.isSl
  obtain ⟨hn0, hn1, hn2, hn3⟩ := hn
  have D0 := DoS.start h hB 7 S P A T N
  unfold rv
  go_enter Try.func35, Try.ntmps35
  go_upto_region 1 with fail
  generalize (((w.alloc (.cells #[.slice a0 n0 c0, .slice a1 n1 c1, .slice a2 n2 c2, .slice a3 n3 c3] 33)).alloc (.cells #[.int .i64 7, .int .i64 S, .int .i64 P, .int .i64 A, .int .i64 T, .int .i64 N] 41)).alloc (.cells #[.slice none 0 0, .slice none 0 0, .slice none 0 0, .slice none 0 0] 33)) = W0 at *
  generalize w.heap.size = G at D0 ⊢
  have qf := rfind_any D0.at' (by omega) S
  obtain ⟨k0, k1, k2, k3⟩ := D0.box.cells
  obtain ⟨r0, r1, r2, r3, r4, r5⟩ := D0.rec'.six
  replace D0 := Hid.mk D0
  replace qf := Hid.mk qf
  go_upto_region 2 with (first | (go_at_call 50; refine qf.out.mono ?_; rintro e w1 ⟨rfl, b1⟩))
  have D1 := D0.out.call b1
  have qg := rget_any D1.at' (by omega) S P
  clear k0 k1 k2 k3 r0 r1 r2 r3 r4 r5 b1 qf D0
  obtain ⟨k0, k1, k2, k3⟩ := D1.box.cells
  obtain ⟨r0, r1, r2, r3, r4, r5⟩ := D1.rec'.six
  replace D1 := Hid.mk D1
  replace qg := Hid.mk qg
  go_upto_region 3 with (first | (go_at_call 51; refine qg.out.mono ?_; rintro e w2 ⟨rfl, b2⟩))
  have D2 := D1.out.call b2
  clear k0 k1 k2 k3 r0 r1 r2 r3 r4 r5 b2 qg D1
  obtain ⟨k0, k1, k2, k3⟩ := D2.box.cells
  obtain ⟨r0, r1, r2, r3, r4, r5⟩ := D2.rec'.six
  obtain ⟨z0, z1, z2, z3⟩ := D2.res.cells
  have y0 := D2.res.fz 0
  have y1 := D2.res.fz 1
  have y2 := D2.res.fz 2
  have y3 := D2.res.fz 3
  have hl2 := D2.lt
  have hl1 : G + 1 < w2.heap.size := by omega
  have hl0 : G < w2.heap.size := by omega
  replace D2 := Hid.mk D2
  obtain ⟨sa, sc, es⟩ := D2.out.at'.sp.form
  rw [List.length_map] at es
  simp only [Value.slice.injEq] at es
  obtain ⟨rfl, rfl, rfl⟩ := es
  obtain ⟨g, rfl, hgB, hgl, d0, d1, d2⟩ := D2.out.at'.sp.at3s hj
  rw [hx] at d0 d1 d2
  simp only at d0 d1 d2
  have hcon := rmade_any (D2.out.alloc (.cells #[.int .i64 x1, .int .i64 x2, .bool x3] 87)).at' (by omega) (Nat.le_trans D2.out.hB (D2.out.alloc (.cells #[.int .i64 x1, .int .i64 x2, .bool x3] 87)).bel.size) x1 x2 true
  replace hcon := Hid.mk hcon
  go_wp2_with (first | (go_at_call 53; refine hcon.out.mono ?_; rintro e w5 ⟨u, rfl, R5, o5, b5⟩; obtain ⟨ua, un, uc, rfl⟩ := R5.sp.isSl; have Q5 := (D2.out.alloc (.cells #[.int .i64 x1, .int .i64 x2, .bool x3] 87)).res.call b5; obtain ⟨t0, t1, t2, t3⟩ := Q5.cells; have p0 := Q5.fz 0; have p1 := Q5.fz 1; have p2 := Q5.fz 2; have p3 := Q5.fz 3; replace Q5 := Hid.mk Q5))
  have q := (D2.out.alloc (.cells #[.int .i64 x1, .int .i64 x2, .bool x3] 87)).fin b5 R5 (Own2.new o5) (Own2.refl _ _) (Own2.refl _ _) (Own2.refl _ _)
  exact bodyPost_ret (st_result2 rfl rfl q.1) rfl ⟨_, _, _, _, rfl, q.2⟩
set_option maxRecDepth 20000 in
set_option maxHeartbeats 4000000 in
theorem do5_drop {w : World} {B v0 v1 v2 v3 m} (h : RAt w B v0 v1 v2 v3 m) (hB : B ≤ w.heap.size) (hn : Lens m) {S P A T N : Int} {j : Nat} (hi : fndGo S m.sp 0 = (j : Int)) (hj : j < m.sp.length) {x1 x2 : Int} {x3 : Bool} (hx : m.sp.getD j (0, 0, false) = (x1, x2, x3)) :
    Calls Try.prog 35 #[.agg #[v0, v1, v2, v3], rv 5 S P A T N] w (DoR w B v0 v1 v2 v3 ({ m with sp := m.sp.filter (fun y : S3 => decide (y.1 ≠ S)), lv := m.lv.filter (fun y : L3 => decide (y.1 ≠ S ∨ (0 : Int) ≤ -1 ∧ y.2.1 ≠ -1)) }, 0)) := by
  obtain ⟨a0, n0, c0, rfl⟩ := h.sp.isSl
  obtain ⟨a1, n1, c1, rfl⟩ := h.lv.isSl
  obtain ⟨a2, n2, c2, rfl⟩ := h.bad.isSl
  obtain ⟨a3, n3, c3, rfl⟩ := h.worn.isSl
  obtain ⟨hn0, hn1, hn2, hn3⟩ := hn
  have D0 := DoS.start h hB 5 S P A T N
  unfold rv
  go_enter Try.func35, Try.ntmps35
  go_upto_region 1 with fail
  generalize (((w.alloc (.cells #[.slice a0 n0 c0, .slice a1 n1 c1, .slice a2 n2 c2, .slice a3 n3 c3] 33)).alloc (.cells #[.int .i64 5, .int .i64 S, .int .i64 P, .int .i64 A, .int .i64 T, .int .i64 N] 41)).alloc (.cells #[.slice none 0 0, .slice none 0 0, .slice none 0 0, .slice none 0 0] 33)) = W0 at *
  generalize w.heap.size = G at D0 ⊢
  have qf := rfind_any D0.at' (by omega) S
  obtain ⟨k0, k1, k2, k3⟩ := D0.box.cells
  obtain ⟨r0, r1, r2, r3, r4, r5⟩ := D0.rec'.six
  replace D0 := Hid.mk D0
  replace qf := Hid.mk qf
  go_upto_region 2 with (first | (go_at_call 50; refine qf.out.mono ?_; rintro e w1 ⟨rfl, b1⟩))
  have D1 := D0.out.call b1
  have qg := rget_any D1.at' (by omega) S P
  clear k0 k1 k2 k3 r0 r1 r2 r3 r4 r5 b1 qf D0
  obtain ⟨k0, k1, k2, k3⟩ := D1.box.cells
  obtain ⟨r0, r1, r2, r3, r4, r5⟩ := D1.rec'.six
  replace D1 := Hid.mk D1
  replace qg := Hid.mk qg
  go_upto_region 3 with (first | (go_at_call 51; refine qg.out.mono ?_; rintro e w2 ⟨rfl, b2⟩))
  have D2 := D1.out.call b2
  clear k0 k1 k2 k3 r0 r1 r2 r3 r4 r5 b2 qg D1
  obtain ⟨k0, k1, k2, k3⟩ := D2.box.cells
  obtain ⟨r0, r1, r2, r3, r4, r5⟩ := D2.rec'.six
  obtain ⟨z0, z1, z2, z3⟩ := D2.res.cells
  have y0 := D2.res.fz 0
  have y1 := D2.res.fz 1
  have y2 := D2.res.fz 2
  have y3 := D2.res.fz 3
  have hl2 := D2.lt
  have hl1 : G + 1 < w2.heap.size := by omega
  have hl0 : G < w2.heap.size := by omega
  replace D2 := Hid.mk D2
  obtain ⟨sa, sc, es⟩ := D2.out.at'.sp.form
  rw [List.length_map] at es
  simp only [Value.slice.injEq] at es
  obtain ⟨rfl, rfl, rfl⟩ := es
  obtain ⟨g, rfl, hgB, hgl, d0, d1, d2⟩ := D2.out.at'.sp.at3s hj
  rw [hx] at d0 d1 d2
  simp only at d0 d1 d2
  have hcon := rdropped_any (D2.out.alloc (.cells #[.int .i64 x1, .int .i64 x2, .bool x3] 87)).at' (by omega) (Nat.le_trans D2.out.hB (D2.out.alloc (.cells #[.int .i64 x1, .int .i64 x2, .bool x3] 87)).bel.size) (by omega) S
  replace hcon := Hid.mk hcon
  go_wp2_with (first | (go_at_call 58; refine hcon.out.mono ?_; rintro e w5 ⟨u, u', rfl, R5, o5, o6, b5⟩; obtain ⟨ua, un, uc, rfl⟩ := R5.sp.isSl; obtain ⟨ub, um, ud, rfl⟩ := R5.lv.isSl; have Q5 := (D2.out.alloc (.cells #[.int .i64 x1, .int .i64 x2, .bool x3] 87)).res.call b5; obtain ⟨t0, t1, t2, t3⟩ := Q5.cells; have p0 := Q5.fz 0; have p1 := Q5.fz 1; have p2 := Q5.fz 2; have p3 := Q5.fz 3; replace Q5 := Hid.mk Q5))
  have q := (D2.out.alloc (.cells #[.int .i64 x1, .int .i64 x2, .bool x3] 87)).fin b5 R5 (Own2.new o5) (Own2.new o6) (Own2.refl _ _) (Own2.refl _ _)
  exact bodyPost_ret (st_result2 rfl rfl q.1) rfl ⟨_, _, _, _, rfl, q.2⟩
/-- a list of pages is stored, and the state with it -/
theorem DoS.finLv {w B G v0 v1 v2 v3 m rc W} (h : DoS w B G v0 v1 v2 v3 m rc W) {wr : World} {v : Value} {L : List L3} (b : Bel W wr) (o : Ow wr W.heap.size 90 3 v (L.map rL)) :
    Box4 (set4 (wr.setCell ⟨G, 1, none⟩ v) (G + 1 + 1) v0 v v2 v3) (G + 1 + 1) v0 v v2 v3 ∧ RAt (set4 (wr.setCell ⟨G, 1, none⟩ v) (G + 1 + 1) v0 v v2 v3) B v0 v v2 v3 { m with lv := L } ∧ Below w.heap.size w (set4 (wr.setCell ⟨G, 1, none⟩ v) (G + 1 + 1) v0 v v2 v3) ∧ Own2 w v0 v0 ∧ Own2 w v1 v ∧ Own2 w v2 v2 ∧ Own2 w v3 v3 := by
  have hl := h.lt
  have hG := h.hG
  have hbs := h.bel.size
  have hB := h.hB
  have k1 : Kp wr (wr.setCell ⟨G, 1, none⟩ v) G (G + 1 + 1) := kp_set _ _ _ _ _ (.inl rfl) _
  have k2 := kp_trans k1 (set4_kp _ G (G + 1 + 1) v0 v v2 v3)
  have q1 : Box4 (wr.setCell ⟨G, 1, none⟩ v) (G + 1 + 1) (.slice none 0 0) (.slice none 0 0) (.slice none 0 0) (.slice none 0 0) := (heap_setCell_other _ _ _ _ (by show G + 1 + 1 ≠ G; omega)).trans (h.res.call b)
  have a := h.at'.call b
  refine ⟨set4_box q1 _ _ _ _, ⟨a.sp.kp k2 (fun e => by have := (h.old.sp.lt _ e).2; omega) (fun e => by have := (h.old.sp.lt _ e).2; omega), (o.lower (by omega)).kp k2 (fun e => by have := (o.lt _ e).1; omega) (fun e => by have := (o.lt _ e).1; omega),
    a.bad.kp k2 (fun e => by have := (h.old.bad.lt _ e).2; omega) (fun e => by have := (h.old.bad.lt _ e).2; omega), a.worn.kp k2 (fun e => by have := (h.old.worn.lt _ e).2; omega) (fun e => by have := (h.old.worn.lt _ e).2; omega)⟩,
    kp_bel (w := w) (w5 := wr) (below3 h.bel b) k2 (by omega) (by omega), Own2.refl _ _, Own2.new (fun g hg => by have := (o.lt _ hg).1; omega), Own2.refl _ _, Own2.refl _ _⟩
set_option maxRecDepth 20000 in
set_option maxHeartbeats 4000000 in
theorem do3_a {w : World} {B v0 v1 v2 v3 m} (h : RAt w B v0 v1 v2 v3 m) (hB : B ≤ w.heap.size) (hn : Lens m) {S P A T N : Int} (hA : cL A m.lv = 0) :
    Calls Try.prog 35 #[.agg #[v0, v1, v2, v3], rv 3 S P A T N] w (DoR w B v0 v1 v2 v3 (m, 82)) := by
  obtain ⟨a0, n0, c0, rfl⟩ := h.sp.isSl
  obtain ⟨a1, n1, c1, rfl⟩ := h.lv.isSl
  obtain ⟨a2, n2, c2, rfl⟩ := h.bad.isSl
  obtain ⟨a3, n3, c3, rfl⟩ := h.worn.isSl
  obtain ⟨hn0, hn1, hn2, hn3⟩ := hn
  have D0 := DoS.start h hB 3 S P A T N
  unfold rv
  go_enter Try.func35, Try.ntmps35
  go_upto_region 1 with fail
  generalize (((w.alloc (.cells #[.slice a0 n0 c0, .slice a1 n1 c1, .slice a2 n2 c2, .slice a3 n3 c3] 33)).alloc (.cells #[.int .i64 3, .int .i64 S, .int .i64 P, .int .i64 A, .int .i64 T, .int .i64 N] 41)).alloc (.cells #[.slice none 0 0, .slice none 0 0, .slice none 0 0, .slice none 0 0] 33)) = W0 at *
  generalize w.heap.size = G at D0 ⊢
  have qf := rfind_any D0.at' (by omega) S
  obtain ⟨k0, k1, k2, k3⟩ := D0.box.cells
  obtain ⟨r0, r1, r2, r3, r4, r5⟩ := D0.rec'.six
  replace D0 := Hid.mk D0
  replace qf := Hid.mk qf
  go_upto_region 2 with (first | (go_at_call 50; refine qf.out.mono ?_; rintro e w1 ⟨rfl, b1⟩))
  have D1 := D0.out.call b1
  have qg := rget_any D1.at' (by omega) S P
  clear k0 k1 k2 k3 r0 r1 r2 r3 r4 r5 b1 qf D0
  obtain ⟨k0, k1, k2, k3⟩ := D1.box.cells
  obtain ⟨r0, r1, r2, r3, r4, r5⟩ := D1.rec'.six
  replace D1 := Hid.mk D1
  replace qg := Hid.mk qg
  go_upto_region 3 with (first | (go_at_call 51; refine qg.out.mono ?_; rintro e w2 ⟨rfl, b2⟩))
  have D2 := D1.out.call b2
  clear k0 k1 k2 k3 r0 r1 r2 r3 r4 r5 b2 qg D1
  obtain ⟨k0, k1, k2, k3⟩ := D2.box.cells
  obtain ⟨r0, r1, r2, r3, r4, r5⟩ := D2.rec'.six
  obtain ⟨z0, z1, z2, z3⟩ := D2.res.cells
  have y0 := D2.res.fz 0
  have y1 := D2.res.fz 1
  have y2 := D2.res.fz 2
  have y3 := D2.res.fz 3
  have hl2 := D2.lt
  have hl1 : G + 1 < w2.heap.size := by omega
  have hl0 : G < w2.heap.size := by omega
  replace D2 := Hid.mk D2
  generalize fndGo S m.sp 0 = ii at *
  have hc1 := rrefs_any D2.out.at' (by omega) A
  rw [hA] at hc1
  replace hc1 := Hid.mk hc1
  go_upto_region 6 with (first | (go_at_call 52; refine hc1.out.mono ?_; rintro e w3 ⟨rfl, b3⟩))
  have D3 := D2.out.call b3
  clear k0 k1 k2 k3 r0 r1 r2 r3 r4 r5 z0 z1 z2 z3 y0 y1 y2 y3 b3
  obtain ⟨k0, k1, k2, k3⟩ := D3.box.cells
  obtain ⟨z0, z1, z2, z3⟩ := D3.res.cells
  have y0 := D3.res.fz 0
  have y1 := D3.res.fz 1
  have y2 := D3.res.fz 2
  have y3 := D3.res.fz 3
  replace D3 := Hid.mk D3
  go_wp2_with fail
  have q := D3.out.same
  exact bodyPost_ret (st_result2 rfl rfl q.1) rfl ⟨_, _, _, _, rfl, q.2⟩
set_option maxRecDepth 20000 in
set_option maxHeartbeats 4000000 in
theorem do3_b {w : World} {B v0 v1 v2 v3 m} (h : RAt w B v0 v1 v2 v3 m) (hB : B ≤ w.heap.size) (hn : Lens m) {S P A T N : Int} (hA : 0 < cL A m.lv) (hT : 0 < cL T m.lv) :
    Calls Try.prog 35 #[.agg #[v0, v1, v2, v3], rv 3 S P A T N] w (DoR w B v0 v1 v2 v3 (m, 82)) := by
  obtain ⟨a0, n0, c0, rfl⟩ := h.sp.isSl
  obtain ⟨a1, n1, c1, rfl⟩ := h.lv.isSl
  obtain ⟨a2, n2, c2, rfl⟩ := h.bad.isSl
  obtain ⟨a3, n3, c3, rfl⟩ := h.worn.isSl
  obtain ⟨hn0, hn1, hn2, hn3⟩ := hn
  have D0 := DoS.start h hB 3 S P A T N
  unfold rv
  go_enter Try.func35, Try.ntmps35
  go_upto_region 1 with fail
  generalize (((w.alloc (.cells #[.slice a0 n0 c0, .slice a1 n1 c1, .slice a2 n2 c2, .slice a3 n3 c3] 33)).alloc (.cells #[.int .i64 3, .int .i64 S, .int .i64 P, .int .i64 A, .int .i64 T, .int .i64 N] 41)).alloc (.cells #[.slice none 0 0, .slice none 0 0, .slice none 0 0, .slice none 0 0] 33)) = W0 at *
  generalize w.heap.size = G at D0 ⊢
  have qf := rfind_any D0.at' (by omega) S
  obtain ⟨k0, k1, k2, k3⟩ := D0.box.cells
  obtain ⟨r0, r1, r2, r3, r4, r5⟩ := D0.rec'.six
  replace D0 := Hid.mk D0
  replace qf := Hid.mk qf
  go_upto_region 2 with (first | (go_at_call 50; refine qf.out.mono ?_; rintro e w1 ⟨rfl, b1⟩))
  have D1 := D0.out.call b1
  have qg := rget_any D1.at' (by omega) S P
  clear k0 k1 k2 k3 r0 r1 r2 r3 r4 r5 b1 qf D0
  obtain ⟨k0, k1, k2, k3⟩ := D1.box.cells
  obtain ⟨r0, r1, r2, r3, r4, r5⟩ := D1.rec'.six
  replace D1 := Hid.mk D1
  replace qg := Hid.mk qg
  go_upto_region 3 with (first | (go_at_call 51; refine qg.out.mono ?_; rintro e w2 ⟨rfl, b2⟩))
  have D2 := D1.out.call b2
  clear k0 k1 k2 k3 r0 r1 r2 r3 r4 r5 b2 qg D1
  obtain ⟨k0, k1, k2, k3⟩ := D2.box.cells
  obtain ⟨r0, r1, r2, r3, r4, r5⟩ := D2.rec'.six
  obtain ⟨z0, z1, z2, z3⟩ := D2.res.cells
  have y0 := D2.res.fz 0
  have y1 := D2.res.fz 1
  have y2 := D2.res.fz 2
  have y3 := D2.res.fz 3
  have hl2 := D2.lt
  have hl1 : G + 1 < w2.heap.size := by omega
  have hl0 : G < w2.heap.size := by omega
  replace D2 := Hid.mk D2
  generalize fndGo S m.sp 0 = ii at *
  have hc1 := rrefs_any D2.out.at' (by omega) A
  generalize hnA : cL A m.lv = nA at *
  have f1 : ((nA : Int) == 0) = false := by simp; omega
  replace hc1 := Hid.mk hc1
  have hc2 : ∀ W, Below w2.heap.size w2 W → Calls Try.prog 52 #[.agg #[.slice a0 n0 c0, .slice a1 n1 c1, .slice a2 n2 c2, .slice a3 n3 c3], .int .i64 T] W fun e w' => e = .returned (.int .i64 (cL T m.lv : Int)) ∧ Below W.heap.size W w' := fun W b => rrefs_any (D2.out.at'.call b) (by omega) T
  generalize hnT : cL T m.lv = nT at *
  replace hc2 := Hid.mk hc2
  replace hnA := Hid.mk hnA
  replace hnT := Hid.mk hnT
  have rr : Hid (∀ W, Below w2.heap.size w2 W → W.cell? ⟨G, 0, none⟩ = some (.slice a0 n0 c0) ∧ W.cell? ⟨G, 1, none⟩ = some (.slice a1 n1 c1) ∧ W.cell? ⟨G, 2, none⟩ = some (.slice a2 n2 c2) ∧ W.cell? ⟨G, 3, none⟩ = some (.slice a3 n3 c3) ∧ W.cell? ⟨G + 1, 4, none⟩ = some (.int .i64 T)) := fun W b => ⟨(D2.out.call b).box.cells.1, (D2.out.call b).box.cells.2.1, (D2.out.call b).box.cells.2.2.1, (D2.out.call b).box.cells.2.2.2, (D2.out.call b).rec'.six.2.2.2.2.1⟩
  clear hA
  go_upto_region 6 with (first | (go_at_call 52; refine (hc2.out _ b3).mono ?_; rintro e w4 ⟨rfl, b4⟩) | (go_at_call 52; refine hc1.out.mono ?_; rintro e w3 ⟨rfl, b3⟩; obtain ⟨kk0, kk1, kk2, kk3, kk4⟩ := rr.out w3 b3))
  have D3 := (D2.out.call b3).call b4
  clear k0 k1 k2 k3 r0 r1 r2 r3 r4 r5 z0 z1 z2 z3 y0 y1 y2 y3 b3 b4 kk0 kk1 kk2 kk3 kk4
  obtain ⟨k0, k1, k2, k3⟩ := D3.box.cells
  obtain ⟨z0, z1, z2, z3⟩ := D3.res.cells
  have y0 := D3.res.fz 0
  have y1 := D3.res.fz 1
  have y2 := D3.res.fz 2
  have y3 := D3.res.fz 3
  replace D3 := Hid.mk D3
  go_wp2_with fail
  have q := D3.out.same
  exact bodyPost_ret (st_result2 rfl rfl q.1) rfl ⟨_, _, _, _, rfl, q.2⟩
set_option maxRecDepth 20000 in
set_option maxHeartbeats 4000000 in
theorem do3_c {w : World} {B v0 v1 v2 v3 m} (h : RAt w B v0 v1 v2 v3 m) (hB : B ≤ w.heap.size) (hn : Lens m) {S P A T N : Int} (hA : 0 < cL A m.lv) (hT : cL T m.lv = 0) :
    Calls Try.prog 35 #[.agg #[v0, v1, v2, v3], rv 3 S P A T N] w (DoR w B v0 v1 v2 v3 ({ m with lv := m.lv.map (mvL A T) }, 0)) := by
  obtain ⟨a0, n0, c0, rfl⟩ := h.sp.isSl
  obtain ⟨a1, n1, c1, rfl⟩ := h.lv.isSl
  obtain ⟨a2, n2, c2, rfl⟩ := h.bad.isSl
  obtain ⟨a3, n3, c3, rfl⟩ := h.worn.isSl
  obtain ⟨hn0, hn1, hn2, hn3⟩ := hn
  have D0 := DoS.start h hB 3 S P A T N
  unfold rv
  generalize hR : m.lv.map (mvL A T) = R0
  go_enter Try.func35, Try.ntmps35
  go_upto_region 1 with fail
  generalize (((w.alloc (.cells #[.slice a0 n0 c0, .slice a1 n1 c1, .slice a2 n2 c2, .slice a3 n3 c3] 33)).alloc (.cells #[.int .i64 3, .int .i64 S, .int .i64 P, .int .i64 A, .int .i64 T, .int .i64 N] 41)).alloc (.cells #[.slice none 0 0, .slice none 0 0, .slice none 0 0, .slice none 0 0] 33)) = W0 at *
  generalize w.heap.size = G at D0 ⊢
  have qf := rfind_any D0.at' (by omega) S
  obtain ⟨k0, k1, k2, k3⟩ := D0.box.cells
  obtain ⟨r0, r1, r2, r3, r4, r5⟩ := D0.rec'.six
  replace D0 := Hid.mk D0
  replace qf := Hid.mk qf
  go_upto_region 2 with (first | (go_at_call 50; refine qf.out.mono ?_; rintro e w1 ⟨rfl, b1⟩))
  have D1 := D0.out.call b1
  have qg := rget_any D1.at' (by omega) S P
  clear k0 k1 k2 k3 r0 r1 r2 r3 r4 r5 b1 qf D0
  obtain ⟨k0, k1, k2, k3⟩ := D1.box.cells
  obtain ⟨r0, r1, r2, r3, r4, r5⟩ := D1.rec'.six
  replace D1 := Hid.mk D1
  replace qg := Hid.mk qg
  go_upto_region 3 with (first | (go_at_call 51; refine qg.out.mono ?_; rintro e w2 ⟨rfl, b2⟩))
  have D2 := D1.out.call b2
  clear k0 k1 k2 k3 r0 r1 r2 r3 r4 r5 b2 qg D1
  obtain ⟨k0, k1, k2, k3⟩ := D2.box.cells
  obtain ⟨r0, r1, r2, r3, r4, r5⟩ := D2.rec'.six
  obtain ⟨z0, z1, z2, z3⟩ := D2.res.cells
  have y0 := D2.res.fz 0
  have y1 := D2.res.fz 1
  have y2 := D2.res.fz 2
  have y3 := D2.res.fz 3
  have hl2 := D2.lt
  have hl1 : G + 1 < w2.heap.size := by omega
  have hl0 : G < w2.heap.size := by omega
  replace D2 := Hid.mk D2
  generalize fndGo S m.sp 0 = ii at *
  have hc1 := rrefs_any D2.out.at' (by omega) A
  generalize hnA : cL A m.lv = nA at *
  have f1 : ((nA : Int) == 0) = false := by simp; omega
  replace hc1 := Hid.mk hc1
  have hc2 : ∀ W, Below w2.heap.size w2 W → Calls Try.prog 52 #[.agg #[.slice a0 n0 c0, .slice a1 n1 c1, .slice a2 n2 c2, .slice a3 n3 c3], .int .i64 T] W fun e w' => e = .returned (.int .i64 (cL T m.lv : Int)) ∧ Below W.heap.size W w' := fun W b => rrefs_any (D2.out.at'.call b) (by omega) T
  generalize hnT : cL T m.lv = nT at *
  replace hc2 := Hid.mk hc2
  replace hnA := Hid.mk hnA
  replace hnT := Hid.mk hnT
  have rr : Hid (∀ W, Below w2.heap.size w2 W → W.cell? ⟨G, 0, none⟩ = some (.slice a0 n0 c0) ∧ W.cell? ⟨G, 1, none⟩ = some (.slice a1 n1 c1) ∧ W.cell? ⟨G, 2, none⟩ = some (.slice a2 n2 c2) ∧ W.cell? ⟨G, 3, none⟩ = some (.slice a3 n3 c3) ∧ W.cell? ⟨G + 1, 4, none⟩ = some (.int .i64 T)) := fun W b => ⟨(D2.out.call b).box.cells.1, (D2.out.call b).box.cells.2.1, (D2.out.call b).box.cells.2.2.1, (D2.out.call b).box.cells.2.2.2, (D2.out.call b).rec'.six.2.2.2.2.1⟩
  subst hT
  clear hA
  go_upto_region 7 with (first | (go_at_call 52; refine (hc2.out _ b3).mono ?_; rintro e w4 ⟨rfl, b4⟩) | (go_at_call 52; refine hc1.out.mono ?_; rintro e w3 ⟨rfl, b3⟩; obtain ⟨kk0, kk1, kk2, kk3, kk4⟩ := rr.out w3 b3))
  have D3 := (D2.out.call b3).call b4
  clear k0 k1 k2 k3 r0 r1 r2 r3 r4 r5 z0 z1 z2 z3 y0 y1 y2 y3 b3 b4 kk0 kk1 kk2 kk3 kk4 f1
  obtain ⟨la, lc, el⟩ := D3.at'.lv.form
  rw [List.length_map] at el
  simp only [Value.slice.injEq] at el
  obtain ⟨rfl, rfl, rfl⟩ := el
  have S0 : WbS w4 w4.heap.size 90 3 (.slice (some ⟨w4.heap.size, 0, none⟩) 0 0) [] (w4.alloc (.cells #[] 90)) := ⟨Ow.made w4 (Nat.le_refl _) 90 3, (Bel.refl w4).alloc _, rfl⟩
  replace S0 := Hid.mk S0
  have C0 : Hid (∀ wr, Bel w4 wr → wr.cell? ⟨G, 1, none⟩ = some (.slice a1 m.lv.length c1) ∧ wr.cell? ⟨G + 1, 3, none⟩ = some (.int .i64 A) ∧ wr.cell? ⟨G + 1, 4, none⟩ = some (.int .i64 T) ∧ Ow wr B 90 3 (.slice a1 m.lv.length c1) (m.lv.map rL)) := fun wr b => ⟨(D3.call b).box.cells.2.1, (D3.call b).rec'.six.2.2.2.1, (D3.call b).rec'.six.2.2.2.2.1, (D3.call b).at'.lv⟩
  have hl4 := D3.lt
  replace D3 := Hid.mk D3
  generalize hl : m.lv = l at *
  replace hl := Hid.mk hl
  have hRl : R0.length = l.length := by rw [← hR, List.length_map]
  go_upto_region 9 with fail
  generalize hB4 : w4.heap.size = Bo at *
  replace hB4 := Hid.mk hB4
  go_loopw [9, 10, 11] (fun v i _ wr => ∃ (k : Nat) (outL : List L3), k ≤ l.length ∧ i = .int .i64 k ∧ outL ++ (l.drop k).map (mvL A T) = R0 ∧ WbS w4 Bo 90 3 v (outL.map rL) wr) (fun _ i _ _ => l.length - (intOf i).toNat)
  case atStart => exact ⟨0, [], Nat.zero_le _, rfl, by simpa using hR, S0.out⟩
  case round =>
    clear S0
    obtain ⟨k, outL, hk, rfl, hgo, hs⟩ := hrel
    obtain ⟨k1, j3, j4, hlv⟩ := C0.out wr hs.bel
    have hol : outL.length ≤ R0.length := by rw [← hgo, List.length_append]; omega
    have hwG := hs.le
    have hwG1 : G + 1 < wr.heap.size := by omega
    have hwG0 : G < wr.heap.size := by omega
    by_cases hkn : k < l.length
    · obtain ⟨g, rfl, hgB, hgl, d0, d1, d2⟩ := hlv.at3 hkn
      rw [dropC l k (0, 0, 0) hkn, List.map_cons] at hgo
      generalize l.getD k (0, 0, 0) = y at *
      obtain ⟨y1, y2, y3⟩ := y
      simp only at d0 d1 d2
      have HS := Hid.mk (And.intro hs hol)
      clear hs hol hlv
      have hlen : outL.length < 900000 := by have := HS.out.2; omega
      by_cases e : y3 = A
      · have em : mvL A T (y1, y2, y3) = (y1, y2, T) := by unfold mvL; rw [if_pos e]
        rw [em] at hgo
        have HG := Hid.mk hgo
        subst e
        clear hgo em
        go_wp2_with (first | (at_builtin; refine wp_app ei90 rfl _ _ rfl (HS.out.1.out.alloc _) (by rw [size_alloc]; omega) #[.int .i64 y1, .int .i64 y2, .int .i64 T] rfl (by first | rfl | (simp only [size_alloc]; rfl)) rfl (by simp [Value.oneCell']) (by rw [List.length_map]; omega) ?_; intro v5 w5 o5 g5 p5))
        have N5 := HS.out.1.app ((Bel.refl wr).alloc _) g5 o5
        exact ⟨⟨k + 1, outL ++ [(y1, y2, T)], by omega, by go_num, by have := HG.out; simpa [List.append_assoc] using this, by rw [List.map_append]; exact N5⟩, by simp [intOf]; omega⟩
      · have em : mvL A T (y1, y2, y3) = (y1, y2, y3) := by unfold mvL; rw [if_neg e]
        rw [em] at hgo
        have HG := Hid.mk hgo
        have eb : (y3 == A) = false := by simp [e]
        clear hgo em e
        go_wp2_with (first | (at_builtin; refine wp_app ei90 rfl _ _ rfl (HS.out.1.out.alloc _) (by rw [size_alloc]; omega) #[.int .i64 y1, .int .i64 y2, .int .i64 y3] rfl (by first | rfl | (simp only [size_alloc]; rfl)) rfl (by simp [Value.oneCell']) (by rw [List.length_map]; omega) ?_; intro v5 w5 o5 g5 p5))
        have N5 := HS.out.1.app ((Bel.refl wr).alloc _) g5 o5
        exact ⟨⟨k + 1, outL ++ [(y1, y2, y3)], by omega, by go_num, by have := HG.out; simpa [List.append_assoc] using this, by rw [List.map_append]; exact N5⟩, by simp [intOf]; omega⟩
    · have hk2 : k = l.length := by omega
      subst hk2
      rw [List.drop_length, List.map_nil, List.append_nil] at hgo
      subst hgo
      obtain ⟨va, vn, vc, rfl⟩ := hs.out.isSl
      have D5 := D3.out.call hs.bel
      have fq := D3.out.finLv hs.bel (by rw [hB4.out]; exact hs.out)
      obtain ⟨m00, m01, m02, m03⟩ := D5.box.cells
      obtain ⟨m20, m21, m22, m23⟩ := D5.res.cells
      have f1 := D5.box.fz 1
      have g0 := D5.res.fz 0
      have g1 := D5.res.fz 1
      have g2 := D5.res.fz 2
      have g3 := D5.res.fz 3
      have hwG2 : G + 1 + 1 < wr.heap.size := by omega
      replace fq := Hid.mk fq
      clear D5 hs hlv hol k1 j3 j4
      go_wp2_with fail
      exact bodyPost_ret (st_result2 rfl rfl fq.out.1) rfl ⟨_, _, _, _, rfl, fq.out.2⟩
/-- while pages are copied: the state under way stands at block O -/
structure CpS (w4 : World) (B O : Nat) (v1 u0 v v2 v3 : Value) (m : Rs) (SP : List S3) (outL : List L3) (wr : World) : Prop where
  box : Box4 wr O u0 v v2 v3
  at' : RAt wr B u0 v v2 v3 { m with sp := SP, lv := outL }
  bel : Bel w4 wr
  own : Own2 w4 v1 v
  ne : v.ownBlock ≠ some O
  hO : O = w4.heap.size
theorem CpS.al {w4 B O v1 u0 v v2 v3 m SP outL wr} (h : CpS w4 B O v1 u0 v v2 v3 m SP outL wr) (o : Obj) : CpS w4 B O v1 u0 v v2 v3 m SP outL (wr.alloc o) := ⟨h.box.alloc o, h.at'.alloc o, h.bel.alloc o, h.own, h.ne, h.hO⟩
theorem CpS.put {w4 : World} {B O : Nat} {v1 u0 v v2 v3 v5 : Value} {m : Rs} {SP : List S3} {outL L5 : List L3} {wr w5 : World} (h : CpS w4 B O v1 u0 v v2 v3 m SP outL wr) (h0 : ∀ g, u0.ownBlock = some g → g < O) (h2 : ∀ g, v2.ownBlock = some g → g < O) (h3 : ∀ g, v3.ownBlock = some g → g < O) (R5 : RAt w5 B u0 v5 v2 v3 { m with sp := SP, lv := L5 }) (o5 : ∀ g, v5.ownBlock = some g → wr.heap.size ≤ g) (b5 : Bel wr w5) :
    CpS w4 B O v1 u0 v5 v2 v3 m SP L5 (set4 w5 O u0 v5 v2 v3) := by
  have k := set4_kp w5 O O u0 v5 v2 v3
  have hl := h.box.lt
  have hO := h.hO
  have n5 : v5.ownBlock ≠ some O := fun e => by have := o5 _ e; omega
  have n0 : u0.ownBlock ≠ some O := fun e => by have := h0 _ e; omega
  have n2 : v2.ownBlock ≠ some O := fun e => by have := h2 _ e; omega
  have n3 : v3.ownBlock ≠ some O := fun e => by have := h3 _ e; omega
  have bl : Bel w4 w5 := h.bel.trans b5
  exact ⟨set4_box (h.box.call b5) _ _ _ _, ⟨R5.sp.kp k n0 n0, R5.lv.kp k n5 n5, R5.bad.kp k n2 n2, R5.worn.kp k n3 n3⟩, kp_bel bl k (by omega) (by omega), Own2.new (fun g hg => by have := o5 _ hg; have := Below.size h.bel; omega), n5, hO⟩
set_option maxRecDepth 20000 in
set_option maxHeartbeats 4000000 in
theorem do6_taken {w : World} {B v0 v1 v2 v3 m} (h : RAt w B v0 v1 v2 v3 m) (hB : B ≤ w.heap.size) (hn : Lens m) {S P A T N : Int} {j : Nat} (hi : fndGo S m.sp 0 = (j : Int)) (hj : j < m.sp.length) {x1 x2 : Int} {x3 : Bool} (hx : m.sp.getD j (0, 0, false) = (x1, x2, x3)) (hT : 0 ≤ fndGo T m.sp 0) :
    Calls Try.prog 35 #[.agg #[v0, v1, v2, v3], rv 6 S P A T N] w (DoR w B v0 v1 v2 v3 (m, 80)) := by
  obtain ⟨a0, n0, c0, rfl⟩ := h.sp.isSl
  obtain ⟨a1, n1, c1, rfl⟩ := h.lv.isSl
  obtain ⟨a2, n2, c2, rfl⟩ := h.bad.isSl
  obtain ⟨a3, n3, c3, rfl⟩ := h.worn.isSl
  obtain ⟨hn0, hn1, hn2, hn3⟩ := hn
  have D0 := DoS.start h hB 6 S P A T N
  unfold rv
  go_enter Try.func35, Try.ntmps35
  go_upto_region 1 with fail
  generalize (((w.alloc (.cells #[.slice a0 n0 c0, .slice a1 n1 c1, .slice a2 n2 c2, .slice a3 n3 c3] 33)).alloc (.cells #[.int .i64 6, .int .i64 S, .int .i64 P, .int .i64 A, .int .i64 T, .int .i64 N] 41)).alloc (.cells #[.slice none 0 0, .slice none 0 0, .slice none 0 0, .slice none 0 0] 33)) = W0 at *
  generalize w.heap.size = G at D0 ⊢
  have qf := rfind_any D0.at' (by omega) S
  obtain ⟨k0, k1, k2, k3⟩ := D0.box.cells
  obtain ⟨r0, r1, r2, r3, r4, r5⟩ := D0.rec'.six
  replace D0 := Hid.mk D0
  replace qf := Hid.mk qf
  go_upto_region 2 with (first | (go_at_call 50; refine qf.out.mono ?_; rintro e w1 ⟨rfl, b1⟩))
  have D1 := D0.out.call b1
  have qg := rget_any D1.at' (by omega) S P
  clear k0 k1 k2 k3 r0 r1 r2 r3 r4 r5 b1 qf D0
  obtain ⟨k0, k1, k2, k3⟩ := D1.box.cells
  obtain ⟨r0, r1, r2, r3, r4, r5⟩ := D1.rec'.six
  replace D1 := Hid.mk D1
  replace qg := Hid.mk qg
  go_upto_region 3 with (first | (go_at_call 51; refine qg.out.mono ?_; rintro e w2 ⟨rfl, b2⟩))
  have D2 := D1.out.call b2
  clear k0 k1 k2 k3 r0 r1 r2 r3 r4 r5 b2 qg D1
  obtain ⟨k0, k1, k2, k3⟩ := D2.box.cells
  obtain ⟨r0, r1, r2, r3, r4, r5⟩ := D2.rec'.six
  obtain ⟨z0, z1, z2, z3⟩ := D2.res.cells
  have y0 := D2.res.fz 0
  have y1 := D2.res.fz 1
  have y2 := D2.res.fz 2
  have y3 := D2.res.fz 3
  have hl2 := D2.lt
  have hl1 : G + 1 < w2.heap.size := by omega
  have hl0 : G < w2.heap.size := by omega
  replace D2 := Hid.mk D2
  obtain ⟨sa, sc, es⟩ := D2.out.at'.sp.form
  rw [List.length_map] at es
  simp only [Value.slice.injEq] at es
  obtain ⟨rfl, rfl, rfl⟩ := es
  obtain ⟨g, rfl, hgB, hgl, d0, d1, d2⟩ := D2.out.at'.sp.at3s hj
  rw [hx] at d0 d1 d2
  simp only at d0 d1 d2
  have D3 := D2.out.alloc (.cells #[.int .i64 x1, .int .i64 x2, .bool x3] 87)
  have cf := rfind_any D3.at' (by omega) T
  generalize fndGo T m.sp 0 = it at *
  have hit : decide (0 ≤ it) = true := decide_eq_true hT
  have CF := Hid.mk (And.intro D3 cf)
  clear D3 cf hT
  go_upto_region 41 with (first | (go_at_call 50; refine CF.out.2.mono ?_; rintro e w3 ⟨rfl, b3⟩))
  have D4 := CF.out.1.call b3
  clear k0 k1 k2 k3 r0 r1 r2 r3 r4 r5 z0 z1 z2 z3 y0 y1 y2 y3 b3 d0 d1 d2
  obtain ⟨k0, k1, k2, k3⟩ := D4.box.cells
  obtain ⟨z0, z1, z2, z3⟩ := D4.res.cells
  have y0 := D4.res.fz 0
  have y1 := D4.res.fz 1
  have y2 := D4.res.fz 2
  have y3 := D4.res.fz 3
  replace D4 := Hid.mk D4
  go_wp2_with fail
  have q := D4.out.same
  exact bodyPost_ret (st_result2 rfl rfl q.1) rfl ⟨_, _, _, _, rfl, q.2⟩
set_option maxRecDepth 20000 in
set_option maxHeartbeats 4000000 in
theorem do6_copy {w : World} {B v0 v1 v2 v3 m} (h : RAt w B v0 v1 v2 v3 m) (hB : B ≤ w.heap.size) (hn : Lens m) {S P A T N : Int} {j : Nat} (hi : fndGo S m.sp 0 = (j : Int)) (hj : j < m.sp.length) {x1 x2 : Int} {x3 : Bool} (hx : m.sp.getD j (0, 0, false) = (x1, x2, x3)) (hT : fndGo T m.sp 0 = -1) :
    Calls Try.prog 35 #[.agg #[v0, v1, v2, v3], rv 6 S P A T N] w (DoR w B v0 v1 v2 v3 ({ m with sp := mI (T, x2, false) m.sp, lv := cpL S T m.lv m.lv }, 0)) := by
  obtain ⟨a0, n0, c0, rfl⟩ := h.sp.isSl
  obtain ⟨a1, n1, c1, rfl⟩ := h.lv.isSl
  obtain ⟨a2, n2, c2, rfl⟩ := h.bad.isSl
  obtain ⟨a3, n3, c3, rfl⟩ := h.worn.isSl
  obtain ⟨hn0, hn1, hn2, hn3⟩ := hn
  have D0 := DoS.start h hB 6 S P A T N
  unfold rv
  generalize hR : cpL S T m.lv m.lv = R0
  generalize hSP : mI (T, x2, false) m.sp = SP
  go_enter Try.func35, Try.ntmps35
  go_upto_region 1 with fail
  generalize (((w.alloc (.cells #[.slice a0 n0 c0, .slice a1 n1 c1, .slice a2 n2 c2, .slice a3 n3 c3] 33)).alloc (.cells #[.int .i64 6, .int .i64 S, .int .i64 P, .int .i64 A, .int .i64 T, .int .i64 N] 41)).alloc (.cells #[.slice none 0 0, .slice none 0 0, .slice none 0 0, .slice none 0 0] 33)) = W0 at *
  generalize w.heap.size = G at D0 ⊢
  have qf := rfind_any D0.at' (by omega) S
  obtain ⟨k0, k1, k2, k3⟩ := D0.box.cells
  obtain ⟨r0, r1, r2, r3, r4, r5⟩ := D0.rec'.six
  replace D0 := Hid.mk D0
  replace qf := Hid.mk qf
  go_upto_region 2 with (first | (go_at_call 50; refine qf.out.mono ?_; rintro e w1 ⟨rfl, b1⟩))
  have D1 := D0.out.call b1
  have qg := rget_any D1.at' (by omega) S P
  clear k0 k1 k2 k3 r0 r1 r2 r3 r4 r5 b1 qf D0
  obtain ⟨k0, k1, k2, k3⟩ := D1.box.cells
  obtain ⟨r0, r1, r2, r3, r4, r5⟩ := D1.rec'.six
  replace D1 := Hid.mk D1
  replace qg := Hid.mk qg
  go_upto_region 3 with (first | (go_at_call 51; refine qg.out.mono ?_; rintro e w2 ⟨rfl, b2⟩))
  have D2 := D1.out.call b2
  clear k0 k1 k2 k3 r0 r1 r2 r3 r4 r5 b2 qg D1
  obtain ⟨k0, k1, k2, k3⟩ := D2.box.cells
  obtain ⟨r0, r1, r2, r3, r4, r5⟩ := D2.rec'.six
  obtain ⟨z0, z1, z2, z3⟩ := D2.res.cells
  have y0 := D2.res.fz 0
  have y1 := D2.res.fz 1
  have y2 := D2.res.fz 2
  have y3 := D2.res.fz 3
  have hl2 := D2.lt
  have hl1 : G + 1 < w2.heap.size := by omega
  have hl0 : G < w2.heap.size := by omega
  replace D2 := Hid.mk D2
  obtain ⟨sa, sc, es⟩ := D2.out.at'.sp.form
  rw [List.length_map] at es
  simp only [Value.slice.injEq] at es
  obtain ⟨rfl, rfl, rfl⟩ := es
  obtain ⟨g, rfl, hgB, hgl, d0, d1, d2⟩ := D2.out.at'.sp.at3s hj
  rw [hx] at d0 d1 d2
  simp only at d0 d1 d2
  have D3 := D2.out.alloc (.cells #[.int .i64 x1, .int .i64 x2, .bool x3] 87)
  have cf := rfind_any D3.at' (by omega) T
  rw [hT] at cf
  have CF := Hid.mk (And.intro D3 cf)
  have hw2 : w2.heap.size < (w2.alloc (.cells #[.int .i64 x1, .int .i64 x2, .bool x3] 87)).heap.size := by rw [size_alloc]; omega
  have xc : Hid (∀ W, Below (w2.alloc (.cells #[.int .i64 x1, .int .i64 x2, .bool x3] 87)).heap.size (w2.alloc (.cells #[.int .i64 x1, .int .i64 x2, .bool x3] 87)) W → W.cell? ⟨w2.heap.size, 1, none⟩ = some (.int .i64 x2)) := fun W b => by
    have u := (b.block w2.heap.size hw2).trans (heap_alloc_new w2 (.cells #[.int .i64 x1, .int .i64 x2, .bool x3] 87))
    rw [cell_of_row W _ _ _ 87 _ u]; rfl
  clear D3 cf hT hw2
  go_upto_region 42 with (first | (go_at_call 50; refine CF.out.2.mono ?_; rintro e w3 ⟨rfl, b3⟩))
  have D4 := CF.out.1.call b3
  have x2c := xc.out w3 b3
  clear k0 k1 k2 k3 r0 r1 r2 r3 r4 r5 z0 z1 z2 z3 y0 y1 y2 y3 b3 d0 d1 d2
  obtain ⟨k0, k1, k2, k3⟩ := D4.box.cells
  obtain ⟨r0, r1, r2, r3, r4, r5⟩ := D4.rec'.six
  have cm := rmade_any D4.at' (by omega) (Nat.le_trans D4.hB D4.bel.size) T x2 false
  have hSP' : gI (fun y : S3 => decide (T < y.1)) (fun y : S3 => decide (y.1 ≠ T)) (T, x2, false) false m.sp = SP := hSP
  rw [hSP'] at cm
  have CM := Hid.mk (And.intro D4 cm)
  clear D4 cm hSP hSP'
  go_upto_region 44 with (first | (go_at_call 53; refine CM.out.2.mono ?_; rintro e w4 ⟨u, rfl, R4, o4, b4⟩; obtain ⟨ua, un, uc, rfl⟩ := R4.sp.isSl))
  have D5 := CM.out.1.call b4
  have S0 : CpS w4 B w4.heap.size (.slice a1 n1 c1) (.slice ua un uc) (.slice a1 n1 c1) (.slice a2 n2 c2) (.slice a3 n3 c3) m SP m.lv (w4.alloc (.cells #[.slice ua un uc, .slice a1 n1 c1, .slice a2 n2 c2, .slice a3 n3 c3] 33)) :=
    ⟨Box4.fresh _ _ _ _ _, R4.alloc _, (Bel.refl w4).alloc _, Own2.refl _ _, fun e => by have := (R4.lv.lt _ e).2; omega, rfl⟩
  obtain ⟨la, lc, el⟩ := D5.at'.lv.form
  rw [List.length_map] at el
  simp only [Value.slice.injEq] at el
  obtain ⟨rfl, rfl, rfl⟩ := el
  have hu0 : ∀ g, (Value.slice ua un uc).ownBlock = some g → g < w4.heap.size := fun g hg => (R4.sp.lt _ hg).2
  have hu2 : ∀ g, (Value.slice a2 n2 c2).ownBlock = some g → g < w4.heap.size := fun g hg => (R4.bad.lt _ hg).2
  have hu3 : ∀ g, (Value.slice a3 n3 c3).ownBlock = some g → g < w4.heap.size := fun g hg => (R4.worn.lt _ hg).2
  have hu := Hid.mk (And.intro hu0 (And.intro hu2 hu3))
  replace S0 := Hid.mk S0
  have C0 : Hid (∀ wr, Bel w4 wr → wr.cell? ⟨G, 1, none⟩ = some (.slice a1 m.lv.length c1) ∧ wr.cell? ⟨G + 1, 1, none⟩ = some (.int .i64 S) ∧ wr.cell? ⟨G + 1, 4, none⟩ = some (.int .i64 T) ∧ Ow wr B 90 3 (.slice a1 m.lv.length c1) (m.lv.map rL)) := fun wr b => ⟨(D5.call b).box.cells.2.1, (D5.call b).rec'.six.2.1, (D5.call b).rec'.six.2.2.2.2.1, (D5.call b).at'.lv⟩
  have hl4 := D5.lt
  have hBw := Nat.le_trans D5.hB D5.bel.size
  replace D5 := Hid.mk (And.intro D5 (And.intro o4 b4))
  clear hu0 hu2 hu3 R4 o4 b4 k0 k1 k2 k3 r0 r1 r2 r3 r4 r5 x2c
  generalize hl : m.lv = l at *
  replace hl := Hid.mk hl
  generalize hO : w4.heap.size = O at *
  replace hO := Hid.mk hO
  go_loopw [14, 15] (fun i _ wr => ∃ (k : Nat) (outL : List L3) (v : Value), k ≤ l.length ∧ i = .int .i64 k ∧ outL.length ≤ l.length + k ∧ cpL S T (l.drop k) outL = R0 ∧ CpS w4 B O (.slice a1 l.length c1) (.slice ua un uc) v (.slice a2 n2 c2) (.slice a3 n3 c3) m SP outL wr) (fun i _ _ => l.length - (intOf i).toNat)
  case atStart => exact ⟨0, l, _, Nat.zero_le _, rfl, by omega, by simpa using hR, S0.out⟩
  case round =>
    clear S0
    obtain ⟨k, outL, v, hk, rfl, hol, hgo, hs⟩ := hrel
    obtain ⟨k1, j3, j4, hlv⟩ := C0.out wr hs.bel
    obtain ⟨va, vn, vc, rfl⟩ := hs.at'.lv.isSl
    obtain ⟨q0, q1, q2, q3⟩ := hs.box.cells
    have hOl := hs.box.lt
    have hwG1 : G + 1 < wr.heap.size := by omega
    have hwG0 : G < wr.heap.size := by omega
    by_cases hkn : k < l.length
    · obtain ⟨g', rfl, hgB', hgl', d0, d1, d2⟩ := hlv.at3 hkn
      rw [dropC l k (0, 0, 0) hkn, cpL] at hgo
      generalize l.getD k (0, 0, 0) = y at *
      obtain ⟨y1, y2, y3⟩ := y
      simp only at d0 d1 d2 hgo
      have HS := Hid.mk hs
      clear hs hlv
      by_cases e : y1 = S
      · rw [if_pos e] at hgo
        have HG := Hid.mk hgo
        subst e
        clear hgo
        have cw := rwith_any (HS.out.al (.cells #[.int .i64 y1, .int .i64 y2, .int .i64 y3] 90)).at' (by show outL.length < 100000; omega) (Nat.le_trans hBw (Nat.le_trans (by rw [← hO.out]; exact Below.size HS.out.bel) (by rw [size_alloc]; omega))) (T, y2, y3)
        replace cw := Hid.mk cw
        go_wp2_with (first | (go_at_call 56; refine cw.out.mono ?_; rintro e w5 ⟨v5, rfl, R5, o5, b5⟩; obtain ⟨v5a, v5n, v5c, rfl⟩ := R5.lv.isSl; have X5 := (HS.out.box.alloc _).call b5; obtain ⟨t0, t1, t2, t3⟩ := X5.cells; have p0 := X5.fz 0; have p1 := X5.fz 1; have p2 := X5.fz 2; have p3 := X5.fz 3; have E5 := Hid.mk (And.intro X5 (And.intro R5 (And.intro o5 b5))); clear X5 R5 o5 b5))
        have hwl : (wI (T, y2, y3) false outL).length ≤ outL.length + 1 := with_len _ _
        exact ⟨⟨k + 1, wI (T, y2, y3) false outL, _, by omega, by go_num, by omega, HG.out, (HS.out.al (.cells #[.int .i64 y1, .int .i64 y2, .int .i64 y3] 90)).put hu.out.1 hu.out.2.1 hu.out.2.2 E5.out.2.1 E5.out.2.2.1 E5.out.2.2.2⟩, by simp [intOf]; omega⟩
      · rw [if_neg e] at hgo
        have HG := Hid.mk hgo
        have eb : (y1 == S) = false := by simp [e]
        clear hgo e
        go_wp2_with fail
        exact ⟨⟨k + 1, outL, _, by omega, by go_num, by omega, HG.out, HS.out.al _⟩, by simp [intOf]; omega⟩
    · have hk2 : k = l.length := by omega
      subst hk2
      rw [List.drop_length, cpL] at hgo
      subst hgo
      have D6 := D5.out.1.call hs.bel
      have fq := CM.out.1.fin (below3 D5.out.2.2 hs.bel) hs.at' (Own2.new D5.out.2.1) (fun g hg => (hs.own g hg).imp id (fun q => Nat.le_trans D5.out.2.2.size q)) (Own2.refl _ _) (Own2.refl _ _)
      obtain ⟨m20, m21, m22, m23⟩ := D6.res.cells
      have g0 := D6.res.fz 0
      have g1 := D6.res.fz 1
      have g2 := D6.res.fz 2
      have g3 := D6.res.fz 3
      have hwG2 : G + 1 + 1 < wr.heap.size := by omega
      replace fq := Hid.mk fq
      clear D6 hs hlv j3 j4
      go_wp2_with fail
      exact bodyPost_ret (st_result2 rfl rfl fq.out.1) rfl ⟨_, _, _, _, rfl, fq.out.2⟩
end Go.Proofs.Ytacgemibaojbaaa
