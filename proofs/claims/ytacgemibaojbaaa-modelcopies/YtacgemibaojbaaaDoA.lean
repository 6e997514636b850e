/-
  The walks of the answer's Do, way by way (DoA). No condition. The walks of the answer's Do, way by way (DoB). No condition. The walks of the answer's Do, way by way (DoC). No condition. The walks of the answer's Do, way by way (DoD). No condition.
-/
import Derived.Test.YtacgemibaojbaaaDo0
namespace Go.Proofs.Ytacgemibaojbaaa
open Go Go.RowKit Go.Maps

set_option maxRecDepth 20000 in
set_option maxHeartbeats 4000000 in
theorem do1_none {w : World} {B v0 v1 v2 v3 m} (h : RAt w B v0 v1 v2 v3 m) (hB : B ≤ w.heap.size) (hn : Lens m) {S P A T N : Int} (hi : fndGo S m.sp 0 = -1) :
    Calls Try.prog 35 #[.agg #[v0, v1, v2, v3], rv 1 S P A T N] w (DoR w B v0 v1 v2 v3 (m, 80)) := by
  obtain ⟨a0, n0, c0, rfl⟩ := h.sp.isSl
  obtain ⟨a1, n1, c1, rfl⟩ := h.lv.isSl
  obtain ⟨a2, n2, c2, rfl⟩ := h.bad.isSl
  obtain ⟨a3, n3, c3, rfl⟩ := h.worn.isSl
  obtain ⟨hn0, hn1, hn2, hn3⟩ := hn
  have D0 := DoS.start h hB 1 S P A T N
  unfold rv
  go_enter Try.func35, Try.ntmps35
  go_upto_region 1 with fail
  generalize (((w.alloc (.cells #[.slice a0 n0 c0, .slice a1 n1 c1, .slice a2 n2 c2, .slice a3 n3 c3] 33)).alloc (.cells #[.int .i64 1, .int .i64 S, .int .i64 P, .int .i64 A, .int .i64 T, .int .i64 N] 41)).alloc (.cells #[.slice none 0 0, .slice none 0 0, .slice none 0 0, .slice none 0 0] 33)) = W0 at *
  generalize w.heap.size = G at D0 ⊢
  have qf := rfind_any D0.at' (by omega) S
  obtain ⟨k0, k1, k2, k3⟩ := D0.box.cells
  obtain ⟨r0, r1, r2, r3, r4, r5⟩ := D0.rec'.six
  replace D0 := Hid.mk D0
  replace qf := Hid.mk qf
  go_upto_region 2 with (first | (go_at_call 50; refine qf.out.mono ?_; rintro e w1 ⟨rfl, b1⟩))
  have D1 := D0.out.call b1
  have qg := rget_any D1.at' (by omega) S P
  clear k0 k1 k2 k3 r0 r1 r2 r3 r4 r5 b1 qf D0
  obtain ⟨k0, k1, k2, k3⟩ := D1.box.cells
  obtain ⟨r0, r1, r2, r3, r4, r5⟩ := D1.rec'.six
  replace D1 := Hid.mk D1
  replace qg := Hid.mk qg
  go_upto_region 3 with (first | (go_at_call 51; refine qg.out.mono ?_; rintro e w2 ⟨rfl, b2⟩))
  have D2 := D1.out.call b2
  clear k0 k1 k2 k3 r0 r1 r2 r3 r4 r5 b2 qg D1
  obtain ⟨k0, k1, k2, k3⟩ := D2.box.cells
  obtain ⟨r0, r1, r2, r3, r4, r5⟩ := D2.rec'.six
  obtain ⟨z0, z1, z2, z3⟩ := D2.res.cells
  have y0 := D2.res.fz 0
  have y1 := D2.res.fz 1
  have y2 := D2.res.fz 2
  have y3 := D2.res.fz 3
  have hl2 := D2.lt
  have hl1 : G + 1 < w2.heap.size := by omega
  have hl0 : G < w2.heap.size := by omega
  replace D2 := Hid.mk D2
  go_wp2_with fail
  have q := D2.out.same
  exact bodyPost_ret (st_result2 rfl rfl q.1) rfl ⟨_, _, _, _, rfl, q.2⟩
set_option maxRecDepth 20000 in
set_option maxHeartbeats 4000000 in
theorem do2_none {w : World} {B v0 v1 v2 v3 m} (h : RAt w B v0 v1 v2 v3 m) (hB : B ≤ w.heap.size) (hn : Lens m) {S P A T N : Int} (hi : fndGo S m.sp 0 = -1) :
    Calls Try.prog 35 #[.agg #[v0, v1, v2, v3], rv 2 S P A T N] w (DoR w B v0 v1 v2 v3 (m, 80)) := by
  obtain ⟨a0, n0, c0, rfl⟩ := h.sp.isSl
  obtain ⟨a1, n1, c1, rfl⟩ := h.lv.isSl
  obtain ⟨a2, n2, c2, rfl⟩ := h.bad.isSl
  obtain ⟨a3, n3, c3, rfl⟩ := h.worn.isSl
  obtain ⟨hn0, hn1, hn2, hn3⟩ := hn
  have D0 := DoS.start h hB 2 S P A T N
  unfold rv
  go_enter Try.func35, Try.ntmps35
  go_upto_region 1 with fail
  generalize (((w.alloc (.cells #[.slice a0 n0 c0, .slice a1 n1 c1, .slice a2 n2 c2, .slice a3 n3 c3] 33)).alloc (.cells #[.int .i64 2, .int .i64 S, .int .i64 P, .int .i64 A, .int .i64 T, .int .i64 N] 41)).alloc (.cells #[.slice none 0 0, .slice none 0 0, .slice none 0 0, .slice none 0 0] 33)) = W0 at *
  generalize w.heap.size = G at D0 ⊢
  have qf := rfind_any D0.at' (by omega) S
  obtain ⟨k0, k1, k2, k3⟩ := D0.box.cells
  obtain ⟨r0, r1, r2, r3, r4, r5⟩ := D0.rec'.six
  replace D0 := Hid.mk D0
  replace qf := Hid.mk qf
  go_upto_region 2 with (first | (go_at_call 50; refine qf.out.mono ?_; rintro e w1 ⟨rfl, b1⟩))
  have D1 := D0.out.call b1
  have qg := rget_any D1.at' (by omega) S P
  clear k0 k1 k2 k3 r0 r1 r2 r3 r4 r5 b1 qf D0
  obtain ⟨k0, k1, k2, k3⟩ := D1.box.cells
  obtain ⟨r0, r1, r2, r3, r4, r5⟩ := D1.rec'.six
  replace D1 := Hid.mk D1
  replace qg := Hid.mk qg
  go_upto_region 3 with (first | (go_at_call 51; refine qg.out.mono ?_; rintro e w2 ⟨rfl, b2⟩))
  have D2 := D1.out.call b2
  clear k0 k1 k2 k3 r0 r1 r2 r3 r4 r5 b2 qg D1
  obtain ⟨k0, k1, k2, k3⟩ := D2.box.cells
  obtain ⟨r0, r1, r2, r3, r4, r5⟩ := D2.rec'.six
  obtain ⟨z0, z1, z2, z3⟩ := D2.res.cells
  have y0 := D2.res.fz 0
  have y1 := D2.res.fz 1
  have y2 := D2.res.fz 2
  have y3 := D2.res.fz 3
  have hl2 := D2.lt
  have hl1 : G + 1 < w2.heap.size := by omega
  have hl0 : G < w2.heap.size := by omega
  replace D2 := Hid.mk D2
  go_wp2_with fail
  have q := D2.out.same
  exact bodyPost_ret (st_result2 rfl rfl q.1) rfl ⟨_, _, _, _, rfl, q.2⟩
set_option maxRecDepth 20000 in
set_option maxHeartbeats 4000000 in
theorem do5_none {w : World} {B v0 v1 v2 v3 m} (h : RAt w B v0 v1 v2 v3 m) (hB : B ≤ w.heap.size) (hn : Lens m) {S P A T N : Int} (hi : fndGo S m.sp 0 = -1) :
    Calls Try.prog 35 #[.agg #[v0, v1, v2, v3], rv 5 S P A T N] w (DoR w B v0 v1 v2 v3 (m, 80)) := by
  obtain ⟨a0, n0, c0, rfl⟩ := h.sp.isSl
  obtain ⟨a1, n1, c1, rfl⟩ := h.lv.isSl
  obtain ⟨a2, n2, c2, rfl⟩ := h.bad.isSl
  obtain ⟨a3, n3, c3, rfl⟩ := h.worn.isSl
  obtain ⟨hn0, hn1, hn2, hn3⟩ := hn
  have D0 := DoS.start h hB 5 S P A T N
  unfold rv
  go_enter Try.func35, Try.ntmps35
  go_upto_region 1 with fail
  generalize (((w.alloc (.cells #[.slice a0 n0 c0, .slice a1 n1 c1, .slice a2 n2 c2, .slice a3 n3 c3] 33)).alloc (.cells #[.int .i64 5, .int .i64 S, .int .i64 P, .int .i64 A, .int .i64 T, .int .i64 N] 41)).alloc (.cells #[.slice none 0 0, .slice none 0 0, .slice none 0 0, .slice none 0 0] 33)) = W0 at *
  generalize w.heap.size = G at D0 ⊢
  have qf := rfind_any D0.at' (by omega) S
  obtain ⟨k0, k1, k2, k3⟩ := D0.box.cells
  obtain ⟨r0, r1, r2, r3, r4, r5⟩ := D0.rec'.six
  replace D0 := Hid.mk D0
  replace qf := Hid.mk qf
  go_upto_region 2 with (first | (go_at_call 50; refine qf.out.mono ?_; rintro e w1 ⟨rfl, b1⟩))
  have D1 := D0.out.call b1
  have qg := rget_any D1.at' (by omega) S P
  clear k0 k1 k2 k3 r0 r1 r2 r3 r4 r5 b1 qf D0
  obtain ⟨k0, k1, k2, k3⟩ := D1.box.cells
  obtain ⟨r0, r1, r2, r3, r4, r5⟩ := D1.rec'.six
  replace D1 := Hid.mk D1
  replace qg := Hid.mk qg
  go_upto_region 3 with (first | (go_at_call 51; refine qg.out.mono ?_; rintro e w2 ⟨rfl, b2⟩))
  have D2 := D1.out.call b2
  clear k0 k1 k2 k3 r0 r1 r2 r3 r4 r5 b2 qg D1
  obtain ⟨k0, k1, k2, k3⟩ := D2.box.cells
  obtain ⟨r0, r1, r2, r3, r4, r5⟩ := D2.rec'.six
  obtain ⟨z0, z1, z2, z3⟩ := D2.res.cells
  have y0 := D2.res.fz 0
  have y1 := D2.res.fz 1
  have y2 := D2.res.fz 2
  have y3 := D2.res.fz 3
  have hl2 := D2.lt
  have hl1 : G + 1 < w2.heap.size := by omega
  have hl0 : G < w2.heap.size := by omega
  replace D2 := Hid.mk D2
  go_wp2_with fail
  have q := D2.out.same
  exact bodyPost_ret (st_result2 rfl rfl q.1) rfl ⟨_, _, _, _, rfl, q.2⟩
set_option maxRecDepth 20000 in
set_option maxHeartbeats 4000000 in
theorem do6_none {w : World} {B v0 v1 v2 v3 m} (h : RAt w B v0 v1 v2 v3 m) (hB : B ≤ w.heap.size) (hn : Lens m) {S P A T N : Int} (hi : fndGo S m.sp 0 = -1) :
    Calls Try.prog 35 #[.agg #[v0, v1, v2, v3], rv 6 S P A T N] w (DoR w B v0 v1 v2 v3 (m, 80)) := by
  obtain ⟨a0, n0, c0, rfl⟩ := h.sp.isSl
  obtain ⟨a1, n1, c1, rfl⟩ := h.lv.isSl
  obtain ⟨a2, n2, c2, rfl⟩ := h.bad.isSl
  obtain ⟨a3, n3, c3, rfl⟩ := h.worn.isSl
  obtain ⟨hn0, hn1, hn2, hn3⟩ := hn
  have D0 := DoS.start h hB 6 S P A T N
  unfold rv
  go_enter Try.func35, Try.ntmps35
  go_upto_region 1 with fail
  generalize (((w.alloc (.cells #[.slice a0 n0 c0, .slice a1 n1 c1, .slice a2 n2 c2, .slice a3 n3 c3] 33)).alloc (.cells #[.int .i64 6, .int .i64 S, .int .i64 P, .int .i64 A, .int .i64 T, .int .i64 N] 41)).alloc (.cells #[.slice none 0 0, .slice none 0 0, .slice none 0 0, .slice none 0 0] 33)) = W0 at *
  generalize w.heap.size = G at D0 ⊢
  have qf := rfind_any D0.at' (by omega) S
  obtain ⟨k0, k1, k2, k3⟩ := D0.box.cells
  obtain ⟨r0, r1, r2, r3, r4, r5⟩ := D0.rec'.six
  replace D0 := Hid.mk D0
  replace qf := Hid.mk qf
  go_upto_region 2 with (first | (go_at_call 50; refine qf.out.mono ?_; rintro e w1 ⟨rfl, b1⟩))
  have D1 := D0.out.call b1
  have qg := rget_any D1.at' (by omega) S P
  clear k0 k1 k2 k3 r0 r1 r2 r3 r4 r5 b1 qf D0
  obtain ⟨k0, k1, k2, k3⟩ := D1.box.cells
  obtain ⟨r0, r1, r2, r3, r4, r5⟩ := D1.rec'.six
  replace D1 := Hid.mk D1
  replace qg := Hid.mk qg
  go_upto_region 3 with (first | (go_at_call 51; refine qg.out.mono ?_; rintro e w2 ⟨rfl, b2⟩))
  have D2 := D1.out.call b2
  clear k0 k1 k2 k3 r0 r1 r2 r3 r4 r5 b2 qg D1
  obtain ⟨k0, k1, k2, k3⟩ := D2.box.cells
  obtain ⟨r0, r1, r2, r3, r4, r5⟩ := D2.rec'.six
  obtain ⟨z0, z1, z2, z3⟩ := D2.res.cells
  have y0 := D2.res.fz 0
  have y1 := D2.res.fz 1
  have y2 := D2.res.fz 2
  have y3 := D2.res.fz 3
  have hl2 := D2.lt
  have hl1 : G + 1 < w2.heap.size := by omega
  have hl0 : G < w2.heap.size := by omega
  replace D2 := Hid.mk D2
  go_wp2_with fail
  have q := D2.out.same
  exact bodyPost_ret (st_result2 rfl rfl q.1) rfl ⟨_, _, _, _, rfl, q.2⟩
set_option maxRecDepth 20000 in
set_option maxHeartbeats 4000000 in
theorem do7_none {w : World} {B v0 v1 v2 v3 m} (h : RAt w B v0 v1 v2 v3 m) (hB : B ≤ w.heap.size) (hn : Lens m) {S P A T N : Int} (hi : fndGo S m.sp 0 = -1) :
    Calls Try.prog 35 #[.agg #[v0, v1, v2, v3], rv 7 S P A T N] w (DoR w B v0 v1 v2 v3 (m, 80)) := by
  obtain ⟨a0, n0, c0, rfl⟩ := h.sp.isSl
  obtain ⟨a1, n1, c1, rfl⟩ := h.lv.isSl
  obtain ⟨a2, n2, c2, rfl⟩ := h.bad.isSl
  obtain ⟨a3, n3, c3, rfl⟩ := h.worn.isSl
  obtain ⟨hn0, hn1, hn2, hn3⟩ := hn
  have D0 := DoS.start h hB 7 S P A T N
  unfold rv
  go_enter Try.func35, Try.ntmps35
  go_upto_region 1 with fail
  generalize (((w.alloc (.cells #[.slice a0 n0 c0, .slice a1 n1 c1, .slice a2 n2 c2, .slice a3 n3 c3] 33)).alloc (.cells #[.int .i64 7, .int .i64 S, .int .i64 P, .int .i64 A, .int .i64 T, .int .i64 N] 41)).alloc (.cells #[.slice none 0 0, .slice none 0 0, .slice none 0 0, .slice none 0 0] 33)) = W0 at *
  generalize w.heap.size = G at D0 ⊢
  have qf := rfind_any D0.at' (by omega) S
  obtain ⟨k0, k1, k2, k3⟩ := D0.box.cells
  obtain ⟨r0, r1, r2, r3, r4, r5⟩ := D0.rec'.six
  replace D0 := Hid.mk D0
  replace qf := Hid.mk qf
  go_upto_region 2 with (first | (go_at_call 50; refine qf.out.mono ?_; rintro e w1 ⟨rfl, b1⟩))
  have D1 := D0.out.call b1
  have qg := rget_any D1.at' (by omega) S P
  clear k0 k1 k2 k3 r0 r1 r2 r3 r4 r5 b1 qf D0
  obtain ⟨k0, k1, k2, k3⟩ := D1.box.cells
  obtain ⟨r0, r1, r2, r3, r4, r5⟩ := D1.rec'.six
  replace D1 := Hid.mk D1
  replace qg := Hid.mk qg
  go_upto_region 3 with (first | (go_at_call 51; refine qg.out.mono ?_; rintro e w2 ⟨rfl, b2⟩))
  have D2 := D1.out.call b2
  clear k0 k1 k2 k3 r0 r1 r2 r3 r4 r5 b2 qg D1
  obtain ⟨k0, k1, k2, k3⟩ := D2.box.cells
  obtain ⟨r0, r1, r2, r3, r4, r5⟩ := D2.rec'.six
  obtain ⟨z0, z1, z2, z3⟩ := D2.res.cells
  have y0 := D2.res.fz 0
  have y1 := D2.res.fz 1
  have y2 := D2.res.fz 2
  have y3 := D2.res.fz 3
  have hl2 := D2.lt
  have hl1 : G + 1 < w2.heap.size := by omega
  have hl0 : G < w2.heap.size := by omega
  replace D2 := Hid.mk D2
  go_wp2_with fail
  have q := D2.out.same
  exact bodyPost_ret (st_result2 rfl rfl q.1) rfl ⟨_, _, _, _, rfl, q.2⟩
set_option maxRecDepth 20000 in
set_option maxHeartbeats 4000000 in
theorem do1_page {w : World} {B v0 v1 v2 v3 m} (h : RAt w B v0 v1 v2 v3 m) (hB : B ≤ w.heap.size) (hn : Lens m) {S P A T N : Int} {j : Nat} (hi : fndGo S m.sp 0 = (j : Int)) (hj : j < m.sp.length) {x1 x2 : Int} {x3 : Bool} (hx : m.sp.getD j (0, 0, false) = (x1, x2, x3)) (hq : P < 0 ∨ x2 ≤ P) :
    Calls Try.prog 35 #[.agg #[v0, v1, v2, v3], rv 1 S P A T N] w (DoR w B v0 v1 v2 v3 (m, 81)) := by
  obtain ⟨a0, n0, c0, rfl⟩ := h.sp.isSl
  obtain ⟨a1, n1, c1, rfl⟩ := h.lv.isSl
  obtain ⟨a2, n2, c2, rfl⟩ := h.bad.isSl
  obtain ⟨a3, n3, c3, rfl⟩ := h.worn.isSl
  obtain ⟨hn0, hn1, hn2, hn3⟩ := hn
  have D0 := DoS.start h hB 1 S P A T N
  unfold rv
  go_enter Try.func35, Try.ntmps35
  go_upto_region 1 with fail
  generalize (((w.alloc (.cells #[.slice a0 n0 c0, .slice a1 n1 c1, .slice a2 n2 c2, .slice a3 n3 c3] 33)).alloc (.cells #[.int .i64 1, .int .i64 S, .int .i64 P, .int .i64 A, .int .i64 T, .int .i64 N] 41)).alloc (.cells #[.slice none 0 0, .slice none 0 0, .slice none 0 0, .slice none 0 0] 33)) = W0 at *
  generalize w.heap.size = G at D0 ⊢
  have qf := rfind_any D0.at' (by omega) S
  obtain ⟨k0, k1, k2, k3⟩ := D0.box.cells
  obtain ⟨r0, r1, r2, r3, r4, r5⟩ := D0.rec'.six
  replace D0 := Hid.mk D0
  replace qf := Hid.mk qf
  go_upto_region 2 with (first | (go_at_call 50; refine qf.out.mono ?_; rintro e w1 ⟨rfl, b1⟩))
  have D1 := D0.out.call b1
  have qg := rget_any D1.at' (by omega) S P
  clear k0 k1 k2 k3 r0 r1 r2 r3 r4 r5 b1 qf D0
  obtain ⟨k0, k1, k2, k3⟩ := D1.box.cells
  obtain ⟨r0, r1, r2, r3, r4, r5⟩ := D1.rec'.six
  replace D1 := Hid.mk D1
  replace qg := Hid.mk qg
  go_upto_region 3 with (first | (go_at_call 51; refine qg.out.mono ?_; rintro e w2 ⟨rfl, b2⟩))
  have D2 := D1.out.call b2
  clear k0 k1 k2 k3 r0 r1 r2 r3 r4 r5 b2 qg D1
  obtain ⟨k0, k1, k2, k3⟩ := D2.box.cells
  obtain ⟨r0, r1, r2, r3, r4, r5⟩ := D2.rec'.six
  obtain ⟨z0, z1, z2, z3⟩ := D2.res.cells
  have y0 := D2.res.fz 0
  have y1 := D2.res.fz 1
  have y2 := D2.res.fz 2
  have y3 := D2.res.fz 3
  have hl2 := D2.lt
  have hl1 : G + 1 < w2.heap.size := by omega
  have hl0 : G < w2.heap.size := by omega
  replace D2 := Hid.mk D2
  obtain ⟨sa, sc, es⟩ := D2.out.at'.sp.form
  rw [List.length_map] at es
  simp only [Value.slice.injEq] at es
  obtain ⟨rfl, rfl, rfl⟩ := es
  obtain ⟨g, rfl, hgB, hgl, d0, d1, d2⟩ := D2.out.at'.sp.at3s hj
  rw [hx] at d0 d1 d2
  simp only at d0 d1 d2
  by_cases hP : P < 0
  · have f1 : decide (P < 0) = true := decide_eq_true hP
    clear hP hq
    go_wp2_with fail
    have q := D2.out.same
    exact bodyPost_ret (st_result2 rfl rfl (q.1.alloc _)) rfl ⟨_, _, _, _, rfl, q.2.1.alloc _, q.2.2.1.alloc q.2.2.1.size _, q.2.2.2⟩
  · have f1 : decide (P < 0) = false := decide_eq_false hP
    have f2 : decide (x2 ≤ P) = true := decide_eq_true (by omega)
    clear hP hq
    go_wp2_with fail
    have q := D2.out.same
    exact bodyPost_ret (st_result2 rfl rfl (q.1.alloc _)) rfl ⟨_, _, _, _, rfl, q.2.1.alloc _, q.2.2.1.alloc q.2.2.1.size _, q.2.2.2⟩
set_option maxRecDepth 20000 in
set_option maxHeartbeats 4000000 in
theorem do1_put {w : World} {B v0 v1 v2 v3 m} (h : RAt w B v0 v1 v2 v3 m) (hB : B ≤ w.heap.size) (hn : Lens m) {S P A T N : Int} {j : Nat} (hi : fndGo S m.sp 0 = (j : Int)) (hj : j < m.sp.length) {x1 x2 : Int} {x3 : Bool} (hx : m.sp.getD j (0, 0, false) = (x1, x2, x3)) (hP : 0 ≤ P) (hq : P < x2) :
    Calls Try.prog 35 #[.agg #[v0, v1, v2, v3], rv 1 S P A T N] w (DoR w B v0 v1 v2 v3 ({ m with lv := wI (S, P, A) false m.lv }, 0)) := by
  obtain ⟨a0, n0, c0, rfl⟩ := h.sp.isSl
  obtain ⟨a1, n1, c1, rfl⟩ := h.lv.isSl
  obtain ⟨a2, n2, c2, rfl⟩ := h.bad.isSl
  obtain ⟨a3, n3, c3, rfl⟩ := h.worn.isSl
  obtain ⟨hn0, hn1, hn2, hn3⟩ := hn
  have D0 := DoS.start h hB 1 S P A T N
  unfold rv
  go_enter Try.func35, Try.ntmps35
  go_upto_region 1 with fail
  generalize (((w.alloc (.cells #[.slice a0 n0 c0, .slice a1 n1 c1, .slice a2 n2 c2, .slice a3 n3 c3] 33)).alloc (.cells #[.int .i64 1, .int .i64 S, .int .i64 P, .int .i64 A, .int .i64 T, .int .i64 N] 41)).alloc (.cells #[.slice none 0 0, .slice none 0 0, .slice none 0 0, .slice none 0 0] 33)) = W0 at *
  generalize w.heap.size = G at D0 ⊢
  have qf := rfind_any D0.at' (by omega) S
  obtain ⟨k0, k1, k2, k3⟩ := D0.box.cells
  obtain ⟨r0, r1, r2, r3, r4, r5⟩ := D0.rec'.six
  replace D0 := Hid.mk D0
  replace qf := Hid.mk qf
  go_upto_region 2 with (first | (go_at_call 50; refine qf.out.mono ?_; rintro e w1 ⟨rfl, b1⟩))
  have D1 := D0.out.call b1
  have qg := rget_any D1.at' (by omega) S P
  clear k0 k1 k2 k3 r0 r1 r2 r3 r4 r5 b1 qf D0
  obtain ⟨k0, k1, k2, k3⟩ := D1.box.cells
  obtain ⟨r0, r1, r2, r3, r4, r5⟩ := D1.rec'.six
  replace D1 := Hid.mk D1
  replace qg := Hid.mk qg
  go_upto_region 3 with (first | (go_at_call 51; refine qg.out.mono ?_; rintro e w2 ⟨rfl, b2⟩))
  have D2 := D1.out.call b2
  clear k0 k1 k2 k3 r0 r1 r2 r3 r4 r5 b2 qg D1
  obtain ⟨k0, k1, k2, k3⟩ := D2.box.cells
  obtain ⟨r0, r1, r2, r3, r4, r5⟩ := D2.rec'.six
  obtain ⟨z0, z1, z2, z3⟩ := D2.res.cells
  have y0 := D2.res.fz 0
  have y1 := D2.res.fz 1
  have y2 := D2.res.fz 2
  have y3 := D2.res.fz 3
  have hl2 := D2.lt
  have hl1 : G + 1 < w2.heap.size := by omega
  have hl0 : G < w2.heap.size := by omega
  replace D2 := Hid.mk D2
  obtain ⟨sa, sc, es⟩ := D2.out.at'.sp.form
  rw [List.length_map] at es
  simp only [Value.slice.injEq] at es
  obtain ⟨rfl, rfl, rfl⟩ := es
  obtain ⟨g, rfl, hgB, hgl, d0, d1, d2⟩ := D2.out.at'.sp.at3s hj
  rw [hx] at d0 d1 d2
  simp only at d0 d1 d2
  have f1 : decide (P < 0) = false := decide_eq_false (by omega)
  have f2 : decide (x2 ≤ P) = false := decide_eq_false (by omega)
  clear hP hq
  have hcon := rwith_any (D2.out.alloc (.cells #[.int .i64 x1, .int .i64 x2, .bool x3] 87)).at' (by omega) (Nat.le_trans D2.out.hB (D2.out.alloc (.cells #[.int .i64 x1, .int .i64 x2, .bool x3] 87)).bel.size) (S, P, A)
  replace hcon := Hid.mk hcon
  go_wp2_with (first | (go_at_call 56; refine hcon.out.mono ?_; rintro e w5 ⟨u, rfl, R5, o5, b5⟩; obtain ⟨ua, un, uc, rfl⟩ := R5.lv.isSl; have Q5 := (D2.out.alloc (.cells #[.int .i64 x1, .int .i64 x2, .bool x3] 87)).res.call b5; obtain ⟨t0, t1, t2, t3⟩ := Q5.cells; have p0 := Q5.fz 0; have p1 := Q5.fz 1; have p2 := Q5.fz 2; have p3 := Q5.fz 3; replace Q5 := Hid.mk Q5))
  have q := (D2.out.alloc (.cells #[.int .i64 x1, .int .i64 x2, .bool x3] 87)).fin b5 R5 (Own2.refl _ _) (Own2.new o5) (Own2.refl _ _) (Own2.refl _ _)
  exact bodyPost_ret (st_result2 rfl rfl q.1) rfl ⟨_, _, _, _, rfl, q.2⟩
set_option maxRecDepth 20000 in
set_option maxHeartbeats 4000000 in
theorem do2_not {w : World} {B v0 v1 v2 v3 m} (h : RAt w B v0 v1 v2 v3 m) (hB : B ≤ w.heap.size) (hn : Lens m) {S P A T N : Int} {j : Nat} (hi : fndGo S m.sp 0 = (j : Int)) (hj : j < m.sp.length) {x1 x2 : Int} {x3 : Bool} (hx : m.sp.getD j (0, 0, false) = (x1, x2, x3)) (hg : gL S P m.lv = none) :
    Calls Try.prog 35 #[.agg #[v0, v1, v2, v3], rv 2 S P A T N] w (DoR w B v0 v1 v2 v3 (m, 81)) := by
  obtain ⟨a0, n0, c0, rfl⟩ := h.sp.isSl
  obtain ⟨a1, n1, c1, rfl⟩ := h.lv.isSl
  obtain ⟨a2, n2, c2, rfl⟩ := h.bad.isSl
  obtain ⟨a3, n3, c3, rfl⟩ := h.worn.isSl
  obtain ⟨hn0, hn1, hn2, hn3⟩ := hn
  have D0 := DoS.start h hB 2 S P A T N
  unfold rv
  go_enter Try.func35, Try.ntmps35
  go_upto_region 1 with fail
  generalize (((w.alloc (.cells #[.slice a0 n0 c0, .slice a1 n1 c1, .slice a2 n2 c2, .slice a3 n3 c3] 33)).alloc (.cells #[.int .i64 2, .int .i64 S, .int .i64 P, .int .i64 A, .int .i64 T, .int .i64 N] 41)).alloc (.cells #[.slice none 0 0, .slice none 0 0, .slice none 0 0, .slice none 0 0] 33)) = W0 at *
  generalize w.heap.size = G at D0 ⊢
  have qf := rfind_any D0.at' (by omega) S
  obtain ⟨k0, k1, k2, k3⟩ := D0.box.cells
  obtain ⟨r0, r1, r2, r3, r4, r5⟩ := D0.rec'.six
  replace D0 := Hid.mk D0
  replace qf := Hid.mk qf
  go_upto_region 2 with (first | (go_at_call 50; refine qf.out.mono ?_; rintro e w1 ⟨rfl, b1⟩))
  have D1 := D0.out.call b1
  have qg := rget_any D1.at' (by omega) S P
  clear k0 k1 k2 k3 r0 r1 r2 r3 r4 r5 b1 qf D0
  obtain ⟨k0, k1, k2, k3⟩ := D1.box.cells
  obtain ⟨r0, r1, r2, r3, r4, r5⟩ := D1.rec'.six
  replace D1 := Hid.mk D1
  replace qg := Hid.mk qg
  go_upto_region 3 with (first | (go_at_call 51; refine qg.out.mono ?_; rintro e w2 ⟨rfl, b2⟩))
  have D2 := D1.out.call b2
  clear k0 k1 k2 k3 r0 r1 r2 r3 r4 r5 b2 qg D1
  obtain ⟨k0, k1, k2, k3⟩ := D2.box.cells
  obtain ⟨r0, r1, r2, r3, r4, r5⟩ := D2.rec'.six
  obtain ⟨z0, z1, z2, z3⟩ := D2.res.cells
  have y0 := D2.res.fz 0
  have y1 := D2.res.fz 1
  have y2 := D2.res.fz 2
  have y3 := D2.res.fz 3
  have hl2 := D2.lt
  have hl1 : G + 1 < w2.heap.size := by omega
  have hl0 : G < w2.heap.size := by omega
  replace D2 := Hid.mk D2
  obtain ⟨sa, sc, es⟩ := D2.out.at'.sp.form
  rw [List.length_map] at es
  simp only [Value.slice.injEq] at es
  obtain ⟨rfl, rfl, rfl⟩ := es
  obtain ⟨g, rfl, hgB, hgl, d0, d1, d2⟩ := D2.out.at'.sp.at3s hj
  rw [hx] at d0 d1 d2
  simp only at d0 d1 d2
  go_wp2_with fail
  have q := D2.out.same
  exact bodyPost_ret (st_result2 rfl rfl (q.1.alloc _)) rfl ⟨_, _, _, _, rfl, q.2.1.alloc _, q.2.2.1.alloc q.2.2.1.size _, q.2.2.2⟩
set_option maxRecDepth 20000 in
set_option maxHeartbeats 4000000 in
theorem do2_trim {w : World} {B v0 v1 v2 v3 m} (h : RAt w B v0 v1 v2 v3 m) (hB : B ≤ w.heap.size) (hn : Lens m) {S P A T N : Int} {j : Nat} (hi : fndGo S m.sp 0 = (j : Int)) (hj : j < m.sp.length) {x1 x2 : Int} {x3 : Bool} (hx : m.sp.getD j (0, 0, false) = (x1, x2, x3)) {pl : Int} (hg : gL S P m.lv = some pl) :
    Calls Try.prog 35 #[.agg #[v0, v1, v2, v3], rv 2 S P A T N] w (DoR w B v0 v1 v2 v3 ({ m with lv := m.lv.filter (fun y : L3 => decide (y.1 ≠ S ∨ 0 ≤ P ∧ y.2.1 ≠ P)) }, 0)) := by
  obtain ⟨a0, n0, c0, rfl⟩ := h.sp.isSl
  obtain ⟨a1, n1, c1, rfl⟩ := h.lv.isSl
  obtain ⟨a2, n2, c2, rfl⟩ := h.bad.isSl
  obtain ⟨a3, n3, c3, rfl⟩ := h.worn.isSl
  obtain ⟨hn0, hn1, hn2, hn3⟩ := hn
  have D0 := DoS.start h hB 2 S P A T N
  unfold rv
  go_enter Try.func35, Try.ntmps35
  go_upto_region 1 with fail
  generalize (((w.alloc (.cells #[.slice a0 n0 c0, .slice a1 n1 c1, .slice a2 n2 c2, .slice a3 n3 c3] 33)).alloc (.cells #[.int .i64 2, .int .i64 S, .int .i64 P, .int .i64 A, .int .i64 T, .int .i64 N] 41)).alloc (.cells #[.slice none 0 0, .slice none 0 0, .slice none 0 0, .slice none 0 0] 33)) = W0 at *
  generalize w.heap.size = G at D0 ⊢
  have qf := rfind_any D0.at' (by omega) S
  obtain ⟨k0, k1, k2, k3⟩ := D0.box.cells
  obtain ⟨r0, r1, r2, r3, r4, r5⟩ := D0.rec'.six
  replace D0 := Hid.mk D0
  replace qf := Hid.mk qf
  go_upto_region 2 with (first | (go_at_call 50; refine qf.out.mono ?_; rintro e w1 ⟨rfl, b1⟩))
  have D1 := D0.out.call b1
  have qg := rget_any D1.at' (by omega) S P
  clear k0 k1 k2 k3 r0 r1 r2 r3 r4 r5 b1 qf D0
  obtain ⟨k0, k1, k2, k3⟩ := D1.box.cells
  obtain ⟨r0, r1, r2, r3, r4, r5⟩ := D1.rec'.six
  replace D1 := Hid.mk D1
  replace qg := Hid.mk qg
  go_upto_region 3 with (first | (go_at_call 51; refine qg.out.mono ?_; rintro e w2 ⟨rfl, b2⟩))
  have D2 := D1.out.call b2
  clear k0 k1 k2 k3 r0 r1 r2 r3 r4 r5 b2 qg D1
  obtain ⟨k0, k1, k2, k3⟩ := D2.box.cells
  obtain ⟨r0, r1, r2, r3, r4, r5⟩ := D2.rec'.six
  obtain ⟨z0, z1, z2, z3⟩ := D2.res.cells
  have y0 := D2.res.fz 0
  have y1 := D2.res.fz 1
  have y2 := D2.res.fz 2
  have y3 := D2.res.fz 3
  have hl2 := D2.lt
  have hl1 : G + 1 < w2.heap.size := by omega
  have hl0 : G < w2.heap.size := by omega
  replace D2 := Hid.mk D2
  obtain ⟨sa, sc, es⟩ := D2.out.at'.sp.form
  rw [List.length_map] at es
  simp only [Value.slice.injEq] at es
  obtain ⟨rfl, rfl, rfl⟩ := es
  obtain ⟨g, rfl, hgB, hgl, d0, d1, d2⟩ := D2.out.at'.sp.at3s hj
  rw [hx] at d0 d1 d2
  simp only at d0 d1 d2
  have hcon := rwithout_any (D2.out.alloc (.cells #[.int .i64 x1, .int .i64 x2, .bool x3] 87)).at' (by omega) (Nat.le_trans D2.out.hB (D2.out.alloc (.cells #[.int .i64 x1, .int .i64 x2, .bool x3] 87)).bel.size) S P
  replace hcon := Hid.mk hcon
  go_wp2_with (first | (go_at_call 57; refine hcon.out.mono ?_; rintro e w5 ⟨u, rfl, R5, o5, b5⟩; obtain ⟨ua, un, uc, rfl⟩ := R5.lv.isSl; have Q5 := (D2.out.alloc (.cells #[.int .i64 x1, .int .i64 x2, .bool x3] 87)).res.call b5; obtain ⟨t0, t1, t2, t3⟩ := Q5.cells; have p0 := Q5.fz 0; have p1 := Q5.fz 1; have p2 := Q5.fz 2; have p3 := Q5.fz 3; replace Q5 := Hid.mk Q5))
  have q := (D2.out.alloc (.cells #[.int .i64 x1, .int .i64 x2, .bool x3] 87)).fin b5 R5 (Own2.refl _ _) (Own2.new o5) (Own2.refl _ _) (Own2.refl _ _)
  exact bodyPost_ret (st_result2 rfl rfl q.1) rfl ⟨_, _, _, _, rfl, q.2⟩
set_option maxRecDepth 20000 in
set_option maxHeartbeats 4000000 in
theorem do4_some {w : World} {B v0 v1 v2 v3 m} (h : RAt w B v0 v1 v2 v3 m) (hB : B ≤ w.heap.size) (hn : Lens m) {S P A T N : Int} (hi : 0 ≤ fndGo S m.sp 0) :
    Calls Try.prog 35 #[.agg #[v0, v1, v2, v3], rv 4 S P A T N] w (DoR w B v0 v1 v2 v3 (m, 80)) := by
  obtain ⟨a0, n0, c0, rfl⟩ := h.sp.isSl
  obtain ⟨a1, n1, c1, rfl⟩ := h.lv.isSl
  obtain ⟨a2, n2, c2, rfl⟩ := h.bad.isSl
  obtain ⟨a3, n3, c3, rfl⟩ := h.worn.isSl
  obtain ⟨hn0, hn1, hn2, hn3⟩ := hn
  have D0 := DoS.start h hB 4 S P A T N
  unfold rv
  go_enter Try.func35, Try.ntmps35
  go_upto_region 1 with fail
  generalize (((w.alloc (.cells #[.slice a0 n0 c0, .slice a1 n1 c1, .slice a2 n2 c2, .slice a3 n3 c3] 33)).alloc (.cells #[.int .i64 4, .int .i64 S, .int .i64 P, .int .i64 A, .int .i64 T, .int .i64 N] 41)).alloc (.cells #[.slice none 0 0, .slice none 0 0, .slice none 0 0, .slice none 0 0] 33)) = W0 at *
  generalize w.heap.size = G at D0 ⊢
  have qf := rfind_any D0.at' (by omega) S
  obtain ⟨k0, k1, k2, k3⟩ := D0.box.cells
  obtain ⟨r0, r1, r2, r3, r4, r5⟩ := D0.rec'.six
  replace D0 := Hid.mk D0
  replace qf := Hid.mk qf
  go_upto_region 2 with (first | (go_at_call 50; refine qf.out.mono ?_; rintro e w1 ⟨rfl, b1⟩))
  have D1 := D0.out.call b1
  have qg := rget_any D1.at' (by omega) S P
  clear k0 k1 k2 k3 r0 r1 r2 r3 r4 r5 b1 qf D0
  obtain ⟨k0, k1, k2, k3⟩ := D1.box.cells
  obtain ⟨r0, r1, r2, r3, r4, r5⟩ := D1.rec'.six
  replace D1 := Hid.mk D1
  replace qg := Hid.mk qg
  go_upto_region 3 with (first | (go_at_call 51; refine qg.out.mono ?_; rintro e w2 ⟨rfl, b2⟩))
  have D2 := D1.out.call b2
  clear k0 k1 k2 k3 r0 r1 r2 r3 r4 r5 b2 qg D1
  obtain ⟨k0, k1, k2, k3⟩ := D2.box.cells
  obtain ⟨r0, r1, r2, r3, r4, r5⟩ := D2.rec'.six
  obtain ⟨z0, z1, z2, z3⟩ := D2.res.cells
  have y0 := D2.res.fz 0
  have y1 := D2.res.fz 1
  have y2 := D2.res.fz 2
  have y3 := D2.res.fz 3
  have hl2 := D2.lt
  have hl1 : G + 1 < w2.heap.size := by omega
  have hl0 : G < w2.heap.size := by omega
  replace D2 := Hid.mk D2
  generalize fndGo S m.sp 0 = ii at *
  have f1 : decide (0 ≤ ii) = true := decide_eq_true hi
  clear hi
  go_wp2_with fail
  have q := D2.out.same
  exact bodyPost_ret (st_result2 rfl rfl q.1) rfl ⟨_, _, _, _, rfl, q.2⟩
set_option maxRecDepth 20000 in
set_option maxHeartbeats 4000000 in
theorem do4_make {w : World} {B v0 v1 v2 v3 m} (h : RAt w B v0 v1 v2 v3 m) (hB : B ≤ w.heap.size) (hn : Lens m) {S P A T N : Int} (hi : fndGo S m.sp 0 = -1) :
    Calls Try.prog 35 #[.agg #[v0, v1, v2, v3], rv 4 S P A T N] w (DoR w B v0 v1 v2 v3 ({ m with sp := mI (S, N, false) m.sp }, 0)) := by
  obtain ⟨a0, n0, c0, rfl⟩ := h.sp.isSl
  obtain ⟨a1, n1, c1, rfl⟩ := h.lv.isSl
  obtain ⟨a2, n2, c2, rfl⟩ := h.bad.isSl
  obtain ⟨a3, n3, c3, rfl⟩ := h.worn.isSl
  obtain ⟨hn0, hn1, hn2, hn3⟩ := hn
  have D0 := DoS.start h hB 4 S P A T N
  unfold rv
  go_enter Try.func35, Try.ntmps35
  go_upto_region 1 with fail
  generalize (((w.alloc (.cells #[.slice a0 n0 c0, .slice a1 n1 c1, .slice a2 n2 c2, .slice a3 n3 c3] 33)).alloc (.cells #[.int .i64 4, .int .i64 S, .int .i64 P, .int .i64 A, .int .i64 T, .int .i64 N] 41)).alloc (.cells #[.slice none 0 0, .slice none 0 0, .slice none 0 0, .slice none 0 0] 33)) = W0 at *
  generalize w.heap.size = G at D0 ⊢
  have qf := rfind_any D0.at' (by omega) S
  obtain ⟨k0, k1, k2, k3⟩ := D0.box.cells
  obtain ⟨r0, r1, r2, r3, r4, r5⟩ := D0.rec'.six
  replace D0 := Hid.mk D0
  replace qf := Hid.mk qf
  go_upto_region 2 with (first | (go_at_call 50; refine qf.out.mono ?_; rintro e w1 ⟨rfl, b1⟩))
  have D1 := D0.out.call b1
  have qg := rget_any D1.at' (by omega) S P
  clear k0 k1 k2 k3 r0 r1 r2 r3 r4 r5 b1 qf D0
  obtain ⟨k0, k1, k2, k3⟩ := D1.box.cells
  obtain ⟨r0, r1, r2, r3, r4, r5⟩ := D1.rec'.six
  replace D1 := Hid.mk D1
  replace qg := Hid.mk qg
  go_upto_region 3 with (first | (go_at_call 51; refine qg.out.mono ?_; rintro e w2 ⟨rfl, b2⟩))
  have D2 := D1.out.call b2
  clear k0 k1 k2 k3 r0 r1 r2 r3 r4 r5 b2 qg D1
  obtain ⟨k0, k1, k2, k3⟩ := D2.box.cells
  obtain ⟨r0, r1, r2, r3, r4, r5⟩ := D2.rec'.six
  obtain ⟨z0, z1, z2, z3⟩ := D2.res.cells
  have y0 := D2.res.fz 0
  have y1 := D2.res.fz 1
  have y2 := D2.res.fz 2
  have y3 := D2.res.fz 3
  have hl2 := D2.lt
  have hl1 : G + 1 < w2.heap.size := by omega
  have hl0 : G < w2.heap.size := by omega
  replace D2 := Hid.mk D2
  have hcon := rmade_any D2.out.at' (by omega) (Nat.le_trans D2.out.hB D2.out.bel.size) S N false
  replace hcon := Hid.mk hcon
  go_wp2_with (first | (go_at_call 53; refine hcon.out.mono ?_; rintro e w5 ⟨u, rfl, R5, o5, b5⟩; obtain ⟨ua, un, uc, rfl⟩ := R5.sp.isSl; have Q5 := D2.out.res.call b5; obtain ⟨t0, t1, t2, t3⟩ := Q5.cells; have p0 := Q5.fz 0; have p1 := Q5.fz 1; have p2 := Q5.fz 2; have p3 := Q5.fz 3; replace Q5 := Hid.mk Q5))
  have q := D2.out.fin b5 R5 (Own2.new o5) (Own2.refl _ _) (Own2.refl _ _) (Own2.refl _ _)
  exact bodyPost_ret (st_result2 rfl rfl q.1) rfl ⟨_, _, _, _, rfl, q.2⟩
set_option maxRecDepth 20000 in
set_option maxHeartbeats 4000000 in
theorem do8_bad {w : World} {B v0 v1 v2 v3 m} (h : RAt w B v0 v1 v2 v3 m) (hB : B ≤ w.heap.size) (hn : Lens m) {S P A T N : Int}  :
    Calls Try.prog 35 #[.agg #[v0, v1, v2, v3], rv 8 S P A T N] w (DoR w B v0 v1 v2 v3 ({ m with bad := gI (fun y : Int => decide (A ≤ y)) (fun y : Int => decide (y ≠ A)) A false m.bad }, 0)) := by
  obtain ⟨a0, n0, c0, rfl⟩ := h.sp.isSl
  obtain ⟨a1, n1, c1, rfl⟩ := h.lv.isSl
  obtain ⟨a2, n2, c2, rfl⟩ := h.bad.isSl
  obtain ⟨a3, n3, c3, rfl⟩ := h.worn.isSl
  obtain ⟨hn0, hn1, hn2, hn3⟩ := hn
  have D0 := DoS.start h hB 8 S P A T N
  unfold rv
  go_enter Try.func35, Try.ntmps35
  go_upto_region 1 with fail
  generalize (((w.alloc (.cells #[.slice a0 n0 c0, .slice a1 n1 c1, .slice a2 n2 c2, .slice a3 n3 c3] 33)).alloc (.cells #[.int .i64 8, .int .i64 S, .int .i64 P, .int .i64 A, .int .i64 T, .int .i64 N] 41)).alloc (.cells #[.slice none 0 0, .slice none 0 0, .slice none 0 0, .slice none 0 0] 33)) = W0 at *
  generalize w.heap.size = G at D0 ⊢
  have qf := rfind_any D0.at' (by omega) S
  obtain ⟨k0, k1, k2, k3⟩ := D0.box.cells
  obtain ⟨r0, r1, r2, r3, r4, r5⟩ := D0.rec'.six
  replace D0 := Hid.mk D0
  replace qf := Hid.mk qf
  go_upto_region 2 with (first | (go_at_call 50; refine qf.out.mono ?_; rintro e w1 ⟨rfl, b1⟩))
  have D1 := D0.out.call b1
  have qg := rget_any D1.at' (by omega) S P
  clear k0 k1 k2 k3 r0 r1 r2 r3 r4 r5 b1 qf D0
  obtain ⟨k0, k1, k2, k3⟩ := D1.box.cells
  obtain ⟨r0, r1, r2, r3, r4, r5⟩ := D1.rec'.six
  replace D1 := Hid.mk D1
  replace qg := Hid.mk qg
  go_upto_region 3 with (first | (go_at_call 51; refine qg.out.mono ?_; rintro e w2 ⟨rfl, b2⟩))
  have D2 := D1.out.call b2
  clear k0 k1 k2 k3 r0 r1 r2 r3 r4 r5 b2 qg D1
  obtain ⟨k0, k1, k2, k3⟩ := D2.box.cells
  obtain ⟨r0, r1, r2, r3, r4, r5⟩ := D2.rec'.six
  obtain ⟨z0, z1, z2, z3⟩ := D2.res.cells
  have y0 := D2.res.fz 0
  have y1 := D2.res.fz 1
  have y2 := D2.res.fz 2
  have y3 := D2.res.fz 3
  have hl2 := D2.lt
  have hl1 : G + 1 < w2.heap.size := by omega
  have hl0 : G < w2.heap.size := by omega
  replace D2 := Hid.mk D2
  generalize fndGo S m.sp 0 = ii at *
  have hcon := rbad_any D2.out.at' (by omega) (Nat.le_trans D2.out.hB D2.out.bel.size) A
  replace hcon := Hid.mk hcon
  go_wp2_with (first | (go_at_call 54; refine hcon.out.mono ?_; rintro e w5 ⟨u, rfl, R5, o5, b5⟩; obtain ⟨ua, un, uc, rfl⟩ := R5.bad.isSl; have Q5 := D2.out.res.call b5; obtain ⟨t0, t1, t2, t3⟩ := Q5.cells; have p0 := Q5.fz 0; have p1 := Q5.fz 1; have p2 := Q5.fz 2; have p3 := Q5.fz 3; replace Q5 := Hid.mk Q5))
  have q := D2.out.fin b5 R5 (Own2.refl _ _) (Own2.refl _ _) (Own2.new o5) (Own2.refl _ _)
  exact bodyPost_ret (st_result2 rfl rfl q.1) rfl ⟨_, _, _, _, rfl, q.2⟩
set_option maxRecDepth 20000 in
set_option maxHeartbeats 4000000 in
theorem do9_worn {w : World} {B v0 v1 v2 v3 m} (h : RAt w B v0 v1 v2 v3 m) (hB : B ≤ w.heap.size) (hn : Lens m) {S P A T N : Int} {L : Pl} (hL : (if hitW A N m.worn = true then m.worn else gI (fun y : Int × Int => decide (A ≤ y.1)) (fun y : Int × Int => decide (y.1 ≠ A)) (A, N) false m.worn) = L) :
    Calls Try.prog 35 #[.agg #[v0, v1, v2, v3], rv 9 S P A T N] w (DoR w B v0 v1 v2 v3 ({ m with worn := L }, 0)) := by
  obtain ⟨a0, n0, c0, rfl⟩ := h.sp.isSl
  obtain ⟨a1, n1, c1, rfl⟩ := h.lv.isSl
  obtain ⟨a2, n2, c2, rfl⟩ := h.bad.isSl
  obtain ⟨a3, n3, c3, rfl⟩ := h.worn.isSl
  obtain ⟨hn0, hn1, hn2, hn3⟩ := hn
  have D0 := DoS.start h hB 9 S P A T N
  unfold rv
  go_enter Try.func35, Try.ntmps35
  go_upto_region 1 with fail
  generalize (((w.alloc (.cells #[.slice a0 n0 c0, .slice a1 n1 c1, .slice a2 n2 c2, .slice a3 n3 c3] 33)).alloc (.cells #[.int .i64 9, .int .i64 S, .int .i64 P, .int .i64 A, .int .i64 T, .int .i64 N] 41)).alloc (.cells #[.slice none 0 0, .slice none 0 0, .slice none 0 0, .slice none 0 0] 33)) = W0 at *
  generalize w.heap.size = G at D0 ⊢
  have qf := rfind_any D0.at' (by omega) S
  obtain ⟨k0, k1, k2, k3⟩ := D0.box.cells
  obtain ⟨r0, r1, r2, r3, r4, r5⟩ := D0.rec'.six
  replace D0 := Hid.mk D0
  replace qf := Hid.mk qf
  go_upto_region 2 with (first | (go_at_call 50; refine qf.out.mono ?_; rintro e w1 ⟨rfl, b1⟩))
  have D1 := D0.out.call b1
  have qg := rget_any D1.at' (by omega) S P
  clear k0 k1 k2 k3 r0 r1 r2 r3 r4 r5 b1 qf D0
  obtain ⟨k0, k1, k2, k3⟩ := D1.box.cells
  obtain ⟨r0, r1, r2, r3, r4, r5⟩ := D1.rec'.six
  replace D1 := Hid.mk D1
  replace qg := Hid.mk qg
  go_upto_region 3 with (first | (go_at_call 51; refine qg.out.mono ?_; rintro e w2 ⟨rfl, b2⟩))
  have D2 := D1.out.call b2
  clear k0 k1 k2 k3 r0 r1 r2 r3 r4 r5 b2 qg D1
  obtain ⟨k0, k1, k2, k3⟩ := D2.box.cells
  obtain ⟨r0, r1, r2, r3, r4, r5⟩ := D2.rec'.six
  obtain ⟨z0, z1, z2, z3⟩ := D2.res.cells
  have y0 := D2.res.fz 0
  have y1 := D2.res.fz 1
  have y2 := D2.res.fz 2
  have y3 := D2.res.fz 3
  have hl2 := D2.lt
  have hl1 : G + 1 < w2.heap.size := by omega
  have hl0 : G < w2.heap.size := by omega
  replace D2 := Hid.mk D2
  generalize fndGo S m.sp 0 = ii at *
  have hcon := rworn_any D2.out.at' (by omega) (Nat.le_trans D2.out.hB D2.out.bel.size) A N
  rw [hL] at hcon
  replace hcon := Hid.mk hcon
  clear hL
  go_wp2_with (first | (go_at_call 55; refine hcon.out.mono ?_; rintro e w5 ⟨u, rfl, R5, o5, b5⟩; obtain ⟨ua, un, uc, rfl⟩ := R5.worn.isSl; have Q5 := D2.out.res.call b5; obtain ⟨t0, t1, t2, t3⟩ := Q5.cells; have p0 := Q5.fz 0; have p1 := Q5.fz 1; have p2 := Q5.fz 2; have p3 := Q5.fz 3; replace Q5 := Hid.mk Q5))
  have q := D2.out.fin b5 R5 (Own2.refl _ _) (Own2.refl _ _) (Own2.refl _ _) (fun g hg => (o5 g hg).symm)
  exact bodyPost_ret (st_result2 rfl rfl q.1) rfl ⟨_, _, _, _, rfl, q.2⟩
end Go.Proofs.Ytacgemibaojbaaa
