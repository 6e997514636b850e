/-
  The law's own 'played'; StateDumps, walked. No condition.
-/
import Derived.Test.YtafeclgghgipcaaLawP
import Derived.Test.YtafeclgghgipcaaPly
namespace Go.Proofs.Ytafeclgghgipcaa
open Go Go.RowKit Go.Maps

/-- a state that has t1, the answer's that has t2 in the block g5, and the result's block g3 -/
structure QdS (w : World) (P g3 g5 : Nat) (t1 t2 : Ab) (v0 v1 v2 v3 : Value) (wr : World) : Prop where
  hold : HoldZ w.heap.size w P t1 (g3 :: zs g5 v0 v1 v2 v3) wr
  res : ∃ x0 x1 x2 x3, Box4 wr g3 x0 x1 x2 x3
  box : Box4 wr g5 v0 v1 v2 v3
  at' : RAt wr w.heap.size v0 v1 v2 v3 (rs t2)
  inv : InvA t2
  n0 : v0.ownBlock ≠ some g5 ∧ v0.ownBlock ≠ some g3
  n1 : v1.ownBlock ≠ some g5 ∧ v1.ownBlock ≠ some g3
  n2 : v2.ownBlock ≠ some g5 ∧ v2.ownBlock ≠ some g3
  n3 : v3.ownBlock ≠ some g5 ∧ v3.ownBlock ≠ some g3
  g35 : g3 ≠ g5
theorem QdS.call {w P g3 g5 t1 t2 v0 v1 v2 v3 wr wr'} (h : QdS w P g3 g5 t1 t2 v0 v1 v2 v3 wr) (b : Below wr.heap.size wr wr') : QdS w P g3 g5 t1 t2 v0 v1 v2 v3 wr' :=
  ⟨h.hold.call b, by obtain ⟨x0, x1, x2, x3, q⟩ := h.res; exact ⟨x0, x1, x2, x3, q.call b⟩, h.box.call b, h.at'.call b, h.inv, h.n0, h.n1, h.n2, h.n3, h.g35⟩
theorem QdS.start {w w1 : World} {P : Nat} (h : HoldZ w.heap.size w P noAb [w.heap.size] w1) {x0 x1 x2 x3 : Value} (hb : Box4 w1 w.heap.size x0 x1 x2 x3) : QdS w P w.heap.size w1.heap.size noAb noAb (.slice none 0 0) (.slice none 0 0) (.slice none 0 0) (.slice none 0 0) (w1.alloc (.cells #[.slice none 0 0, .slice none 0 0, .slice none 0 0, .slice none 0 0] 30)) := by
  have hlt := hb.lt
  refine ⟨(h.more _).sub (fun z hz => ?_), ⟨_, _, _, _, hb.alloc _⟩, Box4.fresh w1 _ _ _ _, ⟨Ow.nil _ _ _ _, Ow.nil _ _ _ _, Ow.nil _ _ _ _, Ow.nil _ _ _ _⟩, h.hold.inv, by simp [Value.ownBlock], by simp [Value.ownBlock], by simp [Value.ownBlock], by simp [Value.ownBlock], by omega⟩
  simp only [zs, Value.ownBlock, Option.toList_none, List.append_nil, List.mem_cons, List.not_mem_nil, or_false] at hz ⊢
  rcases hz with rfl | rfl
  · exact .inr rfl
  · exact .inl rfl
/-- behind the state's own Apply -/
theorem QdS.own {w P g3 g5 t1 t2 t v0 v1 v2 v3 wr w1} (h : QdS w P g3 g5 t1 t2 v0 v1 v2 v3 wr) (h1 : HoldZ w.heap.size w P t (g3 :: zs g5 v0 v1 v2 v3) w1) (e : ∀ z ∈ g3 :: zs g5 v0 v1 v2 v3, w1.heap[z]? = wr.heap[z]?) : QdS w P g3 g5 t t2 v0 v1 v2 v3 w1 := by
  have e2 : ∀ z ∈ zs g5 v0 v1 v2 v3, w1.heap[z]? = wr.heap[z]? := fun z hz => e z (List.mem_cons_of_mem _ hz)
  refine ⟨h1, ?_, (e2 g5 (zs_g _ _ _ _ _)).trans h.box, h.at'.keep e2, h.inv, h.n0, h.n1, h.n2, h.n3, h.g35⟩
  obtain ⟨x0, x1, x2, x3, q⟩ := h.res
  exact ⟨x0, x1, x2, x3, (e g3 (by simp)).trans q⟩
/-- behind the answer's Apply -/
theorem QdS.ans {w P g3 g5 t1 t2 t v0 v1 v2 v3 wr w2} (h : QdS w P g3 g5 t1 t2 v0 v1 v2 v3 wr) (hi : InvA t) {u0 u1 u2 u3 : Value} (b : Below wr.drew.heap.size wr.drew w2) (R : RAt w2 w.heap.size u0 u1 u2 u3 (rs t)) (o0 : Own2 wr.drew v0 u0) (o1 : Own2 wr.drew v1 u1) (o2 : Own2 wr.drew v2 u2) (o3 : Own2 wr.drew v3 u3) :
    QdS w P g3 g5 t1 t u0 u1 u2 u3 (set4 w2 g5 u0 u1 u2 u3) := by
  have hc := h.call (below3 (Below.refl _ wr).drew b)
  have hg := h.box.lt
  have hg3 : g3 < wr.heap.size := by obtain ⟨x0, x1, x2, x3, q⟩ := h.res; exact q.lt
  have hsz : wr.drew.heap.size = wr.heap.size := rfl
  have ne : ∀ {v u : Value}, (v.ownBlock ≠ some g5 ∧ v.ownBlock ≠ some g3) → Own2 wr.drew v u → (u.ownBlock ≠ some g5 ∧ u.ownBlock ≠ some g3) := fun n q => by
    refine ⟨fun e => ?_, fun e => ?_⟩
    · rcases q _ e with q | q
      · exact n.1 q
      · omega
    · rcases q _ e with q | q
      · exact n.2 q
      · omega
  have n0 := ne h.n0 o0
  have n1 := ne h.n1 o1
  have n2 := ne h.n2 o2
  have n3 := ne h.n3 o3
  have k := set4_kp w2 g5 g5 u0 u1 u2 u3
  have hz : HoldZ w.heap.size w P t1 (g3 :: zs g5 u0 u1 u2 u3) w2 := by
    refine h.hold.fresh (below3 (Below.refl _ wr).drew b) (fun z hz => ?_)
    rcases List.mem_cons.1 hz with rfl | hz
    · exact .inl (by simp)
    · rcases zs_cases hz with rfl | e | e | e | e
      · exact .inl (List.mem_cons_of_mem _ (zs_g _ _ _ _ _))
      · rcases o0 z e with q | q
        · exact .inl (List.mem_cons_of_mem _ (zs_0 q))
        · exact .inr ⟨by omega, (R.sp.lt z e).2⟩
      · rcases o1 z e with q | q
        · exact .inl (List.mem_cons_of_mem _ (zs_1 q))
        · exact .inr ⟨by omega, (R.lv.lt z e).2⟩
      · rcases o2 z e with q | q
        · exact .inl (List.mem_cons_of_mem _ (zs_2 q))
        · exact .inr ⟨by omega, (R.bad.lt z e).2⟩
      · rcases o3 z e with q | q
        · exact .inl (List.mem_cons_of_mem _ (zs_3 q))
        · exact .inr ⟨by omega, (R.worn.lt z e).2⟩
  have hg5 : g5 ∈ g3 :: zs g5 u0 u1 u2 u3 := List.mem_cons_of_mem _ (zs_g _ _ _ _ _)
  refine ⟨?_, ?_, set4_box hc.box _ _ _ _, ⟨R.sp.kp k n0.1 n0.1, R.lv.kp k n1.1 n1.1, R.bad.kp k n2.1 n2.1, R.worn.kp k n3.1 n3.1⟩, hi, n0, n1, n2, n3, h.g35⟩
  · unfold set4
    exact (((hz.set hg5 _).set hg5 _).set hg5 _).set hg5 _
  · obtain ⟨x0, x1, x2, x3, q⟩ := hc.res
    refine ⟨x0, x1, x2, x3, ?_⟩
    unfold set4 Box4
    rw [heap_setCell_other _ _ _ _ h.g35, heap_setCell_other _ _ _ _ h.g35, heap_setCell_other _ _ _ _ h.g35, heap_setCell_other _ _ _ _ h.g35]
    exact q
/-- the answer's state as the call's result -/
theorem QdS.out {w P g3 g5 t1 t2 v0 v1 v2 v3 wr} (h : QdS w P g3 g5 t1 t2 v0 v1 v2 v3 wr) : HoldZ w.heap.size w P t1 (g3 :: zs g5 v0 v1 v2 v3) (set4 wr g3 v0 v1 v2 v3) ∧ Box4 (set4 wr g3 v0 v1 v2 v3) g3 v0 v1 v2 v3 ∧ RAt (set4 wr g3 v0 v1 v2 v3) w.heap.size v0 v1 v2 v3 (rs t2) := by
  have k := set4_kp wr g3 g3 v0 v1 v2 v3
  have hg3 : g3 ∈ g3 :: zs g5 v0 v1 v2 v3 := by simp
  obtain ⟨x0, x1, x2, x3, q⟩ := h.res
  refine ⟨?_, set4_box q _ _ _ _, h.at'.sp.kp k h.n0.2 h.n0.2, h.at'.lv.kp k h.n1.2 h.n1.2, h.at'.bad.kp k h.n2.2 h.n2.2, h.at'.worn.kp k h.n3.2 h.n3.2⟩
  unfold set4
  exact (((h.hold.set hg3 _).set hg3 _).set hg3 _).set hg3 _
theorem results_tmp_cell {fn : Func} {p u : Tmp} {ty : TypeId} (h : fn.results = #[.tmp u, .cell p ty]) (tmps : Array Value) (P : Program) (w : World) :
    (results fn tmps).run P w = ((asAddr (tmps.getD p undef)).run P w).andThen fun a w1 => ((loadVar ty a).run P w1).andThen fun v w2 => .ok (.tuple #[tmps.getD u undef, v]) w2 := by
  simp only [results, h]
  simp [Sem.run_bind, Result.andThen]
theorem st_result3 {fn : Func} {p u : Tmp} (h : fn.results = #[.tmp u, .cell p 30]) {tmps : Array Value} {w : World} {g : Nat} {v0 v1 v2 v3 : Value} (hp : tmps.getD p undef = .pointer (some ⟨g, 0, none⟩)) (hg : Box4 w g v0 v1 v2 v3) :
    (results fn tmps).run Try.prog w = .ok (.tuple #[tmps.getD u undef, .agg #[v0, v1, v2, v3]]) w := by
  rw [results_tmp_cell h, hp]
  have q := run_loadVar_row (P := Try.prog) w g 30 30 #[v0, v1, v2, v3] (0, 0) _ hg Try.underlying30 rfl cells30
  simp only [asAddr, Sem.run_pure, Result.andThen, q]
/-- what 'played' leaves -/
def Pld (w : World) (P : Nat) (t : Ab) (v0 v1 v2 v3 : Value) (w' : World) : Prop := (∃ g3 g5, HoldZ w.heap.size w P t (g3 :: zs g5 v0 v1 v2 v3) w') ∧ RAt w' w.heap.size v0 v1 v2 v3 (rs t)
set_option maxRecDepth 20000 in
set_option maxHeartbeats 4000000 in
theorem played_any (a : Option Addr) (len cap : Nat) (f : Nat → R6) (w : World) (hx : RecsF w a len f) : Calls Try.prog 15 #[.slice a len cap] w fun e w' => ∃ P t v0 v1 v2 v3, e = .returned (.tuple #[.pointer (some ⟨P, 0, none⟩), .agg #[v0, v1, v2, v3]]) ∧ Pld w P t v0 v1 v2 v3 w' := by
  have HX := Hid.mk hx
  clear hx
  go_enter Try.func15, Try.ntmps15
  go_upto_region 2 with (first | (go_at_call 8; refine (newZ (B := w.heap.size) (w0 := w) (Z := [w.heap.size]) (below_al w _) (Nat.le_refl _) (fun z h => by rw [List.mem_singleton.1 h, size_alloc]; omega)).mono ?_; rintro e w1 ⟨rfl, hz1, b1⟩))
  have S0 := Hid.mk (QdS.start hz1 ((Box4.fresh w (.slice none 0 0) (.slice none 0 0) (.slice none 0 0) (.slice none 0 0)).call b1))
  clear hz1 b1
  generalize w1.alloc (.cells #[.slice none 0 0, .slice none 0 0, .slice none 0 0, .slice none 0 0] 30) = W1 at *
  generalize w1.heap.size = g5 at *
  have S1 := S0.out
  rw [size_alloc] at S1
  clear S0
  generalize w.heap.size + 1 + 4 = P at *
  generalize hG : w.heap.size = G3 at *
  replace hG := Hid.mk hG
  replace S1 := Hid.mk S1
  go_upto_region 3 with fail
  go_loopw [6] (fun i wr => ∃ (k : Nat) (v0 v1 v2 v3 : Value), k ≤ 60 ∧ k ≤ len ∧ i = .int .i64 k ∧ QdS w P G3 g5 (runA f k) (runA f k) v0 v1 v2 v3 wr) (fun i _ => 60 - (intOf i).toNat)
  case atStart => exact ⟨0, _, _, _, _, by omega, Nat.zero_le _, rfl, S1.out⟩
  case round =>
    clear S1
    obtain ⟨k, v0, v1, v2, v3, hk60, hklen, rfl, hs⟩ := hrel
    by_cases hgo : k < len ∧ k < 60
    · obtain ⟨h1, h2⟩ := hgo
      have hinv := hs.inv
      have hrun : runA f (k + 1) = (apR (runA f k) (f k)).1 := rfl
      have hrec : Hid (∀ W, Below w.heap.size w W → ∃ g o, a = some ⟨g, o, none⟩ ∧ g < W.heap.size ∧ (f k).at W g (o + k * 6) ∧ (f k).wf) := fun W b => HX.out.below b k h1
      generalize hr : f k = r at *
      obtain ⟨g, o, rfl, hgl, ⟨q0, q1, q2, q3, q4, q5⟩, _⟩ := hrec.out wr hs.hold.hold.below
      obtain ⟨K, S, Pg, A, T, Nn⟩ := r
      simp only at q0 q1 q2 q3 q4 q5
      obtain ⟨a0, m0, c0, rfl⟩ := hs.at'.sp.isSl
      obtain ⟨a1, m1, c1, rfl⟩ := hs.at'.lv.isSl
      obtain ⟨a2, m2, c2, rfl⟩ := hs.at'.bad.isSl
      obtain ⟨a3, m3, c3, rfl⟩ := hs.at'.worn.isSl
      have hap := applyZ hs.hold (K, S, Pg, A, T, Nn)
      unfold rv at hap
      simp only at hap
      have HS := Hid.mk (And.intro hs (And.intro hap (And.intro hrun hinv)))
      clear hs hap hrun hinv hr
      have h2i : (k : Int) < 60 := by omega
      go_upto_region 6 with (first | (go_at_call 11; refine HS.out.2.1.mono ?_; rintro e w1 ⟨rfl, hz1, hs1, bz1⟩))
      have p1 := HS.out.1.own hz1 hs1
      have C10 : Calls Try.prog 10 #[.agg #[.slice a0 m0 c0, .slice a1 m1 c1, .slice a2 m2 c2, .slice a3 m3 c3], .agg #[.int .i64 K, .int .i64 S, .int .i64 Pg, .int .i64 A, .int .i64 T, .int .i64 Nn]] w1.drew (DoR w1.drew w.heap.size (.slice a0 m0 c0) (.slice a1 m1 c1) (.slice a2 m2 c2) (.slice a3 m3 c3) (rs (apR (runA f k) (K, S, Pg, A, T, Nn)).1, (apR (runA f k) (K, S, Pg, A, T, Nn)).2)) := by
        have q := rapply_any (p1.call (Below.refl _ w1).drew).at' (p1.call (Below.refl _ w1).drew).hold.hold.below.size (lens_rs HS.out.2.2.2) K S Pg A T Nn
        rw [ap_same HS.out.2.2.2] at q
        exact q
      clear q0 q1 q2 q3 q4 q5
      obtain ⟨g', o', eq', hgl', ⟨q0, q1, q2, q3, q4, q5⟩, _⟩ := hrec.out w1 p1.hold.hold.below
      cases eq'
      simp only at q0 q1 q2 q3 q4 q5
      obtain ⟨z0, z1, z2, z3⟩ := p1.box.cells
      have hi' : InvA (apR (runA f k) (K, S, Pg, A, T, Nn)).1 := p1.hold.hold.inv
      have hrun := HS.out.2.2.1
      generalize (apR (runA f k) (K, S, Pg, A, T, Nn)).1 = t' at *
      generalize (apR (runA f k) (K, S, Pg, A, T, Nn)).2 = E at *
      have HK := Hid.mk (And.intro p1 (And.intro C10 (And.intro hi' hrun)))
      clear HS p1 C10 hi' hrun hz1 hs1 bz1 hgl hgl'
      go_region_with (go_at_call 10; refine HK.out.2.1.mono ?_; rintro e w5 ⟨u0, u1, u2, u3, rfl, R5, b5, o0, o1, o2, o3⟩; obtain ⟨s0, t0, s0', rfl⟩ := R5.sp.isSl; obtain ⟨s1, t1, s1', rfl⟩ := R5.lv.isSl; obtain ⟨s2, t2, s2', rfl⟩ := R5.bad.isSl; obtain ⟨s3, t3, s3', rfl⟩ := R5.worn.isSl; have X5 := (HK.out.1.call (below3 (Below.refl _ w1).drew b5)).box; obtain ⟨z0', z1', z2', z3'⟩ := X5.cells; have y0 := X5.fz 0; have y1 := X5.fz 1; have y2 := X5.fz 2; have y3 := X5.fz 3; have HR := Hid.mk (HK.out.1.ans HK.out.2.2.1 b5 R5 o0 o1 o2 o3); clear X5 R5 b5 o0 o1 o2 o3)
      all_goals
        have HR2 := HR.out
        unfold set4 at HR2
        clear HR z0 z1 z2 z3 z0' z1' z2' z3' y0 y1 y2 y3 q0 q1 q2 q3 q4 q5
        generalize (((w5.setCell ⟨g5, 0, none⟩ (.slice s0 t0 s0')).setCell ⟨g5, 1, none⟩ (.slice s1 t1 s1')).setCell ⟨g5, 2, none⟩ (.slice s2 t2 s2')).setCell ⟨g5, 3, none⟩ (.slice s3 t3 s3') = W6 at *
        rw [← HK.out.2.2.2] at HR2
        replace HR2 := Hid.mk HR2
        go_wp2_with fail
        exact ⟨⟨k + 1, _, _, _, _, by omega, by omega, by go_num, HR2.out⟩, by simp [intOf]; omega⟩
    · have hex : ¬ ((k : Int) < (len : Int)) ∨ ((k : Int) < (len : Int) ∧ ¬ ((k : Int) < 60)) := by omega
      obtain ⟨a0, m0, c0, rfl⟩ := hs.at'.sp.isSl
      obtain ⟨a1, m1, c1, rfl⟩ := hs.at'.lv.isSl
      obtain ⟨a2, m2, c2, rfl⟩ := hs.at'.bad.isSl
      obtain ⟨a3, m3, c3, rfl⟩ := hs.at'.worn.isSl
      obtain ⟨z0, z1, z2, z3⟩ := hs.box.cells
      obtain ⟨x0, x1, x2, x3, X⟩ := hs.res
      obtain ⟨d0, d1, d2, d3⟩ := X.cells
      have y0 := X.fz 0
      have y1 := X.fz 1
      have y2 := X.fz 2
      have y3 := X.fz 3
      have hne := hs.g35
      have HS := Hid.mk hs.out
      clear hs X hgo
      rcases hex with hex | ⟨hex0, hex⟩
      all_goals
        go_upto_region 7 with fail
        go_region
        have HR2 := HS.out
        unfold set4 at HR2
        clear HS z0 z1 z2 z3 d0 d1 d2 d3 y0 y1 y2 y3
        generalize (((wr.setCell ⟨G3, 0, none⟩ (.slice a0 m0 c0)).setCell ⟨G3, 1, none⟩ (.slice a1 m1 c1)).setCell ⟨G3, 2, none⟩ (.slice a2 m2 c2)).setCell ⟨G3, 3, none⟩ (.slice a3 m3 c3) = W6 at *
        replace HR2 := Hid.mk HR2
        go_wp2_with fail
        exact bodyPost_ret (st_result3 rfl rfl (HR2.out.2.1.call (Below.refl _ _).drew)) rfl ⟨_, _, _, _, _, _, rfl, ⟨_, _, HR2.out.1.drew⟩, HR2.out.2.2.call (Below.refl _ _).drew⟩
/-- records of a row of the call's own -/
theorem Ow.rec6 {w : World} {B a n cap} {l : List R6} (h : Ow w B 36 6 (.slice a n cap) (l.map rR)) {j : Nat} (hj : j < l.length) : ∃ g, a = some ⟨g, 0, none⟩ ∧ g < w.heap.size ∧ R6.at w g (j * 6) (l.getD j (0, 0, 0, 0, 0, 0)) := by
  obtain ⟨g, rfl, hB, hl, hc⟩ := h.at (j := j) (by rw [List.length_map]; exact hj)
  have e : (l.map rR).getD j [] = rR (l.getD j (0, 0, 0, 0, 0, 0)) := by simp [List.getD_eq_getElem?_getD, hj]
  rw [e] at hc
  exact ⟨g, rfl, hl, hc 0 (by omega), hc 1 (by omega), hc 2 (by omega), hc 3 (by omega), hc 4 (by omega), hc 5 (by omega)⟩
/-- a state s1 that has t, the answer's beside it in the block g4, what it told in d, and a second state that has t2 -/
structure DdS (w : World) (s1 : St) (g4 : Nat) (t t2 : Ab) (v0 v1 v2 v3 d : Value) (P2 : Nat) (wr : World) : Prop where
  one : Whole wr s1
  is : ab s1 = t
  box : Box4 wr g4 v0 v1 v2 v3
  at' : RAt wr w.heap.size v0 v1 v2 v3 (rs t)
  ow : Ow wr w.heap.size 36 6 d ((dumpA t).map rR)
  two : HoldZ w.heap.size w P2 t2 (foot s1 ++ (d.ownBlock.toList ++ zs g4 v0 v1 v2 v3)) wr
theorem DdS.call {w s1 g4 t t2 v0 v1 v2 v3 d P2 wr wr'} (h : DdS w s1 g4 t t2 v0 v1 v2 v3 d P2 wr) (b : Below wr.heap.size wr wr') : DdS w s1 g4 t t2 v0 v1 v2 v3 d P2 wr' :=
  ⟨h.one.call b, h.is, h.box.call b, h.at'.call b, h.ow.call b, h.two.call b⟩
theorem DdS.next {w s1 g4 t t2 t3 v0 v1 v2 v3 d P2 wr w1} (h : DdS w s1 g4 t t2 v0 v1 v2 v3 d P2 wr) (h1 : HoldZ w.heap.size w P2 t3 (foot s1 ++ (d.ownBlock.toList ++ zs g4 v0 v1 v2 v3)) w1) (e : ∀ z ∈ foot s1 ++ (d.ownBlock.toList ++ zs g4 v0 v1 v2 v3), w1.heap[z]? = wr.heap[z]?) : DdS w s1 g4 t t3 v0 v1 v2 v3 d P2 w1 := by
  have e2 : ∀ z ∈ zs g4 v0 v1 v2 v3, w1.heap[z]? = wr.heap[z]? := fun z hz => e z (by simp [hz])
  exact ⟨h.one.frame fun i hi => e i (by simp [hi]), h.is, (e2 g4 (zs_g _ _ _ _ _)).trans h.box, h.at'.keep e2, h.ow.same fun g hg => e g (by simp [hg]), h1⟩
end Go.Proofs.Ytafeclgghgipcaa
