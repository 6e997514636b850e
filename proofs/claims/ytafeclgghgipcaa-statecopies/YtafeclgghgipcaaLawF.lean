/-
  StateCopies, walked. No condition.
-/
import Derived.Test.YtafeclgghgipcaaLawE
import Derived.Test.YtafeclgghgipcaaCop
namespace Go.Proofs.Ytafeclgghgipcaa
open Go Go.RowKit Go.Maps

/-- a state that has t behind so many records -/
def runB (t : Ab) (f : Nat → R6) : Nat → Ab
  | 0 => t
  | k + 1 => (apR (runB t f k) (f k)).1
/-- a state that has t2, the answer's that has t3 in the block g8; the blocks Z are as they were -/
structure RdS (w w0 : World) (P g8 : Nat) (Z : List Nat) (t2 t3 : Ab) (u0 u1 u2 u3 : Value) (wr : World) : Prop where
  hold : HoldZ w.heap.size w P t2 (Z ++ zs g8 u0 u1 u2 u3) wr
  keep : ∀ z ∈ Z, wr.heap[z]? = w0.heap[z]?
  box : Box4 wr g8 u0 u1 u2 u3
  at' : RAt wr w.heap.size u0 u1 u2 u3 (rs t3)
  inv : InvA t3
  n0 : u0.ownBlock ≠ some g8
  n1 : u1.ownBlock ≠ some g8
  n2 : u2.ownBlock ≠ some g8
  n3 : u3.ownBlock ≠ some g8
  out : g8 ∉ Z
theorem RdS.lt {w w0 P g8 Z t2 t3 u0 u1 u2 u3 wr} (h : RdS w w0 P g8 Z t2 t3 u0 u1 u2 u3 wr) : ∀ z ∈ Z, z < wr.heap.size := fun z hz => (h.hold.low z (by simp [hz])).2
theorem RdS.call {w w0 P g8 Z t2 t3 u0 u1 u2 u3 wr wr'} (h : RdS w w0 P g8 Z t2 t3 u0 u1 u2 u3 wr) (b : Below wr.heap.size wr wr') : RdS w w0 P g8 Z t2 t3 u0 u1 u2 u3 wr' :=
  ⟨h.hold.call b, fun z hz => (b.block z (h.lt z hz)).trans (h.keep z hz), h.box.call b, h.at'.call b, h.inv, h.n0, h.n1, h.n2, h.n3, h.out⟩
theorem RdS.own {w w0 P g8 Z t2 t3 t u0 u1 u2 u3 wr w1} (h : RdS w w0 P g8 Z t2 t3 u0 u1 u2 u3 wr) (h1 : HoldZ w.heap.size w P t (Z ++ zs g8 u0 u1 u2 u3) w1) (e : ∀ z ∈ Z ++ zs g8 u0 u1 u2 u3, w1.heap[z]? = wr.heap[z]?) : RdS w w0 P g8 Z t t3 u0 u1 u2 u3 w1 := by
  have e2 : ∀ z ∈ zs g8 u0 u1 u2 u3, w1.heap[z]? = wr.heap[z]? := fun z hz => e z (by simp [hz])
  exact ⟨h1, fun z hz => (e z (by simp [hz])).trans (h.keep z hz), (e2 g8 (zs_g _ _ _ _ _)).trans h.box, h.at'.keep e2, h.inv, h.n0, h.n1, h.n2, h.n3, h.out⟩
theorem RdS.ans {w w0 P g8 Z t2 t3 t v0 v1 v2 v3 wr w2} (h : RdS w w0 P g8 Z t2 t3 v0 v1 v2 v3 wr) (hi : InvA t) {u0 u1 u2 u3 : Value} (b : Below wr.drew.heap.size wr.drew w2) (R : RAt w2 w.heap.size u0 u1 u2 u3 (rs t)) (o0 : Own2 wr.drew v0 u0) (o1 : Own2 wr.drew v1 u1) (o2 : Own2 wr.drew v2 u2) (o3 : Own2 wr.drew v3 u3) :
    RdS w w0 P g8 Z t2 t u0 u1 u2 u3 (set4 w2 g8 u0 u1 u2 u3) := by
  have hc := h.call (below3 (Below.refl _ wr).drew b)
  have hg := h.box.lt
  have hsz : wr.drew.heap.size = wr.heap.size := rfl
  have ne : ∀ {v u : Value}, v.ownBlock ≠ some g8 → Own2 wr.drew v u → u.ownBlock ≠ some g8 := fun n q e => by
    rcases q _ e with q | q
    · exact n q
    · omega
  have n0 := ne h.n0 o0
  have n1 := ne h.n1 o1
  have n2 := ne h.n2 o2
  have n3 := ne h.n3 o3
  have k := set4_kp w2 g8 g8 u0 u1 u2 u3
  have hz : HoldZ w.heap.size w P t2 (Z ++ zs g8 u0 u1 u2 u3) w2 := by
    refine h.hold.fresh (below3 (Below.refl _ wr).drew b) (fun z hz => ?_)
    rcases List.mem_append.1 hz with hz | hz
    · exact .inl (by simp [hz])
    · rcases zs_cases hz with rfl | e | e | e | e
      · exact .inl (List.mem_append_right _ (zs_g _ _ _ _ _))
      · rcases o0 z e with q | q
        · exact .inl (List.mem_append_right _ (zs_0 q))
        · exact .inr ⟨by omega, (R.sp.lt z e).2⟩
      · rcases o1 z e with q | q
        · exact .inl (List.mem_append_right _ (zs_1 q))
        · exact .inr ⟨by omega, (R.lv.lt z e).2⟩
      · rcases o2 z e with q | q
        · exact .inl (List.mem_append_right _ (zs_2 q))
        · exact .inr ⟨by omega, (R.bad.lt z e).2⟩
      · rcases o3 z e with q | q
        · exact .inl (List.mem_append_right _ (zs_3 q))
        · exact .inr ⟨by omega, (R.worn.lt z e).2⟩
  have hg8 : g8 ∈ Z ++ zs g8 u0 u1 u2 u3 := List.mem_append_right _ (zs_g _ _ _ _ _)
  refine ⟨?_, fun z hz2 => ?_, set4_box hc.box _ _ _ _, ⟨R.sp.kp k n0 n0, R.lv.kp k n1 n1, R.bad.kp k n2 n2, R.worn.kp k n3 n3⟩, hi, n0, n1, n2, n3, h.out⟩
  · unfold set4
    exact (((hz.set hg8 _).set hg8 _).set hg8 _).set hg8 _
  · have hne : z ≠ g8 := fun e => h.out (e ▸ hz2)
    unfold set4
    rw [heap_setCell_other _ _ _ _ hne, heap_setCell_other _ _ _ _ hne, heap_setCell_other _ _ _ _ hne, heap_setCell_other _ _ _ _ hne]
    exact hc.keep z hz2
/-- a state that was played, and its copy -/
theorem PbS.copied {w s1 g6 t v0 v1 v2 v3 W1 w2 s2} (h : PbS w s1 g6 t v0 v1 v2 v3 W1) (h2 : Whole w2 s2) (e : ab s2 = ab s1) (hi : ∀ i ∈ foot s2, W1.heap.size ≤ i) (b : Below W1.heap.size W1 w2) :
    RdS w w2 s2.p w2.heap.size (foot s1 ++ zs g6 v0 v1 v2 v3) t t v0 v1 v2 v3 (w2.alloc (.cells #[v0, v1, v2, v3] 30)) := by
  have hw1 := h.below.size
  have hsz := b.size
  have inv : InvA t := by have := h.one.inv; rw [h.is] at this; exact this
  have lt0 : ∀ {v : Value}, (∀ g, v.ownBlock = some g → w.heap.size ≤ g ∧ g < W1.heap.size) → v.ownBlock ≠ some w2.heap.size := fun hv q => by have := hv _ q; omega
  have hz : ∀ z ∈ foot s1 ++ zs g6 v0 v1 v2 v3, w.heap.size ≤ z ∧ z < W1.heap.size := by
    intro z hz
    rcases List.mem_append.1 hz with hz | hz
    · exact ⟨h.high z hz, h.one.at'.foot_lt _ hz⟩
    · rcases zs_cases hz with rfl | e | e | e | e
      · exact ⟨h.up, h.box.lt⟩
      · exact h.at'.sp.lt z e
      · exact h.at'.lv.lt z e
      · exact h.at'.bad.lt z e
      · exact h.at'.worn.lt z e
  have hB := below3 (below3 h.below b) (below_al w2 (.cells #[v0, v1, v2, v3] 30))
  refine ⟨⟨s2, rfl, h2.call (below_al w2 _), e.trans h.is, hB, Nat.le_refl _, fun i hm => Nat.le_trans hw1 (hi i hm), fun z hm => ?_⟩, fun z hm => Below.heap_alloc w2 _ z (by have := hz z hm; omega), Box4.fresh w2 _ _ _ _, (h.at'.call b).alloc _, inv, lt0 (fun g q => h.at'.sp.lt g q), lt0 (fun g q => h.at'.lv.lt g q), lt0 (fun g q => h.at'.bad.lt g q), lt0 (fun g q => h.at'.worn.lt g q), fun hm => by have := hz _ hm; omega⟩
  have hlow : ∀ y, w.heap.size ≤ y ∧ y < W1.heap.size → (w.heap.size ≤ y ∧ y < (w2.alloc (.cells #[v0, v1, v2, v3] 30)).heap.size) ∧ y ∉ foot s2 := fun y hy => ⟨⟨hy.1, by rw [size_alloc]; omega⟩, fun q => by have := hi y q; omega⟩
  rcases List.mem_append.1 hm with hm | hm
  · exact hlow z (hz z hm)
  · rcases zs_cases hm with rfl | e | e | e | e
    · exact ⟨⟨by omega, by rw [size_alloc]; omega⟩, fun q => Nat.lt_irrefl _ (h2.at'.foot_lt _ q)⟩
    · exact hlow z (h.at'.sp.lt z e)
    · exact hlow z (h.at'.lv.lt z e)
    · exact hlow z (h.at'.bad.lt z e)
    · exact hlow z (h.at'.worn.lt z e)
/-- both sides alike -/
theorem RdS.same2 {w w0 P g8 Z t u0 u1 u2 u3 wr} (h : RdS w w0 P g8 Z t t u0 u1 u2 u3 wr) : Calls Try.prog 12 #[.pointer (some ⟨P, 0, none⟩), .agg #[u0, u1, u2, u3]] wr fun e w' => e = .returned (.bool true) ∧ Below wr.heap.size wr w' := by
  obtain ⟨s, rfl, h2, h3, _⟩ := h.hold
  have hr := h.at'
  rw [← h3] at hr
  exact same_any h2 hr
theorem RdS.one {w w0 P g8 t2 t3 u0 u1 u2 u3 wr s1 g6 v0 v1 v2 v3 t} (h : RdS w w0 P g8 (foot s1 ++ zs g6 v0 v1 v2 v3) t2 t3 u0 u1 u2 u3 wr) (h1 : Whole w0 s1) (e : ab s1 = t) (hb : Box4 w0 g6 v0 v1 v2 v3) (hr : RAt w0 w.heap.size v0 v1 v2 v3 (rs t)) :
    Box4 wr g6 v0 v1 v2 v3 ∧ Calls Try.prog 12 #[.pointer (some ⟨s1.p, 0, none⟩), .agg #[v0, v1, v2, v3]] wr fun e w' => e = .returned (.bool true) ∧ Below wr.heap.size wr w' := by
  have e2 : ∀ z ∈ zs g6 v0 v1 v2 v3, wr.heap[z]? = w0.heap[z]? := fun z hz => h.keep z (by simp [hz])
  have h2 : Whole wr s1 := h1.frame fun i hi => h.keep i (by simp [hi])
  have h3 := hr.keep e2
  rw [← e] at h3
  exact ⟨(e2 g6 (zs_g _ _ _ _ _)).trans hb, same_any h2 h3⟩
set_option maxRecDepth 20000 in
set_option maxHeartbeats 4000000 in
theorem stateCopies_any (a : Option Addr) (len cap : Nat) (f : Nat → R6) (a' : Option Addr) (len' cap' : Nat) (f' : Nat → R6) (w : World) (hx : RecsF w a len f) (hx' : RecsF w a' len' f') : Calls Try.prog 5 #[.slice a len cap, .slice a' len' cap'] w fun e w' => e = .returned (.bool true) ∧ Below w.heap.size w w' := by
  have HX := Hid.mk (played_any a len cap f w hx)
  have HY := Hid.mk hx'
  clear hx hx'
  go_enter Try.func5, Try.ntmps5
  go_upto_region 2 with (first | (go_at_call 15; refine HX.out.mono ?_; rintro e w1 ⟨P, t, v0, v1, v2, v3, rfl, hp⟩; obtain ⟨a0, m0, c0, rfl⟩ := hp.2.sp.isSl; obtain ⟨a1, m1, c1, rfl⟩ := hp.2.lv.isSl; obtain ⟨a2, m2, c2, rfl⟩ := hp.2.bad.isSl; obtain ⟨a3, m3, c3, rfl⟩ := hp.2.worn.isSl))
  obtain ⟨s1, rfl, hb⟩ := hp.pb
  clear hp HX
  generalize w1.alloc (.cells #[.slice a0 m0 c0, .slice a1 m1 c1, .slice a2 m2 c2, .slice a3 m3 c3] 30) = W1 at *
  generalize w1.heap.size = g6 at *
  have HB := Hid.mk hb
  clear hb
  go_upto_region 3 with (first | (go_at_call 17; refine (copy_any HB.out.one).mono ?_; rintro e w2 ⟨s2, rfl, hw2, he2, hi2, b2⟩))
  have R0 := HB.out.copied hw2 he2 hi2 b2
  have hb2 := HB.out.call b2
  obtain ⟨z0, z1, z2, z3⟩ := hb2.box.cells
  have hg6 := hb2.box.lt
  have HR := Hid.mk (And.intro R0 hb2)
  clear R0 hb2 hw2 he2 hi2 b2 HB
  go_upto_region 5 with fail
  clear z0 z1 z2 z3 hg6
  generalize hV0 : Value.slice a0 m0 c0 = V0 at *
  generalize hV1 : Value.slice a1 m1 c1 = V1 at *
  generalize hV2 : Value.slice a2 m2 c2 = V2 at *
  generalize hV3 : Value.slice a3 m3 c3 = V3 at *
  have HV := Hid.mk (And.intro hV0 (And.intro hV1 (And.intro hV2 hV3)))
  clear hV0 hV1 hV2 hV3
  have HP := Hid.mk HR.out.2
  have R0 := HR.out.1
  clear HR
  generalize w2.alloc (.cells #[V0, V1, V2, V3] 30) = W3 at *
  generalize w2.heap.size = g8 at *
  generalize s2.p = P2 at *
  replace R0 := Hid.mk R0
  go_loopw [9] (fun i wr => ∃ (k : Nat) (u0 u1 u2 u3 : Value), k ≤ 30 ∧ k ≤ len' ∧ i = .int .i64 k ∧ RdS w w2 P2 g8 (foot s1 ++ zs g6 V0 V1 V2 V3) (runB t f' k) (runB t f' k) u0 u1 u2 u3 wr) (fun i _ => 30 - (intOf i).toNat)
  case atStart => exact ⟨0, _, _, _, _, by omega, Nat.zero_le _, rfl, R0.out⟩
  case round =>
    clear R0
    obtain ⟨k, v0, v1, v2, v3, hk30, hklen, rfl, hs⟩ := hrel
    by_cases hgo : k < len' ∧ k < 30
    · obtain ⟨h1, h2⟩ := hgo
      have hinv := hs.inv
      have hrun : runB t f' (k + 1) = (apR (runB t f' k) (f' k)).1 := rfl
      have hrec : Hid (∀ W, Below w.heap.size w W → ∃ g o, a' = some ⟨g, o, none⟩ ∧ g < W.heap.size ∧ (f' k).at W g (o + k * 6) ∧ (f' k).wf) := fun W b => HY.out.below b k h1
      generalize hr : f' k = r at *
      obtain ⟨g, o, rfl, hgl, ⟨q0, q1, q2, q3, q4, q5⟩, _⟩ := hrec.out wr hs.hold.hold.below
      obtain ⟨K, S, Pg, A, T, Nn⟩ := r
      simp only at q0 q1 q2 q3 q4 q5
      obtain ⟨x0, y0, e0, rfl⟩ := hs.at'.sp.isSl
      obtain ⟨x1, y1, e1, rfl⟩ := hs.at'.lv.isSl
      obtain ⟨x2, y2, e2, rfl⟩ := hs.at'.bad.isSl
      obtain ⟨x3, y3, e3, rfl⟩ := hs.at'.worn.isSl
      have hap := applyZ hs.hold (K, S, Pg, A, T, Nn)
      unfold rv at hap
      simp only at hap
      have HS := Hid.mk (And.intro hs (And.intro hap (And.intro hrun hinv)))
      clear hs hap hrun hinv hr
      have h2i : (k : Int) < 30 := by omega
      go_upto_region 8 with (first | (go_at_call 11; refine HS.out.2.1.mono ?_; rintro e w4 ⟨rfl, hz1, hs1, bz1⟩))
      have p1 := HS.out.1.own hz1 hs1
      have C10 : Calls Try.prog 10 #[.agg #[.slice x0 y0 e0, .slice x1 y1 e1, .slice x2 y2 e2, .slice x3 y3 e3], .agg #[.int .i64 K, .int .i64 S, .int .i64 Pg, .int .i64 A, .int .i64 T, .int .i64 Nn]] w4.drew (DoR w4.drew w.heap.size (.slice x0 y0 e0) (.slice x1 y1 e1) (.slice x2 y2 e2) (.slice x3 y3 e3) (rs (apR (runB t f' k) (K, S, Pg, A, T, Nn)).1, (apR (runB t f' k) (K, S, Pg, A, T, Nn)).2)) := by
        have q := rapply_any (p1.call (Below.refl _ w4).drew).at' (p1.call (Below.refl _ w4).drew).hold.hold.below.size (lens_rs HS.out.2.2.2) K S Pg A T Nn
        rw [ap_same HS.out.2.2.2] at q
        exact q
      clear q0 q1 q2 q3 q4 q5
      obtain ⟨g', o', eq', hgl', ⟨q0, q1, q2, q3, q4, q5⟩, _⟩ := hrec.out w4 p1.hold.hold.below
      cases eq'
      simp only at q0 q1 q2 q3 q4 q5
      obtain ⟨z0, z1, z2, z3⟩ := p1.box.cells
      have hi' : InvA (apR (runB t f' k) (K, S, Pg, A, T, Nn)).1 := p1.hold.hold.inv
      have hrun := HS.out.2.2.1
      generalize (apR (runB t f' k) (K, S, Pg, A, T, Nn)).1 = t' at *
      generalize (apR (runB t f' k) (K, S, Pg, A, T, Nn)).2 = E at *
      have HK := Hid.mk (And.intro p1 (And.intro C10 (And.intro hi' hrun)))
      clear HS p1 C10 hi' hrun hz1 hs1 bz1 hgl hgl'
      go_region_with (go_at_call 10; refine HK.out.2.1.mono ?_; rintro e w5 ⟨u0, u1, u2, u3, rfl, R5, b5, o0, o1, o2, o3⟩; obtain ⟨s0, t0, s0', rfl⟩ := R5.sp.isSl; obtain ⟨s1', t1, s1'', rfl⟩ := R5.lv.isSl; obtain ⟨s2', t2, s2'', rfl⟩ := R5.bad.isSl; obtain ⟨s3, t3, s3', rfl⟩ := R5.worn.isSl; have X5 := (HK.out.1.call (below3 (Below.refl _ w4).drew b5)).box; obtain ⟨z0', z1', z2', z3'⟩ := X5.cells; have f0 := X5.fz 0; have f1 := X5.fz 1; have f2 := X5.fz 2; have f3 := X5.fz 3; have HR := Hid.mk (HK.out.1.ans HK.out.2.2.1 b5 R5 o0 o1 o2 o3); clear X5 R5 b5 o0 o1 o2 o3)
      all_goals
        have HR2 := HR.out
        unfold set4 at HR2
        clear HR z0 z1 z2 z3 z0' z1' z2' z3' f0 f1 f2 f3 q0 q1 q2 q3 q4 q5
        generalize (((w5.setCell ⟨g8, 0, none⟩ (.slice s0 t0 s0')).setCell ⟨g8, 1, none⟩ (.slice s1' t1 s1'')).setCell ⟨g8, 2, none⟩ (.slice s2' t2 s2'')).setCell ⟨g8, 3, none⟩ (.slice s3 t3 s3') = W6 at *
        rw [← HK.out.2.2.2] at HR2
        replace HR2 := Hid.mk HR2
        go_wp2_with fail
        exact ⟨⟨k + 1, _, _, _, _, by omega, by omega, by go_num, HR2.out⟩, by simp [intOf]; omega⟩
    · have hex : ¬ ((k : Int) < (len' : Int)) ∨ ((k : Int) < (len' : Int) ∧ ¬ ((k : Int) < 30)) := by omega
      obtain ⟨x0, y0, e0, rfl⟩ := hs.at'.sp.isSl
      obtain ⟨x1, y1, e1, rfl⟩ := hs.at'.lv.isSl
      obtain ⟨x2, y2, e2, rfl⟩ := hs.at'.bad.isSl
      obtain ⟨x3, y3, e3, rfl⟩ := hs.at'.worn.isSl
      obtain ⟨rfl, rfl, rfl, rfl⟩ := HV.out
      have HC : Hid (∀ W, Below wr.heap.size wr W → Box4 W g6 (.slice a0 m0 c0) (.slice a1 m1 c1) (.slice a2 m2 c2) (.slice a3 m3 c3) ∧ Box4 W g8 (.slice x0 y0 e0) (.slice x1 y1 e1) (.slice x2 y2 e2) (.slice x3 y3 e3) ∧ Below w.heap.size w W ∧
          ∀ p v, (p = s1.p ∧ v = .agg #[.slice a0 m0 c0, .slice a1 m1 c1, .slice a2 m2 c2, .slice a3 m3 c3]) ∨ (p = P2 ∧ v = .agg #[.slice x0 y0 e0, .slice x1 y1 e1, .slice x2 y2 e2, .slice x3 y3 e3]) → Calls Try.prog 12 #[.pointer (some ⟨p, 0, none⟩), v] W fun e w' => e = .returned (.bool true) ∧ Below W.heap.size W w') := fun W b => by
        have h1 := (hs.call b).one HP.out.one HP.out.is HP.out.box HP.out.at'
        refine ⟨h1.1, (hs.call b).box, (hs.call b).hold.hold.below, fun p v hpv => ?_⟩
        rcases hpv with ⟨rfl, rfl⟩ | ⟨rfl, rfl⟩
        · exact h1.2
        · exact (hs.call b).same2
      clear hs hgo HP HV HY
      have B0 := Hid.mk (Below.refl wr.heap.size wr)
      rcases hex with hex | ⟨hex0, hex⟩
      all_goals
        go_wp2_with (first
          | (go_at_call 9; refine (awake0 _).mono ?_; rintro e w5 ⟨rfl, b5⟩; replace B0 := Hid.mk (below3 B0.out b5); clear b5; obtain ⟨z0, z1, z2, z3⟩ := (HC.out w5 B0.out).1.cells)
          | (go_at_call 12; refine ((HC.out _ B0.out).2.2.2 _ _ (by first | exact .inl ⟨rfl, rfl⟩ | exact .inr ⟨rfl, rfl⟩)).mono ?_; rintro e w6 ⟨rfl, b6⟩; replace B0 := Hid.mk (below3 B0.out b6); clear z0 z1 z2 z3 b6; obtain ⟨z0, z1, z2, z3⟩ := (HC.out w6 B0.out).2.1.cells))
        go_ret
        exact ⟨rfl, (HC.out _ B0.out).2.2.1⟩
end Go.Proofs.Ytafeclgghgipcaa
