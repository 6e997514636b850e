/-
  StatePlays, walked. No condition.
-/
import Derived.Test.YtafeclgghgipcaaSam
import Derived.Test.YtafeclgghgipcaaBlk
import Derived.Test.YtafeclgghgipcaaLawN
import Derived.Laws.MakeOwn
import Derived.Deep.CutRange

namespace Go.Proofs.Ytafeclgghgipcaa
open Go Go.RowKit Go.Maps

theorem HoldZ.fresh {B : Nat} {w0 w w' : World} {P t Z Z'} (h : HoldZ B w0 P t Z w) (q : Below w.heap.size w w') (hz : ∀ z ∈ Z', z ∈ Z ∨ (w.heap.size ≤ z ∧ z < w'.heap.size)) : HoldZ B w0 P t Z' w' := by
  obtain ⟨s, h1, h2, h3, h4, h5, h6, h7⟩ := h
  refine ⟨s, h1, h2.call q, h3, h4.trans (q.mono (Nat.le_trans h5 h4.size)), h5, h6, fun z hz' => ?_⟩
  rcases hz z hz' with hz | hz
  · exact ⟨⟨(h7 z hz).1.1, Nat.lt_of_lt_of_le (h7 z hz).1.2 q.size⟩, (h7 z hz).2⟩
  · exact ⟨⟨Nat.le_trans (Nat.le_trans h5 h4.size) hz.1, hz.2⟩, fun hm => by have := h2.at'.foot_lt _ hm; omega⟩
/-- blocks that are the answer's -/
def zs (g : Nat) (v0 v1 v2 v3 : Value) : List Nat := g :: (v0.ownBlock.toList ++ (v1.ownBlock.toList ++ (v2.ownBlock.toList ++ v3.ownBlock.toList)))
theorem zs_0 {g v0 v1 v2 v3 j} (h : v0.ownBlock = some j) : j ∈ zs g v0 v1 v2 v3 := by simp [zs, h]
theorem zs_1 {g v0 v1 v2 v3 j} (h : v1.ownBlock = some j) : j ∈ zs g v0 v1 v2 v3 := by simp [zs, h]
theorem zs_2 {g v0 v1 v2 v3 j} (h : v2.ownBlock = some j) : j ∈ zs g v0 v1 v2 v3 := by simp [zs, h]
theorem zs_3 {g v0 v1 v2 v3 j} (h : v3.ownBlock = some j) : j ∈ zs g v0 v1 v2 v3 := by simp [zs, h]
theorem zs_g (g v0 v1 v2 v3) : g ∈ zs g v0 v1 v2 v3 := by simp [zs]
theorem zs_cases {g v0 v1 v2 v3 j} (h : j ∈ zs g v0 v1 v2 v3) : j = g ∨ v0.ownBlock = some j ∨ v1.ownBlock = some j ∨ v2.ownBlock = some j ∨ v3.ownBlock = some j := by
  simpa [zs] using h
/-- a state and the answer's, side by side -/
structure PlS (w : World) (P g4 : Nat) (t : Ab) (v0 v1 v2 v3 : Value) (wr : World) : Prop where
  hold : HoldZ w.heap.size w P t (zs g4 v0 v1 v2 v3) wr
  box : Box4 wr g4 v0 v1 v2 v3
  at' : RAt wr w.heap.size v0 v1 v2 v3 (rs t)
  n0 : v0.ownBlock ≠ some g4
  n1 : v1.ownBlock ≠ some g4
  n2 : v2.ownBlock ≠ some g4
  n3 : v3.ownBlock ≠ some g4
theorem PlS.call {w P g4 t v0 v1 v2 v3 wr wr'} (h : PlS w P g4 t v0 v1 v2 v3 wr) (b : Below wr.heap.size wr wr') : PlS w P g4 t v0 v1 v2 v3 wr' := ⟨h.hold.call b, h.box.call b, h.at'.call b, h.n0, h.n1, h.n2, h.n3⟩
theorem PlS.start {w w1 : World} {P : Nat} (h : HoldZ w.heap.size w P noAb [] w1) : PlS w P w1.heap.size noAb (.slice none 0 0) (.slice none 0 0) (.slice none 0 0) (.slice none 0 0) (w1.alloc (.cells #[.slice none 0 0, .slice none 0 0, .slice none 0 0, .slice none 0 0] 30)) :=
  ⟨h.more _, Box4.fresh w1 _ _ _ _, ⟨Ow.nil _ _ _ _, Ow.nil _ _ _ _, Ow.nil _ _ _ _, Ow.nil _ _ _ _⟩, by simp [Value.ownBlock], by simp [Value.ownBlock], by simp [Value.ownBlock], by simp [Value.ownBlock]⟩
/-- the answer's Apply has answered: the state's own stand as before, the answer's slices are new or old -/
theorem PlS.done {w P g4 t v0 v1 v2 v3 wr wr'} (h : PlS w P g4 t v0 v1 v2 v3 wr) {W : World} {u0 u1 u2 u3 : Value} {t' : Ab} (bW : Below wr.heap.size wr W) (b : Below W.heap.size W wr') (R : RAt wr' w.heap.size u0 u1 u2 u3 (rs t')) (o0 : Own2 W v0 u0) (o1 : Own2 W v1 u1) (o2 : Own2 W v2 u2) (o3 : Own2 W v3 u3) :
    HoldZ w.heap.size w P t (zs g4 u0 u1 u2 u3) wr' ∧ u0.ownBlock ≠ some g4 ∧ u1.ownBlock ≠ some g4 ∧ u2.ownBlock ≠ some g4 ∧ u3.ownBlock ≠ some g4 := by
  have hg := h.box.lt
  have hW := bW.size
  have ne : ∀ {v u : Value}, v.ownBlock ≠ some g4 → Own2 W v u → u.ownBlock ≠ some g4 := fun n q e => by
    rcases q _ e with q | q
    · exact n q
    · omega
  refine ⟨h.hold.fresh (below3 bW b) (fun z hz => ?_), ne h.n0 o0, ne h.n1 o1, ne h.n2 o2, ne h.n3 o3⟩
  rcases zs_cases hz with rfl | e | e | e | e
  · exact .inl (zs_g _ _ _ _ _)
  · rcases o0 z e with q | q
    · exact .inl (zs_0 q)
    · exact .inr ⟨by omega, (R.sp.lt z e).2⟩
  · rcases o1 z e with q | q
    · exact .inl (zs_1 q)
    · exact .inr ⟨by omega, (R.lv.lt z e).2⟩
  · rcases o2 z e with q | q
    · exact .inl (zs_2 q)
    · exact .inr ⟨by omega, (R.bad.lt z e).2⟩
  · rcases o3 z e with q | q
    · exact .inl (zs_3 q)
    · exact .inr ⟨by omega, (R.worn.lt z e).2⟩
/-- behind the answer's Apply: its new state in a block of its own -/
structure NxS (w : World) (P g4 : Nat) (t t' : Ab) (wr : World) (gn : Nat) (u0 u1 u2 u3 : Value) (wx : World) : Prop where
  hold : HoldZ w.heap.size w P t (zs g4 u0 u1 u2 u3) wx
  box : Box4 wx gn u0 u1 u2 u3
  at' : RAt wx w.heap.size u0 u1 u2 u3 (rs t')
  bel : Below wr.heap.size wr wx
  n0 : u0.ownBlock ≠ some g4
  n1 : u1.ownBlock ≠ some g4
  n2 : u2.ownBlock ≠ some g4
  n3 : u3.ownBlock ≠ some g4
theorem PlS.nxA {w P g4 t v0 v1 v2 v3 wr w5} (h : PlS w P g4 t v0 v1 v2 v3 wr) {u0 u1 u2 u3 : Value} {t' : Ab} (b : Below wr.drew.heap.size wr.drew w5) (R : RAt w5 w.heap.size u0 u1 u2 u3 (rs t')) (o0 : Own2 wr.drew v0 u0) (o1 : Own2 wr.drew v1 u1) (o2 : Own2 wr.drew v2 u2) (o3 : Own2 wr.drew v3 u3) :
    NxS w P g4 t t' wr w5.heap.size u0 u1 u2 u3 (w5.alloc (.cells #[u0, u1, u2, u3] 30)) := by
  obtain ⟨p1, p2, p3, p4, p5⟩ := h.done (Below.refl _ wr).drew b R o0 o1 o2 o3
  exact ⟨p1.alloc _, Box4.fresh w5 _ _ _ _, R.alloc _, below3 (below3 (Below.refl _ wr).drew b) (below_al w5 _), p2, p3, p4, p5⟩
theorem PlS.nxB {w P g4 t v0 v1 v2 v3 wr w5} (h : PlS w P g4 t v0 v1 v2 v3 wr) {u0 u1 u2 u3 : Value} {t' : Ab} {o : Obj} (b : Below (wr.alloc o).drew.heap.size (wr.alloc o).drew w5) (R : RAt w5 w.heap.size u0 u1 u2 u3 (rs t')) (o0 : Own2 (wr.alloc o).drew v0 u0) (o1 : Own2 (wr.alloc o).drew v1 u1) (o2 : Own2 (wr.alloc o).drew v2 u2) (o3 : Own2 (wr.alloc o).drew v3 u3) (ho : o = .cells #[.slice none 0 0, .slice none 0 0, .slice none 0 0, .slice none 0 0] 30 := by rfl) :
    NxS w P g4 t t' wr wr.heap.size u0 u1 u2 u3 (set4 w5 wr.heap.size u0 u1 u2 u3) := by
  subst ho
  have bA := (below_al wr (.cells #[.slice none 0 0, .slice none 0 0, .slice none 0 0, .slice none 0 0] 30)).drew
  have hlt : wr.heap.size < (wr.alloc (.cells #[.slice none 0 0, .slice none 0 0, .slice none 0 0, .slice none 0 0] 30)).heap.size := by rw [size_alloc]; omega
  have X5 : Box4 w5 wr.heap.size (.slice none 0 0) (.slice none 0 0) (.slice none 0 0) (.slice none 0 0) := (b.block wr.heap.size hlt).trans (heap_alloc_new wr _)
  have k := set4_kp w5 wr.heap.size wr.heap.size u0 u1 u2 u3
  obtain ⟨p1, p2, p3, p4, p5⟩ := h.done bA b R o0 o1 o2 o3
  have bl := kp_bel (below3 bA b) k (Nat.le_refl _) (Nat.le_refl _)
  have hsz : wr.heap.size < (wr.alloc (.cells #[.slice none 0 0, .slice none 0 0, .slice none 0 0, .slice none 0 0] 30)).drew.heap.size := hlt
  have nb : ∀ {v u : Value}, (∀ g, v.ownBlock = some g → g < wr.heap.size) → Own2 (wr.alloc (.cells #[.slice none 0 0, .slice none 0 0, .slice none 0 0, .slice none 0 0] 30)).drew v u → u.ownBlock ≠ some wr.heap.size := fun hv q e => by
    rcases q _ e with q | q
    · have := hv _ q; omega
    · omega
  have n0 := nb (fun g hg => (h.at'.sp.lt g hg).2) o0
  have n1 := nb (fun g hg => (h.at'.lv.lt g hg).2) o1
  have n2 := nb (fun g hg => (h.at'.bad.lt g hg).2) o2
  have n3 := nb (fun g hg => (h.at'.worn.lt g hg).2) o3
  have R6 : RAt (set4 w5 wr.heap.size u0 u1 u2 u3) w.heap.size u0 u1 u2 u3 (rs t') := ⟨R.sp.kp k n0 n0, R.lv.kp k n1 n1, R.bad.kp k n2 n2, R.worn.kp k n3 n3⟩
  refine ⟨h.hold.fresh bl (fun z hz => ?_), set4_box X5 _ _ _ _, R6, bl, p2, p3, p4, p5⟩
  rcases zs_cases hz with rfl | e | e | e | e
  · exact .inl (zs_g _ _ _ _ _)
  · rcases o0 z e with q | q
    · exact .inl (zs_0 q)
    · exact .inr ⟨by omega, (R6.sp.lt z e).2⟩
  · rcases o1 z e with q | q
    · exact .inl (zs_1 q)
    · exact .inr ⟨by omega, (R6.lv.lt z e).2⟩
  · rcases o2 z e with q | q
    · exact .inl (zs_2 q)
    · exact .inr ⟨by omega, (R6.bad.lt z e).2⟩
  · rcases o3 z e with q | q
    · exact .inl (zs_3 q)
    · exact .inr ⟨by omega, (R6.worn.lt z e).2⟩
/-- the answer's new state stands in its place -/
structure PxS (w : World) (P g4 : Nat) (t t' : Ab) (v0 v1 v2 v3 : Value) (wr : World) : Prop where
  hold : HoldZ w.heap.size w P t (zs g4 v0 v1 v2 v3) wr
  box : Box4 wr g4 v0 v1 v2 v3
  at' : RAt wr w.heap.size v0 v1 v2 v3 (rs t')
  n0 : v0.ownBlock ≠ some g4
  n1 : v1.ownBlock ≠ some g4
  n2 : v2.ownBlock ≠ some g4
  n3 : v3.ownBlock ≠ some g4
theorem NxS.put {w P g4 t t' wr gn u0 u1 u2 u3 wx} (h : NxS w P g4 t t' wr gn u0 u1 u2 u3 wx) {z0 z1 z2 z3 : Value} (hb : Box4 wx g4 z0 z1 z2 z3) : PxS w P g4 t t' u0 u1 u2 u3 (set4 wx g4 u0 u1 u2 u3) := by
  have k := set4_kp wx g4 g4 u0 u1 u2 u3
  have hg := zs_g g4 u0 u1 u2 u3
  refine ⟨?_, set4_box hb _ _ _ _, ⟨h.at'.sp.kp k h.n0 h.n0, h.at'.lv.kp k h.n1 h.n1, h.at'.bad.kp k h.n2 h.n2, h.at'.worn.kp k h.n3 h.n3⟩, h.n0, h.n1, h.n2, h.n3⟩
  unfold set4
  exact (((h.hold.set hg _).set hg _).set hg _).set hg _
/-- behind the state's own Apply -/
theorem PxS.fin {w P g4 t t' v0 v1 v2 v3 wr w6} (h : PxS w P g4 t t' v0 v1 v2 v3 wr) (h6 : HoldZ w.heap.size w P t' (zs g4 v0 v1 v2 v3) w6) (e : ∀ z ∈ zs g4 v0 v1 v2 v3, w6.heap[z]? = wr.heap[z]?) : PlS w P g4 t' v0 v1 v2 v3 w6 :=
  ⟨h6, (e g4 (zs_g _ _ _ _ _)).trans h.box, ⟨h.at'.sp.same fun g hg => e g (zs_0 hg), h.at'.lv.same fun g hg => e g (zs_1 hg), h.at'.bad.same fun g hg => e g (zs_2 hg), h.at'.worn.same fun g hg => e g (zs_3 hg)⟩, h.n0, h.n1, h.n2, h.n3⟩
theorem PlS.same {w P g4 t v0 v1 v2 v3 wr} (h : PlS w P g4 t v0 v1 v2 v3 wr) : Calls Try.prog 12 #[.pointer (some ⟨P, 0, none⟩), .agg #[v0, v1, v2, v3]] wr fun e w' => e = .returned (.bool true) ∧ Below wr.heap.size wr w' := by
  obtain ⟨s, rfl, h2, h3, _⟩ := h.hold
  have hr := h.at'
  rw [← h3] at hr
  exact same_any h2 hr
/-- the state's Apply leaves the answer's blocks -/
theorem RAt.keep {W W' : World} {B g4 v0 v1 v2 v3 m} (h : RAt W B v0 v1 v2 v3 m) (e : ∀ z ∈ zs g4 v0 v1 v2 v3, W'.heap[z]? = W.heap[z]?) : RAt W' B v0 v1 v2 v3 m :=
  ⟨h.sp.same fun g hg => e g (zs_0 hg), h.lv.same fun g hg => e g (zs_1 hg), h.bad.same fun g hg => e g (zs_2 hg), h.worn.same fun g hg => e g (zs_3 hg)⟩
set_option maxRecDepth 20000 in
set_option maxHeartbeats 4000000 in
theorem statePlays_any (a : Option Addr) (len cap : Nat) (f : Nat → R6) (w : World) (hx : RecsF w a len f) : Calls Try.prog 3 #[.slice a len cap] w fun e w' => e = .returned (.bool true) ∧ Below w.heap.size w w' := by
  have HX := Hid.mk hx
  clear hx
  go_enter Try.func3, Try.ntmps3
  go_upto_region 2 with (first | (go_at_call 8; refine (newZ (Z := []) (Below.refl _ w) (Nat.le_refl _) (fun _ h => by cases h)).mono ?_; rintro e w1 ⟨rfl, hz1, b1⟩))
  have S0 := Hid.mk (PlS.start hz1)
  clear hz1 b1
  generalize w1.alloc (.cells #[.slice none 0 0, .slice none 0 0, .slice none 0 0, .slice none 0 0] 30) = W1 at *
  generalize w1.heap.size = g4 at *
  generalize w.heap.size + 4 = P at *
  go_upto_region 5 with (first | (go_at_call 9; refine (awake0 _).mono ?_; rintro e w2 ⟨rfl, b2⟩))
  have S1 := Hid.mk (S0.out.call b2)
  clear b2 S0
  go_loopw [5] (fun i wr => ∃ (k : Nat) (v0 v1 v2 v3 : Value), k ≤ 60 ∧ k ≤ len ∧ i = .int .i64 k ∧ PlS w P g4 (runA f k) v0 v1 v2 v3 wr) (fun i _ => 60 - (intOf i).toNat)
  case atStart => exact ⟨0, _, _, _, _, by omega, Nat.zero_le _, rfl, S1.out⟩
  case round =>
    clear S1
    obtain ⟨k, v0, v1, v2, v3, hk60, hklen, rfl, hs⟩ := hrel
    by_cases hgo : k < len ∧ k < 60
    · obtain ⟨h1, h2⟩ := hgo
      have hinv := hs.hold.hold.inv
      obtain ⟨g, o, rfl, hgl, hcs, hwf⟩ := HX.out.below hs.hold.hold.below k h1
      have hrun : runA f (k + 1) = (apR (runA f k) (f k)).1 := rfl
      generalize hr : f k = r at *
      obtain ⟨K, S, Pg, A, T, Nn⟩ := r
      obtain ⟨q0, q1, q2, q3, q4, q5⟩ := hcs
      simp only at q0 q1 q2 q3 q4 q5
      obtain ⟨a0, m0, c0, rfl⟩ := hs.at'.sp.isSl
      obtain ⟨a1, m1, c1, rfl⟩ := hs.at'.lv.isSl
      obtain ⟨a2, m2, c2, rfl⟩ := hs.at'.bad.isSl
      obtain ⟨a3, m3, c3, rfl⟩ := hs.at'.worn.isSl
      have C10 : ∀ W, Below wr.heap.size wr W → Calls Try.prog 10 #[.agg #[.slice a0 m0 c0, .slice a1 m1 c1, .slice a2 m2 c2, .slice a3 m3 c3], .agg #[.int .i64 K, .int .i64 S, .int .i64 Pg, .int .i64 A, .int .i64 T, .int .i64 Nn]] W (DoR W w.heap.size (.slice a0 m0 c0) (.slice a1 m1 c1) (.slice a2 m2 c2) (.slice a3 m3 c3) (rs (apR (runA f k) (K, S, Pg, A, T, Nn)).1, (apR (runA f k) (K, S, Pg, A, T, Nn)).2)) := fun W b => by
        have q := rapply_any (hs.call b).at' (Nat.le_trans hs.hold.hold.below.size b.size) (lens_rs hinv) K S Pg A T Nn
        rw [ap_same hinv] at q
        exact q
      have kS : Hid (∀ w', Below wr.heap.size wr w' → Below wr.heap.size wr w' ∧ (w'.cell? ⟨g4, 0, none⟩ = some (.slice a0 m0 c0) ∧ w'.cell? ⟨g4, 1, none⟩ = some (.slice a1 m1 c1) ∧ w'.cell? ⟨g4, 2, none⟩ = some (.slice a2 m2 c2) ∧ w'.cell? ⟨g4, 3, none⟩ = some (.slice a3 m3 c3)) ∧ (w'.cell? ⟨g, o + k * 6, none⟩ = some (.int .i64 K) ∧ w'.cell? ⟨g, o + k * 6 + 1, none⟩ = some (.int .i64 S) ∧ w'.cell? ⟨g, o + k * 6 + 2, none⟩ = some (.int .i64 Pg) ∧ w'.cell? ⟨g, o + k * 6 + 3, none⟩ = some (.int .i64 A) ∧ w'.cell? ⟨g, o + k * 6 + 4, none⟩ = some (.int .i64 T) ∧ w'.cell? ⟨g, o + k * 6 + 5, none⟩ = some (.int .i64 Nn))) := fun w' q =>
        ⟨q, (hs.box.call q).cells, (q.cell (p := ⟨g, o + k * 6, none⟩) hgl).trans q0, (q.cell (p := ⟨g, o + k * 6 + 1, none⟩) hgl).trans q1, (q.cell (p := ⟨g, o + k * 6 + 2, none⟩) hgl).trans q2, (q.cell (p := ⟨g, o + k * 6 + 3, none⟩) hgl).trans q3, (q.cell (p := ⟨g, o + k * 6 + 4, none⟩) hgl).trans q4, (q.cell (p := ⟨g, o + k * 6 + 5, none⟩) hgl).trans q5⟩
      generalize hE : (apR (runA f k) (K, S, Pg, A, T, Nn)).2 = E at *
      generalize ht' : (apR (runA f k) (K, S, Pg, A, T, Nn)).1 = t' at *
      have HR := Hid.mk hr
      have HS := Hid.mk (And.intro hs (And.intro C10 (And.intro hrun (And.intro hE (And.intro ht' hinv)))))
      clear hs C10 hrun hE ht' hr hwf hinv
      go_upto_region 7 with fail
      clear q0 q1 q2 q3 q4 q5
      go_cut [6, 7] from 16 to 34 (fun v6 v7 wx => ∃ gn u0 u1 u2 u3, v6 = .pointer (some ⟨gn, 0, none⟩) ∧ v7 = .int .i64 E ∧ NxS w P g4 (runA f k) t' wr gn u0 u1 u2 u3 wx)
      case first =>
        go_region_held3 (fun w' => Below wr.heap.size wr w' ∧ (w'.cell? ⟨g4, 0, none⟩ = some (.slice a0 m0 c0) ∧ w'.cell? ⟨g4, 1, none⟩ = some (.slice a1 m1 c1) ∧ w'.cell? ⟨g4, 2, none⟩ = some (.slice a2 m2 c2) ∧ w'.cell? ⟨g4, 3, none⟩ = some (.slice a3 m3 c3)) ∧ (w'.cell? ⟨g, o + k * 6, none⟩ = some (.int .i64 K) ∧ w'.cell? ⟨g, o + k * 6 + 1, none⟩ = some (.int .i64 S) ∧ w'.cell? ⟨g, o + k * 6 + 2, none⟩ = some (.int .i64 Pg) ∧ w'.cell? ⟨g, o + k * 6 + 3, none⟩ = some (.int .i64 A) ∧ w'.cell? ⟨g, o + k * 6 + 4, none⟩ = some (.int .i64 T) ∧ w'.cell? ⟨g, o + k * 6 + 5, none⟩ = some (.int .i64 Nn)))
          (first | assumption | exact kS.out _ (Below.refl _ wr) | exact kS.out _ (Below.refl _ wr).drew | exact kS.out _ (below3 (And.left (by assumption)) (by assumption)) | exact kS.out _ (below3 (And.left (by assumption)) (below_al _ _)) | exact kS.out _ (below_al wr _).drew | exact kS.out _ (below_al _ _) | exact kS.out _ (below3 (below3 (Below.refl _ wr).drew (by assumption)) (below_al _ _)) | exact kS.out (set4 w5 wr.heap.size _ _ _ _) (kp_bel (below3 (below_al wr _).drew (by assumption)) (set4_kp w5 wr.heap.size wr.heap.size _ _ _ _) (Nat.le_refl _) (Nat.le_refl _)) | fail)
          (first | (go_at_call 10; refine (HS.out.2.1 _ (And.left (by assumption))).mono ?_; rintro e w5 ⟨u0, u1, u2, u3, rfl, R5, b5, o0, o1, o2, o3⟩; obtain ⟨s0, t0, s0', rfl⟩ := R5.sp.isSl; obtain ⟨s1, t1, s1', rfl⟩ := R5.lv.isSl; obtain ⟨s2, t2, s2', rfl⟩ := R5.bad.isSl; obtain ⟨s3, t3, s3', rfl⟩ := R5.worn.isSl; simp only; try (have X5 : Box4 w5 wr.heap.size (.slice none 0 0) (.slice none 0 0) (.slice none 0 0) (.slice none 0 0) := (b5.block wr.heap.size (by show _ < (wr.alloc _).heap.size; rw [size_alloc]; omega)).trans (heap_alloc_new wr _); obtain ⟨z0, z1, z2, z3⟩ := X5.cells; have y0 := X5.fz 0; have y1 := X5.fz 1; have y2 := X5.fz 2; have y3 := X5.fz 3)))
        all_goals
          go_wp2_with fail
          go_meet
          first
            | exact ⟨_, _, _, _, _, rfl, rfl, HS.out.1.nxA b5 R5 o0 o1 o2 o3⟩
            | exact ⟨_, _, _, _, _, rfl, rfl, HS.out.1.nxB b5 R5 o0 o1 o2 o3⟩
      case rest =>
        obtain ⟨gn, u0, u1, u2, u3, rfl, rfl, hN⟩ := hcut
        obtain ⟨s0, t0, s0', rfl⟩ := hN.at'.sp.isSl
        obtain ⟨s1, t1, s1', rfl⟩ := hN.at'.lv.isSl
        obtain ⟨s2, t2, s2', rfl⟩ := hN.at'.bad.isSl
        obtain ⟨s3, t3, s3', rfl⟩ := hN.at'.worn.isSl
        obtain ⟨b0, b1, b2, b3⟩ := hN.box.cells
        have hb4 := HS.out.1.box.call hN.bel
        obtain ⟨z0, z1, z2, z3⟩ := hb4.cells
        have y0 := hb4.fz 0
        have y1 := hb4.fz 1
        have y2 := hb4.fz 2
        have y3 := hb4.fz 3
        have hP9 : PxS w P g4 (runA f k) t' (.slice s0 t0 s0') (.slice s1 t1 s1') (.slice s2 t2 s2') (.slice s3 t3 s3') (set4 wc g4 (.slice s0 t0 s0') (.slice s1 t1 s1') (.slice s2 t2 s2') (.slice s3 t3 s3')) := hN.put hb4
        replace hP9 := Hid.mk hP9
        have HN := Hid.mk hN
        clear hN hb4 kS
        go_upto_region 9 with fail
        clear b0 b1 b2 b3 z0 z1 z2 z3 y0 y1 y2 y3
        have hP8 := hP9.out
        clear hP9
        unfold set4 at hP8
        generalize (((wc.setCell ⟨g4, 0, none⟩ (.slice s0 t0 s0')).setCell ⟨g4, 1, none⟩ (.slice s1 t1 s1')).setCell ⟨g4, 2, none⟩ (.slice s2 t2 s2')).setCell ⟨g4, 3, none⟩ (.slice s3 t3 s3') = W9 at *
        have hrec : Hid (∀ W, Below w.heap.size w W → g < W.heap.size ∧ (W.cell? ⟨g, o + k * 6, none⟩ = some (.int .i64 K) ∧ W.cell? ⟨g, o + k * 6 + 1, none⟩ = some (.int .i64 S) ∧ W.cell? ⟨g, o + k * 6 + 2, none⟩ = some (.int .i64 Pg) ∧ W.cell? ⟨g, o + k * 6 + 3, none⟩ = some (.int .i64 A) ∧ W.cell? ⟨g, o + k * 6 + 4, none⟩ = some (.int .i64 T) ∧ W.cell? ⟨g, o + k * 6 + 5, none⟩ = some (.int .i64 Nn)) ∧ K64 S ∧ K64 Pg) := fun W b => by
          obtain ⟨g', o', eq, hgl', hcs', hwf'⟩ := HX.out.below b k h1
          cases eq
          rw [HR.out] at hcs' hwf'
          exact ⟨hgl', hcs', hwf'.2.1, hwf'.2.2.1⟩
        obtain ⟨hg9, ⟨q0, q1, q2, q3, q4, q5⟩, hkS, hkP⟩ := hrec.out W9 hP8.hold.hold.below
        have hap := applyZ hP8.hold (K, S, Pg, A, T, Nn)
        unfold rv at hap
        simp only at hap
        rw [HS.out.2.2.2.1, HS.out.2.2.2.2.1] at hap
        have HA := Hid.mk (And.intro hap hP8)
        have hrun := Hid.mk HS.out.2.2.1
        clear hap hP8 HS HN
        go_upto_region 11 with (first | (go_at_call 11; refine HA.out.1.mono ?_; rintro e w6 ⟨rfl, hz6, hs6, bz6⟩; have hP6 := HA.out.2.fin hz6 hs6; obtain ⟨k0, k1, k2, k3⟩ := hP6.box.cells; replace hP6 := Hid.mk hP6; clear hz6 hs6 bz6) | (go_at_call 12; refine hP6.out.same.mono ?_; rintro e w7 ⟨rfl, b7⟩))
        have hP7 := hP6.out.call b7
        clear hP6 b7 q0 q1 q2 q3 q4 q5 hg9 HA
        have hinv' := hP7.hold.hold.inv
        have hgv : gL S Pg (rs t').lv = getA t' S Pg := by
          show gL S Pg (lvA t'.sp) = _
          rw [gL_lvA S Pg hinv'.up]
          unfold getA
          cases gA t'.sp S <;> rfl
        have C13 : ∀ W, Below w7.heap.size w7 W → Calls Try.prog 13 #[.pointer (some ⟨P, 0, none⟩), .int .i64 S, .int .i64 Pg] W fun e w' => e = .returned (.tuple #[.int .i64 ((getA t' S Pg).getD 0), .bool (getA t' S Pg).isSome]) ∧ W = w' := fun W b => hold_get (hP7.call b).hold.hold hkS hkP
        have C14 : ∀ W, Below w7.heap.size w7 W → Calls Try.prog 14 #[.agg #[.slice s0 t0 s0', .slice s1 t1 s1', .slice s2 t2 s2', .slice s3 t3 s3'], .int .i64 S, .int .i64 Pg] W fun e w' => e = .returned (.tuple #[.int .i64 ((getA t' S Pg).getD 0), .bool (getA t' S Pg).isSome]) ∧ Below W.heap.size W w' := fun W b => by
          have q := rget_any (hP7.call b).at' (by have := (lens_rs hinv').2.1; omega) S Pg
          rw [hgv] at q
          exact q
        generalize (getA t' S Pg).getD 0 = gv at *
        generalize (getA t' S Pg).isSome = gb at *
        have kS : Hid (∀ w', Below w7.heap.size w7 w' → Below w7.heap.size w7 w' ∧ (w'.cell? ⟨g4, 0, none⟩ = some (.slice s0 t0 s0') ∧ w'.cell? ⟨g4, 1, none⟩ = some (.slice s1 t1 s1') ∧ w'.cell? ⟨g4, 2, none⟩ = some (.slice s2 t2 s2') ∧ w'.cell? ⟨g4, 3, none⟩ = some (.slice s3 t3 s3')) ∧ w'.cell? ⟨g, o + k * 6 + 1, none⟩ = some (.int .i64 S) ∧ w'.cell? ⟨g, o + k * 6 + 2, none⟩ = some (.int .i64 Pg)) := fun w' q => by
          have hr9 := hrec.out w' (hP7.call q).hold.hold.below
          exact ⟨q, (hP7.box.call q).cells, hr9.2.1.2.1, hr9.2.1.2.2.1⟩
        obtain ⟨_, _, x1, x2⟩ := kS.out w7 (Below.refl _ w7)
        have HK := Hid.mk (And.intro C13 (And.intro C14 hP7))
        clear C13 C14 hP7 hgv hinv'
        as_aux_lemma =>
          go_region_held3 (fun w' => Below w7.heap.size w7 w' ∧ (w'.cell? ⟨g4, 0, none⟩ = some (.slice s0 t0 s0') ∧ w'.cell? ⟨g4, 1, none⟩ = some (.slice s1 t1 s1') ∧ w'.cell? ⟨g4, 2, none⟩ = some (.slice s2 t2 s2') ∧ w'.cell? ⟨g4, 3, none⟩ = some (.slice s3 t3 s3')) ∧ w'.cell? ⟨g, o + k * 6 + 1, none⟩ = some (.int .i64 S) ∧ w'.cell? ⟨g, o + k * 6 + 2, none⟩ = some (.int .i64 Pg))
            (first | assumption | exact kS.out _ (Below.refl _ w7) | exact kS.out _ (Below.refl _ w7).drew | exact kS.out _ (Below.refl _ w7).drew.drew | exact kS.out _ (below_drewN (Below.refl _ w7)).drew | exact kS.out _ (below3 (And.left (by assumption)) (by assumption)) | fail)
            (first | (go_at_call 13; refine (HK.out.1 _ (And.left (by assumption))).mono ?_; rintro e w8 ⟨rfl, rfl⟩))
          go_upto_region 12 with fail
          clear x1 x2
          go_region_held3 (fun w' => Below w7.heap.size w7 w' ∧ (w'.cell? ⟨g4, 0, none⟩ = some (.slice s0 t0 s0') ∧ w'.cell? ⟨g4, 1, none⟩ = some (.slice s1 t1 s1') ∧ w'.cell? ⟨g4, 2, none⟩ = some (.slice s2 t2 s2') ∧ w'.cell? ⟨g4, 3, none⟩ = some (.slice s3 t3 s3')) ∧ w'.cell? ⟨g, o + k * 6 + 1, none⟩ = some (.int .i64 S) ∧ w'.cell? ⟨g, o + k * 6 + 2, none⟩ = some (.int .i64 Pg))
            (first | assumption | exact kS.out _ (Below.refl _ w7) | exact kS.out _ (Below.refl _ w7).drew | exact kS.out _ (Below.refl _ w7).drew.drew | exact kS.out _ (below_drewN (Below.refl _ w7)).drew | exact kS.out _ (below3 (And.left (by assumption)) (by assumption)) | fail)
            (first | (go_at_call 14; refine (HK.out.2.1 _ (And.left (by assumption))).mono ?_; rintro e w9 ⟨rfl, b9⟩))
          have hb9 : Hid (Below w7.heap.size w7 w9) := And.left (by assumption)
          have hP10 := Hid.mk (HK.out.2.2.call hb9.out)
          rw [← hrun.out] at hP10
          clear b9 kS HK
          go_wp2_with fail
          exact ⟨⟨k + 1, _, _, _, _, by omega, by omega, by go_num, hP10.out⟩, by simp [intOf]; omega⟩
    · have HS := Hid.mk hs.hold.hold.below
      clear hs
      by_cases h1 : k < len
      · have h2 : k = 60 := by omega
        subst h2
        go_wp2_with fail
        go_ret
        exact ⟨rfl, HS.out⟩
      · have h2 : k = len := by omega
        subst h2
        go_wp2_with fail
        go_ret
        exact ⟨rfl, HS.out⟩
end Go.Proofs.Ytafeclgghgipcaa
