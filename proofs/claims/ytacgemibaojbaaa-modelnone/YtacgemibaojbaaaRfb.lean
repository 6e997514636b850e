/-
  The answer's state with a page, and without: the walks of with and without. No condition.
-/
import Derived.Test.YtacgemibaojbaaaRfa
namespace Go.Proofs.Ytacgemibaojbaaa
open Go Go.RowKit Go.Maps

theorem cells33 : (Try.prog.info? 33).map (·.size) = some 4 := by kernel_rfl
theorem st_result {fn : Func} {p : Tmp} (h : fn.results = #[.cell p 33]) {tmps : Array Value} {w : World} {g : Nat} {v0 v1 v2 v3 : Value} (hp : tmps.getD p undef = .pointer (some ⟨g, 0, none⟩)) (hg : Box4 w g v0 v1 v2 v3) :
    (results fn tmps).run Try.prog w = .ok (.agg #[v0, v1, v2, v3]) w :=
  results_cell_row h tmps w g 33 #[v0, v1, v2, v3] (0, 0) _ hp hg Try.underlying33 rfl cells33
def Kp (w w' : World) (a b : Nat) : Prop := w'.os = w.os ∧ w'.tape = w.tape ∧ w'.output = w.output ∧ w'.heap.size = w.heap.size ∧ ∀ i, i ≠ a → i ≠ b → w'.heap[i]? = w.heap[i]?
theorem kp_set (w : World) (a b g j : Nat) (hg : g = a ∨ g = b) (v : Value) : Kp w (w.setCell ⟨g, j, none⟩ v) a b := by
  refine ⟨rfl, rfl, rfl, by simp [World.setCell], fun i h1 h2 => heap_setCell_other w _ i v ?_⟩
  intro e
  rcases hg with h | h
  · exact h1 (e.trans h)
  · exact h2 (e.trans h)
theorem kp_trans {w1 w2 w3 : World} {a b : Nat} (h : Kp w1 w2 a b) (k : Kp w2 w3 a b) : Kp w1 w3 a b :=
  ⟨k.1.trans h.1, k.2.1.trans h.2.1, k.2.2.1.trans h.2.2.1, k.2.2.2.1.trans h.2.2.2.1, fun i h1 h2 => (k.2.2.2.2 i h1 h2).trans (h.2.2.2.2 i h1 h2)⟩
/-- the four fields stored into the answer's block -/
def set4 (w : World) (g : Nat) (v0 v1 v2 v3 : Value) : World := (((w.setCell ⟨g, 0, none⟩ v0).setCell ⟨g, 1, none⟩ v1).setCell ⟨g, 2, none⟩ v2).setCell ⟨g, 3, none⟩ v3
theorem set4_box {w : World} {g : Nat} {z0 z1 z2 z3 : Value} (h : Box4 w g z0 z1 z2 z3) (v0 v1 v2 v3 : Value) : Box4 (set4 w g v0 v1 v2 v3) g v0 v1 v2 v3 := by
  unfold set4 Box4
  have h1 := heap_setCell_same w g 0 _ 33 v0 h
  have h2 := heap_setCell_same _ g 1 _ 33 v1 h1
  have h3 := heap_setCell_same _ g 2 _ 33 v2 h2
  exact heap_setCell_same _ g 3 _ 33 v3 h3
theorem set4_kp (w : World) (a g : Nat) (v0 v1 v2 v3 : Value) : Kp w (set4 w g v0 v1 v2 v3) a g :=
  kp_trans (kp_trans (kp_trans (kp_set _ _ _ _ _ (.inr rfl) _) (kp_set _ _ _ _ _ (.inr rfl) _)) (kp_set _ _ _ _ _ (.inr rfl) _)) (kp_set _ _ _ _ _ (.inr rfl) _)
theorem kp_bel {w w5 w6 : World} {a b : Nat} (h : Bel w w5) (k : Kp w5 w6 a b) (ha : w.heap.size ≤ a) (hb : w.heap.size ≤ b) : Below w.heap.size w w6 := by
  have h' : Below w.heap.size w w5 := h
  exact ⟨k.1.trans h'.os, k.2.1.trans h'.tape, k.2.2.1.trans h'.output, by rw [k.2.2.2.1]; exact h'.size, fun i hi => (k.2.2.2.2 i (by omega) (by omega)).trans (h'.block i hi)⟩
theorem Ow.kp {w w' : World} {B e sz v rows a b} (h : Ow w B e sz v rows) (k : Kp w w' a b) (ha : v.ownBlock ≠ some a) (hb : v.ownBlock ≠ some b) : Ow w' B e sz v rows :=
  h.same fun g hg => k.2.2.2.2 g (fun e => ha (e ▸ hg)) (fun e => hb (e ▸ hg))
theorem bel_app {W0 wr wr1 w3 : World} {B e sz v rows} (h : Ow wr B e sz v rows) (hB : W0.heap.size ≤ B) (b : Bel W0 wr) (b1 : Bel wr wr1) (g : wr1.grownBy w3 v.ownBlock) : Bel W0 w3 := by
  have b2 : Below W0.heap.size W0 wr1 := below3 b b1
  exact b2.grown g b2.size (fun k hk => Nat.le_trans hB (h.lt k hk).1)
theorem Bel.refl (w : World) : Bel w w := Below.refl _ w
theorem Bel.trans {a b c : World} (h : Bel a b) (k : Bel b c) : Bel a c := below3 h k
theorem Bel.alloc {a b : World} (h : Bel a b) (o : Obj) : Bel a (b.alloc o) := Below.alloc h (Below.size h) o
/-- a page put into the list -/
def wI (x : L3) : Bool → List L3 → List L3
  | i, [] => if i then [] else [x]
  | i, y :: r => (if !i && (decide (x.1 < y.1) || (decide (y.1 = x.1) && decide (x.2.1 ≤ y.2.1))) then [x] else []) ++ (if decide (y.1 ≠ x.1) || decide (y.2.1 ≠ x.2.1) then [y] else []) ++ wI x (i || (decide (x.1 < y.1) || (decide (y.1 = x.1) && decide (x.2.1 ≤ y.2.1)))) r
theorem with_lenT (x : L3) (l : List L3) : (wI x true l).length ≤ l.length := by
  induction l with
  | nil => simp [wI]
  | cons z t ih =>
    unfold wI
    simp only [Bool.not_true, Bool.false_and, Bool.false_eq_true, if_false, List.nil_append, Bool.true_or, List.length_append, List.length_cons]
    split <;> simp <;> omega
theorem with_len (x : L3) (l : List L3) : (wI x false l).length ≤ l.length + 1 := by
  induction l with
  | nil => simp [wI]
  | cons z t ih =>
    unfold wI
    rw [List.length_append, List.length_append, List.length_cons]
    have hT := with_lenT x t
    cases hc : (decide (x.1 < z.1) || (decide (z.1 = x.1) && decide (x.2.1 ≤ z.2.1))) with
    | false =>
      simp only [Bool.and_false, Bool.false_eq_true, if_false, Bool.or_false, List.length_nil]
      split <;> simp <;> omega
    | true =>
      simp only [Bool.not_false, Bool.and_true, if_true, Bool.or_true, List.length_singleton]
      split <;> simp <;> omega
theorem wI_case (x y : L3) (i c kp : Bool) (r : List L3) (hc : (decide (x.1 < y.1) || (decide (y.1 = x.1) && decide (x.2.1 ≤ y.2.1))) = c) (hk : (decide (y.1 ≠ x.1) || decide (y.2.1 ≠ x.2.1)) = kp) : wI x i (y :: r) = (if !i && c then [x] else []) ++ (if kp then [y] else []) ++ wI x (i || c) r := by
  unfold wI
  rw [hc, hk]
  cases r <;> rfl
structure WiS (W0 : World) (G : Nat) (v : Value) (outL : List L3) (wr : World) : Prop where
  out : Ow wr (G + 3) 90 3 v (outL.map rL)
  bel : Bel W0 wr
  z : W0.heap.size = G + 3
theorem WiS.app {W0 G v v3 outL wr wr1 w3} {y : L3} (h : WiS W0 G v outL wr) (b1 : Bel wr wr1) (g : wr1.grownBy w3 v.ownBlock) (o : Ow w3 (G + 3) 90 3 v3 (outL.map rL ++ [#[Value.int .i64 y.1, .int .i64 y.2.1, .int .i64 y.2.2].toList])) : WiS W0 G v3 (outL ++ [y]) w3 :=
  ⟨by rw [List.map_append]; exact o, bel_app h.out (by rw [h.z]; exact Nat.le_refl _) h.bel b1 g, h.z⟩
theorem WiS.al {W0 G v outL wr} (h : WiS W0 G v outL wr) (o : Obj) : WiS W0 G v outL (wr.alloc o) := ⟨h.out.alloc o, h.bel.alloc o, h.z⟩
theorem WiS.le {W0 G v outL wr} (h : WiS W0 G v outL wr) : G + 3 ≤ wr.heap.size := by have := h.z; have := Below.size h.bel; omega
theorem y_kept {wr w3 : World} {B : Nat} {v : Value} {rows : Rws} {a b c : Int} (g3 : (wr.alloc (.cells #[.int .i64 a, .int .i64 b, .int .i64 c] 90)).grownBy w3 v.ownBlock) (o : Ow wr B 90 3 v rows) :
    w3.cell? ⟨wr.heap.size, 0, none⟩ = some (.int .i64 a) ∧ w3.cell? ⟨wr.heap.size, 1, none⟩ = some (.int .i64 b) ∧ w3.cell? ⟨wr.heap.size, 2, none⟩ = some (.int .i64 c) := by
  have h := heap_alloc_new wr (.cells #[.int .i64 a, .int .i64 b, .int .i64 c] 90)
  have h2 := (g3.block wr.heap.size (by rw [size_alloc]; omega) (fun e => Nat.lt_irrefl _ (o.lt _ e.symm).2)).trans h
  refine ⟨?_, ?_, ?_⟩ <;> (rw [cell_of_row w3 _ _ _ 90 _ h2]; rfl)
/-- a slice's value -/
def IsSl (v : Value) : Prop := ∃ a n c, v = .slice a n c
theorem Ow.isSl {w : World} {B e sz v rows} (h : Ow w B e sz v rows) : IsSl v := by
  obtain ⟨a, c, rfl⟩ := h.form
  exact ⟨_, _, _, rfl⟩
theorem end_sp {w W0 wr : World} {B gR Bo : Nat} {v0 v1 v2 v3 v z0 z1 z2 z3 : Value} {m : Rs} {R0 : List S3} (hB : B ≤ w.heap.size) (H : RAt w B v0 v1 v2 v3 m) (b0 : Bel w W0) (_s0 : Box4 W0 w.heap.size v0 v1 v2 v3) (q0 : Box4 W0 gR z0 z1 z2 z3) (hgR : w.heap.size < gR ∧ gR < Bo) (bel : Bel W0 wr) (out : Ow wr Bo 87 3 v (R0.map rS)) :
    Box4 (set4 (wr.setCell ⟨w.heap.size, 0, none⟩ v) gR v v1 v2 v3) gR v v1 v2 v3 ∧ RAt (set4 (wr.setCell ⟨w.heap.size, 0, none⟩ v) gR v v1 v2 v3) B v v1 v2 v3 { m with sp := R0 } ∧ (∀ g, v.ownBlock = some g → w.heap.size ≤ g) ∧ Below w.heap.size w (set4 (wr.setCell ⟨w.heap.size, 0, none⟩ v) gR v v1 v2 v3) := by
  have k1 : Kp wr (wr.setCell ⟨w.heap.size, 0, none⟩ v) w.heap.size gR := kp_set _ _ _ _ _ (.inl rfl) _
  have k2 := kp_trans k1 (set4_kp _ w.heap.size gR v v1 v2 v3)
  have q1 : Box4 (wr.setCell ⟨w.heap.size, 0, none⟩ v) gR z0 z1 z2 z3 := (heap_setCell_other _ _ _ _ (by show gR ≠ w.heap.size; omega)).trans (q0.call bel)
  exact ⟨set4_box q1 _ _ _ _, ⟨(out.lower (by omega)).kp k2 (fun e => by have := (out.lt _ e).1; omega) (fun e => by have := (out.lt _ e).1; omega),
    ((H.lv.call b0).call bel).kp k2 (fun e => by have := (H.lv.lt _ e).2; omega) (fun e => by have := (H.lv.lt _ e).2; omega),
    ((H.bad.call b0).call bel).kp k2 (fun e => by have := (H.bad.lt _ e).2; omega) (fun e => by have := (H.bad.lt _ e).2; omega),
    ((H.worn.call b0).call bel).kp k2 (fun e => by have := (H.worn.lt _ e).2; omega) (fun e => by have := (H.worn.lt _ e).2; omega)⟩, fun g hg => by have := (out.lt _ hg).1; omega, kp_bel (b0.trans bel) k2 (Nat.le_refl _) (by omega)⟩
theorem end_lv {w W0 wr : World} {B gR Bo : Nat} {v0 v1 v2 v3 v z0 z1 z2 z3 : Value} {m : Rs} {R0 : List L3} (hB : B ≤ w.heap.size) (H : RAt w B v0 v1 v2 v3 m) (b0 : Bel w W0) (_s0 : Box4 W0 w.heap.size v0 v1 v2 v3) (q0 : Box4 W0 gR z0 z1 z2 z3) (hgR : w.heap.size < gR ∧ gR < Bo) (bel : Bel W0 wr) (out : Ow wr Bo 90 3 v (R0.map rL)) :
    Box4 (set4 (wr.setCell ⟨w.heap.size, 1, none⟩ v) gR v0 v v2 v3) gR v0 v v2 v3 ∧ RAt (set4 (wr.setCell ⟨w.heap.size, 1, none⟩ v) gR v0 v v2 v3) B v0 v v2 v3 { m with lv := R0 } ∧ (∀ g, v.ownBlock = some g → w.heap.size ≤ g) ∧ Below w.heap.size w (set4 (wr.setCell ⟨w.heap.size, 1, none⟩ v) gR v0 v v2 v3) := by
  have k1 : Kp wr (wr.setCell ⟨w.heap.size, 1, none⟩ v) w.heap.size gR := kp_set _ _ _ _ _ (.inl rfl) _
  have k2 := kp_trans k1 (set4_kp _ w.heap.size gR v0 v v2 v3)
  have q1 : Box4 (wr.setCell ⟨w.heap.size, 1, none⟩ v) gR z0 z1 z2 z3 := (heap_setCell_other _ _ _ _ (by show gR ≠ w.heap.size; omega)).trans (q0.call bel)
  exact ⟨set4_box q1 _ _ _ _, ⟨((H.sp.call b0).call bel).kp k2 (fun e => by have := (H.sp.lt _ e).2; omega) (fun e => by have := (H.sp.lt _ e).2; omega),
    (out.lower (by omega)).kp k2 (fun e => by have := (out.lt _ e).1; omega) (fun e => by have := (out.lt _ e).1; omega),
    ((H.bad.call b0).call bel).kp k2 (fun e => by have := (H.bad.lt _ e).2; omega) (fun e => by have := (H.bad.lt _ e).2; omega),
    ((H.worn.call b0).call bel).kp k2 (fun e => by have := (H.worn.lt _ e).2; omega) (fun e => by have := (H.worn.lt _ e).2; omega)⟩, fun g hg => by have := (out.lt _ hg).1; omega, kp_bel (b0.trans bel) k2 (Nat.le_refl _) (by omega)⟩
theorem end_bad {w W0 wr : World} {B gR Bo : Nat} {v0 v1 v2 v3 v z0 z1 z2 z3 : Value} {m : Rs} {R0 : List Int} (hB : B ≤ w.heap.size) (H : RAt w B v0 v1 v2 v3 m) (b0 : Bel w W0) (_s0 : Box4 W0 w.heap.size v0 v1 v2 v3) (q0 : Box4 W0 gR z0 z1 z2 z3) (hgR : w.heap.size < gR ∧ gR < Bo) (bel : Bel W0 wr) (out : Ow wr Bo 3 1 v (rI R0)) :
    Box4 (set4 (wr.setCell ⟨w.heap.size, 2, none⟩ v) gR v0 v1 v v3) gR v0 v1 v v3 ∧ RAt (set4 (wr.setCell ⟨w.heap.size, 2, none⟩ v) gR v0 v1 v v3) B v0 v1 v v3 { m with bad := R0 } ∧ (∀ g, v.ownBlock = some g → w.heap.size ≤ g) ∧ Below w.heap.size w (set4 (wr.setCell ⟨w.heap.size, 2, none⟩ v) gR v0 v1 v v3) := by
  have k1 : Kp wr (wr.setCell ⟨w.heap.size, 2, none⟩ v) w.heap.size gR := kp_set _ _ _ _ _ (.inl rfl) _
  have k2 := kp_trans k1 (set4_kp _ w.heap.size gR v0 v1 v v3)
  have q1 : Box4 (wr.setCell ⟨w.heap.size, 2, none⟩ v) gR z0 z1 z2 z3 := (heap_setCell_other _ _ _ _ (by show gR ≠ w.heap.size; omega)).trans (q0.call bel)
  exact ⟨set4_box q1 _ _ _ _, ⟨((H.sp.call b0).call bel).kp k2 (fun e => by have := (H.sp.lt _ e).2; omega) (fun e => by have := (H.sp.lt _ e).2; omega),
    ((H.lv.call b0).call bel).kp k2 (fun e => by have := (H.lv.lt _ e).2; omega) (fun e => by have := (H.lv.lt _ e).2; omega),
    (out.lower (by omega)).kp k2 (fun e => by have := (out.lt _ e).1; omega) (fun e => by have := (out.lt _ e).1; omega),
    ((H.worn.call b0).call bel).kp k2 (fun e => by have := (H.worn.lt _ e).2; omega) (fun e => by have := (H.worn.lt _ e).2; omega)⟩, fun g hg => by have := (out.lt _ hg).1; omega, kp_bel (b0.trans bel) k2 (Nat.le_refl _) (by omega)⟩
theorem end_worn {w W0 wr : World} {B gR Bo : Nat} {v0 v1 v2 v3 v z0 z1 z2 z3 : Value} {m : Rs} {R0 : Pl} (hB : B ≤ w.heap.size) (H : RAt w B v0 v1 v2 v3 m) (b0 : Bel w W0) (_s0 : Box4 W0 w.heap.size v0 v1 v2 v3) (q0 : Box4 W0 gR z0 z1 z2 z3) (hgR : w.heap.size < gR ∧ gR < Bo) (bel : Bel W0 wr) (out : Ow wr Bo 122 2 v (R0.map rP)) :
    Box4 (set4 (wr.setCell ⟨w.heap.size, 3, none⟩ v) gR v0 v1 v2 v) gR v0 v1 v2 v ∧ RAt (set4 (wr.setCell ⟨w.heap.size, 3, none⟩ v) gR v0 v1 v2 v) B v0 v1 v2 v { m with worn := R0 } ∧ (∀ g, v.ownBlock = some g → w.heap.size ≤ g) ∧ Below w.heap.size w (set4 (wr.setCell ⟨w.heap.size, 3, none⟩ v) gR v0 v1 v2 v) := by
  have k1 : Kp wr (wr.setCell ⟨w.heap.size, 3, none⟩ v) w.heap.size gR := kp_set _ _ _ _ _ (.inl rfl) _
  have k2 := kp_trans k1 (set4_kp _ w.heap.size gR v0 v1 v2 v)
  have q1 : Box4 (wr.setCell ⟨w.heap.size, 3, none⟩ v) gR z0 z1 z2 z3 := (heap_setCell_other _ _ _ _ (by show gR ≠ w.heap.size; omega)).trans (q0.call bel)
  exact ⟨set4_box q1 _ _ _ _, ⟨((H.sp.call b0).call bel).kp k2 (fun e => by have := (H.sp.lt _ e).2; omega) (fun e => by have := (H.sp.lt _ e).2; omega),
    ((H.lv.call b0).call bel).kp k2 (fun e => by have := (H.lv.lt _ e).2; omega) (fun e => by have := (H.lv.lt _ e).2; omega),
    ((H.bad.call b0).call bel).kp k2 (fun e => by have := (H.bad.lt _ e).2; omega) (fun e => by have := (H.bad.lt _ e).2; omega),
    (out.lower (by omega)).kp k2 (fun e => by have := (out.lt _ e).1; omega) (fun e => by have := (out.lt _ e).1; omega)⟩, fun g hg => by have := (out.lt _ hg).1; omega, kp_bel (b0.trans bel) k2 (Nat.le_refl _) (by omega)⟩
set_option maxRecDepth 20000 in
set_option maxHeartbeats 4000000 in
theorem rwith_any {w : World} {B v0 v1 v2 v3 m} (h : RAt w B v0 v1 v2 v3 m) (hn : m.lv.length < 100000) (hB : B ≤ w.heap.size) (x : L3) : Calls Try.prog 56 #[.agg #[v0, v1, v2, v3], .agg #[.int .i64 x.1, .int .i64 x.2.1, .int .i64 x.2.2]] w fun e w' => ∃ v, e = .returned (.agg #[v0, v, v2, v3]) ∧ RAt w' B v0 v v2 v3 { m with lv := wI x false m.lv } ∧ (∀ g, v.ownBlock = some g → w.heap.size ≤ g) ∧ Below w.heap.size w w' := by
  obtain ⟨a0, n0, c0, rfl⟩ := h.sp.isSl
  obtain ⟨a2, n2, c2, rfl⟩ := h.bad.isSl
  obtain ⟨a3, n3, c3, rfl⟩ := h.worn.isSl
  obtain ⟨a1, c1, rfl⟩ := h.lv.form
  rw [List.length_map] at h ⊢
  obtain ⟨x1, x2, x3⟩ := x
  simp only
  generalize hR : wI (x1, x2, x3) false m.lv = R0
  have hRl : R0.length ≤ m.lv.length + 1 := by rw [← hR]; exact with_len _ _
  have H := Hid.mk h
  clear h
  go_enter Try.func56, Try.ntmps56
  go_upto_region 1 with fail
  have e0 : ((w.alloc (.cells #[(.slice a0 n0 c0), .slice a1 m.lv.length c1, (.slice a2 n2 c2), (.slice a3 n3 c3)] 33)).alloc (.cells #[.int .i64 x1, .int .i64 x2, .int .i64 x3] 90)).heap.size = w.heap.size + 1 + 1 := by rw [size_alloc, size_alloc]
  have s0 := ((Box4.fresh w (.slice a0 n0 c0) (.slice a1 m.lv.length c1) (.slice a2 n2 c2) (.slice a3 n3 c3)).alloc (.cells #[.int .i64 x1, .int .i64 x2, .int .i64 x3] 90)).alloc (.cells #[.slice none 0 0, .slice none 0 0, .slice none 0 0, .slice none 0 0] 33)
  have q0 := Box4.fresh ((w.alloc (.cells #[(.slice a0 n0 c0), .slice a1 m.lv.length c1, (.slice a2 n2 c2), (.slice a3 n3 c3)] 33)).alloc (.cells #[.int .i64 x1, .int .i64 x2, .int .i64 x3] 90)) (.slice none 0 0) (.slice none 0 0) (.slice none 0 0) (.slice none 0 0)
  rw [e0] at q0
  have r0 : ((w.alloc (.cells #[(.slice a0 n0 c0), .slice a1 m.lv.length c1, (.slice a2 n2 c2), (.slice a3 n3 c3)] 33)).alloc (.cells #[.int .i64 x1, .int .i64 x2, .int .i64 x3] 90)).heap[w.heap.size + 1]? = some (.cells #[.int .i64 x1, .int .i64 x2, .int .i64 x3] 90 (0, 0)) := by
    have := heap_alloc_new (w.alloc (.cells #[(.slice a0 n0 c0), .slice a1 m.lv.length c1, (.slice a2 n2 c2), (.slice a3 n3 c3)] 33)) (.cells #[.int .i64 x1, .int .i64 x2, .int .i64 x3] 90)
    rw [size_alloc] at this
    exact this
  have t0 := (Below.heap_alloc _ (.cells #[.slice none 0 0, .slice none 0 0, .slice none 0 0, .slice none 0 0] 33) _ (by rw [e0]; omega)).trans r0
  have b0 : Bel w _ := (Bel.alloc (Bel.alloc (Bel.alloc (Bel.refl w) (.cells #[(.slice a0 n0 c0), .slice a1 m.lv.length c1, (.slice a2 n2 c2), (.slice a3 n3 c3)] 33)) (.cells #[.int .i64 x1, .int .i64 x2, .int .i64 x3] 90)) (.cells #[.slice none 0 0, .slice none 0 0, .slice none 0 0, .slice none 0 0] 33))
  have h0 := H.out.call b0
  have z0 : (((w.alloc (.cells #[(.slice a0 n0 c0), .slice a1 m.lv.length c1, (.slice a2 n2 c2), (.slice a3 n3 c3)] 33)).alloc (.cells #[.int .i64 x1, .int .i64 x2, .int .i64 x3] 90)).alloc (.cells #[.slice none 0 0, .slice none 0 0, .slice none 0 0, .slice none 0 0] 33)).heap.size = w.heap.size + 3 := by rw [size_alloc, e0]
  generalize (((w.alloc (.cells #[(.slice a0 n0 c0), .slice a1 m.lv.length c1, (.slice a2 n2 c2), (.slice a3 n3 c3)] 33)).alloc (.cells #[.int .i64 x1, .int .i64 x2, .int .i64 x3] 90)).alloc (.cells #[.slice none 0 0, .slice none 0 0, .slice none 0 0, .slice none 0 0] 33)) = W0 at *
  clear r0 e0
  have o0 := Ow.made W0 (B := w.heap.size + 3) (by omega) 90 3
  rw [z0] at o0
  have S0 : WiS W0 w.heap.size (.slice (some ⟨w.heap.size + 3, 0, none⟩) 0 0) [] (W0.alloc (.cells #[] 90)) := ⟨o0, (Bel.refl W0).alloc _, z0⟩
  replace S0 := Hid.mk S0
  have C0 : Hid (∀ wr, Bel W0 wr → wr.cell? ⟨w.heap.size, 1, none⟩ = some (.slice a1 m.lv.length c1) ∧ wr.cell? ⟨w.heap.size + 1, 0, none⟩ = some (.int .i64 x1) ∧ wr.cell? ⟨w.heap.size + 1, 1, none⟩ = some (.int .i64 x2) ∧ wr.cell? ⟨w.heap.size + 1, 2, none⟩ = some (.int .i64 x3) ∧ Ow wr B 90 3 (.slice a1 m.lv.length c1) (m.lv.map rL)) := fun wr b => by
    have u := (Below.block b _ (by omega)).trans t0
    refine ⟨(s0.call b).cells.2.1, ?_, ?_, ?_, h0.lv.call b⟩ <;> (rw [cell_of_row wr _ _ _ 90 _ u]; rfl)
  have E0 := Hid.mk (And.intro h0 (And.intro s0 (And.intro q0 b0)))
  clear h0 s0 q0 b0 t0 o0
  generalize hG : w.heap.size = G at *
  replace hG := Hid.mk hG
  generalize hl : m.lv = l at *
  replace hl := Hid.mk hl
  have hg3 : G + 3 ≤ W0.heap.size := by omega
  go_upto_region 3 with fail
  go_loopw [5, 6, 7, 8] (fun v b i _ wr => ∃ (k : Nat) (inn : Bool) (outL : List L3), k ≤ l.length ∧ b = .bool inn ∧ i = .int .i64 k ∧ outL ++ wI (x1, x2, x3) inn (l.drop k) = R0 ∧ WiS W0 G v outL wr) (fun _ _ i _ _ => l.length - (intOf i).toNat)
  case atStart => exact ⟨0, false, [], Nat.zero_le _, rfl, rfl, by simpa using hR, S0.out⟩
  case round =>
    clear S0
    obtain ⟨k, inn, outL, hk, rfl, rfl, hgo, hs⟩ := hrel
    obtain ⟨k1, j0, j1, j2, hlv⟩ := C0.out wr hs.bel
    have hol : outL.length ≤ R0.length := by rw [← hgo, List.length_append]; omega
    have hwG : G + 3 ≤ wr.heap.size := hs.le
    have hwG0 : G < wr.heap.size := by omega
    have hwG1 : G + 1 < wr.heap.size := by omega
    by_cases hkn : k < l.length
    · obtain ⟨g, rfl, hgB, hgl, d0, d1, d2⟩ := hlv.at3 hkn
      rw [dropC l k (0, 0, 0) hkn] at hgo
      generalize l.getD k (0, 0, 0) = y at *
      obtain ⟨y1, y2, y3⟩ := y
      simp only at d0 d1 d2
      have HS := Hid.mk (And.intro hs hol)
      clear hs hol hlv
      have hlen : outL.length < 900000 := by have := HS.out.2; omega
      cases inn
      · rcases Int.lt_trichotomy x1 y1 with hr1 | hr1 | hr1
        · have h5 := wI_case (x1, x2, x3) (y1, y2, y3) false true true (l.drop (k + 1)) (by first | (simp; done) | (simp; omega)) (by first | (simp; done) | (simp; omega))
          rw [h5] at hgo
          have HG : Hid (outL ++ ([(x1, x2, x3)] ++ [(y1, y2, y3)] ++ wI (x1, x2, x3) true (l.drop (k + 1))) = R0) := hgo
          clear h5 hgo
          have f1 : decide (x1 < y1) = true := by first | (simp; done) | (simp; omega)
          have f2 : (y1 == x1) = false := by first | (simp; done) | (simp; omega)
          have f3 : (y1 != x1) = true := by first | (simp; done) | (simp; omega)
          clear hr1
          go_wp2_with (first | (at_builtin; refine wp_app ei90 rfl _ _ rfl (HS.out.1.out.alloc _) (by rw [size_alloc]; omega) #[.int .i64 x1, .int .i64 x2, .int .i64 x3] rfl (by first | rfl | (simp only [size_alloc]; rfl)) rfl (by simp [Value.oneCell']) (by rw [List.length_map]; omega) ?_; intro v3 w3 o3 g3 p3; have N3 := HS.out.1.app (y := (x1, x2, x3)) ((Bel.refl wr).alloc _) g3 o3; obtain ⟨kk1, jj0, jj1, jj2, hlv3⟩ := C0.out w3 N3.bel; have ycell := y_kept (a := y1) (b := y2) (c := y3) g3 HS.out.1.out) | (at_builtin; refine wp_app ei90 rfl _ _ rfl (N3.out) (N3.le) #[.int .i64 y1, .int .i64 y2, .int .i64 y3] rfl (by first | rfl | (simp only [size_alloc]; rfl)) rfl (by simp [Value.oneCell']) (by rw [List.length_map]; (rw [List.length_append, List.length_singleton]; omega)) ?_; intro v4 w4 o4 g4 p4))
          exact ⟨⟨k + 1, true, outL ++ [(x1, x2, x3)] ++ [(y1, y2, y3)], by omega, rfl, by go_num, by have := HG.out; simpa [List.append_assoc] using this, N3.app (y := (y1, y2, y3)) (Bel.refl w3) g4 o4⟩, by simp [intOf]; omega⟩
        · rcases Int.lt_trichotomy x2 y2 with hr2 | hr2 | hr2
          · have h5 := wI_case (x1, x2, x3) (y1, y2, y3) false true true (l.drop (k + 1)) (by first | (simp; done) | (simp; omega)) (by first | (simp; done) | (simp; omega))
            rw [h5] at hgo
            have HG : Hid (outL ++ ([(x1, x2, x3)] ++ [(y1, y2, y3)] ++ wI (x1, x2, x3) true (l.drop (k + 1))) = R0) := hgo
            clear h5 hgo
            have f1 : decide (x1 < y1) = false := by first | (simp; done) | (simp; omega)
            have f2 : (y1 == x1) = true := by first | (simp; done) | (simp; omega)
            have f3 : (y1 != x1) = false := by first | (simp; done) | (simp; omega)
            have f6 : decide (x2 ≤ y2) = true := by first | (simp; done) | (simp; omega)
            have f7 : (y2 != x2) = true := by first | (simp; done) | (simp; omega)
            clear hr1 hr2
            go_wp2_with (first | (at_builtin; refine wp_app ei90 rfl _ _ rfl (HS.out.1.out.alloc _) (by rw [size_alloc]; omega) #[.int .i64 x1, .int .i64 x2, .int .i64 x3] rfl (by first | rfl | (simp only [size_alloc]; rfl)) rfl (by simp [Value.oneCell']) (by rw [List.length_map]; omega) ?_; intro v3 w3 o3 g3 p3; have N3 := HS.out.1.app (y := (x1, x2, x3)) ((Bel.refl wr).alloc _) g3 o3; obtain ⟨kk1, jj0, jj1, jj2, hlv3⟩ := C0.out w3 N3.bel; have ycell := y_kept (a := y1) (b := y2) (c := y3) g3 HS.out.1.out) | (at_builtin; refine wp_app ei90 rfl _ _ rfl (N3.out) (N3.le) #[.int .i64 y1, .int .i64 y2, .int .i64 y3] rfl (by first | rfl | (simp only [size_alloc]; rfl)) rfl (by simp [Value.oneCell']) (by rw [List.length_map]; (rw [List.length_append, List.length_singleton]; omega)) ?_; intro v4 w4 o4 g4 p4))
            exact ⟨⟨k + 1, true, outL ++ [(x1, x2, x3)] ++ [(y1, y2, y3)], by omega, rfl, by go_num, by have := HG.out; simpa [List.append_assoc] using this, N3.app (y := (y1, y2, y3)) (Bel.refl w3) g4 o4⟩, by simp [intOf]; omega⟩
          · have h5 := wI_case (x1, x2, x3) (y1, y2, y3) false true false (l.drop (k + 1)) (by first | (simp; done) | (simp; omega)) (by first | (simp; done) | (simp; omega))
            rw [h5] at hgo
            have HG : Hid (outL ++ ([(x1, x2, x3)] ++ [] ++ wI (x1, x2, x3) true (l.drop (k + 1))) = R0) := hgo
            clear h5 hgo
            have f1 : decide (x1 < y1) = false := by first | (simp; done) | (simp; omega)
            have f2 : (y1 == x1) = true := by first | (simp; done) | (simp; omega)
            have f3 : (y1 != x1) = false := by first | (simp; done) | (simp; omega)
            have f6 : decide (x2 ≤ y2) = true := by first | (simp; done) | (simp; omega)
            have f7 : (y2 != x2) = false := by first | (simp; done) | (simp; omega)
            clear hr1 hr2
            go_wp2_with (first | (at_builtin; refine wp_app ei90 rfl _ _ rfl (HS.out.1.out.alloc _) (by rw [size_alloc]; omega) #[.int .i64 x1, .int .i64 x2, .int .i64 x3] rfl (by first | rfl | (simp only [size_alloc]; rfl)) rfl (by simp [Value.oneCell']) (by rw [List.length_map]; omega) ?_; intro v3 w3 o3 g3 p3; have N3 := HS.out.1.app (y := (x1, x2, x3)) ((Bel.refl wr).alloc _) g3 o3; obtain ⟨kk1, jj0, jj1, jj2, hlv3⟩ := C0.out w3 N3.bel; have ycell := y_kept (a := y1) (b := y2) (c := y3) g3 HS.out.1.out))
            exact ⟨⟨k + 1, true, outL ++ [(x1, x2, x3)], by omega, rfl, by go_num, by have := HG.out; simpa [List.append_assoc] using this, N3⟩, by simp [intOf]; omega⟩
          · have h5 := wI_case (x1, x2, x3) (y1, y2, y3) false false true (l.drop (k + 1)) (by first | (simp; done) | (simp; omega)) (by first | (simp; done) | (simp; omega))
            rw [h5] at hgo
            have HG : Hid (outL ++ ([] ++ [(y1, y2, y3)] ++ wI (x1, x2, x3) false (l.drop (k + 1))) = R0) := hgo
            clear h5 hgo
            have f1 : decide (x1 < y1) = false := by first | (simp; done) | (simp; omega)
            have f2 : (y1 == x1) = true := by first | (simp; done) | (simp; omega)
            have f3 : (y1 != x1) = false := by first | (simp; done) | (simp; omega)
            have f6 : decide (x2 ≤ y2) = false := by first | (simp; done) | (simp; omega)
            have f7 : (y2 != x2) = true := by first | (simp; done) | (simp; omega)
            clear hr1 hr2
            go_wp2_with (first | (at_builtin; refine wp_app ei90 rfl _ _ rfl (HS.out.1.out.alloc _) (by rw [size_alloc]; omega) #[.int .i64 y1, .int .i64 y2, .int .i64 y3] rfl (by first | rfl | (simp only [size_alloc]; rfl)) rfl (by simp [Value.oneCell']) (by rw [List.length_map]; omega) ?_; intro v4 w4 o4 g4 p4))
            exact ⟨⟨k + 1, false, outL ++ [(y1, y2, y3)], by omega, rfl, by go_num, by have := HG.out; simpa [List.append_assoc] using this, HS.out.1.app (y := (y1, y2, y3)) ((Bel.refl wr).alloc _) g4 o4⟩, by simp [intOf]; omega⟩
        · have h5 := wI_case (x1, x2, x3) (y1, y2, y3) false false true (l.drop (k + 1)) (by first | (simp; done) | (simp; omega)) (by first | (simp; done) | (simp; omega))
          rw [h5] at hgo
          have HG : Hid (outL ++ ([] ++ [(y1, y2, y3)] ++ wI (x1, x2, x3) false (l.drop (k + 1))) = R0) := hgo
          clear h5 hgo
          have f1 : decide (x1 < y1) = false := by first | (simp; done) | (simp; omega)
          have f2 : (y1 == x1) = false := by first | (simp; done) | (simp; omega)
          have f3 : (y1 != x1) = true := by first | (simp; done) | (simp; omega)
          clear hr1
          go_wp2_with (first | (at_builtin; refine wp_app ei90 rfl _ _ rfl (HS.out.1.out.alloc _) (by rw [size_alloc]; omega) #[.int .i64 y1, .int .i64 y2, .int .i64 y3] rfl (by first | rfl | (simp only [size_alloc]; rfl)) rfl (by simp [Value.oneCell']) (by rw [List.length_map]; omega) ?_; intro v4 w4 o4 g4 p4))
          exact ⟨⟨k + 1, false, outL ++ [(y1, y2, y3)], by omega, rfl, by go_num, by have := HG.out; simpa [List.append_assoc] using this, HS.out.1.app (y := (y1, y2, y3)) ((Bel.refl wr).alloc _) g4 o4⟩, by simp [intOf]; omega⟩
      · rcases Int.lt_trichotomy x1 y1 with hr1 | hr1 | hr1
        · have h5 := wI_case (x1, x2, x3) (y1, y2, y3) true true true (l.drop (k + 1)) (by first | (simp; done) | (simp; omega)) (by first | (simp; done) | (simp; omega))
          rw [h5] at hgo
          have HG : Hid (outL ++ ([] ++ [(y1, y2, y3)] ++ wI (x1, x2, x3) true (l.drop (k + 1))) = R0) := hgo
          clear h5 hgo
          have f1 : decide (x1 < y1) = true := by first | (simp; done) | (simp; omega)
          have f2 : (y1 == x1) = false := by first | (simp; done) | (simp; omega)
          have f3 : (y1 != x1) = true := by first | (simp; done) | (simp; omega)
          clear hr1
          go_wp2_with (first | (at_builtin; refine wp_app ei90 rfl _ _ rfl (HS.out.1.out.alloc _) (by rw [size_alloc]; omega) #[.int .i64 y1, .int .i64 y2, .int .i64 y3] rfl (by first | rfl | (simp only [size_alloc]; rfl)) rfl (by simp [Value.oneCell']) (by rw [List.length_map]; omega) ?_; intro v4 w4 o4 g4 p4))
          exact ⟨⟨k + 1, true, outL ++ [(y1, y2, y3)], by omega, rfl, by go_num, by have := HG.out; simpa [List.append_assoc] using this, HS.out.1.app (y := (y1, y2, y3)) ((Bel.refl wr).alloc _) g4 o4⟩, by simp [intOf]; omega⟩
        · rcases Int.lt_trichotomy x2 y2 with hr2 | hr2 | hr2
          · have h5 := wI_case (x1, x2, x3) (y1, y2, y3) true true true (l.drop (k + 1)) (by first | (simp; done) | (simp; omega)) (by first | (simp; done) | (simp; omega))
            rw [h5] at hgo
            have HG : Hid (outL ++ ([] ++ [(y1, y2, y3)] ++ wI (x1, x2, x3) true (l.drop (k + 1))) = R0) := hgo
            clear h5 hgo
            have f1 : decide (x1 < y1) = false := by first | (simp; done) | (simp; omega)
            have f2 : (y1 == x1) = true := by first | (simp; done) | (simp; omega)
            have f3 : (y1 != x1) = false := by first | (simp; done) | (simp; omega)
            have f6 : decide (x2 ≤ y2) = true := by first | (simp; done) | (simp; omega)
            have f7 : (y2 != x2) = true := by first | (simp; done) | (simp; omega)
            clear hr1 hr2
            go_wp2_with (first | (at_builtin; refine wp_app ei90 rfl _ _ rfl (HS.out.1.out.alloc _) (by rw [size_alloc]; omega) #[.int .i64 y1, .int .i64 y2, .int .i64 y3] rfl (by first | rfl | (simp only [size_alloc]; rfl)) rfl (by simp [Value.oneCell']) (by rw [List.length_map]; omega) ?_; intro v4 w4 o4 g4 p4))
            exact ⟨⟨k + 1, true, outL ++ [(y1, y2, y3)], by omega, rfl, by go_num, by have := HG.out; simpa [List.append_assoc] using this, HS.out.1.app (y := (y1, y2, y3)) ((Bel.refl wr).alloc _) g4 o4⟩, by simp [intOf]; omega⟩
          · have h5 := wI_case (x1, x2, x3) (y1, y2, y3) true true false (l.drop (k + 1)) (by first | (simp; done) | (simp; omega)) (by first | (simp; done) | (simp; omega))
            rw [h5] at hgo
            have HG : Hid (outL ++ ([] ++ [] ++ wI (x1, x2, x3) true (l.drop (k + 1))) = R0) := hgo
            clear h5 hgo
            have f1 : decide (x1 < y1) = false := by first | (simp; done) | (simp; omega)
            have f2 : (y1 == x1) = true := by first | (simp; done) | (simp; omega)
            have f3 : (y1 != x1) = false := by first | (simp; done) | (simp; omega)
            have f6 : decide (x2 ≤ y2) = true := by first | (simp; done) | (simp; omega)
            have f7 : (y2 != x2) = false := by first | (simp; done) | (simp; omega)
            clear hr1 hr2
            go_wp2_with fail
            exact ⟨⟨k + 1, true, outL, by omega, rfl, by go_num, by have := HG.out; simpa [List.append_assoc] using this, HS.out.1.al _⟩, by simp [intOf]; omega⟩
          · have h5 := wI_case (x1, x2, x3) (y1, y2, y3) true false true (l.drop (k + 1)) (by first | (simp; done) | (simp; omega)) (by first | (simp; done) | (simp; omega))
            rw [h5] at hgo
            have HG : Hid (outL ++ ([] ++ [(y1, y2, y3)] ++ wI (x1, x2, x3) true (l.drop (k + 1))) = R0) := hgo
            clear h5 hgo
            have f1 : decide (x1 < y1) = false := by first | (simp; done) | (simp; omega)
            have f2 : (y1 == x1) = true := by first | (simp; done) | (simp; omega)
            have f3 : (y1 != x1) = false := by first | (simp; done) | (simp; omega)
            have f6 : decide (x2 ≤ y2) = false := by first | (simp; done) | (simp; omega)
            have f7 : (y2 != x2) = true := by first | (simp; done) | (simp; omega)
            clear hr1 hr2
            go_wp2_with (first | (at_builtin; refine wp_app ei90 rfl _ _ rfl (HS.out.1.out.alloc _) (by rw [size_alloc]; omega) #[.int .i64 y1, .int .i64 y2, .int .i64 y3] rfl (by first | rfl | (simp only [size_alloc]; rfl)) rfl (by simp [Value.oneCell']) (by rw [List.length_map]; omega) ?_; intro v4 w4 o4 g4 p4))
            exact ⟨⟨k + 1, true, outL ++ [(y1, y2, y3)], by omega, rfl, by go_num, by have := HG.out; simpa [List.append_assoc] using this, HS.out.1.app (y := (y1, y2, y3)) ((Bel.refl wr).alloc _) g4 o4⟩, by simp [intOf]; omega⟩
        · have h5 := wI_case (x1, x2, x3) (y1, y2, y3) true false true (l.drop (k + 1)) (by first | (simp; done) | (simp; omega)) (by first | (simp; done) | (simp; omega))
          rw [h5] at hgo
          have HG : Hid (outL ++ ([] ++ [(y1, y2, y3)] ++ wI (x1, x2, x3) true (l.drop (k + 1))) = R0) := hgo
          clear h5 hgo
          have f1 : decide (x1 < y1) = false := by first | (simp; done) | (simp; omega)
          have f2 : (y1 == x1) = false := by first | (simp; done) | (simp; omega)
          have f3 : (y1 != x1) = true := by first | (simp; done) | (simp; omega)
          clear hr1
          go_wp2_with (first | (at_builtin; refine wp_app ei90 rfl _ _ rfl (HS.out.1.out.alloc _) (by rw [size_alloc]; omega) #[.int .i64 y1, .int .i64 y2, .int .i64 y3] rfl (by first | rfl | (simp only [size_alloc]; rfl)) rfl (by simp [Value.oneCell']) (by rw [List.length_map]; omega) ?_; intro v4 w4 o4 g4 p4))
          exact ⟨⟨k + 1, true, outL ++ [(y1, y2, y3)], by omega, rfl, by go_num, by have := HG.out; simpa [List.append_assoc] using this, HS.out.1.app (y := (y1, y2, y3)) ((Bel.refl wr).alloc _) g4 o4⟩, by simp [intOf]; omega⟩
    · have hk2 : k = l.length := by omega
      subst hk2
      rw [List.drop_length, wI] at hgo
      obtain ⟨va, vn, vc, rfl⟩ := hs.out.isSl
      have HS := Hid.mk (And.intro hs hol)
      clear hs hol hlv
      have hlen : outL.length < 900000 := by have := HS.out.2; omega
      obtain ⟨f0, s0, q0, b0⟩ := E0.out
      have hwG2 : G + 1 + 1 < wr.heap.size := by omega
      have CC : Hid (∀ w5, Bel W0 w5 → (w5.cell? ⟨G, 0, none⟩ = some (.slice a0 n0 c0) ∧ w5.cell? ⟨G, 1, none⟩ = some (.slice a1 l.length c1) ∧ w5.cell? ⟨G, 2, none⟩ = some (.slice a2 n2 c2) ∧ w5.cell? ⟨G, 3, none⟩ = some (.slice a3 n3 c3)) ∧ (w5.cell? ⟨G + 1 + 1, 0, none⟩ = some (.slice none 0 0) ∧ w5.cell? ⟨G + 1 + 1, 1, none⟩ = some (.slice none 0 0) ∧ w5.cell? ⟨G + 1 + 1, 2, none⟩ = some (.slice none 0 0) ∧ w5.cell? ⟨G + 1 + 1, 3, none⟩ = some (.slice none 0 0)) ∧ (∀ j, w5.frozen? ⟨G, j, none⟩ = false) ∧ ∀ j, w5.frozen? ⟨G + 1 + 1, j, none⟩ = false) := fun w5 b => ⟨(s0.call b).cells, (q0.call b).cells, fun j => (s0.call b).fz j, fun j => (q0.call b).fz j⟩
      have fin : Hid (∀ (v : Value) (w5 : World) (L : List L3), Bel W0 w5 → Ow w5 (G + 3) 90 3 v (L.map rL) → Box4 (set4 (w5.setCell ⟨G, 1, none⟩ v) (G + 1 + 1) (.slice a0 n0 c0) v (.slice a2 n2 c2) (.slice a3 n3 c3)) (G + 1 + 1) (.slice a0 n0 c0) v (.slice a2 n2 c2) (.slice a3 n3 c3) ∧ RAt (set4 (w5.setCell ⟨G, 1, none⟩ v) (G + 1 + 1) (.slice a0 n0 c0) v (.slice a2 n2 c2) (.slice a3 n3 c3)) B (.slice a0 n0 c0) v (.slice a2 n2 c2) (.slice a3 n3 c3) { m with lv := L } ∧ (∀ g, v.ownBlock = some g → w.heap.size ≤ g) ∧ Below w.heap.size w (set4 (w5.setCell ⟨G, 1, none⟩ v) (G + 1 + 1) (.slice a0 n0 c0) v (.slice a2 n2 c2) (.slice a3 n3 c3))) := fun v w5 L b o => by
        have e := hG.out
        subst e
        exact end_lv hB H.out b0 s0 q0 (by omega) b o
      clear f0 s0 q0 b0 E0 k1 j0 j1 j2
      obtain ⟨⟨m00, m01, m02, m03⟩, ⟨m20, m21, m22, m23⟩, fr, fs⟩ := CC.out wr HS.out.1.bel
      have x1' := C0.out wr HS.out.1.bel
      obtain ⟨_, j0, j1, j2, _⟩ := x1'
      have fr1 := fr 1
      have g0 := fs 0
      have g1 := fs 1
      have g2 := fs 2
      have g3 := fs 3
      clear fr fs
      cases inn
      · rw [if_neg (by simp)] at hgo
        subst hgo
        go_upto_region 12 with (first | (at_builtin; refine wp_app ei90 rfl _ _ rfl HS.out.1.out (HS.out.1.le) #[.int .i64 x1, .int .i64 x2, .int .i64 x3] rfl (by first | rfl | (simp only [size_alloc]; rfl)) rfl (by simp [Value.oneCell']) (by rw [List.length_map]; omega) ?_; intro v5 w5 o5 g5 p5))
        have N5 := HS.out.1.app (y := (x1, x2, x3)) (Bel.refl wr) g5 o5
        obtain ⟨va5, vn5, vc5, rfl⟩ := N5.out.isSl
        obtain ⟨⟨t00, t01, t02, t03⟩, ⟨t20, t21, t22, t23⟩, tr, ts⟩ := CC.out w5 N5.bel
        have tr1 := tr 1
        have s0 := ts 0
        have s1 := ts 1
        have s2 := ts 2
        have s3 := ts 3
        replace N5 := Hid.mk N5
        clear tr ts o5 g5 p5 m00 m01 m02 m03 m20 m21 m22 m23 fr1 g0 g1 g2 g3 j0 j1 j2
        go_wp2_with fail
        refine bodyPost_ret (st_result rfl rfl (fin.out _ _ _ N5.out.bel N5.out.out).1) rfl ?_
        have q := (fin.out _ _ _ N5.out.bel N5.out.out).2
        exact ⟨_, rfl, q⟩
      · rw [if_pos rfl, List.append_nil] at hgo
        subst hgo
        go_wp2_with fail
        refine bodyPost_ret (st_result rfl rfl (fin.out _ _ _ HS.out.1.bel HS.out.1.out).1) rfl ?_
        have q := (fin.out _ _ _ HS.out.1.bel HS.out.1.out).2
        exact ⟨_, rfl, q⟩
end Go.Proofs.Ytacgemibaojbaaa
