/-
  Spaces turned in their own map: closed, put, trim, double, apply. No condition.
-/
import Derived.Test.YtacgemibaojbaaaTak
import Derived.Deep.RegionHeld3
namespace Go.Proofs.Ytacgemibaojbaaa
open Go Go.RowKit Go.Maps

/-- why pages of a space may not be changed -/
def clA (t : Ab) (id : Int) : Int := match gA t.sp id with | none => 80 | some x => if x.sl = true then 170 else 0
def abl (l : List Asp) : Ab := ⟨l, [], []⟩
/-- a page laid at any place -/
def layA (t : Ab) (S P A : Int) : Ab × Int :=
  match gA t.sp S with
  | none => (t, 80)
  | some x => if P < 0 ∨ x.q ≤ P then (t, 81) else ({ t with sp := sA t.sp { x with ps := mput x.ps P A } }, 0)
theorem box_below {w w1 : World} (o : Obj) (b : Below (w.alloc o).heap.size (w.alloc o) w1) : Below w.heap.size w w1 := ((Below.refl _ w).alloc (Nat.le_refl _) o).trans (b.mono (by rw [size_alloc]; omega))
theorem below_box (w : World) (o : Obj) : Below w.heap.size w (w.alloc o) := (Below.refl _ w).alloc (Nat.le_refl _) o
set_option maxRecDepth 20000 in
theorem closed_any {L n w b l f} (h : SpsAt L w b l f) (hi : InvM n l) {id : Int} (hk : K64 id) : Calls Try.prog 24 #[.map (some b), .int .i64 id] w fun e w' => e = .returned (.int .i64 (clA (abl l) id)) ∧ Below w.heap.size w w' := by
  unfold clA
  simp only [abl]
  cases hg : gA l id with
  | none =>
    have q := h.lookNo true hk hg
    simp only [if_true] at q
    clear h
    go_enter Try.func24, Try.ntmps24
    go_wp2
    go_ret
    exact ⟨rfl, below_box _ _⟩
  | some x =>
    have q := h.look hi true hk hg
    simp only [if_true] at q
    clear h
    generalize f id = g at *
    obtain ⟨xi, xq, xs, xp⟩ := x
    cases xs
    · go_enter Try.func24, Try.ntmps24
      go_wp2
      go_ret
      exact ⟨rfl, below_box _ _⟩
    · go_enter Try.func24, Try.ntmps24
      go_wp2
      go_ret
      exact ⟨rfl, below_box _ _⟩
/-- what a change of spaces answers and leaves: only their own map is turned -/
def ChD (L : Int → ByteArray) (b : Nat) (r : Ab × Int) (w : World) (e : Ending) (w' : World) : Prop :=
  e = .returned (.int .i64 r.2) ∧ (∃ f, SpsAt L w' b r.1.sp f) ∧ w.grownBy w' (some b)
theorem grown_of_below {w w' : World} (h : Below w.heap.size w w') (r : Option Nat) : w.grownBy w' r := ⟨h.os, h.tape, h.output, h.size, fun i hi _ => h.block i hi⟩
theorem grown_trans {a b c : World} {r : Option Nat} (h : a.grownBy b r) (k : b.grownBy c r) : a.grownBy c r :=
  ⟨k.os.trans h.os, k.tape.trans h.tape, k.output.trans h.output, Nat.le_trans h.size k.size, fun i hi hn => (k.block i (Nat.lt_of_lt_of_le hi h.size) hn).trans (h.block i hi hn)⟩
theorem grown_new {a b c : World} {g : Nat} {r : Option Nat} (h : a.grownBy b r) (k : b.grownBy c (some g)) (hg : a.heap.size ≤ g) : a.grownBy c r :=
  ⟨k.os.trans h.os, k.tape.trans h.tape, k.output.trans h.output, Nat.le_trans h.size k.size, fun i hi hn => (k.block i (Nat.lt_of_lt_of_le hi h.size) (by simp; omega)).trans (h.block i hi hn)⟩
theorem ChD.same {L w w' b l f} (h : SpsAt L w b l f) (q : Below w.heap.size w w') (c : Int) : ChD L b (abl l, c) w (.returned (.int .i64 c)) w' := ⟨rfl, ⟨f, h.call q⟩, grown_of_below q _⟩
/-- a space is turned: its pages in a block g of their own -/
theorem SpsAt.turn {L w w' b l f} (h : SpsAt L w b l f) (hu : UpA l) {x x' : Asp} (hx : x ∈ l) (he : x'.id = x.id) {g : Nat} (hm : Mp elS w' b (mput (spm f l) x.id (cS (x'.q, x'.sl, g)))) (hp : Mp (elL L) w' g x'.ps) (hgb : g ≠ b) (e : ∀ y ∈ l, w'.heap[f y.id]? = w.heap[f y.id]?) : SpsAt L w' b (sA l x') (fun i => if i = x.id then g else f i) := by
  refine ⟨spm_set hu hx he g ▸ hm, fun y hy => ?_, fun y hy => ?_⟩
  all_goals
    obtain ⟨z, hz, rfl⟩ := List.mem_map.1 hy
    by_cases e1 : z.id = x'.id
  · simp only [if_pos e1, if_pos he]
    exact hp
  · simp only [if_neg e1]
    rw [if_neg (by rw [← he]; exact e1)]
    exact (h.pg z hz).same (e z hz)
  · simp only [if_pos e1, if_pos he]
    exact hgb
  · simp only [if_neg e1]
    rw [if_neg (by rw [← he]; exact e1)]
    exact h.ne z hz
theorem SpsAt.lay {L w w' b l f} (h : SpsAt L w b l f) {x : Asp} (hx : gA l x.id = none) {g : Nat} (hm : Mp elS w' b (mput (spm f l) x.id (cS (x.q, x.sl, g)))) (hp : Mp (elL L) w' g x.ps) (hgb : g ≠ b) (e : ∀ y ∈ l, w'.heap[f y.id]? = w.heap[f y.id]?) : SpsAt L w' b (iA x l) (fun i => if i = x.id then g else f i) := by
  have hn := gA_none hx
  have hy2 : ∀ y ∈ iA x l, y = x ∨ y ∈ l := fun y hy => by
    have := (iA_perm x l).mem_iff.1 hy
    simpa using this
  refine ⟨spm_new hx g ▸ hm, fun y hy => ?_, fun y hy => ?_⟩
  · rcases hy2 y hy with rfl | hy2
    · simp only [if_true]; exact hp
    · simp only [if_neg (hn y hy2)]
      exact (h.pg y hy2).same (e y hy2)
  · rcases hy2 y hy with rfl | hy2
    · simp only [if_true]; exact hgb
    · simp only [if_neg (hn y hy2)]
      exact h.ne y hy2
theorem SpsAt.drop {L w w' b l f} (h : SpsAt L w b l f) (id : Int) (hm : Mp elS w' b (mdel (spm f l) id)) (e : ∀ y ∈ l, w'.heap[f y.id]? = w.heap[f y.id]?) : SpsAt L w' b (dA l id) f :=
  ⟨spm_drop l id ▸ hm, fun y hy => (h.pg y (List.mem_filter.1 hy).1).same (e y (List.mem_filter.1 hy).1), fun y hy => h.ne y (List.mem_filter.1 hy).1⟩
/-- a struct of a space in a block of its own -/
theorem box97 {w : World} {g : Nat} {q : Int} {s : Bool} {v : Value} (h : w.heap[g]? = some (.cells #[.int .i64 q, .bool s, v] 97 (0, 0))) : w.cell? ⟨g, 0, none⟩ = some (.int .i64 q) ∧ w.cell? ⟨g, 1, none⟩ = some (.bool s) ∧ w.cell? ⟨g, 2, none⟩ = some v := by
  refine ⟨?_, ?_, ?_⟩ <;> rw [cell_of_row w g _ _ 97 _ h] <;> rfl
theorem box75 {w : World} {g : Nat} {p : Int} {s : ByteArray} (h : w.heap[g]? = some (.cells #[.int .i64 p, .string s] 75 (0, 0))) : w.cell? ⟨g, 0, none⟩ = some (.int .i64 p) ∧ w.cell? ⟨g, 1, none⟩ = some (.string s) := by
  refine ⟨?_, ?_⟩ <;> rw [cell_of_row w g _ _ 75 _ h] <;> rfl
/-- a block of cells is no map -/
theorem not_map' {w : World} {R : Rdr} {b : Nat} {m : Pl} {g : Nat} {cs : Array Value} {t : TypeId} {f : Nat × Nat} (h : Mp R w b m) (hg : w.heap[g]? = some (Obj.cells cs t f)) : g ≠ b := by
  obtain ⟨es, c, hb⟩ := h.obj
  intro e
  rw [e, hb] at hg
  cases hg
theorem _root_.Go.RowKit.Below.setCell' {B : Nat} {w w' : World} (h : Below B w w') {a : Addr} (ha : B ≤ a.block) (x : Value) : Below B w (w'.setCell a x) :=
  ⟨h.os, h.tape, h.output, by simpa [World.setCell] using h.size, fun i hi => (heap_setCell_other w' a i x (by omega)).trans (h.block i hi)⟩
/-- a page's struct at G, a space's at G + 1, with a copy of its pages at g2 -/
structure ClS (L : Int → ByteArray) (w : World) (b : Nat) (l : List Asp) (f : Int → Nat) (G : Nat) (p : Int) (str : ByteArray) (q : Int) (s : Bool) (w4 : World) (g2 : Nat) (ps : Pl) : Prop where
  lf : w4.heap[G]? = some (.cells #[.int .i64 p, .string str] 75 (0, 0))
  box : w4.heap[G + 1]? = some (.cells #[.int .i64 q, .bool s, .map (some g2)] 97 (0, 0))
  mp : Mp (elL L) w4 g2 ps
  bel : Below w.heap.size w w4
  hg : w.heap.size ≤ g2
  at' : SpsAt L w b l f
theorem ClS.lt {L w b l f G p str q s w4 g2 ps} (h : ClS L w b l f G p str q s w4 g2 ps) : G + 1 < w4.heap.size := (Array.getElem?_eq_some_iff.1 h.box).1
set_option maxRecDepth 20000 in
theorem put_any {L n w b l f} (h : SpsAt L w b l f) (hi : InvM n l) {S P p : Int} (hS : K64 S) (hP : K64 P) (hp : 1 ≤ p) {x : Asp} (hg : gA l S = some x) :
    Calls Try.prog 27 #[.map (some b), .int .i64 S, .int .i64 P, .agg #[.int .i64 p, .string (L p)]] w (ChD L b (layA (abl l) S P p) w) := by
  have q := (h.alloc (.cells #[.int .i64 p, .string (L p)] 75)).look hi false hS hg
  simp only [Bool.false_eq_true, if_false] at q
  have hx := gA_some hg
  unfold layA
  simp only [abl, hg]
  by_cases hb : P < 0 ∨ x.q ≤ P
  · rw [if_pos hb]
    have H := Hid.mk h
    clear h
    generalize f S = g at *
    obtain ⟨xi, xq, xs, xp⟩ := x
    simp only at hb q
    by_cases hp0 : P < 0
    · have hd : decide (P < 0) = true := by simpa using hp0
      clear hb
      go_enter Try.func27, Try.ntmps27
      go_wp2
      go_ret
      exact ChD.same H.out (((Below.refl _ w).alloc (Nat.le_refl _) _).alloc (by rw [size_alloc]; omega) _) 81
    · have hd : decide (P < 0) = false := by simpa using hp0
      have hd2 : decide (xq ≤ P) = true := by simp; omega
      clear hb
      go_enter Try.func27, Try.ntmps27
      go_wp2
      go_ret
      exact ChD.same H.out (((Below.refl _ w).alloc (Nat.le_refl _) _).alloc (by rw [size_alloc]; omega) _) 81
  · rw [if_neg hb]
    have hd : decide (P < 0) = false := by simp; omega
    have hd2 : decide (x.q ≤ P) = false := by simp; omega
    have hM := h.pg x hx.1
    rw [hx.2] at hM
    have hlen : x.ps.length < 1000000 := by have := hi.inv.plen hx.1; omega
    have hlen2 : (spm f l).length < 1000000 := by rw [spm_len]; have := hi.inv.len; simp only at this; omega
    have hq := hi.q hx.1
    have H := Hid.mk (And.intro h (And.intro hi (And.intro hx (And.intro hlen (And.intro hlen2 hq)))))
    have HM := Hid.mk hM
    have HG := Hid.mk hg
    clear h hi hM hlen hlen2 hb hx hq hg
    generalize hgg : f S = g at *
    have HGG := Hid.mk hgg
    clear hgg
    generalize hxe : x = y at *
    have HX := Hid.mk hxe
    clear hxe
    obtain ⟨xi, xq, xs, xp⟩ := y
    simp only at *
    generalize hLp : L p = str at *
    have HLp := Hid.mk hLp
    clear hLp
    go_enter Try.func27, Try.ntmps27
    go_upto_region 4 with fail
    have B2 : Below w.heap.size w ((w.alloc (.cells #[.int .i64 p, .string str] 75)).alloc (.cells #[.int .i64 xq, .bool xs, .map (some g)] 97)) := ((Below.refl _ w).alloc (Nat.le_refl _) _).alloc (by rw [size_alloc]; omega) _
    have y1 : ((w.alloc (.cells #[.int .i64 p, .string str] 75)).alloc (.cells #[.int .i64 xq, .bool xs, .map (some g)] 97)).heap[w.heap.size]? = some (.cells #[.int .i64 p, .string str] 75 (0, 0)) := (Below.heap_alloc _ _ w.heap.size (by rw [size_alloc]; omega)).trans (heap_alloc_new w _)
    have y2 : ((w.alloc (.cells #[.int .i64 p, .string str] 75)).alloc (.cells #[.int .i64 xq, .bool xs, .map (some g)] 97)).heap[w.heap.size + 1]? = some (.cells #[.int .i64 xq, .bool xs, .map (some g)] 97 (0, 0)) := by
      have z := heap_alloc_new (w.alloc (.cells #[.int .i64 p, .string str] 75)) (.cells #[.int .i64 xq, .bool xs, .map (some g)] 97)
      rw [size_alloc] at z
      exact z
    generalize ((w.alloc (.cells #[.int .i64 p, .string str] 75)).alloc (.cells #[.int .i64 xq, .bool xs, .map (some g)] 97)) = w2 at *
    have HM2 := Hid.mk (HM.out.call B2)
    obtain ⟨u0, u1, u2⟩ := box97 y2
    have l2 : w.heap.size + 1 < w2.heap.size := (Array.getElem?_eq_some_iff.1 y2).1
    have fz := frozen_of_row w2 (w.heap.size + 1) 2 _ 97 y2
    have HY := Hid.mk (And.intro B2 (And.intro y1 y2))
    clear B2 y1 y2 q
    generalize hG : w.heap.size = G at *
    have HGG2 := Hid.mk hG
    clear hG
    go_upto_region 4 with fail
    have c43 := cloneL_any HM2.out
    have C43 := Hid.mk c43
    clear c43
    go_upto_region 5 with (first | (go_at_call 43; refine C43.out.mono ?_; rintro e w3 ⟨rfl, m3, b3⟩; have e3 := (b3.block (G + 1) l2).trans HY.out.2.2; have fz3 := frozen_of_row w3 (G + 1) 2 _ 97 e3; have l3 := Nat.lt_of_lt_of_le l2 b3.size; have e4 := (box97 e3).2.2; have E3 := Hid.mk (And.intro e3 (And.intro m3 b3)); clear e3 m3 b3))
    have D : ClS L w b l f G p str xq xs (w3.setCell ⟨G + 1, 2, none⟩ (.map (some w2.heap.size))) w2.heap.size xp := by
      have hG := HGG2.out
      subst hG
      refine ⟨?_, ?_, ?_, ?_, ?_, ?_⟩
      · exact (heap_setCell_other w3 ⟨w.heap.size + 1, 2, none⟩ w.heap.size _ (by show w.heap.size ≠ w.heap.size + 1; omega)).trans ((E3.out.2.2.block _ (by omega)).trans HY.out.2.1)
      · exact heap_setCell_same w3 (w.heap.size + 1) 2 _ 97 _ E3.out.1
      · exact E3.out.2.1.other (a := ⟨w.heap.size + 1, 2, none⟩) (not_map' E3.out.2.1 E3.out.1) _
      · exact (below3 HY.out.1 E3.out.2.2).setCell' (by show w.heap.size ≤ w.heap.size + 1; omega) _
      · have := HY.out.1.size; exact this
      · exact H.out.1
    generalize w3.setCell ⟨G + 1, 2, none⟩ (.map (some w2.heap.size)) = w4 at *
    have hg2 := D.hg
    generalize w2.heap.size = g2 at *
    obtain ⟨v0, v1, v2⟩ := box97 D.box
    have t0 := box75 D.lf
    have n0 := D.lt
    have HD := Hid.mk D
    clear D E3 C43 HY HM2 u0 u1 u2 e4 fz fz3 l2 l3 HM
    go_upto_region 6 with (first | (at_mapUpdate; refine wp_put _ rfl _ _ _ 95 75 rfl Try.underlying95 HD.out.mp H.out.2.2.2.1 P p _ rfl rfl rfl hP (by rw [← HLp.out]; exact elL_mk hp) ?_; intro w5 m5 t5))
    go_frame
    have hne : G + 1 ≠ g2 := not_map' HD.out.mp HD.out.box
    have k5 : w5.heap[G + 1]? = some (.cells #[.int .i64 xq, .bool xs, .map (some g2)] 97 (0, 0)) := (t5.grown.block (G + 1) n0 (by simpa using hne)).trans HD.out.box
    have gr5 : w.grownBy w5 none := grown_new (grown_of_below HD.out.bel none) t5.grown HD.out.hg
    have b5 : SpsAt L w5 b l f := H.out.1.same (fun i hi _ => gr5.block i hi (by simp))
    obtain ⟨s0, s1, s2⟩ := box97 k5
    have n5 : G + 1 < w5.heap.size := (Array.getElem?_eq_some_iff.1 k5).1
    have H5 := Hid.mk (And.intro gr5 (And.intro b5 m5))
    clear k5 b5 gr5 t5 m5 v0 v1 v2 t0 n0 hne
    go_upto_region 7 with (first | (at_mapUpdate; refine wp_put _ rfl _ _ _ 70 97 rfl Try.underlying70 H5.out.2.1.mp H.out.2.2.2.2.1 S (cS (xq, xs, g2)) _ rfl rfl rfl hS (elS_mk H.out.2.2.2.2.2) ?_; intro w6 m6 t6))
    go_frame
    go_wp2_with fail
    go_ret
    have hgb : g2 ≠ b := by have := H.out.1.lt; omega
    refine ⟨rfl, ⟨_, H5.out.2.1.turn (x := ⟨xi, xq, xs, xp⟩) (x' := ⟨xi, xq, xs, mput xp P p⟩) H.out.2.1.inv.up H.out.2.2.1.1 rfl (g := g2) ?_ (H5.out.2.2.kept t6 hgb) hgb (fun y hy => t6.grown.block _ (H5.out.2.1.pg y hy).lt (by simpa using H5.out.2.1.ne y hy))⟩, ?_⟩
    · rw [show (⟨xi, xq, xs, xp⟩ : Asp).id = S from H.out.2.2.1.2]
      exact m6
    · have g5 := H5.out.1
      exact ⟨t6.grown.os.trans g5.os, t6.grown.tape.trans g5.tape, t6.grown.output.trans g5.output, Nat.le_trans g5.size t6.grown.size, fun i hi hn => (t6.grown.block i (Nat.lt_of_lt_of_le hi g5.size) hn).trans (g5.block i hi (by simp))⟩
end Go.Proofs.Ytacgemibaojbaaa
