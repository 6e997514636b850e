/-
  The walk of Append. Condition: the table's cells hold what the text lays.
-/
import Derived.Test.YtbhggcleijjofaaDoorRet
namespace Go.Proofs.YtbhggcleijjofaaDoor
open Go Go.RowKit
set_option maxRecDepth 100000

/-- a page is taken: which block, what is left, which page -/
def Tk (X : Wx) (b : Nat) (X1 : Wx) (p : Int) : Prop := (X.o = b ∧ X1 = X.took b ∧ p = X.nx) ∨ (X.o = -1 ∧ Pick X.xs X.wn X.C.B b ∧ X1 = (X.open b).took b ∧ p = 0)
theorem Tk.C {X : Wx} {b X1 p} (h : Tk X b X1 p) : X1.C = X.C ∧ X1.wn = X.wn ∧ X1.bd = X.bd := by
  rcases h with ⟨_, rfl, _⟩ | ⟨_, _, rfl, _⟩ <;> exact ⟨rfl, rfl, rfl⟩
theorem Tk.lt {w : World} {A X} (hw : Wtr w A X) {b X1 p} (h : Tk X b X1 p) : b < X.C.B ∧ 0 ≤ p ∧ p < X.C.P := by
  have hk := hw.lif.ok.kb
  rcases h with ⟨h1, _, rfl⟩ | ⟨_, h1, _, rfl⟩
  · have := hw.lif.ok.or
    exact ⟨by omega, hw.lif.ok.nxr.1, hw.lif.ok.nxo (by omega)⟩
  · exact ⟨h1.lt, by omega, by omega⟩
theorem take_tk {w : World} {A X} (h : Wtr w A X) {b X1 p} (ht : Tk X b X1 p) : Calls Tryd.prog 46 #[.pointer (some ⟨A.a, 0, none⟩)] w fun e w' =>
    e = .returned (.tuple #[.int .i64 b, .int .i64 p, .bool true]) ∧ Wtr w' A X1 ∧ Kp (A.own X.C.B) w w' := by
  rcases ht with ⟨h1, rfl, rfl⟩ | ⟨h0, h1, rfl, rfl⟩
  · exact take_open h b h1
  · exact take_pick h h0 b h1
theorem tk_or {w : World} {A X} (h : Wtr w A X) : (X.o = -1 ∧ ∀ i, i < X.C.B → X.xs.getD i 0 ≠ 0) ∨ ∃ b X1 p, Tk X b X1 p := by
  have ho := h.lif.ok.or
  by_cases e : X.o = -1
  · rcases pick_or X.xs X.wn X.C.B with hp | ⟨j, hj⟩
    · exact .inl ⟨e, hp⟩
    · exact .inr ⟨j, _, _, .inr ⟨e, hj, rfl, rfl⟩⟩
  · obtain ⟨b, hb⟩ := Int.eq_ofNat_of_zero_le (show 0 ≤ X.o by omega)
    exact .inr ⟨b, _, _, .inl ⟨hb, rfl, rfl⟩⟩
/-- a page is written: what the chip answers, what is left -/
def Wx.prE (X : Wx) (b : Nat) (p : Int) (K S I O : Nat) (s : ByteArray) : Int := (progC X.C b p (frD X s) (frS X b K S I O s)).2
def Wx.prX (X : Wx) (b : Nat) (p : Int) (K S I O : Nat) (s : ByteArray) : Wx := { X with C := (progC X.C b p (frD X s) (frS X b K S I O s)).1 }
/-- an invariant over the rounds of Append, and what it answers -/
structure AppOk (J : Wx → Prop) (Q : Int → Int → Wx → Prop) (K S I O : Nat) (s : ByteArray) : Prop where
  base : ∀ X, J X → X.C.did < 900000 ∧ (∀ i, i < X.C.B → Pg.mayB K I O (X.wn.getD i 0)) ∧ s.size ≤ X.C.Z ∧ X.bd.length ≤ 90000
  full : ∀ X, J X → Lf.Ok X.C.B X.C.P X.xs X.o X.nx → X.o = -1 → (∀ i, i < X.C.B → X.xs.getD i 0 ≠ 0) → Q 0 130 X
  done : ∀ X (b : Nat) X1 (p : Int), J X → Lf.Ok X.C.B X.C.P X.xs X.o X.nx → b < X.C.B → 0 ≤ p → p < X.C.P → Tk X b X1 p → X1.prE b p K S I O s = 0 → Q (b * X.C.P + p) 0 (X1.prX b p K S I O s)
  fail : ∀ X (b : Nat) X1 (p : Int), J X → Lf.Ok X.C.B X.C.P X.xs X.o X.nx → b < X.C.B → 0 ≤ p → p < X.C.P → Tk X b X1 p → X1.prE b p K S I O s ≠ 0 → (X1.prX b p K S I O s).leaveE b (X1.prE b p K S I O s) ≠ 0 → Q 0 ((X1.prX b p K S I O s).leaveE b (X1.prE b p K S I O s)) ((X1.prX b p K S I O s).leave b (X1.prE b p K S I O s))
  more : ∀ X (b : Nat) X1 (p : Int), J X → Lf.Ok X.C.B X.C.P X.xs X.o X.nx → b < X.C.B → 0 ≤ p → p < X.C.P → Tk X b X1 p → X1.prE b p K S I O s ≠ 0 → (X1.prX b p K S I O s).leaveE b (X1.prE b p K S I O s) = 0 → J ((X1.prX b p K S I O s).leave b (X1.prE b p K S I O s))
theorem progC_geo3 (C : Ch) (b p : Int) (d s : ByteArray) : (progC C b p d s).1.Z = C.Z ∧ (progC C b p d s).1.did ≤ C.did + 1 := by
  unfold progC
  split
  · split
    · split
      · exact ⟨rfl, by show C.did ≤ C.did + 1; omega⟩
      · split
        · exact ⟨rfl, Int.le_refl _⟩
        · split <;> exact ⟨rfl, Int.le_refl _⟩
    · exact ⟨rfl, by simp; omega⟩
  · exact ⟨rfl, by simp; omega⟩
theorem markC_geo3 (C : Ch) (b : Int) : (markC C b).1.Z = C.Z := by
  unfold markC
  split
  · split <;> rfl
  · rfl
/-- of one geometry -/
def Geq (X Y : Wx) : Prop := X.C.B = Y.C.B ∧ X.C.P = Y.C.P ∧ X.C.Z = Y.C.Z
theorem prX_geq (X : Wx) (b : Nat) (p : Int) (K S I O : Nat) (s : ByteArray) : Geq (X.prX b p K S I O s) X :=
  ⟨(progC_geo _ _ _ _ _).1, (progC_geo _ _ _ _ _).2, (progC_geo3 _ _ _ _ _).1⟩
theorem leave_geq (X : Wx) (b : Nat) (e : Int) : Geq (X.leave b e) X := by
  unfold Wx.leave
  split
  · exact ⟨(markC_geo _ _).1, (markC_geo _ _).2, markC_geo3 _ _⟩
  · split <;> exact ⟨rfl, rfl, rfl⟩
/-- how many blocks may still be written -/
def left (xs : List Int) : Int := Lf.cnt xs 0 + Lf.cnt xs 1
theorem leave_xs {w : World} {A X} (hw : Wtr w A X) {b X1 p} (h : Tk X b X1 p) (K S I O : Nat) (s : ByteArray) {e : Int} (he : e ≠ 0) (h0 : (X1.prX b p K S I O s).leaveE b e = 0) : left ((X1.prX b p K S I O s).leave b e).xs = left X.xs - 1 := by
  obtain ⟨hb, _⟩ := h.lt hw
  have hl := hw.lif.ok.len
  have hx0 : X.xs.getD b 0 = 0 ∨ X.xs.getD b 0 = 1 := by
    rcases h with ⟨h1, _⟩ | ⟨_, h1, _⟩
    · exact .inr (hw.lif.ok.open_at b h1).2
    · exact .inl h1.free
  have h1 : X1.xs.getD b 0 ≠ 3 ∧ ∀ v, X1.xs.set b v = X.xs.set b v := by
    rcases h with ⟨h1, rfl, _⟩ | ⟨_, h1, rfl, _⟩
    · show (Lf.tkX X.C.P X.xs b X.nx).getD b 0 ≠ 3 ∧ ∀ v, (Lf.tkX X.C.P X.xs b X.nx).set b v = X.xs.set b v
      unfold Lf.tkX
      split
      · rw [Lf.getD_set X.xs b b 2 (by omega), if_pos rfl]
        exact ⟨by decide, fun v => List.set_set ..⟩
      · exact ⟨by omega, fun v => rfl⟩
    · show (Lf.tkX X.C.P (X.xs.set b 1) b 0).getD b 0 ≠ 3 ∧ ∀ v, (Lf.tkX X.C.P (X.xs.set b 1) b 0).set b v = X.xs.set b v
      unfold Lf.tkX
      split
      · rw [Lf.getD_set _ b b 2 (by rw [List.length_set]; omega), if_pos rfl]
        exact ⟨by decide, fun v => by rw [List.set_set, List.set_set]⟩
      · rw [Lf.getD_set X.xs b b 1 (by omega), if_pos rfl]
        exact ⟨by decide, fun v => List.set_set ..⟩
  have key : ∀ v : Int, v ≠ 0 → v ≠ 1 → left (X.xs.set b v) = left X.xs - 1 := by
    intro v v0 v1
    unfold left
    rw [Lf.cnt_set X.xs b (by omega) v 0, Lf.cnt_set X.xs b (by omega) v 1, if_neg v0, if_neg v1]
    rcases hx0 with e | e <;> rw [e] <;> simp <;> omega
  unfold Wx.leaveE at h0
  unfold Wx.leave
  by_cases e3 : e = 53
  · rw [if_pos e3]
    show left (letX X1.xs b 3) = _
    unfold letX
    rw [if_neg h1.1, h1.2]
    exact key 3 (by decide) (by decide)
  · rw [if_neg e3] at h0 ⊢
    by_cases e2 : e = 52
    · rw [if_pos e2]
      show left (letX X1.xs b 2) = _
      unfold letX
      rw [if_neg h1.1, h1.2]
      exact key 2 (by decide) (by decide)
    · rw [if_neg e2] at h0
      exact absurd h0 he
/-- a row of numbers, read off the memory -/
def rdRow (w : World) (g : Nat) : List Int := match w.heap[g]? with | some (.cells c _ _) => c.toList.map intOf | _ => []
theorem rdRow_is {w : World} {g t xs} (h : Row w g t .i64 xs) : rdRow w g = xs := by
  unfold rdRow
  rw [h]
  simp only [cellsOf]
  simp only [List.map_map]
  rw [show (intOf ∘ Value.int .i64) = id from rfl, List.map_id]
/-- what Append keeps beside: its tag, the geometry, the table -/
structure ApL (g1 g2 : Nat) (K S I O : Nat) (B P Z : Nat) (w : World) : Prop where
  tg : Pg.TB w g1 K S I O 0
  gm : w.heap[g2]? = some (.cells #[.int .i64 B, .int .i64 P, .int .i64 Z] 29 (0, 0))
  tab : Pg.Tab w
theorem ApL.off {g1 g2 K S I O B P Z : Nat} {w w' : World} {S' : Nat → Prop} (h : ApL g1 g2 K S I O B P Z w) (k : Kp S' w w') (h1 : ¬ S' g1) (h2 : ¬ S' g2) (h0 : ¬ S' 0) : ApL g1 g2 K S I O B P Z w' :=
  ⟨(k.block g1 h.tg.lt h1).trans h.tg, (k.block g2 (Array.getElem?_eq_some_iff.1 h.gm).1 h2).trans h.gm, Tab.off h.tab k h0⟩
theorem ApL.cells {g1 g2 K S I O B P Z : Nat} {w : World} (h : ApL g1 g2 K S I O B P Z w) : w.cell? ⟨g2, 0, none⟩ = some (.int .i64 B) ∧ w.cell? ⟨g2, 1, none⟩ = some (.int .i64 P) ∧ w.cell? ⟨g2, 2, none⟩ = some (.int .i64 Z) := by
  refine ⟨?_, ?_, ?_⟩ <;> (rw [cell_of_row w g2 _ _ 29 _ h.gm]; rfl)
theorem apl_gm {g : Nat} (w1 : World) (c : Array Value) (hg : w1.heap.size ≠ g) : ((w1.alloc (.cells c 29)).setCell ⟨g, 4, none⟩ (.int .i64 0)).heap[w1.heap.size]? = some (.cells c 29 (0, 0)) :=
  (Below.heap_setCell _ _ _ _ hg).trans (heap_alloc_new w1 _)
theorem apl_start {w w2 W : World} {A X} {g1 g2 K S I O B P Z : Nat} (h : Wtr W A X) (t : Pg.TB W g1 K S I O 0) (g : W.heap[g2]? = some (.cells #[.int .i64 B, .int .i64 P, .int .i64 Z] 29 (0, 0))) (tb : Pg.Tab W) (b : Below w.heap.size w W) (b2 : Below W.heap.size W w2) :
    ApL g1 g2 K S I O B P Z w2 ∧ Wtr w2 A X ∧ Below w.heap.size w w2 ∧ g1 < w2.heap.size ∧ g2 < w2.heap.size := by
  have hl := (Array.getElem?_eq_some_iff.1 g).1
  exact ⟨⟨t.call b2, (b2.block g2 hl).trans g, tb.call b2⟩, h.call b2, below3 b b2, Nat.lt_of_lt_of_le t.lt b2.size, Nat.lt_of_lt_of_le hl b2.size⟩
theorem program_pr {w : World} {A X} (h : Wtr w A X) (hT : Pg.Tab w) (b : Nat) (hb : b < X.C.B) (p : Int) (K S I O : Nat) (W0 : Int) (hm : Pg.mayB K I O (X.wn.getD b 0)) (s : ByteArray) (hs : s.size ≤ X.C.Z) (hd : X.C.did < 999999) :
    Calls Tryd.prog 47 #[.pointer (some ⟨A.a, 0, none⟩), .int .i64 b, .int .i64 p, Pg.tagV K S I O W0, .string s] w fun e w' =>
      e = .returned (.int .i64 (X.prE b p K S I O s)) ∧ Wtr w' A (X.prX b p K S I O s) ∧ Kp (A.own X.C.B) w w' := program_any h hT b hb p K S I O W0 hm s hs hd
theorem nxt_from {A A' : Wl} {B : Nat} {w w2 w' : World} (b : Below w.heap.size w w2) (_ho : ∀ i, A.own B i → i < w.heap.size) (n : Nxt A A' B w2 w') : Nxt A A' B w w' :=
  ⟨(Kp.ofBelow b).trans n.kp, fun i hi => (n.own i hi).imp id (fun h => Nat.le_trans b.size h), n.a, n.L, n.la, n.lo, n.lg⟩
theorem geq_trans {X Y Z : Wx} (h : Geq X Y) (k : Geq Y Z) : Geq X Z := ⟨h.1.trans k.1, h.2.1.trans k.2.1, h.2.2.trans k.2.2⟩
theorem geq3 {X2 X1 X' X : Wx} (h : Geq X2 X1) (e : X1.C = X'.C) (k : Geq X' X) : Geq X2 X := geq_trans h (geq_trans ⟨by rw [e], by rw [e], by rw [e]⟩ k)
theorem nxt_step {A A' A'' : Wl} {B B' : Nat} {w2 wr w' : World} (hG : B' = B) (hN : Nxt A A' B w2 wr) (n : Nxt A' A'' B' wr w') : Nxt A A'' B w2 w' := by subst hG; exact hN.trans n
theorem append_any {w : World} {A X} (h : Wtr w A X) (hT : Pg.Tab w) (J : Wx → Prop) (Q : Int → Int → Wx → Prop) (K S I O : Nat) (W0 : Int) (s : ByteArray) (hJ : J X) (ok : AppOk J Q K S I O s) :
    Calls Tryd.prog 28 #[.pointer (some ⟨A.a, 0, none⟩), Pg.tagV K S I O W0, .string s] w fun e w' => ∃ pl er X' A', e = .returned (.tuple #[.int .i64 pl, .int .i64 er]) ∧ Q pl er X' ∧ Geq X' X ∧ Wtr w' A' X' ∧ Nxt A A' X.C.B w w' := by
  obtain ⟨-, hb2, hb3, -⟩ := ok.base X hJ
  have hAl := h.lt _ (.inl rfl)
  obtain ⟨c0, -, -, -, -⟩ := h.cells
  have hgeo := h.chip.geo
  have hm0 : Pg.mayB K I O ((0 : Nat) : Int) := by
    have := hb2 0 (by omega)
    unfold Pg.mayB at this ⊢
    omega
  have hfr := Hid.mk (fun w hT => Pg.frame_ok K S I O 0 hm0 s X.C.Z hb3 (by omega) w hT)
  have T0 := Pg.TB.fresh w K S I O W0
  have B0 := (Below.refl w.heap.size w).alloc (Nat.le_refl _) (.cells #[.int .i64 K, .int .u64 S, .int .i64 I, .int .i64 O, .int .i64 W0] 43)
  have h1 := h.call B0
  have hlt := T0.lt
  have t1 := hT.call B0
  have HA := Hid.mk (And.intro (And.intro T0 B0) (And.intro t1 (And.intro h hT)))
  generalize hw0 : w.alloc (.cells #[.int .i64 K, .int .u64 S, .int .i64 I, .int .i64 O, .int .i64 W0] 43) = V0 at *
  have HW0 := Hid.mk hw0
  have H1 := Hid.mk h1
  have HO := Hid.mk (And.intro hJ ok)
  have HG := Hid.mk hgeo
  unfold Pg.tagV at hfr ⊢
  clear h h1 hT hJ ok hb2 hb3 hm0 T0 B0 t1 hw0 hgeo
  obtain ⟨B, hB⟩ : ∃ B, B = X.C.B := ⟨_, rfl⟩
  obtain ⟨P, hP⟩ : ∃ P, P = X.C.P := ⟨_, rfl⟩
  obtain ⟨Z, hZ⟩ : ∃ Z, Z = X.C.Z := ⟨_, rfl⟩
  have HE := Hid.mk (And.intro hB (And.intro hP hZ))
  rw [← hZ] at hfr
  have hge := Hid.mk (geom_any H1.out.chip)
  rw [← hB, ← hP, ← hZ] at hge
  clear hB hP hZ
  go_enter Tryd.func28, Tryd.ntmps28
  go_wp2_with (first
    | (go_at_call 9; rw [HW0.out]; refine hge.out.mono ?_; rintro e w1 ⟨rfl, b1⟩; have T2 := (((HA.out.1.1.call b1).alloc (.cells #[.int .i64 B, .int .i64 P, .int .i64 Z] 29))); have fz := T2.frozen 4; obtain ⟨u0, u1, u2, u3, u4⟩ := T2.five; have T3 := T2.set4 0; obtain ⟨v0, v1, v2, v3, v4⟩ := T3.five; have hg2 : w1.heap.size ≠ w.heap.size := (by have := b1.size; omega))
    | (go_at_call 45; have BW := ((below3 HA.out.1.2 b1).alloc (below3 HA.out.1.2 b1).size (.cells #[.int .i64 B, .int .i64 P, .int .i64 Z] 29)).setCell (p := ⟨w.heap.size, 4, none⟩) (Nat.le_refl _) (.int .i64 0); have G3 := apl_gm (g := w.heap.size) w1 #[.int .i64 B, .int .i64 P, .int .i64 Z] hg2; refine (hfr.out _ (HA.out.2.2.2.call BW)).mono ?_; rintro e w2 ⟨rfl, b2⟩; have HL := Hid.mk (apl_start (HA.out.2.2.1.call BW) T3 G3 (HA.out.2.2.2.call BW) BW b2); have hg3 : w.heap.size < w1.heap.size := (by have := b1.size; omega); clear BW T2 T3 G3 u0 u1 u2 u3 u4 v0 v1 v2 v3 v4 b1 b2))
  generalize w1.heap.size = g2 at *
  have hg1 := Hid.mk (show ∀ i, A.own X.C.B i → i < w.heap.size from HA.out.2.2.1.lt)
  clear HA H1 hge hfr HW0 c0 fz
  go_loopw [] (fun wr => ∃ A' X', Wtr wr A' X' ∧ J X' ∧ Geq X' X ∧ Nxt A A' X.C.B w2 wr) (fun wr => (left (rdRow wr A.lg)).toNat)
  case atStart => exact ⟨A, X, HL.out.2.1, HO.out.1, ⟨rfl, rfl, rfl⟩, Nxt.of (Kp.refl _ _)⟩
  case round =>
    obtain ⟨A', X', hW, hJ', hG, hN⟩ := hrel
    have hno : ∀ i, i = w.heap.size ∨ i = g2 ∨ i = 0 → ¬ A'.own X'.C.B i := by
      intro i hi hx
      rw [hG.1] at hx
      have hz := HL.out.2.1.zero
      have q1 := HL.out.2.2.2.1
      have q2 := HL.out.2.2.2.2
      rcases hN.own i hx with y | y
      · have := hg1.out i y
        rcases hi with rfl | rfl | rfl
        · omega
        · omega
        · exact hz y
      · omega
    have hloc : ApL w.heap.size g2 K S I O B P Z wr := by
      have hz := HL.out.2.1.zero
      exact HL.out.1.off hN.kp (fun x => by have := hg1.out _ x; omega) (fun x => by have := hg1.out _ x; omega) hz
    have bw := HL.out.2.2.1
    rcases tk_or hW with ⟨f1, f2⟩ | ⟨b, X1, p, ht⟩
    · have HT := Hid.mk (take_full hW f1 f2)
      rw [hN.a] at HT
      have HR := Hid.mk (And.intro hW (And.intro hG (And.intro hN (And.intro bw (HO.out.2.full X' hJ' hW.lif.ok f1 f2)))))
      clear hW hJ' hG hN hno hloc bw f1 f2
      go_wp2_with (go_at_call 46; refine HT.out.mono ?_; rintro e w3 ⟨rfl, b3⟩)
      go_ret2
      exact ⟨0, 130, X', A', rfl, HR.out.2.2.2.2, HR.out.2.1, HR.out.1.call b3, nxt_from HR.out.2.2.2.1 hg1.out (HR.out.2.2.1.trans (Nxt.of (Kp.ofBelow b3)))⟩
    · obtain ⟨hb, hp0, hp⟩ := ht.lt hW
      obtain ⟨e1, e2, e3⟩ := ht.C
      obtain ⟨q1, q2, q3, q4⟩ := HO.out.2.base X' hJ'
      have HT := Hid.mk (take_tk hW ht)
      rw [hN.a] at HT
      have HP := Hid.mk (fun (w3 : World) (h3 : Wtr w3 A' X1) (t3 : Pg.Tab w3) => program_pr h3 t3 b (by rw [e1]; exact hb) p K S I O 0 (by rw [e2]; exact q2 b hb) s (by rw [e1]; exact q3) (by rw [e1]; omega))
      rw [hN.a] at HP
      have g5 := progC_geo3 X1.C b p (frD X1 s) (frS X1 b K S I O s)
      have hgx := prX_geq X1 b p K S I O s
      have HQ := Hid.mk (fun (w4 : World) (h4 : Wtr w4 A' (X1.prX b p K S I O s)) => leave_any h4 b (by rw [hgx.1, e1]; exact hb) (by have := g5.2; rw [e1] at this; show (progC X1.C b p (frD X1 s) (frS X1 b K S I O s)).1.did < 999999; rw [e1]; omega) (by show X1.bd.length ≤ 100000; rw [e3]; omega) (X1.prE b p K S I O s))
      rw [hN.a, hgx.1, e1] at HQ
      have hdo := HO.out.2.done X' b X1 p hJ' hW.lif.ok hb hp0 hp ht
      have hfa := HO.out.2.fail X' b X1 p hJ' hW.lif.ok hb hp0 hp ht
      have hmo := HO.out.2.more X' b X1 p hJ' hW.lif.ok hb hp0 hp ht
      have hlx := fun h0 => leave_xs hW ht K S I O s (e := X1.prE b p K S I O s) h0
      have hlg := leave_geq (X1.prX b p K S I O s) b (X1.prE b p K S I O s)
      have hrd : rdRow wr A.lg = X'.xs := by rw [← hN.lg]; exact rdRow_is hW.lif.row
      have hgg := HG.out
      have hmr := Lf.mul_range (a := (b : Int)) (b := (X'.C.P : Int)) (A := 32) (B := 16) (by have := hG.1; omega) (by have := hG.2.1; omega)
      have hPe : X'.C.P = P := by rw [hG.2.1, HE.out.2.1]
      rw [hPe] at hdo hmr hp
      have hp16 : p < 16 := by have := HE.out.2.1; omega
      obtain ⟨v, hv⟩ : ∃ v, (b : Int) * (P : Int) = v := ⟨_, rfl⟩
      rw [hv] at hdo hmr
      have hm : wrap64 ((b : Int) * (P : Int)) = v := by rw [hv]; unfold wrap64; omega
      have hgY := hgx
      generalize X1.prE b p K S I O s = er at *
      generalize X1.prX b p K S I O s = X2 at *
      have HRR := Hid.mk (And.intro hno (And.intro hloc (And.intro hG (And.intro hN (And.intro bw (And.intro e1 (And.intro hgY hlg)))))))
      clear hW hJ' hG hN hno hloc bw e2 e3 q1 q2 q3 q4 g5 hgx hgY hlg hgg hv hPe ht hb hp HG HE
      have hk1 : ∀ (w3 : World), Kp (A'.own X'.C.B) wr w3 → ApL w.heap.size g2 K S I O B P Z w3 := fun w3 k3 => HRR.out.2.1.off k3 (HRR.out.1 _ (.inl rfl)) (HRR.out.1 _ (.inr (.inl rfl))) (HRR.out.1 _ (.inr (.inr rfl)))
      have hk2 : ∀ (w3 w4 : World), ApL w.heap.size g2 K S I O B P Z w3 → Kp (A'.own X'.C.B) w3 w4 → ApL w.heap.size g2 K S I O B P Z w4 := fun w3 w4 L3 k4 => L3.off k4 (HRR.out.1 _ (.inl rfl)) (HRR.out.1 _ (.inr (.inl rfl))) (HRR.out.1 _ (.inr (.inr rfl)))
      have HK := Hid.mk (And.intro hk1 hk2)
      clear hk1 hk2
      have hQd := Hid.mk hdo
      have hQf := Hid.mk (And.intro hfa (And.intro hmo hlx))
      have HRD := Hid.mk hrd
      clear hdo hfa hmo hlx hrd
      rw [e1] at HP
      unfold Pg.tagV at HP
      clear e1
      by_cases he : er = 0
      · subst he
        go_wp2_with (first
          | (go_at_call 46; refine HT.out.mono ?_; rintro e w3 ⟨rfl, h3, k3⟩; have L3 := HK.out.1 _ k3; obtain ⟨t0, t1, t2, t3, t4⟩ := L3.tg.five; have H3 := Hid.mk (And.intro h3 (And.intro k3 L3)); clear h3 k3 L3)
          | (go_at_call 47; refine (HP.out _ H3.out.1 H3.out.2.2.tab).mono ?_; rintro e w4 ⟨rfl, h4, k4⟩; have L4 := HK.out.2 _ _ H3.out.2.2 k4; obtain ⟨m0, m1, m2⟩ := L4.cells; have H4 := Hid.mk (And.intro h4 (And.intro k4 L4)); clear h4 k4 L4))
        go_ret2
        obtain ⟨_, _, hG, hN, bw, e1, hgY, _⟩ := HRR.out
        exact ⟨v + p, 0, X2, A', rfl, hQd.out (by first | exact rfl | exact True.intro), geq3 hgY e1 hG, H4.out.1, nxt_from bw hg1.out (nxt_step hG.1 hN ((Nxt.of H3.out.2.1).trans (Nxt.of H4.out.2.1)))⟩
      · by_cases hl : X2.leaveE b er = 0
        · go_wp2_with (first
          | (go_at_call 46; refine HT.out.mono ?_; rintro e w3 ⟨rfl, h3, k3⟩; have L3 := HK.out.1 _ k3; obtain ⟨t0, t1, t2, t3, t4⟩ := L3.tg.five; have H3 := Hid.mk (And.intro h3 (And.intro k3 L3)); clear h3 k3 L3)
          | (go_at_call 47; refine (HP.out _ H3.out.1 H3.out.2.2.tab).mono ?_; rintro e w4 ⟨rfl, h4, k4⟩; have L4 := HK.out.2 _ _ H3.out.2.2 k4; obtain ⟨m0, m1, m2⟩ := L4.cells; have H4 := Hid.mk (And.intro h4 (And.intro k4 L4)); clear h4 k4 L4)
            | (go_at_call 48; refine (HQ.out _ H4.out.1).mono ?_; rintro e w5 ⟨rfl, A5, h5, n5⟩; rw [hl]; have H5 := Hid.mk (And.intro h5 n5); clear h5 n5))
          obtain ⟨_, _, hG, hN, bw, e1, hgY, hlg⟩ := HRR.out
          have n9 := nxt_step hG.1 hN ((Nxt.of H3.out.2.1).trans ((Nxt.of H4.out.2.1).trans H5.out.2))
          refine ⟨⟨A5, X2.leave b er, H5.out.1, hQf.out.2.1 he hl, geq3 (geq_trans hlg hgY) e1 hG, n9⟩, ?_⟩
          have r5 : rdRow w5 A.lg = (X2.leave b er).xs := by rw [← n9.lg]; exact rdRow_is H5.out.1.lif.row
          have r6 := hQf.out.2.2 he hl
          have r7 : 0 ≤ left (X2.leave b er).xs := by unfold left; have := (Lf.cnt_range (X2.leave b er).xs 0).1; have := (Lf.cnt_range (X2.leave b er).xs 1).1; omega
          rw [r5, HRD.out]
          omega
        · go_wp2_with (first
          | (go_at_call 46; refine HT.out.mono ?_; rintro e w3 ⟨rfl, h3, k3⟩; have L3 := HK.out.1 _ k3; obtain ⟨t0, t1, t2, t3, t4⟩ := L3.tg.five; have H3 := Hid.mk (And.intro h3 (And.intro k3 L3)); clear h3 k3 L3)
          | (go_at_call 47; refine (HP.out _ H3.out.1 H3.out.2.2.tab).mono ?_; rintro e w4 ⟨rfl, h4, k4⟩; have L4 := HK.out.2 _ _ H3.out.2.2 k4; obtain ⟨m0, m1, m2⟩ := L4.cells; have H4 := Hid.mk (And.intro h4 (And.intro k4 L4)); clear h4 k4 L4)
            | (go_at_call 48; refine (HQ.out _ H4.out.1).mono ?_; rintro e w5 ⟨rfl, A5, h5, n5⟩; have H5 := Hid.mk (And.intro h5 n5); clear h5 n5))
          go_ret2
          obtain ⟨_, _, hG, hN, bw, e1, hgY, hlg⟩ := HRR.out
          have n9 := nxt_step hG.1 hN ((Nxt.of H3.out.2.1).trans ((Nxt.of H4.out.2.1).trans H5.out.2))
          exact ⟨0, _, X2.leave b er, A5, rfl, hQf.out.1 he hl, geq3 (geq_trans hlg hgY) e1 hG, H5.out.1, nxt_from bw hg1.out n9⟩
end Go.Proofs.YtbhggcleijjofaaDoor
