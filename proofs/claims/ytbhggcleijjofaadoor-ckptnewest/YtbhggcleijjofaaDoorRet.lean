/-
  The walks of hasBlock and program. Condition of the second: the table's cells hold what the text lays. The walks of retire and leave. No condition.
-/
import Derived.Test.YtbhggcleijjofaaDoorTak
namespace Go.Proofs.YtbhggcleijjofaaDoor
open Go Go.RowKit

set_option maxRecDepth 100000

theorem fldB (a b c : Int) (w : World) : (Instr.field 29 (.agg #[.int .i64 a, .int .i64 b, .int .i64 c]) 0).run Tryd.prog w = .ok (.int .i64 a) w := by kernel_rfl
theorem fldP (a b c : Int) (w : World) : (Instr.field 29 (.agg #[.int .i64 a, .int .i64 b, .int .i64 c]) 1).run Tryd.prog w = .ok (.int .i64 b) w := by kernel_rfl
theorem fldZ (a b c : Int) (w : World) : (Instr.field 29 (.agg #[.int .i64 a, .int .i64 b, .int .i64 c]) 2).run Tryd.prog w = .ok (.int .i64 c) w := by kernel_rfl
theorem hasB_any {w : World} {A X} (h : Wtr w A X) (b : Int) : Calls Tryd.prog 67 #[.pointer (some ⟨A.a, 0, none⟩), .int .i64 b] w fun e w' => e = .returned (.bool (decide (0 ≤ b ∧ b < X.C.B))) ∧ w' = w := by
  obtain ⟨c0, c1, c2, c3, _⟩ := h.cells
  obtain ⟨wa, wc, hwv⟩ := h.wrn.form
  rw [h.wlen] at hwv
  rw [hwv] at c2
  have hg := h.chip.geo
  clear h hwv
  by_cases h0 : 0 ≤ b
  · by_cases h1 : b < X.C.B
    · rw [decide_eq_true ⟨h0, h1⟩]
      go_enter Tryd.func67, Tryd.ntmps67
      go_wp2
      go_ret
      exact ⟨rfl, rfl⟩
    · rw [decide_eq_false (fun x => h1 x.2)]
      go_enter Tryd.func67, Tryd.ntmps67
      go_wp2
      go_ret
      exact ⟨rfl, rfl⟩
  · rw [decide_eq_false (fun x => h0 x.1)]
    go_enter Tryd.func67, Tryd.ntmps67
    go_wp2
    go_ret
    exact ⟨rfl, rfl⟩
theorem Tab.off {w w' : World} {S : Nat → Prop} (h : Pg.Tab w) (k : Kp S w w') (hs : ¬ S 0) : Pg.Tab w' :=
  ⟨Nat.lt_of_lt_of_le h.1 k.size, fun i hi => (World.cell?_of_block (a := ⟨0, i, none⟩) (k.block 0 h.1 hs)).trans (h.2 i hi)⟩
theorem Wtr.zero {w : World} {A X} (h : Wtr w A X) : ¬ A.own X.C.B 0 := fun x => by have := h.low 0 x; have := h.pos; omega
/-- what program holds on its way -/
def PrS (w : World) (A : Wl) (X : Wx) (g : Nat) (K S I O W : Int) (wx : World) : Prop := Pg.TB wx g K S I O W ∧ Wtr wx A X ∧ Pg.Tab wx ∧ Below w.heap.size w wx ∧ w.heap.size ≤ g
theorem PrS.drew {w : World} {A X} {g : Nat} {K S I O W : Int} {wx : World} (h : PrS w A X g K S I O W wx) : PrS w A X g K S I O W wx.drew := ⟨h.1.drew, h.2.1.drew, h.2.2.1.drew, h.2.2.2.1.drew, h.2.2.2.2⟩
theorem prs_all {w : World} {A X} {g : Nat} {K S I O W : Int} {wx : World} (h : PrS w A X g K S I O W wx) : wx.cell? ⟨g, 0, none⟩ = some (.int .i64 K) ∧ wx.cell? ⟨g, 1, none⟩ = some (.int .u64 S) ∧ wx.cell? ⟨g, 2, none⟩ = some (.int .i64 I) ∧ wx.cell? ⟨g, 3, none⟩ = some (.int .i64 O) ∧ wx.cell? ⟨g, 4, none⟩ = some (.int .i64 W) ∧ wx.cell? ⟨A.a, 0, none⟩ = some (.pointer (some ⟨A.L.a, 0, none⟩)) ∧ PrS w A X g K S I O W wx := by
  obtain ⟨d0, d1, d2, d3, d4⟩ := h.1.five
  exact ⟨d0, d1, d2, d3, d4, h.2.1.cells.1, h⟩
theorem prs_keep {w : World} {A X} {g : Nat} {K S I O W : Int} {wx w2 : World} (h : wx.cell? ⟨g, 0, none⟩ = some (.int .i64 K) ∧ wx.cell? ⟨g, 1, none⟩ = some (.int .u64 S) ∧ wx.cell? ⟨g, 2, none⟩ = some (.int .i64 I) ∧ wx.cell? ⟨g, 3, none⟩ = some (.int .i64 O) ∧ wx.cell? ⟨g, 4, none⟩ = some (.int .i64 W) ∧ wx.cell? ⟨A.a, 0, none⟩ = some (.pointer (some ⟨A.L.a, 0, none⟩)) ∧ PrS w A X g K S I O W wx) (b : Below wx.heap.size wx w2) : w2.cell? ⟨g, 0, none⟩ = some (.int .i64 K) ∧ w2.cell? ⟨g, 1, none⟩ = some (.int .u64 S) ∧ w2.cell? ⟨g, 2, none⟩ = some (.int .i64 I) ∧ w2.cell? ⟨g, 3, none⟩ = some (.int .i64 O) ∧ w2.cell? ⟨g, 4, none⟩ = some (.int .i64 W) ∧ w2.cell? ⟨A.a, 0, none⟩ = some (.pointer (some ⟨A.L.a, 0, none⟩)) ∧ PrS w A X g K S I O W w2 := by
  have h2 := h.2.2.2.2.2.2
  exact prs_all ⟨h2.1.call b, h2.2.1.call b, h2.2.2.1.call b, below3 h2.2.2.2.1 b, h2.2.2.2.2⟩
theorem progC_geo (C : Ch) (b p : Int) (d s : ByteArray) : (progC C b p d s).1.B = C.B ∧ (progC C b p d s).1.P = C.P := by
  unfold progC
  split
  · split
    · split
      · exact ⟨rfl, rfl⟩
      · split
        · exact ⟨rfl, rfl⟩
        · split <;> exact ⟨rfl, rfl⟩
    · exact ⟨rfl, rfl⟩
  · exact ⟨rfl, rfl⟩
/-- the bytes that a page is written with -/
def frD (X : Wx) (s : ByteArray) : ByteArray := Pg.padB s X.C.Z
def frS (X : Wx) (b : Nat) (K S I O : Nat) (s : ByteArray) : ByteArray := Pg.spareB K S I O (X.wn.getD b 0).toNat s X.C.Z
set_option maxHeartbeats 1000000 in
theorem program_any {w : World} {A X} (h : Wtr w A X) (hT : Pg.Tab w) (b : Nat) (hb : b < X.C.B) (p : Int) (K S I O : Nat) (W0 : Int) (hm : Pg.mayB K I O (X.wn.getD b 0)) (s : ByteArray) (hs : s.size ≤ X.C.Z) (hd : X.C.did < 999999) :
    Calls Tryd.prog 47 #[.pointer (some ⟨A.a, 0, none⟩), .int .i64 b, .int .i64 p, Pg.tagV K S I O W0, .string s] w fun e w' =>
      e = .returned (.int .i64 (progC X.C b p (frD X s) (frS X b K S I O s)).2) ∧ Wtr w' A { X with C := (progC X.C b p (frD X s) (frS X b K S I O s)).1 } ∧ Kp (A.own X.C.B) w w' := by
  unfold frD frS
  obtain ⟨W, hW⟩ : ∃ W : Nat, X.wn.getD b 0 = (W : Int) := Int.eq_ofNat_of_zero_le hm.2.2.2.2.2.2.1
  rw [hW] at hm
  rw [hW, Int.toNat_natCast]
  have hgeo := h.chip.geo
  have hfr := Hid.mk (fun w hT => Pg.frame_ok K S I O W hm s X.C.Z hs (by omega) w hT)
  have T0 := Pg.TB.fresh w K S I O W0
  have B0 := (Below.refl w.heap.size w).alloc (Nat.le_refl _) (.cells #[.int .i64 K, .int .u64 S, .int .i64 I, .int .i64 O, .int .i64 W0] 43)
  have h1 := h.call B0
  have B1 := B0.setCell (p := ⟨w.heap.size, 4, none⟩) (Nat.le_refl _) (.int .i64 W)
  have S1 : PrS w A X w.heap.size K S I O W ((w.alloc (.cells #[.int .i64 K, .int .u64 S, .int .i64 I, .int .i64 O, .int .i64 W0] 43)).setCell ⟨w.heap.size, 4, none⟩ (.int .i64 W)) := ⟨T0.set4 (W : Int), h.call B1, hT.call B1, B1, Nat.le_refl _⟩
  have hfz := T0.frozen 4
  obtain ⟨t0, t1, t2, t3, t4⟩ := T0.five
  have hlt : w.heap.size < (w.alloc (.cells #[.int .i64 K, .int .u64 S, .int .i64 I, .int .i64 O, .int .i64 W0] 43)).heap.size := T0.lt
  clear B0 B1 T0 hT
  generalize hw0 : w.alloc (.cells #[.int .i64 K, .int .u64 S, .int .i64 I, .int .i64 O, .int .i64 W0] 43) = V0 at *
  obtain ⟨c0, c1, c2, c3, _⟩ := h1.cells
  obtain ⟨wa, wc, hwv⟩ := h1.wrn.form
  rw [h1.wlen] at hwv
  rw [hwv] at c2
  have hwr := h1.wrn
  rw [hwv] at hwr
  obtain ⟨g, rfl, hgl, -, cj, -⟩ := hwr.cell (j := b) (by rw [h1.wlen]; exact hb)
  rw [hW] at cj
  have hb1 : (b : Int) < X.C.B := by omega
  have hhas := hasB_any h1 (b : Int)
  rw [decide_eq_true (show 0 ≤ (b : Int) ∧ (b : Int) < X.C.B by omega)] at hhas
  have HH := Hid.mk hhas
  have HS := Hid.mk S1
  have HW0 := Hid.mk hw0
  generalize hR1 : Pg.padB s X.C.Z = R1 at *
  generalize hR2 : Pg.spareB K S I O W s X.C.Z = R2 at *
  have hfd := fldZ
  have hpr := Hid.mk (fun (w : World) (h : Wtr w A X) => prog_any h.chip b p R1 R2 hd)
  unfold Pg.tagV at hfr ⊢
  have hge : (progC X.C b p R1 R2).1.B = X.C.B ∧ (progC X.C b p R1 R2).1.P = X.C.P := progC_geo X.C b p R1 R2
  have HGE := Hid.mk hge
  clear h h1 hm hs hd hhas S1 hwr hwv hR1 hR2 hgeo hw0 hge
  generalize progC X.C b p R1 R2 = Z at *
  obtain ⟨Z1, Z2⟩ := Z
  go_enter Tryd.func47, Tryd.ntmps47
  go_upto_region 3 with (first
    | (go_at_call 67; rw [HW0.out]; refine HH.out.mono ?_; rintro e w1 ⟨rfl, rfl⟩))
  have hS1 := Hid.mk (prs_all HS.out.drew)
  go_region_held3 (fun w' => w'.cell? ⟨w.heap.size, 0, none⟩ = some (.int .i64 K) ∧ w'.cell? ⟨w.heap.size, 1, none⟩ = some (.int .u64 S) ∧ w'.cell? ⟨w.heap.size, 2, none⟩ = some (.int .i64 I) ∧ w'.cell? ⟨w.heap.size, 3, none⟩ = some (.int .i64 O) ∧ w'.cell? ⟨w.heap.size, 4, none⟩ = some (.int .i64 W) ∧ w'.cell? ⟨A.a, 0, none⟩ = some (.pointer (some ⟨A.L.a, 0, none⟩)) ∧ PrS w A X w.heap.size K S I O W w') (first | assumption | exact hS1.out | exact prs_keep (by assumption) (by assumption) | fail)
    (first | (go_at_call 9; refine (geom_any (by assumption : _ ∧ _ ∧ _ ∧ _ ∧ _ ∧ _ ∧ PrS w A X w.heap.size K S I O W _).2.2.2.2.2.2.2.1.chip).mono ?_; rintro e w3 ⟨rfl, b3⟩) | (go_at_call 45; refine (hfr.out _ (by assumption : _ ∧ _ ∧ _ ∧ _ ∧ _ ∧ _ ∧ PrS w A X w.heap.size K S I O W _).2.2.2.2.2.2.2.2.1).mono ?_; rintro e w3 ⟨rfl, b3⟩))
  have HX : Hid (w3.cell? ⟨w.heap.size, 0, none⟩ = some (.int .i64 K) ∧ w3.cell? ⟨w.heap.size, 1, none⟩ = some (.int .u64 S) ∧ w3.cell? ⟨w.heap.size, 2, none⟩ = some (.int .i64 I) ∧ w3.cell? ⟨w.heap.size, 3, none⟩ = some (.int .i64 O) ∧ w3.cell? ⟨w.heap.size, 4, none⟩ = some (.int .i64 W) ∧ w3.cell? ⟨A.a, 0, none⟩ = some (.pointer (some ⟨A.L.a, 0, none⟩)) ∧ PrS w A X w.heap.size K S I O W w3) := Hid.mk (by assumption)
  replace HS := Hid.mk HX.out.2.2.2.2.2.2
  clear HX hS1 t0 t1 t2 t3 t4 c0 c1 c2 c3 cj
  obtain ⟨c0, c1, c2, c3, _⟩ := HS.out.2.1.cells
  go_wp2_with (go_at_call 68; refine (hpr.out _ HS.out.2.1).mono ?_; rintro e w6 ⟨rfl, h6, k6⟩)
  go_ret
  exact ⟨rfl, HS.out.2.1.chipTo h6 k6 HGE.out.1 HGE.out.2, (Kp.ofBelow HS.out.2.2.2.1).trans (HS.out.2.1.kC k6)⟩
set_option maxRecDepth 100000

/-- a writer that lies now there -/
structure Nxt (A A' : Wl) (B : Nat) (w w' : World) : Prop where
  kp : Kp (A.own B) w w'
  own : ∀ i, A'.own B i → A.own B i ∨ w.heap.size ≤ i
  a : A'.a = A.a
  L : A'.L = A.L
  la : A'.la = A.la
  lo : A'.lo = A.lo
  lg : A'.lg = A.lg
theorem Nxt.of {A : Wl} {B : Nat} {w w' : World} (k : Kp (A.own B) w w') : Nxt A A B w w' := ⟨k, fun _ h => .inl h, rfl, rfl, rfl, rfl, rfl⟩
theorem Nxt.trans {A A' A'' : Wl} {B : Nat} {w w' w'' : World} (h : Nxt A A' B w w') (k : Nxt A' A'' B w' w'') : Nxt A A'' B w w'' := by
  refine ⟨⟨k.kp.os.trans h.kp.os, k.kp.tape.trans h.kp.tape, k.kp.output.trans h.kp.output, Nat.le_trans h.kp.size k.kp.size, fun i hi hn => ?_⟩, fun i hi => ?_, k.a.trans h.a, k.L.trans h.L, k.la.trans h.la, k.lo.trans h.lo, k.lg.trans h.lg⟩
  · exact (k.kp.block i (Nat.lt_of_lt_of_le hi h.kp.size) (fun x => (h.own i x).elim hn (fun y => by omega))).trans (h.kp.block i hi hn)
  · rcases k.own i hi with x | x
    · exact h.own i x
    · exact .inr (Nat.le_trans h.kp.size x)
/-- a block is let be something else; a bad one stays so -/
def letX (xs : List Int) (b : Nat) (v : Int) : List Int := if xs.getD b 0 = 3 then xs else xs.set b v
def letO (xs : List Int) (o : Int) (b : Nat) : Int := if xs.getD b 0 = 3 then o else if o = b then -1 else o
def Wx.letB (X : Wx) (b : Nat) (v : Int) : Wx := { X with xs := letX X.xs b v, o := letO X.xs X.o b }
theorem let_any {w : World} {A X} (h : Wtr w A X) (b : Nat) (hb : b < X.C.B) (v : Int) (hv : 0 ≤ v ∧ v ≤ 3) (h1 : v ≠ 1) : Calls Tryd.prog 85 #[.pointer (some ⟨A.la, 0, none⟩), .int .i64 b, .int .i64 v] w fun e w' =>
    e = .returned (.bool (decide (X.xs.getD b 0 ≠ 3))) ∧ Wtr w' A (X.letB b v) ∧ Kp (A.own X.C.B) w w' := by
  unfold Wx.letB letX letO
  have hl := h.lif.ok.len
  by_cases hx : X.xs.getD b 0 = 3
  · rw [if_pos hx, if_pos hx, decide_eq_false (fun x => x hx)]
    refine (Lf.let_no h.lif b (.inr (by rw [Lf.isL_in X.xs b (by omega)]; exact hx)) v).mono ?_
    rintro e w' ⟨rfl, rfl⟩
    exact ⟨rfl, h, Kp.refl _ _⟩
  · rw [if_neg hx, if_neg hx, decide_eq_true hx]
    refine (Lf.let_yes h.lif b hb hx v hv h1).mono ?_
    rintro e w' ⟨rfl, hl, hk⟩
    exact ⟨rfl, h.lifTo hl hk, h.kL hk⟩
theorem Ints.form3 {w : World} {B v l} (h : Ints w B v l) : ∃ a n c, v = .slice a n c := by
  obtain ⟨a, c, e⟩ := h.form
  exact ⟨a, _, c, e⟩
/-- noted once -/
def note (l : List Int) (b : Int) : List Int := if b ∈ l then l else l ++ [b]
def Wx.retire (X : Wx) (b : Nat) : Wx := { X.letB b 3 with bd := note X.bd b, C := (markC X.C b).1 }
theorem markC_geo (C : Ch) (b : Int) : (markC C b).1.B = C.B ∧ (markC C b).1.P = C.P := by
  unfold markC
  split
  · split <;> exact ⟨rfl, rfl⟩
  · exact ⟨rfl, rfl⟩
theorem Wtr.grownTop {w w1 : World} {A X} (h : Wtr w A X) (g : w.grownBy w1 A.bv.ownBlock) : w1.cell? ⟨A.a, 0, none⟩ = some (.pointer (some ⟨A.L.a, 0, none⟩)) ∧ w1.cell? ⟨A.a, 3, none⟩ = some A.bv ∧ w1.frozen? ⟨A.a, 3, none⟩ = false := by
  obtain ⟨c0, c1, c2, c3, f3⟩ := h.cells
  have e : w1.heap[A.a]? = w.heap[A.a]? := g.block A.a (h.lt _ (.inl rfl)) (fun x => h.dW.2.1 x.symm)
  exact ⟨(World.cell?_of_block (a := ⟨A.a, 0, none⟩) e).trans c0, (World.cell?_of_block (a := ⟨A.a, 3, none⟩) e).trans c3, (World.frozen?_of_block (a := ⟨A.a, 3, none⟩) e).trans f3⟩
theorem retire_any {w : World} {A X} (h : Wtr w A X) (b : Nat) (hb : b < X.C.B) (hd : X.C.did < 999999) (hl : X.bd.length ≤ 100000) : Calls Tryd.prog 69 #[.pointer (some ⟨A.a, 0, none⟩), .int .i64 b] w fun e w' =>
    e = .returned (.int .i64 (markC X.C b).2) ∧ ∃ A', Wtr w' A' (X.retire b) ∧ Nxt A A' X.C.B w w' := by
  unfold Wx.retire note
  have hlet := Hid.mk (Lf.bad_of (let_any h b hb 3 (by omega) (by omega)))
  obtain ⟨c0, c1, c2, c3, _⟩ := h.cells
  obtain ⟨ba, bc, hbv⟩ := h.bad.form
  have hge := markC_geo X.C b
  have HC := Hid.mk (And.intro hd (And.intro hl hge))
  have HV := Hid.mk hbv
  have hmk := Hid.mk (fun (w : World) (L : Ly) (hc : Chip w L X.C) => mark_any hc b hd)
  rw [hbv] at c3
  clear h hd hl hbv hge
  by_cases hm : (b : Int) ∈ X.bd
  · rw [if_pos hm]
    go_enter Tryd.func69, Tryd.ntmps69
    go_wp2_with (first
      | (go_at_call 83; refine hlet.out.mono ?_; rintro e w1 ⟨rfl, h1, k1⟩; obtain ⟨d0, d1, d2, d3, _⟩ := h1.cells; rw [HV.out] at d3; have H1 := Hid.mk (And.intro h1 k1); clear h1 k1)
      | (go_at_call 76; have hr := H1.out.1.bad; rw [HV.out] at hr; refine (contains_any hr.rds (Nat.le_trans HC.out.2.1 (by decide)) _ _).mono ?_; rintro e w2 ⟨rfl, rfl⟩; rw [show decide ((b : Int) ∈ (X.letB b 3).bd) = true from decide_eq_true hm]; clear hr)
      | (go_at_call 84; refine (hmk.out _ _ H1.out.1.chip).mono ?_; rintro e w3 ⟨rfl, h3, k3⟩))
    go_ret
    exact ⟨rfl, A, H1.out.1.chipTo h3 k3 HC.out.2.2.1 HC.out.2.2.2, Nxt.of (H1.out.2.trans (H1.out.1.kC k3))⟩
  · rw [if_neg hm]
    go_enter Tryd.func69, Tryd.ntmps69
    go_wp2_with (first
      | (go_at_call 83; refine hlet.out.mono ?_; rintro e w1 ⟨rfl, h1, k1⟩; obtain ⟨d0, d1, d2, d3, _⟩ := h1.cells; rw [HV.out] at d3; have H1 := Hid.mk (And.intro h1 k1); clear h1 k1)
      | (go_at_call 76; have hr := H1.out.1.bad; rw [HV.out] at hr; refine (contains_any hr.rds (Nat.le_trans HC.out.2.1 (by decide)) _ _).mono ?_; rintro e w2 ⟨rfl, rfl⟩; rw [show decide ((b : Int) ∈ (X.letB b 3).bd) = false from decide_eq_false hm]; clear hr)
      | (at_builtin; refine We.wp_app ei31 rfl _ _ rfl (HV.out ▸ H1.out.1.bad : We.Ow w2 A.lo 3 1 (.slice ba X.bd.length bc) (rowsI X.bd)) (Nat.le_trans (H1.out.1.low _ (.inl rfl)) (Nat.le_of_lt (H1.out.1.lt _ (.inl rfl)))) #[.int .i64 b] rfl rfl rfl (by simp [Value.oneCell']) (by rw [rowsI_len]; have := HC.out.2.1; omega) ?_; intro v3 w3 o3 g3 p3; rw [← HV.out] at g3 p3; obtain ⟨q0, q3, qf⟩ := H1.out.1.grownTop g3; have o4 : Ints w3 A.lo v3 (X.bd ++ [(b : Int)]) := (rowsI_app X.bd b ▸ o3 : We.Ow w3 A.lo 3 1 v3 (rowsI (X.bd ++ [(b : Int)]))); obtain ⟨va, vn, vc, rfl⟩ := o4.form3; have hb := H1.out.1.badTo o4 g3 (.inr p3); have H2 := Hid.mk hb; clear hb o3 o4 g3 p3 d0 d1 d2 d3)
      | (go_at_call 84; refine (hmk.out _ _ H2.out.1.chip).mono ?_; rintro e w4 ⟨rfl, h4, k4⟩))
    go_ret
    exact ⟨rfl, _, H2.out.1.chipTo h4 k4 HC.out.2.2.1 HC.out.2.2.2, (Nxt.of H1.out.2).trans ((⟨H2.out.2.1, H2.out.2.2, rfl, rfl, rfl, rfl, rfl⟩ : Nxt A _ X.C.B _ _).trans (Nxt.of (H2.out.1.kC k4)))⟩
/-- a page could not be written: what is left of the block -/
def Wx.leave (X : Wx) (b : Nat) (e : Int) : Wx := if e = 53 then X.retire b else if e = 52 then X.letB b 2 else X
def Wx.leaveE (X : Wx) (b : Nat) (e : Int) : Int := if e = 53 then (markC X.C b).2 else if e = 52 then 0 else e
theorem leave_any {w : World} {A X} (h : Wtr w A X) (b : Nat) (hb : b < X.C.B) (hd : X.C.did < 999999) (hl : X.bd.length ≤ 100000) (er : Int) : Calls Tryd.prog 48 #[.pointer (some ⟨A.a, 0, none⟩), .int .i64 b, .int .i64 er] w fun e w' =>
    e = .returned (.int .i64 (X.leaveE b er)) ∧ ∃ A', Wtr w' A' (X.leave b er) ∧ Nxt A A' X.C.B w w' := by
  unfold Wx.leave Wx.leaveE
  by_cases h3 : er = 53
  · subst h3
    have HR := Hid.mk (retire_any h b hb hd hl)
    rw [if_pos rfl, if_pos rfl]
    clear h
    go_enter Tryd.func48, Tryd.ntmps48
    go_wp2_with (go_at_call 69; refine HR.out.mono ?_; rintro e w1 ⟨rfl, h1⟩)
    go_ret
    exact ⟨rfl, h1⟩
  · rw [if_neg h3, if_neg h3]
    by_cases h2 : er = 52
    · subst h2
      have HF := Hid.mk (Lf.full_of (let_any h b hb 2 (by omega) (by omega)))
      obtain ⟨c0, c1, c2, c3, _⟩ := h.cells
      rw [if_pos rfl, if_pos rfl]
      clear h
      go_enter Tryd.func48, Tryd.ntmps48
      go_wp2_with (go_at_call 70; refine HF.out.mono ?_; rintro e w1 ⟨rfl, h1, k1⟩)
      go_ret
      exact ⟨rfl, A, h1, Nxt.of k1⟩
    · rw [if_neg h2, if_neg h2]
      have H := Hid.mk h
      clear h
      go_enter Tryd.func48, Tryd.ntmps48
      go_wp2_with fail
      go_ret
      exact ⟨rfl, A, H.out, Nxt.of (Kp.refl _ _)⟩
end Go.Proofs.YtbhggcleijjofaaDoor
