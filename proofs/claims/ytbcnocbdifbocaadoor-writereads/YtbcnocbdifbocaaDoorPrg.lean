/-
  The walks of hasBlock and program. Condition of the second: the table's cells hold what the text lays.
-/
import Derived.Test.YtbcnocbdifbocaaDoorTak
namespace Go.Proofs.YtbcnocbdifbocaaDoor
open Go Go.RowKit
set_option maxRecDepth 100000

theorem fldB (a b c : Int) (w : World) : (Instr.field 23 (.agg #[.int .i64 a, .int .i64 b, .int .i64 c]) 0).run Tryd.prog w = .ok (.int .i64 a) w := by kernel_rfl
theorem fldP (a b c : Int) (w : World) : (Instr.field 23 (.agg #[.int .i64 a, .int .i64 b, .int .i64 c]) 1).run Tryd.prog w = .ok (.int .i64 b) w := by kernel_rfl
theorem fldZ (a b c : Int) (w : World) : (Instr.field 23 (.agg #[.int .i64 a, .int .i64 b, .int .i64 c]) 2).run Tryd.prog w = .ok (.int .i64 c) w := by kernel_rfl
theorem hasB_any {w : World} {A X} (h : Wtr w A X) (b : Int) : Calls Tryd.prog 32 #[.pointer (some ⟨A.a, 0, none⟩), .int .i64 b] w fun e w' => e = .returned (.bool (decide (0 ≤ b ∧ b < X.C.B))) ∧ w' = w := by
  obtain ⟨c0, c1, c2, c3, _⟩ := h.cells
  obtain ⟨wa, wc, hwv⟩ := h.wrn.form
  rw [h.wlen] at hwv
  rw [hwv] at c2
  have hg := h.chip.geo
  clear h hwv
  by_cases h0 : 0 ≤ b
  · by_cases h1 : b < X.C.B
    · rw [decide_eq_true ⟨h0, h1⟩]
      go_enter Tryd.func32, Tryd.ntmps32
      go_wp2
      go_ret
      exact ⟨rfl, rfl⟩
    · rw [decide_eq_false (fun x => h1 x.2)]
      go_enter Tryd.func32, Tryd.ntmps32
      go_wp2
      go_ret
      exact ⟨rfl, rfl⟩
  · rw [decide_eq_false (fun x => h0 x.1)]
    go_enter Tryd.func32, Tryd.ntmps32
    go_wp2
    go_ret
    exact ⟨rfl, rfl⟩
theorem Tab.off {w w' : World} {S : Nat → Prop} (h : Pg.Tab w) (k : Kp S w w') (hs : ¬ S 0) : Pg.Tab w' :=
  ⟨Nat.lt_of_lt_of_le h.1 k.size, fun i hi => (World.cell?_of_block (a := ⟨0, i, none⟩) (k.block 0 h.1 hs)).trans (h.2 i hi)⟩
theorem Wtr.zero {w : World} {A X} (h : Wtr w A X) : ¬ A.own X.C.B 0 := fun x => by have := h.low 0 x; have := h.pos; omega
/-- what program holds on its way -/
def PrS (w : World) (A : Wl) (X : Wx) (g : Nat) (K S I O W : Int) (wx : World) : Prop := Pg.TB wx g K S I O W ∧ Wtr wx A X ∧ Pg.Tab wx ∧ Below w.heap.size w wx ∧ w.heap.size ≤ g
theorem PrS.drew {w : World} {A X} {g : Nat} {K S I O W : Int} {wx : World} (h : PrS w A X g K S I O W wx) : PrS w A X g K S I O W wx.drew := ⟨h.1.drew, h.2.1.drew, h.2.2.1.drew, h.2.2.2.1.drew, h.2.2.2.2⟩
theorem prs_all {w : World} {A X} {g : Nat} {K S I O W : Int} {wx : World} (h : PrS w A X g K S I O W wx) : wx.cell? ⟨g, 0, none⟩ = some (.int .i64 K) ∧ wx.cell? ⟨g, 1, none⟩ = some (.int .u64 S) ∧ wx.cell? ⟨g, 2, none⟩ = some (.int .i64 I) ∧ wx.cell? ⟨g, 3, none⟩ = some (.int .i64 O) ∧ wx.cell? ⟨g, 4, none⟩ = some (.int .i64 W) ∧ wx.cell? ⟨A.a, 0, none⟩ = some (.pointer (some ⟨A.L.a, 0, none⟩)) ∧ PrS w A X g K S I O W wx := by
  obtain ⟨d0, d1, d2, d3, d4⟩ := h.1.five
  exact ⟨d0, d1, d2, d3, d4, h.2.1.cells.1, h⟩
theorem prs_keep {w : World} {A X} {g : Nat} {K S I O W : Int} {wx w2 : World} (h : wx.cell? ⟨g, 0, none⟩ = some (.int .i64 K) ∧ wx.cell? ⟨g, 1, none⟩ = some (.int .u64 S) ∧ wx.cell? ⟨g, 2, none⟩ = some (.int .i64 I) ∧ wx.cell? ⟨g, 3, none⟩ = some (.int .i64 O) ∧ wx.cell? ⟨g, 4, none⟩ = some (.int .i64 W) ∧ wx.cell? ⟨A.a, 0, none⟩ = some (.pointer (some ⟨A.L.a, 0, none⟩)) ∧ PrS w A X g K S I O W wx) (b : Below wx.heap.size wx w2) : w2.cell? ⟨g, 0, none⟩ = some (.int .i64 K) ∧ w2.cell? ⟨g, 1, none⟩ = some (.int .u64 S) ∧ w2.cell? ⟨g, 2, none⟩ = some (.int .i64 I) ∧ w2.cell? ⟨g, 3, none⟩ = some (.int .i64 O) ∧ w2.cell? ⟨g, 4, none⟩ = some (.int .i64 W) ∧ w2.cell? ⟨A.a, 0, none⟩ = some (.pointer (some ⟨A.L.a, 0, none⟩)) ∧ PrS w A X g K S I O W w2 := by
  have h2 := h.2.2.2.2.2.2
  exact prs_all ⟨h2.1.call b, h2.2.1.call b, h2.2.2.1.call b, below3 h2.2.2.2.1 b, h2.2.2.2.2⟩
theorem progC_geo (C : Ch) (b p : Int) (d s : ByteArray) : (progC C b p d s).1.B = C.B ∧ (progC C b p d s).1.P = C.P := by
  unfold progC
  split
  · split
    · split
      · exact ⟨rfl, rfl⟩
      · split
        · exact ⟨rfl, rfl⟩
        · split <;> exact ⟨rfl, rfl⟩
    · exact ⟨rfl, rfl⟩
  · exact ⟨rfl, rfl⟩
/-- the bytes that a page is written with -/
def frD (X : Wx) (s : ByteArray) : ByteArray := Pg.padB s X.C.Z
def frS (X : Wx) (b : Nat) (K S I O : Nat) (s : ByteArray) : ByteArray := Pg.spareB K S I O (X.wn.getD b 0).toNat s X.C.Z
set_option maxHeartbeats 1000000 in
theorem program_any {w : World} {A X} (h : Wtr w A X) (hT : Pg.Tab w) (b : Nat) (hb : b < X.C.B) (p : Int) (K S I O : Nat) (W0 : Int) (hm : Pg.mayB K I O (X.wn.getD b 0)) (s : ByteArray) (hs : s.size ≤ X.C.Z) (hd : X.C.did < 999999) :
    Calls Tryd.prog 40 #[.pointer (some ⟨A.a, 0, none⟩), .int .i64 b, .int .i64 p, Pg.tagV K S I O W0, .string s] w fun e w' =>
      e = .returned (.int .i64 (progC X.C b p (frD X s) (frS X b K S I O s)).2) ∧ Wtr w' A { X with C := (progC X.C b p (frD X s) (frS X b K S I O s)).1 } ∧ Kp (A.own X.C.B) w w' := by
  unfold frD frS
  obtain ⟨W, hW⟩ : ∃ W : Nat, X.wn.getD b 0 = (W : Int) := Int.eq_ofNat_of_zero_le hm.2.2.2.2.2.2.1
  rw [hW] at hm
  rw [hW, Int.toNat_natCast]
  have hgeo := h.chip.geo
  have hfr := Hid.mk (fun w hT => Pg.frame_ok K S I O W hm s X.C.Z hs (by omega) w hT)
  have T0 := Pg.TB.fresh w K S I O W0
  have B0 := (Below.refl w.heap.size w).alloc (Nat.le_refl _) (.cells #[.int .i64 K, .int .u64 S, .int .i64 I, .int .i64 O, .int .i64 W0] 52)
  have h1 := h.call B0
  have B1 := B0.setCell (p := ⟨w.heap.size, 4, none⟩) (Nat.le_refl _) (.int .i64 W)
  have S1 : PrS w A X w.heap.size K S I O W ((w.alloc (.cells #[.int .i64 K, .int .u64 S, .int .i64 I, .int .i64 O, .int .i64 W0] 52)).setCell ⟨w.heap.size, 4, none⟩ (.int .i64 W)) := ⟨T0.set4 (W : Int), h.call B1, hT.call B1, B1, Nat.le_refl _⟩
  have hfz := T0.frozen 4
  obtain ⟨t0, t1, t2, t3, t4⟩ := T0.five
  have hlt : w.heap.size < (w.alloc (.cells #[.int .i64 K, .int .u64 S, .int .i64 I, .int .i64 O, .int .i64 W0] 52)).heap.size := T0.lt
  clear B0 B1 T0 hT
  generalize hw0 : w.alloc (.cells #[.int .i64 K, .int .u64 S, .int .i64 I, .int .i64 O, .int .i64 W0] 52) = V0 at *
  obtain ⟨c0, c1, c2, c3, _⟩ := h1.cells
  obtain ⟨wa, wc, hwv⟩ := h1.wrn.form
  rw [h1.wlen] at hwv
  rw [hwv] at c2
  have hwr := h1.wrn
  rw [hwv] at hwr
  obtain ⟨g, rfl, hgl, -, cj, -⟩ := hwr.cell (j := b) (by rw [h1.wlen]; exact hb)
  rw [hW] at cj
  have hb1 : (b : Int) < X.C.B := by omega
  have hhas := hasB_any h1 (b : Int)
  rw [decide_eq_true (show 0 ≤ (b : Int) ∧ (b : Int) < X.C.B by omega)] at hhas
  have HH := Hid.mk hhas
  have HS := Hid.mk S1
  have HW0 := Hid.mk hw0
  generalize hR1 : Pg.padB s X.C.Z = R1 at *
  generalize hR2 : Pg.spareB K S I O W s X.C.Z = R2 at *
  have hfd := fldZ
  have hpr := Hid.mk (fun (w : World) (h : Wtr w A X) => prog_any h.chip b p R1 R2 hd)
  unfold Pg.tagV at hfr ⊢
  have hge : (progC X.C b p R1 R2).1.B = X.C.B ∧ (progC X.C b p R1 R2).1.P = X.C.P := progC_geo X.C b p R1 R2
  have HGE := Hid.mk hge
  clear h h1 hm hs hd hhas S1 hwr hwv hR1 hR2 hgeo hw0 hge
  generalize progC X.C b p R1 R2 = Z at *
  obtain ⟨Z1, Z2⟩ := Z
  go_enter Tryd.func40, Tryd.ntmps40
  go_upto_region 3 with (first
    | (go_at_call 32; rw [HW0.out]; refine HH.out.mono ?_; rintro e w1 ⟨rfl, rfl⟩))
  have hS1 := Hid.mk (prs_all HS.out.drew)
  go_region_held3 (fun w' => w'.cell? ⟨w.heap.size, 0, none⟩ = some (.int .i64 K) ∧ w'.cell? ⟨w.heap.size, 1, none⟩ = some (.int .u64 S) ∧ w'.cell? ⟨w.heap.size, 2, none⟩ = some (.int .i64 I) ∧ w'.cell? ⟨w.heap.size, 3, none⟩ = some (.int .i64 O) ∧ w'.cell? ⟨w.heap.size, 4, none⟩ = some (.int .i64 W) ∧ w'.cell? ⟨A.a, 0, none⟩ = some (.pointer (some ⟨A.L.a, 0, none⟩)) ∧ PrS w A X w.heap.size K S I O W w') (first | assumption | exact hS1.out | exact prs_keep (by assumption) (by assumption) | fail)
    (first | (go_at_call 11; refine (geom_any (by assumption : _ ∧ _ ∧ _ ∧ _ ∧ _ ∧ _ ∧ PrS w A X w.heap.size K S I O W _).2.2.2.2.2.2.2.1.chip).mono ?_; rintro e w3 ⟨rfl, b3⟩) | (go_at_call 38; refine (hfr.out _ (by assumption : _ ∧ _ ∧ _ ∧ _ ∧ _ ∧ _ ∧ PrS w A X w.heap.size K S I O W _).2.2.2.2.2.2.2.2.1).mono ?_; rintro e w3 ⟨rfl, b3⟩))
  have HX : Hid (w3.cell? ⟨w.heap.size, 0, none⟩ = some (.int .i64 K) ∧ w3.cell? ⟨w.heap.size, 1, none⟩ = some (.int .u64 S) ∧ w3.cell? ⟨w.heap.size, 2, none⟩ = some (.int .i64 I) ∧ w3.cell? ⟨w.heap.size, 3, none⟩ = some (.int .i64 O) ∧ w3.cell? ⟨w.heap.size, 4, none⟩ = some (.int .i64 W) ∧ w3.cell? ⟨A.a, 0, none⟩ = some (.pointer (some ⟨A.L.a, 0, none⟩)) ∧ PrS w A X w.heap.size K S I O W w3) := Hid.mk (by assumption)
  replace HS := Hid.mk HX.out.2.2.2.2.2.2
  clear HX hS1 t0 t1 t2 t3 t4 c0 c1 c2 c3 cj
  obtain ⟨c0, c1, c2, c3, _⟩ := HS.out.2.1.cells
  go_wp2_with (go_at_call 66; refine (hpr.out _ HS.out.2.1).mono ?_; rintro e w6 ⟨rfl, h6, k6⟩)
  go_ret
  exact ⟨rfl, HS.out.2.1.chipTo h6 k6 HGE.out.1 HGE.out.2, (Kp.ofBelow HS.out.2.2.2.1).trans (HS.out.2.1.kC k6)⟩
end Go.Proofs.YtbcnocbdifbocaaDoor
