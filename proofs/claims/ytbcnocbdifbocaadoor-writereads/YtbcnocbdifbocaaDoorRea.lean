/-
  The walk of Read where a page says something, and of no writer. Condition of the first: the table's cells hold what the text lays.
-/
import Derived.Test.YtbcnocbdifbocaaDoorBeg
namespace Go.Proofs.YtbcnocbdifbocaaDoor
open Go Go.RowKit
set_option maxRecDepth 100000

theorem tb_resultR {fn : Func} {p u v : Tmp} (h : fn.results = #[.cell p 52, .tmp u, .tmp v]) {tmps : Array Value} {w : World} {g : Nat} {K S I O W : Int} (hp : tmps.getD p undef = .pointer (some ⟨g, 0, none⟩)) (ha : Pg.TB w g K S I O W) :
    (results fn tmps).run Tryd.prog w = .ok (.tuple #[Pg.tagV K S I O W, tmps.getD u undef, tmps.getD v undef]) w := by
  have hp' : tmps[p]?.getD undef = .pointer (some ⟨g, 0, none⟩) := by simpa using hp
  simp [results, h, hp', asAddr, Pg.tb_load ha]
theorem wread_nil (b : Int) (w : World) : Calls Tryd.prog 20 #[.pointer none, .int .i64 b] w fun e w' => e = .returned (.tuple #[Pg.tagV 0 0 0 0 0, .string ⟨#[]⟩, .int .i64 1]) ∧ Below w.heap.size w w' := by
  have HR := Hid.mk (Pg.TB.fresh w 0 0 0 0 0)
  go_enter Tryd.func20, Tryd.ntmps20
  go_wp2_with fail
  exact bodyPost_ret (tb_resultR rfl rfl HR.out) rfl ⟨rfl, Pg.below_one _ _⟩
/-- a page that says t under this tag -/
def Says (C : Ch) (b p : Nat) (t : ByteArray) (K S I O W : Nat) : Prop := ∃ d s, C.pg b p = d ++ s ∧ d.size = C.Z ∧ Pg.Val d s t K S I O W
/-- what Read holds on its way -/
def RdS (w : World) (A : Wl) (X : Wx) (wx : World) : Prop := Pg.TB wx w.heap.size 0 0 0 0 0 ∧ Wtr wx A X ∧ Pg.Tab wx ∧ Below w.heap.size w wx
theorem rds_keep {w : World} {A X} {wx w2 : World} (h : wx.cell? ⟨A.a, 0, none⟩ = some (.pointer (some ⟨A.L.a, 0, none⟩)) ∧ RdS w A X wx) (b : Below wx.heap.size wx w2) : w2.cell? ⟨A.a, 0, none⟩ = some (.pointer (some ⟨A.L.a, 0, none⟩)) ∧ RdS w A X w2 := by
  have h2 := h.2
  have k := h2.2.1.call b
  exact ⟨k.cells.1, h2.1.call b, k, h2.2.2.1.call b, below3 h2.2.2.2 b⟩
set_option maxHeartbeats 1000000 in
theorem read_ok {w : World} {A X} (h : Wtr w A X) (hT : Pg.Tab w) (b p : Nat) (hb : b < X.C.B) (hp : p < X.C.P) (hoff : X.C.off = false) {t : ByteArray} {K S I O W : Nat} (hs : Says X.C b p t K S I O W) (n : Int) (hn : n = b * X.C.P + p) :
    Calls Tryd.prog 20 #[.pointer (some ⟨A.a, 0, none⟩), .int .i64 n] w fun e w' => e = .returned (.tuple #[Pg.tagV K S I O W, .string t, .int .i64 0]) ∧ Below w.heap.size w w' := by
  have hgeo := h.chip.geo
  obtain ⟨d, s, hpg, hds, hv⟩ := hs
  have hss := hv.size
  have hne : X.C.pg b p ≠ ⟨#[]⟩ := by
    intro e
    have := congrArg ByteArray.size (hpg.symm.trans e)
    rw [ByteArray.size_append, hss] at this
    have h0 : (⟨#[]⟩ : ByteArray).size = 0 := rfl
    omega
  have hseen : seen X.C b p = d ++ s := by unfold seen; rw [if_neg hne, hpg]
  have hrd : rdV X.C b p = .tuple #[.string d, .string s, .int .i64 0] := by
    unfold rdV
    rw [if_pos (refP_ok hoff hb hp), Int.toNat_natCast, Int.toNat_natCast, hseen, ← hds, Pg.extract_left]
    have e : d.size + 32 = (d ++ s).size := by rw [ByteArray.size_append, hss]
    rw [e, Pg.extract_right]
  have hq : n.tdiv (X.C.P : Int) = b := by
    rw [hn, Int.tdiv_eq_ediv_of_nonneg (by have := Int.mul_nonneg (Int.natCast_nonneg b) (Int.natCast_nonneg X.C.P); omega), Int.add_comm, Int.add_mul_ediv_right _ _ (by omega), Int.ediv_eq_zero_of_lt (by omega) (by omega)]
    omega
  have hr : n.tmod (X.C.P : Int) = p := by
    rw [hn, Int.tmod_eq_emod_of_nonneg (by have := Int.mul_nonneg (Int.natCast_nonneg b) (Int.natCast_nonneg X.C.P); omega), Int.add_comm, Int.add_mul_emod_self_right, Int.emod_eq_of_lt (by omega) (by omega)]
  have hread := Hid.mk (fun (w : World) (h : Wtr w A X) => hrd ▸ read_any h.chip b p)
  have hlook := Hid.mk (fun w hT => Pg.look_v hv w hT)
  have T0 := Pg.TB.fresh w 0 0 0 0 0
  have B0 := (Below.refl w.heap.size w).alloc (Nat.le_refl _) (.cells #[.int .i64 0, .int .u64 0, .int .i64 0, .int .i64 0, .int .i64 0] 52)
  have HS : Hid (RdS w A X (w.alloc (.cells #[.int .i64 0, .int .u64 0, .int .i64 0, .int .i64 0, .int .i64 0] 52))) := ⟨T0, h.call B0, hT.call B0, B0⟩
  obtain ⟨c0, -, -, -, -⟩ := h.cells
  have hAl := h.lt _ (.inl rfl)
  have hge := Hid.mk (fun (w : World) (h : Wtr w A X) => geom_any h.chip)
  obtain ⟨P, hP⟩ : ∃ P : Nat, P = X.C.P := ⟨_, rfl⟩
  rw [← hP] at hq hr hge
  have hmx : max (P : Int) 1 = (P : Int) := by omega
  have hP0 : ¬ (P : Int) = 0 := by omega
  have hfd := fldP
  have hw1 : IntKind.i64.wrap (b : Int) = b := by rw [IntKind.wrap_i64]; omega
  have hPn : ¬ P = 0 := by omega
  have hPp : (0 : Int) < (P : Int) := by omega
  unfold Pg.tagV at hlook
  clear h hT hgeo hpg hds hv hss hne hseen hrd hn T0 B0 hP hb hp hoff
  go_enter Tryd.func20, Tryd.ntmps20
  go_upto_region 4 with (first
    | (go_at_call 11; refine (hge.out _ HS.out.2.1).mono ?_; rintro e w1 ⟨rfl, b1⟩; replace HS : Hid (RdS w A X w1) := ⟨HS.out.1.call b1, HS.out.2.1.call b1, HS.out.2.2.1.call b1, below3 HS.out.2.2.2 b1⟩; clear b1))
  have hS1 : Hid (w1.drew.cell? ⟨A.a, 0, none⟩ = some (.pointer (some ⟨A.L.a, 0, none⟩)) ∧ RdS w A X w1.drew) := ⟨HS.out.2.1.cells.1, HS.out.1.drew, HS.out.2.1.drew, HS.out.2.2.1.drew, HS.out.2.2.2.drew⟩
  clear c0
  go_region_held3 (fun w' => w'.cell? ⟨A.a, 0, none⟩ = some (.pointer (some ⟨A.L.a, 0, none⟩)) ∧ RdS w A X w') (first | assumption | exact hS1.out | exact rds_keep (by assumption) (by assumption) | fail) (first | (go_at_call 42; refine (hread.out _ (by assumption : _ ∧ RdS w A X _).2.2.1).mono ?_; rintro e w3 ⟨rfl, b3⟩))
  have HX : Hid (w3.cell? ⟨A.a, 0, none⟩ = some (.pointer (some ⟨A.L.a, 0, none⟩)) ∧ RdS w A X w3) := Hid.mk (by assumption)
  replace HS := Hid.mk HX.out.2
  clear HX hS1
  go_upto_region 8 with (first
    | (go_at_call 43; refine (hlook.out _ HS.out.2.2.1).mono ?_; rintro e w4 ⟨rfl, b4⟩; have N0 := Pg.TB.fresh w4 K S I O W; have O0 := (HS.out.1.call b4).alloc (.cells #[.int .i64 K, .int .u64 S, .int .i64 I, .int .i64 O, .int .i64 W] 52); have BB := (below3 HS.out.2.2.2 b4).alloc (below3 HS.out.2.2.2 b4).size (.cells #[.int .i64 K, .int .u64 S, .int .i64 I, .int .i64 O, .int .i64 W] 52)))
  have hne : w4.heap.size ≠ w.heap.size := by have := HS.out.1.lt; have := b4.size; omega
  generalize w4.heap.size = G at *
  generalize (w4.alloc (.cells #[.int .i64 K, .int .u64 S, .int .i64 I, .int .i64 O, .int .i64 W] 52)) = V at *
  obtain ⟨c0, c1, c2, c3, c4⟩ := N0.five
  obtain ⟨d0, d1, d2, d3, d4⟩ := O0.five
  have f0 := O0.frozen 0
  have f1 := O0.frozen 1
  have f2 := O0.frozen 2
  have f3 := O0.frozen 3
  have f4 := O0.frozen 4
  have HR := Hid.mk (Pg.tb_whole O0 BB (Nat.le_refl _) K S I O W)
  clear O0 N0 BB HS b4
  go_wp2_with fail
  exact bodyPost_ret (tb_resultR rfl rfl HR.out.1) rfl ⟨rfl, HR.out.2⟩
end Go.Proofs.YtbcnocbdifbocaaDoor
