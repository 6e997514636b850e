/-
  The walk of Read where a page says something, and of no writer. Condition of the first: the table's cells hold what the text lays. What a writer and its chip know of each other, where nothing cuts the power: pages are written, or fail. Pure. Pages written one behind the other, block by block, where nothing happens. Pure.
-/
import Derived.Test.YtbhggcleijjofaaDoorBeg
namespace Go.Proofs.YtbhggcleijjofaaDoor
open Go Go.RowKit

set_option maxRecDepth 100000

theorem tb_resultR {fn : Func} {p u v : Tmp} (h : fn.results = #[.cell p 43, .tmp u, .tmp v]) {tmps : Array Value} {w : World} {g : Nat} {K S I O W : Int} (hp : tmps.getD p undef = .pointer (some ⟨g, 0, none⟩)) (ha : Pg.TB w g K S I O W) :
    (results fn tmps).run Tryd.prog w = .ok (.tuple #[Pg.tagV K S I O W, tmps.getD u undef, tmps.getD v undef]) w := by
  have hp' : tmps[p]?.getD undef = .pointer (some ⟨g, 0, none⟩) := by simpa using hp
  simp [results, h, hp', asAddr, Pg.tb_load ha]
theorem wread_nil (b : Int) (w : World) : Calls Tryd.prog 12 #[.pointer none, .int .i64 b] w fun e w' => e = .returned (.tuple #[Pg.tagV 0 0 0 0 0, .string ⟨#[]⟩, .int .i64 1]) ∧ Below w.heap.size w w' := by
  have HR := Hid.mk (Pg.TB.fresh w 0 0 0 0 0)
  go_enter Tryd.func12, Tryd.ntmps12
  go_wp2_with fail
  exact bodyPost_ret (tb_resultR rfl rfl HR.out) rfl ⟨rfl, Pg.below_one _ _⟩
/-- a page that says t under this tag -/
def Says (C : Ch) (b p : Nat) (t : ByteArray) (K S I O W : Nat) : Prop := ∃ d s, C.pg b p = d ++ s ∧ d.size = C.Z ∧ Pg.Val d s t K S I O W
/-- what Read holds on its way -/
def RdS (w : World) (A : Wl) (X : Wx) (wx : World) : Prop := Pg.TB wx w.heap.size 0 0 0 0 0 ∧ Wtr wx A X ∧ Pg.Tab wx ∧ Below w.heap.size w wx
theorem rds_keep {w : World} {A X} {wx w2 : World} (h : wx.cell? ⟨A.a, 0, none⟩ = some (.pointer (some ⟨A.L.a, 0, none⟩)) ∧ RdS w A X wx) (b : Below wx.heap.size wx w2) : w2.cell? ⟨A.a, 0, none⟩ = some (.pointer (some ⟨A.L.a, 0, none⟩)) ∧ RdS w A X w2 := by
  have h2 := h.2
  have k := h2.2.1.call b
  exact ⟨k.cells.1, h2.1.call b, k, h2.2.2.1.call b, below3 h2.2.2.2 b⟩
set_option maxHeartbeats 1000000 in
theorem read_ok {w : World} {A X} (h : Wtr w A X) (hT : Pg.Tab w) (b p : Nat) (hb : b < X.C.B) (hp : p < X.C.P) (hoff : X.C.off = false) {t : ByteArray} {K S I O W : Nat} (hs : Says X.C b p t K S I O W) (n : Int) (hn : n = b * X.C.P + p) :
    Calls Tryd.prog 12 #[.pointer (some ⟨A.a, 0, none⟩), .int .i64 n] w fun e w' => e = .returned (.tuple #[Pg.tagV K S I O W, .string t, .int .i64 0]) ∧ Below w.heap.size w w' := by
  have hgeo := h.chip.geo
  obtain ⟨d, s, hpg, hds, hv⟩ := hs
  have hss := hv.size
  have hne : X.C.pg b p ≠ ⟨#[]⟩ := by
    intro e
    have := congrArg ByteArray.size (hpg.symm.trans e)
    rw [ByteArray.size_append, hss] at this
    have h0 : (⟨#[]⟩ : ByteArray).size = 0 := rfl
    omega
  have hseen : seen X.C b p = d ++ s := by unfold seen; rw [if_neg hne, hpg]
  have hrd : rdV X.C b p = .tuple #[.string d, .string s, .int .i64 0] := by
    unfold rdV
    rw [if_pos (refP_ok hoff hb hp), Int.toNat_natCast, Int.toNat_natCast, hseen, ← hds, Pg.extract_left]
    have e : d.size + 32 = (d ++ s).size := by rw [ByteArray.size_append, hss]
    rw [e, Pg.extract_right]
  have hq : n.tdiv (X.C.P : Int) = b := by
    rw [hn, Int.tdiv_eq_ediv_of_nonneg (by have := Int.mul_nonneg (Int.natCast_nonneg b) (Int.natCast_nonneg X.C.P); omega), Int.add_comm, Int.add_mul_ediv_right _ _ (by omega), Int.ediv_eq_zero_of_lt (by omega) (by omega)]
    omega
  have hr : n.tmod (X.C.P : Int) = p := by
    rw [hn, Int.tmod_eq_emod_of_nonneg (by have := Int.mul_nonneg (Int.natCast_nonneg b) (Int.natCast_nonneg X.C.P); omega), Int.add_comm, Int.add_mul_emod_self_right, Int.emod_eq_of_lt (by omega) (by omega)]
  have hread := Hid.mk (fun (w : World) (h : Wtr w A X) => hrd ▸ read_any h.chip b p)
  have hlook := Hid.mk (fun w hT => Pg.look_v hv w hT)
  have T0 := Pg.TB.fresh w 0 0 0 0 0
  have B0 := (Below.refl w.heap.size w).alloc (Nat.le_refl _) (.cells #[.int .i64 0, .int .u64 0, .int .i64 0, .int .i64 0, .int .i64 0] 43)
  have HS : Hid (RdS w A X (w.alloc (.cells #[.int .i64 0, .int .u64 0, .int .i64 0, .int .i64 0, .int .i64 0] 43))) := ⟨T0, h.call B0, hT.call B0, B0⟩
  obtain ⟨c0, -, -, -, -⟩ := h.cells
  have hAl := h.lt _ (.inl rfl)
  have hge := Hid.mk (fun (w : World) (h : Wtr w A X) => geom_any h.chip)
  obtain ⟨P, hP⟩ : ∃ P : Nat, P = X.C.P := ⟨_, rfl⟩
  rw [← hP] at hq hr hge
  have hmx : max (P : Int) 1 = (P : Int) := by omega
  have hP0 : ¬ (P : Int) = 0 := by omega
  have hfd := fldP
  have hw1 : IntKind.i64.wrap (b : Int) = b := by rw [IntKind.wrap_i64]; omega
  have hPn : ¬ P = 0 := by omega
  have hPp : (0 : Int) < (P : Int) := by omega
  unfold Pg.tagV at hlook
  clear h hT hgeo hpg hds hv hss hne hseen hrd hn T0 B0 hP hb hp hoff
  go_enter Tryd.func12, Tryd.ntmps12
  go_upto_region 4 with (first
    | (go_at_call 9; refine (hge.out _ HS.out.2.1).mono ?_; rintro e w1 ⟨rfl, b1⟩; replace HS : Hid (RdS w A X w1) := ⟨HS.out.1.call b1, HS.out.2.1.call b1, HS.out.2.2.1.call b1, below3 HS.out.2.2.2 b1⟩; clear b1))
  have hS1 : Hid (w1.drew.cell? ⟨A.a, 0, none⟩ = some (.pointer (some ⟨A.L.a, 0, none⟩)) ∧ RdS w A X w1.drew) := ⟨HS.out.2.1.cells.1, HS.out.1.drew, HS.out.2.1.drew, HS.out.2.2.1.drew, HS.out.2.2.2.drew⟩
  clear c0
  go_region_held3 (fun w' => w'.cell? ⟨A.a, 0, none⟩ = some (.pointer (some ⟨A.L.a, 0, none⟩)) ∧ RdS w A X w') (first | assumption | exact hS1.out | exact rds_keep (by assumption) (by assumption) | fail) (first | (go_at_call 29; refine (hread.out _ (by assumption : _ ∧ RdS w A X _).2.2.1).mono ?_; rintro e w3 ⟨rfl, b3⟩))
  have HX : Hid (w3.cell? ⟨A.a, 0, none⟩ = some (.pointer (some ⟨A.L.a, 0, none⟩)) ∧ RdS w A X w3) := Hid.mk (by assumption)
  replace HS := Hid.mk HX.out.2
  clear HX hS1
  go_upto_region 8 with (first
    | (go_at_call 30; refine (hlook.out _ HS.out.2.2.1).mono ?_; rintro e w4 ⟨rfl, b4⟩; have N0 := Pg.TB.fresh w4 K S I O W; have O0 := (HS.out.1.call b4).alloc (.cells #[.int .i64 K, .int .u64 S, .int .i64 I, .int .i64 O, .int .i64 W] 43); have BB := (below3 HS.out.2.2.2 b4).alloc (below3 HS.out.2.2.2 b4).size (.cells #[.int .i64 K, .int .u64 S, .int .i64 I, .int .i64 O, .int .i64 W] 43)))
  have hne : w4.heap.size ≠ w.heap.size := by have := HS.out.1.lt; have := b4.size; omega
  generalize w4.heap.size = G at *
  generalize (w4.alloc (.cells #[.int .i64 K, .int .u64 S, .int .i64 I, .int .i64 O, .int .i64 W] 43)) = V at *
  obtain ⟨c0, c1, c2, c3, c4⟩ := N0.five
  obtain ⟨d0, d1, d2, d3, d4⟩ := O0.five
  have f0 := O0.frozen 0
  have f1 := O0.frozen 1
  have f2 := O0.frozen 2
  have f3 := O0.frozen 3
  have f4 := O0.frozen 4
  have HR := Hid.mk (Pg.tb_whole O0 BB (Nat.le_refl _) K S I O W)
  clear O0 N0 BB HS b4
  go_wp2_with fail
  exact bodyPost_ret (tb_resultR rfl rfl HR.out.1) rfl ⟨rfl, HR.out.2⟩
set_option maxRecDepth 100000

theorem usedB_of {C : Ch} {b p : Nat} (h : ∀ q, p ≤ q → q < C.P → C.pg b q = ⟨#[]⟩) : usedB C b p = false := by
  unfold usedB
  rw [List.any_eq_false]
  intro q hq
  simp only [decide_eq_true_eq, not_and, ne_eq, Decidable.not_not]
  exact fun h1 => h q h1 (List.mem_range.1 hq)
theorem pr_ok {C : Ch} {b p : Nat} {d s : ByteArray} (hoff : C.off = false) (hb : b < C.B) (hp : p < C.P) (hd : d.size = C.Z) (hs : s.size = 32) (hu : ∀ q, p ≤ q → q < C.P → C.pg b q = ⟨#[]⟩) (hc : C.cuts (C.did + 1) = none) (hde : C.dead b = false) (hf : C.fails (C.did + 1) = false) :
    progC C b p d s = (putPg { C with did := C.did + 1 } b p (kp C.Z (d ++ s)), 0) := by
  unfold progC
  rw [if_pos (refP_ok hoff hb hp), if_pos ⟨hd, hs⟩, Int.toNat_natCast, Int.toNat_natCast, if_neg (by rw [usedB_of hu]; decide), hc]
  simp only
  rw [hde, hf, if_neg (by decide)]
theorem pr_fail {C : Ch} {b p : Nat} {d s : ByteArray} (hoff : C.off = false) (hb : b < C.B) (hp : p < C.P) (hd : d.size = C.Z) (hs : s.size = 32) (hu : ∀ q, p ≤ q → q < C.P → C.pg b q = ⟨#[]⟩) (hc : C.cuts (C.did + 1) = none) (hf : C.fails (C.did + 1) = true) :
    progC C b p d s = (putPg { C with did := C.did + 1, dead := upd C.dead b true } b p (rep (C.Z + 32) 0), 53) := by
  unfold progC
  rw [if_pos (refP_ok hoff hb hp), if_pos ⟨hd, hs⟩, Int.toNat_natCast, Int.toNat_natCast, if_neg (by rw [usedB_of hu]; decide), hc]
  simp only
  rw [hf, Bool.or_true, if_pos rfl]
theorem pr_cut {C : Ch} {b p : Nat} {d s : ByteArray} {x : Int × Int} (hoff : C.off = false) (hb : b < C.B) (hp : p < C.P) (hd : d.size = C.Z) (hs : s.size = 32) (hu : ∀ q, p ≤ q → q < C.P → C.pg b q = ⟨#[]⟩) (hc : C.cuts (C.did + 1) = some x) :
    progC C b p d s = (putPg { C with did := C.did + 1, off := true } b p (kp C.Z (tornP C.Z (d ++ s) x.1 x.2)), 51) := by
  unfold progC
  rw [if_pos (refP_ok hoff hb hp), if_pos ⟨hd, hs⟩, Int.toNat_natCast, Int.toNat_natCast, if_neg (by rw [usedB_of hu]; decide), hc]
theorem pr_off {C : Ch} {b p : Int} {d s : ByteArray} (hoff : C.off = true) : progC C b p d s = (C, 51) := by
  unfold progC
  have h : refP C b p = 51 := by unfold refP refB; rw [if_pos hoff, if_neg (by decide)]
  rw [if_neg (by rw [h]; decide), h]
theorem allF_rep (n : Nat) : Pg.allF (rep n 255) = true := by
  unfold Pg.allF rep
  rw [List.all_eq_true]
  intro x hx
  have : x = 255 := List.eq_of_mem_replicate (by simpa using hx)
  rw [this]
  rfl
/-- a framed page is kept as it is -/
theorem kp_val {Z : Nat} {d s t : ByteArray} {K S I O W : Nat} (h : Pg.Val d s t K S I O W) : kp Z (d ++ s) = d ++ s := by
  unfold kp
  rw [if_neg]
  intro e
  have := allF_rep (Z + 32)
  rw [← e, Pg.allF_append, h.not, Bool.and_false] at this
  cases this
theorem putPg_pg (C : Ch) (b p : Nat) (v : ByteArray) (i j : Nat) : (putPg C b p v).pg i j = if i = b ∧ j = p then v else C.pg i j := by
  unfold putPg upd
  by_cases h1 : i = b <;> by_cases h2 : j = p <;> simp [h1, h2]
/-- a writer and its chip know of each other what is free -/
structure Fin (X : Wx) : Prop where
  off : X.C.off = false
  free : ∀ b, b < X.C.B → X.xs.getD b 0 = 0 → X.C.dead b = false ∧ ∀ p, p < X.C.P → X.C.pg b p = ⟨#[]⟩
  opn : ∀ b, b < X.C.B → X.xs.getD b 0 = 1 → X.C.dead b = false ∧ ∀ p : Nat, X.nx ≤ p → p < X.C.P → X.C.pg b p = ⟨#[]⟩
  cnt : ∀ i, 0 ≤ X.wn.getD i 0 ∧ X.wn.getD i 0 ≤ 60000
  geo : X.C.Z ≤ 256
theorem Fin.may {X : Wx} (h : Fin X) {K I O : Nat} (hm : Pg.mayB K I O ((0 : Nat) : Int)) (i : Nat) : Pg.mayB K I O (X.wn.getD i 0) := by
  have := h.cnt i
  unfold Pg.mayB at *
  omega
/-- the block of which a page is taken: what is known of it -/
theorem Fin.tk {X : Wx} (h : Fin X) (ok : Lf.Ok X.C.B X.C.P X.xs X.o X.nx) {b X1 p} (ht : Tk X b X1 p) : b < X.C.B ∧ ∃ q : Nat, p = (q : Int) ∧ q < X.C.P ∧ X.C.dead b = false ∧ ∀ r : Nat, q ≤ r → r < X.C.P → X.C.pg b r = ⟨#[]⟩ := by
  have hk := ok.kb
  rcases ht with ⟨h1, _, rfl⟩ | ⟨_, h1, _, rfl⟩
  · obtain ⟨h2, h3⟩ := ok.open_at b h1
    have h4 := ok.nxr
    have h5 := ok.nxo (by omega)
    obtain ⟨q, hq⟩ := Int.eq_ofNat_of_zero_le h4.1
    obtain ⟨d1, d2⟩ := h.opn b h2 h3
    exact ⟨h2, q, hq, by omega, d1, fun r hr hrP => d2 r (by omega) hrP⟩
  · obtain ⟨d1, d2⟩ := h.free b h1.lt h1.free
    exact ⟨h1.lt, 0, rfl, by omega, d1, fun r _ hrP => d2 r hrP⟩
/-- the bytes of a page of data, under a block's count -/
theorem fr_val (X : Wx) (b K n I O : Nat) (s : ByteArray) (hm : Pg.mayB K I O ((0 : Nat) : Int)) (hc : 0 ≤ X.wn.getD b 0 ∧ X.wn.getD b 0 ≤ 60000) (hZ : X.C.Z ≤ 256) (hn : n < 18446744073709551616) (hs : s.size ≤ X.C.Z) : Pg.Val (frD X s) (frS X b K n I O s) s K n I O (X.wn.getD b 0).toNat ∧ (frD X s).size = X.C.Z ∧ (frS X b K n I O s).size = 32 :=
  ⟨Pg.Val.framed K n I O (X.wn.getD b 0).toNat (by unfold Pg.mayB at *; omega) hn s X.C.Z hs (by omega), Pg.padB_size s X.C.Z hs, Pg.spareB_size ..⟩
/-- a page is written -/
def Wx.put (X : Wx) (b p K n I O : Nat) (s : ByteArray) : Wx := { X with C := putPg { X.C with did := X.C.did + 1 } b p (frD X s ++ frS X b K n I O s) }
theorem Fin.wrote {X : Wx} (h : Fin X) (ok : Lf.Ok X.C.B X.C.P X.xs X.o X.nx) {b : Nat} {X1 : Wx} {p : Int} (ht : Tk X b X1 p) (K n I O : Nat) (hm : Pg.mayB K I O ((0 : Nat) : Int)) (hn : n < 18446744073709551616) (s : ByteArray) (hs : s.size ≤ X.C.Z) (hc : X.C.cuts (X.C.did + 1) = none) (hf : X.C.fails (X.C.did + 1) = false) :
    ∃ q : Nat, p = (q : Int) ∧ q < X.C.P ∧ b < X.C.B ∧ X1.prE b p K n I O s = 0 ∧ X1.prX b p K n I O s = X1.put b q K n I O s := by
  obtain ⟨hb, q, rfl, hq, hde, hpg⟩ := h.tk ok ht
  obtain ⟨e1, e2, _⟩ := ht.C
  have hv := fr_val X1 b K n I O s hm (by rw [e2]; exact h.cnt b) (by rw [e1]; exact h.geo) hn (by rw [e1]; exact hs)
  have hp := pr_ok (C := X1.C) (b := b) (p := q) (d := frD X1 s) (s := frS X1 b K n I O s) (by rw [e1]; exact h.off) (by rw [e1]; exact hb) (by rw [e1]; exact hq) hv.2.1 hv.2.2 (by rw [e1]; exact hpg) (by rw [e1]; exact hc) (by rw [e1]; exact hde) (by rw [e1]; exact hf)
  rw [kp_val hv.1] at hp
  refine ⟨q, rfl, hq, hb, ?_, ?_⟩
  · unfold Wx.prE; rw [hp]
  · unfold Wx.prX Wx.put; rw [hp]
/-- what Append answers where nothing happens -/
def PlOk (X : Wx) (K n I O : Nat) (s : ByteArray) (pl er : Int) (Y : Wx) : Prop :=
  (pl = 0 ∧ er = 130 ∧ Y = X ∧ X.o = -1 ∧ ∀ i, i < X.C.B → X.xs.getD i 0 ≠ 0) ∨ ∃ (b : Nat) (X1 : Wx) (q : Nat), Tk X b X1 q ∧ b < X.C.B ∧ q < X.C.P ∧ pl = b * X.C.P + q ∧ er = 0 ∧ Y = X1.put b q K n I O s
theorem append_plain {w : World} {A X} (h : Wtr w A X) (hT : Pg.Tab w) (hF : Fin X) (K n I O : Nat) (hm : Pg.mayB K I O ((0 : Nat) : Int)) (hn : n < 18446744073709551616) (s : ByteArray) (hs : s.size ≤ X.C.Z) (hd : X.C.did < 900000) (hl : X.bd.length ≤ 90000) (hc : X.C.cuts (X.C.did + 1) = none) (hf : X.C.fails (X.C.did + 1) = false) (W0 : Int) :
    Calls Tryd.prog 28 #[.pointer (some ⟨A.a, 0, none⟩), Pg.tagV K n I O W0, .string s] w fun e w' => ∃ pl er X' A', e = .returned (.tuple #[.int .i64 pl, .int .i64 er]) ∧ PlOk X K n I O s pl er X' ∧ Geq X' X ∧ Wtr w' A' X' ∧ Nxt A A' X.C.B w w' := by
  refine append_any h hT (fun Y => Y = X) (PlOk X K n I O s) K n I O W0 s rfl ⟨?_, ?_, ?_, ?_, ?_⟩
  · rintro Y rfl
    exact ⟨hd, fun i _ => hF.may hm i, hs, hl⟩
  · rintro Y rfl _ h1 h2
    exact .inl ⟨rfl, rfl, rfl, h1, h2⟩
  · rintro Y b X1 p rfl ok _ _ _ ht _
    obtain ⟨q, rfl, hq, hb, _, hx⟩ := hF.wrote ok ht K n I O hm hn s hs hc hf
    exact .inr ⟨b, X1, q, ht, hb, hq, rfl, rfl, hx⟩
  · rintro Y b X1 p rfl ok _ _ _ ht he
    obtain ⟨q, rfl, hq, hb, h0, hx⟩ := hF.wrote ok ht K n I O hm hn s hs hc hf
    exact absurd h0 he
  · rintro Y b X1 p rfl ok _ _ _ ht he
    obtain ⟨q, rfl, hq, hb, h0, hx⟩ := hF.wrote ok ht K n I O hm hn s hs hc hf
    exact absurd h0 he
/-- a page that is there stays there when another is written -/
theorem Says.put {C C' : Ch} {b p b' p' : Nat} {t v : ByteArray} {K S I O W : Nat} (h : Says C b p t K S I O W) (e : C' = putPg C b' p' v) (hne : ¬ (b = b' ∧ p = p')) : Says C' b p t K S I O W := by
  obtain ⟨d, s, h1, h2, h3⟩ := h
  subst e
  exact ⟨d, s, by rw [putPg_pg, if_neg hne]; exact h1, h2, h3⟩
theorem put_says (X : Wx) (b q K n I O : Nat) (s : ByteArray) (hm : Pg.mayB K I O ((0 : Nat) : Int)) (hc : 0 ≤ X.wn.getD b 0 ∧ X.wn.getD b 0 ≤ 60000) (hZ : X.C.Z ≤ 256) (hn : n < 18446744073709551616) (hs : s.size ≤ X.C.Z) : Says (X.put b q K n I O s).C b q s K n I O (X.wn.getD b 0).toNat := by
  have hv := fr_val X b K n I O s hm hc hZ hn hs
  exact ⟨_, _, by show (putPg _ b q _).pg b q = _; rw [putPg_pg, if_pos ⟨rfl, rfl⟩], hv.2.1, hv.1⟩
theorem put_says_other (X : Wx) (b q K n I O : Nat) (s : ByteArray) {b' q' : Nat} {t : ByteArray} {K' S' I' O' W' : Nat} (h : Says X.C b' q' t K' S' I' O' W') (hne : ¬ (b' = b ∧ q' = q)) : Says (X.put b q K n I O s).C b' q' t K' S' I' O' W' := by
  obtain ⟨d, s', h1, h2, h3⟩ := h
  exact ⟨d, s', by show (putPg _ b q _).pg b' q' = _; rw [putPg_pg, if_neg hne]; exact h1, h2, h3⟩
/-- what taking a page makes of the blocks -/
theorem Tk.xs {X : Wx} {b X1 p} (ok : Lf.Ok X.C.B X.C.P X.xs X.o X.nx) (h : Tk X b X1 p) : b < X.C.B ∧ X1.xs.length = X.C.B ∧ X1.nx = p + 1 ∧ (∀ i, X1.xs.getD i 0 = if i = b then (if p + 1 = X.C.P then 2 else 1) else X.xs.getD i 0) ∧ X1.o = (if p + 1 = X.C.P then -1 else (b : Int)) ∧ 0 ≤ p ∧ p < X.C.P ∧ Lf.Ok X1.C.B X1.C.P X1.xs X1.o X1.nx := by
  have hl := ok.len
  have hk := ok.kb
  rcases h with ⟨h1, rfl, rfl⟩ | ⟨h1, h2, rfl, rfl⟩
  · obtain ⟨h2, h3⟩ := ok.open_at b h1
    have h5 := ok.nxo (by omega)
    have h4 := ok.nxr
    refine ⟨h2, ?_, rfl, ?_, rfl, h4.1, h5, ?_⟩
    · show (Lf.tkX X.C.P X.xs b X.nx).length = _
      unfold Lf.tkX; split <;> simp [hl]
    · intro i
      show (Lf.tkX X.C.P X.xs b X.nx).getD i 0 = _
      unfold Lf.tkX
      by_cases e : X.nx + 1 = X.C.P
      · rw [if_pos e, if_pos e, Lf.getD_set X.xs i b 2 (by omega)]
      · rw [if_neg e, if_neg e]
        by_cases e2 : i = b
        · rw [if_pos e2, e2, h3]
        · rw [if_neg e2]
    · show Lf.Ok X.C.B X.C.P (Lf.tkX X.C.P X.xs b X.nx) (Lf.tkO X.C.P b X.nx) (X.nx + 1)
      unfold Lf.tkX Lf.tkO
      by_cases e : X.nx + 1 = X.C.P
      · rw [if_pos e, if_pos e]; exact ok.last b h1 e
      · rw [if_neg e, if_neg e, ← h1]; exact ok.more (by omega)
  · have ok1 := Lf.Ok.opened (by rw [← h1]; exact ok : Lf.Ok X.C.B X.C.P X.xs (-1) X.nx) b h2.lt
    refine ⟨h2.lt, ?_, rfl, ?_, rfl, by omega, by omega, ?_⟩
    · show (Lf.tkX X.C.P (X.xs.set b 1) b 0).length = _
      unfold Lf.tkX; split <;> simp [hl]
    · intro i
      show (Lf.tkX X.C.P (X.xs.set b 1) b 0).getD i 0 = _
      unfold Lf.tkX
      by_cases e : (0 : Int) + 1 = X.C.P
      · rw [if_pos e, if_pos e, List.set_set, Lf.getD_set X.xs i b 2 (by have := h2.lt; omega)]
      · rw [if_neg e, if_neg e, Lf.getD_set X.xs i b 1 (by have := h2.lt; omega)]
    · show Lf.Ok X.C.B X.C.P (Lf.tkX X.C.P (X.xs.set b 1) b 0) (Lf.tkO X.C.P b 0) (0 + 1)
      unfold Lf.tkX Lf.tkO
      by_cases e : (0 : Int) + 1 = X.C.P
      · rw [if_pos e, if_pos e]; exact ok1.last b rfl e
      · rw [if_neg e, if_neg e]; exact ok1.more (by omega)
set_option maxRecDepth 100000

/-- of a block of which a page was taken none else is open -/
theorem Tk.others {X : Wx} {b X1 p} (ok : Lf.Ok X.C.B X.C.P X.xs X.o X.nx) (h : Tk X b X1 p) {i : Nat} (hi : i < X.C.B) (hne : i ≠ b) : X.xs.getD i 0 ≠ 1 := by
  intro e
  have := (ok.opn i hi).1 e
  rcases h with ⟨h1, _⟩ | ⟨h1, _⟩ <;> omega
theorem Fin.put {X : Wx} (h : Fin X) (ok : Lf.Ok X.C.B X.C.P X.xs X.o X.nx) {b : Nat} {X1 : Wx} {q : Nat} (ht : Tk X b X1 q) (K n I O : Nat) (s : ByteArray) : Fin (X1.put b q K n I O s) := by
  obtain ⟨hb, hl, hnx, hxs, _, _, _, _⟩ := ht.xs ok
  obtain ⟨e1, e2, e3⟩ := ht.C
  obtain ⟨_, q', hq', hqP, hde, hpg⟩ := h.tk ok ht
  obtain rfl : q = q' := by omega
  have hC : (X1.put b q K n I O s).C.B = X.C.B ∧ (X1.put b q K n I O s).C.P = X.C.P ∧ (X1.put b q K n I O s).C.dead = X.C.dead ∧ (X1.put b q K n I O s).C.off = X.C.off ∧ (X1.put b q K n I O s).C.Z = X.C.Z := by
    show X1.C.B = X.C.B ∧ X1.C.P = X.C.P ∧ X1.C.dead = X.C.dead ∧ X1.C.off = X.C.off ∧ X1.C.Z = X.C.Z
    rw [e1]; exact ⟨rfl, rfl, rfl, rfl, rfl⟩
  have hp : ∀ i p, ¬ (i = b ∧ p = q) → (X1.put b q K n I O s).C.pg i p = X.C.pg i p := by
    intro i p hne
    show (putPg _ b q _).pg i p = _
    rw [putPg_pg, if_neg hne]
    show X1.C.pg i p = X.C.pg i p
    rw [e1]
  obtain ⟨c1, c2, c3, c4, c5⟩ := hC
  refine ⟨by rw [c4]; exact h.off, fun i hi hx => ?_, fun i hi hx => ?_, fun i => ?_, by rw [c5]; exact h.geo⟩
  · rw [c1] at hi
    have hx' : X1.xs.getD i 0 = 0 := hx
    rw [hxs i] at hx'
    by_cases e : i = b
    · rw [if_pos e] at hx'; split at hx' <;> omega
    · rw [if_neg e] at hx'
      obtain ⟨d1, d2⟩ := h.free i hi hx'
      exact ⟨by rw [c3]; exact d1, fun p hp' => by rw [hp i p (fun x => e x.1)]; exact d2 p (by rw [← c2]; exact hp')⟩
  · rw [c1] at hi
    have hx' : X1.xs.getD i 0 = 1 := hx
    rw [hxs i] at hx'
    by_cases e : i = b
    · subst e
      refine ⟨by rw [c3]; exact hde, fun p hp1 hp2 => ?_⟩
      have hp1' : X1.nx ≤ p := hp1
      rw [hnx] at hp1'
      rw [hp i p (fun x => by omega)]
      exact hpg p (by omega) (by rw [← c2]; exact hp2)
    · rw [if_neg e] at hx'
      exact absurd hx' (ht.others ok hi e)
  · have : (X1.put b q K n I O s).wn = X.wn := e2
    rw [this]; exact h.cnt i
theorem Fin.beg (b p z : Nat) (cl : List (Int × Int × Int)) (fl : List Int) (hz : z ≤ 256) : Fin (begX b p z cl fl) := by
  have hr : ∀ i, (List.replicate b (0 : Int)).getD i 0 = 0 := fun i => by
    by_cases h : i < b <;> simp [List.getD_eq_getElem?_getD, h]
  refine ⟨rfl, fun i _ _ => ⟨by simp [begX, begC, newC], fun _ _ => rfl⟩, fun i _ hx => ?_, fun i => ?_, hz⟩
  · have : (List.replicate b (0 : Int)).getD i 0 = 1 := hx
    rw [hr] at this; omega
  · show 0 ≤ (List.replicate b (0 : Int)).getD i 0 ∧ _ ≤ _
    rw [show (begX b p z cl fl).wn = List.replicate b 0 from rfl, hr]; omega
/-- a tag: Kind, Seq, Index, Of -/
abbrev Tg := Nat × Nat × Nat × Nat
/-- one that may be -/
def okT (q : Tg) : Prop := Pg.mayB q.1 q.2.2.1 q.2.2.2 ((0 : Nat) : Int) ∧ q.2.1 < 18446744073709551616
/-- a blocks are written whole, and r pages of the next -/
structure Sq (D : Nat) (X : Wx) (a r : Nat) (T : Nat → ByteArray) (Q : Nat → Tg) : Prop where
  fin : Fin X
  wz : ∀ i, X.wn.getD i 0 = 0
  le : a < X.C.B ∧ r < X.C.P ∨ a = X.C.B ∧ r = 0
  xs : ∀ i, i < X.C.B → X.xs.getD i 0 = if i < a then 2 else if i = a ∧ 0 < r then 1 else 0
  nx : 0 < r → X.nx = r
  says : ∀ i p, (i < a ∧ p < X.C.P) ∨ (i = a ∧ p < r) → Says X.C i p (T (i * X.C.P + p)) (Q (i * X.C.P + p)).1 (Q (i * X.C.P + p)).2.1 (Q (i * X.C.P + p)).2.2.1 (Q (i * X.C.P + p)).2.2.2 0
  did : X.C.did + (D : Int) = ((a * X.C.P + r : Nat) : Int)
  bd : X.bd = []
theorem Sq.beg (b p z : Nat) (cl : List (Int × Int × Int)) (fl : List Int) (hz : z ≤ 256) (hb : 0 < b) (hp : 0 < p) (T : Nat → ByteArray) (Q : Nat → Tg) : Sq 0 (begX b p z cl fl) 0 0 T Q := by
  have hr : ∀ i, (List.replicate b (0 : Int)).getD i 0 = 0 := fun i => by
    by_cases h : i < b <;> simp [List.getD_eq_getElem?_getD, h]
  refine ⟨Fin.beg b p z cl fl hz, hr, .inl ⟨hb, hp⟩, fun i _ => ?_, fun h => by omega, fun i p h => by omega, ?_, rfl⟩
  · rw [if_neg (by omega), if_neg (by omega)]
    exact hr i
  · show (0 : Int) + ((0 : Nat) : Int) = _
    simp
theorem Sq.tk {D : Nat} {X : Wx} {a r T Q} (h : Sq D X a r T Q) (ok : Lf.Ok X.C.B X.C.P X.xs X.o X.nx) {b : Nat} {X1 : Wx} {p : Int} (ht : Tk X b X1 p) : a < X.C.B ∧ b = a ∧ p = r := by
  have hab : a < X.C.B := by
    rcases h.le with q | q
    · exact q.1
    · have hb := (ht.xs ok).1
      exfalso
      have hx := h.xs b hb
      rw [if_pos (by omega)] at hx
      rcases ht with ⟨h1, _⟩ | ⟨_, h1, _⟩
      · have := (ok.open_at b h1).2; omega
      · have := h1.free; omega
  have hxa := h.xs a hab
  rw [if_neg (by omega)] at hxa
  by_cases hr : 0 < r
  · rw [if_pos ⟨rfl, hr⟩] at hxa
    have ho := (ok.opn a hab).1 hxa
    rcases ht with ⟨h1, _, rfl⟩ | ⟨h1, _⟩
    · exact ⟨hab, by omega, h.nx hr⟩
    · omega
  · rw [if_neg (fun x => hr x.2)] at hxa
    rcases ht with ⟨h1, _⟩ | ⟨_, h1, _, rfl⟩
    · exfalso
      obtain ⟨h2, h3⟩ := ok.open_at b h1
      have hx := h.xs b h2
      rw [h3] at hx
      split at hx
      · omega
      · split at hx <;> omega
    · refine ⟨hab, ?_, by omega⟩
      rcases Nat.lt_trichotomy b a with e | e | e
      · exfalso
        have hx := h.xs b h1.lt
        rw [if_pos e, h1.free] at hx
        omega
      · exact e
      · exfalso
        have := h1.first a e hxa
        rw [h.wz, h.wz] at this
        omega
theorem Sq.more {D : Nat} {X : Wx} {a r T Q} (h : Sq D X a r T Q) (ok : Lf.Ok X.C.B X.C.P X.xs X.o X.nx) (hn : okT (Q (a * X.C.P + r))) (hs : (T (a * X.C.P + r)).size ≤ X.C.Z) {X1 : Wx} (ht : Tk X a X1 (r : Nat)) :
    ∃ a' r', a' * X.C.P + r' = a * X.C.P + r + 1 ∧ (r' < X.C.P) ∧ Sq D (X1.put a r (Q (a * X.C.P + r)).1 (Q (a * X.C.P + r)).2.1 (Q (a * X.C.P + r)).2.2.1 (Q (a * X.C.P + r)).2.2.2 (T (a * X.C.P + r))) a' r' T Q ∧ (a' = a ∧ r' = r + 1 ∨ a' = a + 1 ∧ r' = 0 ∧ r + 1 = X.C.P) := by
  obtain ⟨hab, _, _⟩ := h.tk ok ht
  obtain ⟨hb, hl, hnx, hxs, ho, _, hrP, _⟩ := ht.xs ok
  obtain ⟨e1, e2, e3⟩ := ht.C
  have hk := ok.kb
  have hf := h.fin.put ok ht (Q (a * X.C.P + r)).1 (Q (a * X.C.P + r)).2.1 (Q (a * X.C.P + r)).2.2.1 (Q (a * X.C.P + r)).2.2.2 (T (a * X.C.P + r))
  have cB : (X1.put a r (Q (a * X.C.P + r)).1 (Q (a * X.C.P + r)).2.1 (Q (a * X.C.P + r)).2.2.1 (Q (a * X.C.P + r)).2.2.2 (T (a * X.C.P + r))).C.B = X.C.B := by show X1.C.B = X.C.B; rw [e1]
  have cP : (X1.put a r (Q (a * X.C.P + r)).1 (Q (a * X.C.P + r)).2.1 (Q (a * X.C.P + r)).2.2.1 (Q (a * X.C.P + r)).2.2.2 (T (a * X.C.P + r))).C.P = X.C.P := by show X1.C.P = X.C.P; rw [e1]
  have hwz : ∀ i, (X1.put a r (Q (a * X.C.P + r)).1 (Q (a * X.C.P + r)).2.1 (Q (a * X.C.P + r)).2.2.1 (Q (a * X.C.P + r)).2.2.2 (T (a * X.C.P + r))).wn.getD i 0 = 0 := fun i => by
    show X1.wn.getD i 0 = 0; rw [e2]; exact h.wz i
  have hdid : (X1.put a r (Q (a * X.C.P + r)).1 (Q (a * X.C.P + r)).2.1 (Q (a * X.C.P + r)).2.2.1 (Q (a * X.C.P + r)).2.2.2 (T (a * X.C.P + r))).C.did + (D : Int) = ((a * X.C.P + r + 1 : Nat) : Int) := by
    show X1.C.did + 1 + (D : Int) = _; rw [e1]; have := h.did; omega
  have hsay : ∀ i p, (i < a ∧ p < X.C.P) ∨ (i = a ∧ p < r + 1) → Says (X1.put a r (Q (a * X.C.P + r)).1 (Q (a * X.C.P + r)).2.1 (Q (a * X.C.P + r)).2.2.1 (Q (a * X.C.P + r)).2.2.2 (T (a * X.C.P + r))).C i p (T (i * X.C.P + p)) (Q (i * X.C.P + p)).1 (Q (i * X.C.P + p)).2.1 (Q (i * X.C.P + p)).2.2.1 (Q (i * X.C.P + p)).2.2.2 0 := by
    intro i p hip
    by_cases e : i = a ∧ p = r
    · obtain ⟨rfl, rfl⟩ := e
      have := put_says X1 i p (Q (i * X.C.P + p)).1 (Q (i * X.C.P + p)).2.1 (Q (i * X.C.P + p)).2.2.1 (Q (i * X.C.P + p)).2.2.2 (T (i * X.C.P + p)) hn.1 (by rw [e2]; exact h.fin.cnt i) (by rw [e1]; exact h.fin.geo) hn.2 (by rw [e1]; exact hs)
      rw [e2, h.wz] at this
      exact this
    · exact put_says_other X1 a r _ _ _ _ _ (by rw [e1]; exact h.says i p (by omega)) (fun x => e ⟨x.1, x.2⟩)
  by_cases e : r + 1 = X.C.P
  · refine ⟨a + 1, 0, ?_, by omega, ⟨hf, hwz, ?_, fun i hi => ?_, fun x => by omega, fun i p hip => ?_, ?_, by show X1.bd = []; rw [e3]; exact h.bd⟩, .inr ⟨rfl, rfl, e⟩⟩
    · rw [Nat.succ_mul]; omega
    · rw [cB, cP]; omega
    · rw [cB] at hi
      show X1.xs.getD i 0 = _
      rw [hxs i, if_pos (show ((r : Nat) : Int) + 1 = X.C.P by omega)]
      have := h.xs i hi
      by_cases e2 : i = a
      · rw [if_pos e2, if_pos (by omega)]
      · rw [if_neg e2, this]
        by_cases e3 : i < a
        · rw [if_pos e3, if_pos (by omega)]
        · rw [if_neg e3, if_neg (fun x => e2 x.1), if_neg (by omega), if_neg (by omega)]
    · rw [cP] at hip ⊢
      exact hsay i p (by omega)
    · rw [hdid, cP, Nat.succ_mul]; omega
  · refine ⟨a, r + 1, by omega, by omega, ⟨hf, hwz, ?_, fun i hi => ?_, fun x => ?_, fun i p hip => ?_, ?_, by show X1.bd = []; rw [e3]; exact h.bd⟩, .inl ⟨rfl, rfl⟩⟩
    · rw [cB, cP]; omega
    · rw [cB] at hi
      show X1.xs.getD i 0 = _
      rw [hxs i, if_neg (show ¬ ((r : Nat) : Int) + 1 = X.C.P by omega)]
      have := h.xs i hi
      by_cases e2 : i = a
      · rw [if_pos e2, if_neg (by omega), if_pos ⟨e2, by omega⟩]
      · rw [if_neg e2, this]
        by_cases e3 : i < a
        · rw [if_pos e3, if_pos e3]
        · rw [if_neg e3, if_neg (fun x => e2 x.1), if_neg e3, if_neg (fun x => e2 x.1)]
    · show X1.nx = _; rw [hnx]; omega
    · rw [cP] at hip ⊢
      exact hsay i p (by omega)
    · rw [hdid, cP]; omega
end Go.Proofs.YtbhggcleijjofaaDoor
