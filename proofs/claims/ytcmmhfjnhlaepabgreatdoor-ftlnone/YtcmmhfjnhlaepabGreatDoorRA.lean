/-
  An FTL in memory; the walks of its small functions. No condition. The walks of small functions of an FTL, of its writer, its blocks and its chip: Off, Did, Room, Worn; Free, wanted, target, reason, refuses, makeRoom and shorten where nothing is to be done. No condition. How many pages an FTL wants free ahead of a commit: the walks of wanted and target; of makeRoom and shorten where nothing is to be done. No condition. An FTL with enough free pages, none of whose blocks is bad: makeRoom, clearBad do nothing. No condition. What an FTL notes of places: the walk of wrote. No condition. Which pages tell what stands where: the walk of nowTell. No condition.
-/
import Derived.Test.YtcmmhfjnhlaepabGreatDoorRK6
import Derived.Deep.QuietTactic
import Derived.BigQuiet
import Derived.Deep.CutRange
namespace Go.Proofs.YtcmmhfjnhlaepabGreatDoor
open Go Go.RowKit

/-- an FTL's own cells -/
structure Fc where
  pl : Int
  ky : Int
  rs : Int
  sp : Int
  st : Nat
  tl : Value
  jr : Int
  nx : Int
  la : Value
  lost : Bool
def Fc.cells (F : Fc) (A : Wl) (B P Z : Nat) : Array Value := #[.pointer (some ⟨A.L.a, 0, none⟩), .int .i64 B, .int .i64 P, .int .i64 Z, .int .i64 F.pl, .int .i64 F.ky, .int .i64 F.rs, .int .i64 F.sp, .pointer (some ⟨A.a, 0, none⟩), .pointer (some ⟨F.st, 0, none⟩), F.tl, .int .i64 F.jr, .int .u64 F.nx, F.la, .bool F.lost]
/-- an FTL at f, its writer (and chip) at A -/
structure Fa (w : World) (f : Nat) (F : Fc) (A : Wl) (X : Wx) : Prop where
  box : w.heap[f]? = some (.cells (F.cells A X.C.B X.C.P X.C.Z) 75 (0, 0))
  wtr : Wtr w A X
theorem Fa.c {w f F A X} (h : Fa w f F A X) (j : Nat) : w.cell? ⟨f, j, none⟩ = (F.cells A X.C.B X.C.P X.C.Z)[j]? := cell_of_row w f _ _ 75 _ h.box
theorem Fa.room {w f F A X} (h : Fa w f F A X) : w.cell? ⟨f, 6, none⟩ = some (.int .i64 F.rs) ∧ w.cell? ⟨f, 7, none⟩ = some (.int .i64 F.sp) ∧ w.cell? ⟨f, 2, none⟩ = some (.int .i64 X.C.P) := ⟨h.c 6, h.c 7, h.c 2⟩
theorem Fa.ptr {w f F A X} (h : Fa w f F A X) : w.cell? ⟨f, 0, none⟩ = some (.pointer (some ⟨A.L.a, 0, none⟩)) ∧ w.cell? ⟨f, 8, none⟩ = some (.pointer (some ⟨A.a, 0, none⟩)) ∧ w.cell? ⟨f, 9, none⟩ = some (.pointer (some ⟨F.st, 0, none⟩)) := ⟨h.c 0, h.c 8, h.c 9⟩
theorem Fa.drewN {w f F A X} (h : Fa w f F A X) (n : Nat) : Fa (w.drewN n) f F A X := ⟨h.box, h.wtr.drewN n⟩
theorem isNone_any {w f F A X} (h : Fa w f F A X) : Calls Tryz.prog 38 #[.pointer (some ⟨f, 0, none⟩)] w fun e w' => e = .returned (.bool false) ∧ w' = w := by
  obtain ⟨_, c8, _⟩ := h.ptr
  go_enter Tryz.func38, Tryz.ntmps38
  go_wp2
  go_ret
  exact ⟨rfl, rfl⟩
theorem life_any {w : World} {A X} (h : Wtr w A X) : Calls Tryz.prog 49 #[.pointer (some ⟨A.a, 0, none⟩)] w fun e w' => e = .returned (.pointer (some ⟨A.la, 0, none⟩)) ∧ w' = w := by
  have c1 : w.cell? ⟨A.a, 1, none⟩ = some (.pointer (some ⟨A.la, 0, none⟩)) := by rw [cell_of_row w A.a _ _ 144 _ h.top]; rfl
  go_enter Tryz.func49, Tryz.ntmps49
  go_wp2
  go_ret
  exact ⟨rfl, rfl⟩
theorem isBad_any {w f F A X} (h : Fa w f F A X) (b : Int) : Calls Tryz.prog 47 #[.pointer (some ⟨f, 0, none⟩), .int .i64 b] w fun e w' => e = .returned (.bool (Lf.isL X.xs b == 3)) ∧ w' = w := by
  obtain ⟨_, c8, _⟩ := h.ptr
  have HL := Hid.mk (life_any h.wtr)
  have HI := Hid.mk (Lf.is_any h.wtr.lif b)
  clear h
  generalize Lf.isL X.xs b = x at *
  go_enter Tryz.func47, Tryz.ntmps47
  go_wp2_with (first
    | (go_at_call 49; refine HL.out.mono ?_; rintro e w1 ⟨rfl, rfl⟩)
    | (go_at_call 90; refine HI.out.mono ?_; rintro e w1 ⟨rfl, rfl⟩))
  go_ret
  exact ⟨rfl, rfl⟩
theorem bads_any {w f F A X} (h : Fa w f F A X) : Calls Tryz.prog 75 #[.pointer (some ⟨f, 0, none⟩)] w fun e w' => e = .returned (.int .i64 (Lf.cnt X.xs 3)) ∧ w' = w := by
  obtain ⟨_, c8, _⟩ := h.ptr
  have HL := Hid.mk (life_any h.wtr)
  have HI := Hid.mk (Lf.count_any h.wtr.lif 3)
  clear h
  generalize Lf.cnt X.xs 3 = x at *
  go_enter Tryz.func75, Tryz.ntmps75
  go_wp2_with (first
    | (go_at_call 49; refine HL.out.mono ?_; rintro e w1 ⟨rfl, rfl⟩)
    | (go_at_call 100; refine HI.out.mono ?_; rintro e w1 ⟨rfl, rfl⟩))
  go_ret
  exact ⟨rfl, rfl⟩
theorem isWorn_any {w f F A X} (h : Fa w f F A X) : Calls Tryz.prog 36 #[.pointer (some ⟨f, 0, none⟩)] w fun e w' => e = .returned (.bool (decide (F.sp < Lf.cnt X.xs 3))) ∧ ∃ n, w' = w.drewN n := by
  obtain ⟨_, c7, _⟩ := h.room
  have HB := Hid.mk fun n => bads_any (h.drewN n)
  clear h
  generalize Lf.cnt X.xs 3 = x at *
  go_enter Tryz.func36, Tryz.ntmps36
  go_upto_region 1 with fail
  go_quiet ((go_at_call 75; refine Calls.quiet_of_same (HB.out _)))
  go_wp2
  go_ret
  exact ⟨rfl, _, rfl⟩
theorem least_f {w f F A X} (h : Fa w f F A X) (hr : 0 ≤ F.rs ∧ F.rs ≤ 100000) : Calls Tryz.prog 105 #[.pointer (some ⟨f, 0, none⟩)] w fun e w' => e = .returned (.int .i64 (8 + F.rs.tdiv 2)) ∧ w' = w := by
  obtain ⟨c6, _, _⟩ := h.room
  obtain ⟨q, hq⟩ : ∃ q, F.rs.tdiv 2 = q := ⟨_, rfl⟩
  have hq2 : 0 ≤ q ∧ q ≤ 50000 := by
    have : F.rs.tdiv 2 = F.rs / 2 := Int.tdiv_eq_ediv_of_nonneg hr.1
    omega
  have e1 : IntKind.i64.wrap q = q := by rw [IntKind.wrap_i64]; omega
  have e2 : IntKind.i64.wrap (8 + q) = 8 + q := by rw [IntKind.wrap_i64]; omega
  clear h
  go_enter Tryz.func105, Tryz.ntmps105
  go_wp2
  go_ret
  rw [hq]
  exact ⟨rfl, rfl⟩
end Go.Proofs.YtcmmhfjnhlaepabGreatDoor
namespace Go.Proofs.YtcmmhfjnhlaepabGreatDoor
open Go Go.RowKit

theorem off_any {w : World} {L C} (h : Chip w L C) : Calls Tryz.prog 51 #[.pointer (some ⟨L.a, 0, none⟩)] w fun e w' => e = .returned (.bool C.off) ∧ w' = w := by
  obtain ⟨mc, mf, n, k, _, _, c0, c1, c2, c3, c4, c5, c6, c7, _⟩ := h.cellA
  have HH := Hid.mk h
  clear h
  go_enter Tryz.func51, Tryz.ntmps51
  go_wp2
  go_ret
  exact ⟨rfl, rfl⟩
theorem did_any {w : World} {L C} (h : Chip w L C) : Calls Tryz.prog 10 #[.pointer (some ⟨L.a, 0, none⟩)] w fun e w' => e = .returned (.int .i64 C.did) ∧ w' = w := by
  obtain ⟨mc, mf, n, k, _, _, c0, c1, c2, c3, c4, c5, c6, c7, _⟩ := h.cellA
  have HH := Hid.mk h
  clear h
  go_enter Tryz.func10, Tryz.ntmps10
  go_wp2
  go_ret
  exact ⟨rfl, rfl⟩
theorem wworn_any {w : World} {A X} (h : Wtr w A X) : Calls Tryz.prog 123 #[.pointer (some ⟨A.a, 0, none⟩)] w fun e w' => ∃ v, e = .returned v ∧ Ints w' w.heap.size v X.wn ∧ Below w.heap.size w w' := by
  obtain ⟨c0, c1, c2, c3, _⟩ := h.cells
  have hg := h.chip.geo
  have hwl := h.wlen
  obtain ⟨wa, wc, hwv⟩ := h.wrn.form
  have hw := h.wrn
  rw [hwv] at hw c2
  obtain ⟨g, rfl, _⟩ := hw.cell (j := 0) (by omega)
  have HC := Hid.mk (clone_any hw.rds (by omega) wc)
  obtain ⟨n, hn⟩ : ∃ n, n = X.wn.length := ⟨_, rfl⟩
  rw [← hn] at HC c2
  clear h hw hwv hwl hg hn
  go_enter Tryz.func123, Tryz.ntmps123
  go_wp2_with (go_at_call 81; refine HC.out.mono ?_; rintro e w1 ⟨v, rfl, h1, b1⟩)
  go_ret
  exact ⟨_, rfl, h1, b1⟩
namespace Lf
theorem room_any {w : World} {a g n k xs o nx} (h : Lif w a g n k xs o nx) : Calls Tryz.prog 50 #[.pointer (some ⟨a, 0, none⟩)] w fun e w' => e = .returned (.int .i64 (roomL k xs o nx)) ∧ ∃ m, w' = w.drewN m := by
  unfold roomL
  obtain ⟨c0, c1, c2, f2⟩ := h.cells
  have hkb := h.ok.kb
  have hnx := h.ok.nxr
  have hr : 0 ≤ cnt xs 0 * k ∧ cnt xs 0 * k ≤ 32 * 16 := mul_range (by have := cnt_range xs 0; have := h.ok.len; have := h.ok.nb; omega) (by omega)
  have hm : wrap64 (cnt xs 0 * k) = cnt xs 0 * k := by unfold wrap64; omega
  have H := Hid.mk h
  have HC := Hid.mk (fun m => count_any (h.drewN m) 0)
  have hor := h.ok.or
  clear h
  generalize cnt xs 0 = c at *
  by_cases ho : 0 ≤ o
  · rw [if_pos ho]
    obtain ⟨v, hv⟩ : ∃ v, c * (k : Int) = v := ⟨_, rfl⟩
    rw [hv] at hr ⊢
    replace hm : wrap64 (c * k) = v := hm.trans hv
    clear hv
    go_enter Tryz.func50, Tryz.ntmps50
    go_wp2
    go_quiet ((go_at_call 100; exact Calls.quiet_of_same (HC.out _)))
    go_wp2_with (go_at_call 101; refine (at_some (H.out.drewN _) ho).mono ?_; rintro e w' ⟨rfl, m2, rfl⟩)
    go_ret
    exact ⟨rfl, _, rfl⟩
  · rw [if_neg ho, Int.add_zero]
    have ho1 : o = -1 := by omega
    go_enter Tryz.func50, Tryz.ntmps50
    go_wp2
    go_quiet ((go_at_call 100; exact Calls.quiet_of_same (HC.out _)))
    go_wp2_with (go_at_call 101; refine (at_none (H.out.drewN _) ho1).mono ?_; rintro e w' ⟨rfl, rfl⟩)
    go_ret
    exact ⟨ret_int (by first | rfl | assumption), _, rfl⟩
end Lf
/-- how many pages can be written without clearing a block -/
def Wx.free (X : Wx) : Int := Lf.roomL X.C.P X.xs X.o X.nx
theorem free_any {w f F A X} (h : Fa w f F A X) : Calls Tryz.prog 23 #[.pointer (some ⟨f, 0, none⟩)] w fun e w' => e = .returned (.int .i64 X.free) ∧ ∃ m, w' = w.drewN m := by
  unfold Wx.free
  obtain ⟨_, c8, _⟩ := h.ptr
  have HN := Hid.mk (isNone_any h)
  have HL := Hid.mk (life_any h.wtr)
  have HR := Hid.mk (Lf.room_any h.wtr.lif)
  clear h
  generalize Lf.roomL X.C.P X.xs X.o X.nx = x at *
  go_enter Tryz.func23, Tryz.ntmps23
  go_wp2_with (first
    | (go_at_call 38; refine HN.out.mono ?_; rintro e w1 ⟨rfl, rfl⟩)
    | (go_at_call 49; refine HL.out.mono ?_; rintro e w1 ⟨rfl, rfl⟩)
    | (go_at_call 50; refine HR.out.mono ?_; rintro e w1 ⟨rfl, m, rfl⟩))
  go_ret
  exact ⟨rfl, _, rfl⟩
theorem refuses_any {w f F A X} (h : Fa w f F A X) (hl : F.lost = false) (ho : X.C.off = false) : Calls Tryz.prog 26 #[.pointer (some ⟨f, 0, none⟩)] w fun e w' => e = .returned (.int .i64 0) ∧ w' = w := by
  obtain ⟨c0, _, _⟩ := h.ptr
  have c14 : w.cell? ⟨f, 14, none⟩ = some (.bool F.lost) := h.c 14
  rw [hl] at c14
  have HN := Hid.mk (isNone_any h)
  have HO := Hid.mk (off_any h.wtr.chip)
  rw [ho] at HO
  clear h hl ho
  go_enter Tryz.func26, Tryz.ntmps26
  go_wp2_with (first
    | (go_at_call 38; refine HN.out.mono ?_; rintro e w1 ⟨rfl, rfl⟩)
    | (go_at_call 51; refine HO.out.mono ?_; rintro e w1 ⟨rfl, rfl⟩))
  go_ret
  exact ⟨rfl, rfl⟩
end Go.Proofs.YtcmmhfjnhlaepabGreatDoor
namespace Go.Proofs.YtcmmhfjnhlaepabGreatDoor
open Go Go.RowKit

/-- how many pages are to be free ahead of a commit, where no block is bad -/
def Fc.want (F : Fc) (P : Nat) : Int := max (8 + F.rs) (8 + F.rs.tdiv 2 + F.sp * P)
theorem wanted_any {w f F A X} (h : Fa w f F A X) (hr : 0 ≤ F.rs ∧ F.rs ≤ 100000) (hs : 0 ≤ F.sp ∧ F.sp ≤ 4) (hb : Lf.cnt X.xs 3 = 0) : Calls Tryz.prog 150 #[.pointer (some ⟨f, 0, none⟩)] w fun e w' => e = .returned (.int .i64 (F.want X.C.P)) ∧ ∃ m, w' = w.drewN m := by
  have hP := h.wtr.chip.geo
  obtain ⟨c6, c7, c2⟩ := h.room
  have HB := Hid.mk fun n => bads_any (h.drewN n)
  have HF := Hid.mk (And.intro h hr)
  rw [hb] at HB
  obtain ⟨q, hq⟩ : ∃ q, F.rs.tdiv 2 = q := ⟨_, rfl⟩
  have hq2 : 0 ≤ q ∧ q ≤ 50000 := by
    have : F.rs.tdiv 2 = F.rs / 2 := Int.tdiv_eq_ediv_of_nonneg hr.1
    omega
  obtain ⟨sP, hsP⟩ : ∃ y, F.sp * (X.C.P : Int) = y := ⟨_, rfl⟩
  have hsP2 : 0 ≤ sP ∧ sP ≤ 4 * 16 := by
    rw [← hsP]; exact Lf.mul_range hs (by omega)
  unfold Fc.want
  rw [hsP, hq]
  obtain ⟨r, hr0⟩ : ∃ r, F.rs = r := ⟨_, rfl⟩
  obtain ⟨s, hs0⟩ : ∃ s, F.sp = s := ⟨_, rfl⟩
  obtain ⟨P, hP0⟩ : ∃ P, X.C.P = P := ⟨_, rfl⟩
  rw [hr0] at hr hq c6 ⊢
  rw [hs0] at hs c7 hsP
  rw [hP0] at c2 hsP hP
  have HE := Hid.mk (And.intro hr0 (And.intro hs0 (And.intro hP0 hq)))
  clear hr0 hs0 hP0 hq
  have e1 : IntKind.i64.wrap (s - 0) = s := by rw [IntKind.wrap_i64]; omega
  have e2 : IntKind.i64.wrap (8 + r) = 8 + r := by rw [IntKind.wrap_i64]; omega
  have e3 : IntKind.i64.wrap (s * P) = sP := by rw [hsP, IntKind.wrap_i64]; omega
  have e3' : wrap64 (s * P) = sP := by rw [hsP]; unfold wrap64; omega
  have e4 : IntKind.i64.wrap (8 + q + sP) = 8 + q + sP := by rw [IntKind.wrap_i64]; omega
  have hm : max s 0 = s := by omega
  clear hsP hP hb h c2 c6
  go_enter Tryz.func150, Tryz.ntmps150
  go_upto_region 1 with fail
  go_quiet ((go_at_call 75; refine Calls.quiet_of_same (HB.out _)))
  go_upto_region 2 with fail
  have H2 := Hid.mk (HF.out.1.drewN nq)
  obtain ⟨w2, hw2⟩ : ∃ w2, w.drewN nq = w2 := ⟨_, rfl⟩
  rw [hw2] at H2 ⊢
  have HW := Hid.mk hw2
  clear hw2
  obtain ⟨c6, c7', c2⟩ := H2.out.room
  rw [HE.out.1] at c6
  rw [HE.out.2.2.1] at c2
  have HL : Hid (∀ n, Calls Tryz.prog 105 #[.pointer (some ⟨f, 0, none⟩)] (w2.drewN n) fun e w' => e = .returned (.int .i64 (8 + q)) ∧ w' = w2.drewN n) := Hid.mk fun n => by
    have := least_f (H2.out.drewN n) HF.out.2
    rw [HE.out.1, HE.out.2.2.2] at this
    exact this
  clear c7' c7
  go_quiet ((go_at_call 105; refine Calls.quiet_of_same (HL.out _)))
  go_wp2
  go_ret
  exact ⟨rfl, _, by rw [← HW.out, Lf.drewN_drewN]⟩
theorem target_any {w f F A X} (h : Fa w f F A X) (hr : 0 ≤ F.rs ∧ F.rs ≤ 100000) (hs : 0 ≤ F.sp ∧ F.sp ≤ 4) (hb : Lf.cnt X.xs 3 = 0) (ta : Option Addr) (n c : Nat) (ht : F.tl = .slice ta n c) (d : Int) (hd : d < n) : Calls Tryz.prog 103 #[.pointer (some ⟨f, 0, none⟩), .int .i64 d] w fun e w' => e = .returned (.int .i64 (F.want X.C.P)) ∧ ∃ m, w' = w.drewN m := by
  have c10 : w.cell? ⟨f, 10, none⟩ = some F.tl := h.c 10
  rw [ht] at c10
  have HW := Hid.mk (wanted_any h hr hs hb)
  clear h hr hs hb ht
  generalize F.want X.C.P = x at *
  go_enter Tryz.func103, Tryz.ntmps103
  go_wp2_with (go_at_call 150; refine HW.out.mono ?_; rintro e w1 ⟨rfl, m, rfl⟩)
  go_ret
  exact ⟨rfl, _, rfl⟩
theorem shorten_any {w f F A X} (h : Fa w f F A X) (hj : 0 ≤ F.jr ∧ F.jr ≤ 2 * X.C.P) : Calls Tryz.prog 108 #[.pointer (some ⟨f, 0, none⟩)] w fun e w' => e = .returned (.int .i64 0) ∧ ∃ m, w' = w.drewN m := by
  have hP := h.wtr.chip.geo
  have c11 : w.cell? ⟨f, 11, none⟩ = some (.int .i64 F.jr) := h.c 11
  have c2 : w.cell? ⟨f, 2, none⟩ = some (.int .i64 X.C.P) := h.c 2
  generalize F.jr = j at *
  generalize hP0 : X.C.P = P at *
  have e1 : IntKind.i64.wrap (2 * (P : Int)) = 2 * (P : Int) := by rw [IntKind.wrap_i64]; omega
  have h1 : j ≤ 2 * (P : Int) := hj.2
  clear h hP hP0 hj
  go_enter Tryz.func108, Tryz.ntmps108
  go_upto_region 1 with fail
  go_quiet (fail)
  go_wp2
  go_ret
  exact ⟨rfl, _, rfl⟩
end Go.Proofs.YtcmmhfjnhlaepabGreatDoor
namespace Go.Proofs.YtcmmhfjnhlaepabGreatDoor
open Go Go.RowKit

set_option maxRecDepth 20000 in
theorem makeRoom_calm {w f F A X} (h : Fa w f F A X) (hr : 0 ≤ F.rs ∧ F.rs ≤ 100000) (hs : 0 ≤ F.sp ∧ F.sp ≤ 4) (hb : Lf.cnt X.xs 3 = 0) (ta : Option Addr) (n c : Nat) (ht : F.tl = .slice ta n c) (hn : 0 < n) (hf : F.want X.C.P ≤ X.free) :
    Calls Tryz.prog 56 #[.pointer (some ⟨f, 0, none⟩)] w fun e w' => e = .returned (.int .i64 0) ∧ ∃ m, w' = w.drewN m := by
  have hl : 8 + F.rs.tdiv 2 ≤ X.free := by
    have : 8 + F.rs.tdiv 2 + F.sp * X.C.P ≤ F.want X.C.P := Int.le_max_right _ _
    have h2 : 0 ≤ F.sp * (X.C.P : Int) := Int.mul_nonneg hs.1 (by omega)
    omega
  obtain ⟨c0, _, _⟩ := h.ptr
  have HD := Hid.mk fun m => did_any (h.drewN m).wtr.chip
  have HT := Hid.mk fun m => target_any (h.drewN m) hr hs hb ta n c ht 0 (by omega)
  have HF := Hid.mk fun m => free_any (h.drewN m)
  have HL := Hid.mk fun m => least_f (h.drewN m) hr
  clear h hr hs hb ht
  generalize X.C.did = d at *
  generalize F.want X.C.P = x at *
  generalize X.free = y at *
  obtain ⟨z, hz⟩ : ∃ z, 8 + F.rs.tdiv 2 = z := ⟨_, rfl⟩
  rw [hz] at hl HL
  clear hz
  have e1 : IntKind.i64.wrap (d - d) = 0 := by rw [Int.sub_self]; rfl
  have h1 : decide (y < x) = false := decide_eq_false (by omega)
  have h2 : decide (y < z) = false := decide_eq_false (by omega)
  clear hl hf
  go_enter Tryz.func56, Tryz.ntmps56
  go_upto_region 2 with (go_at_call 10; refine (HD.out 0).mono ?_; rintro e w1 ⟨rfl, rfl⟩)
  go_loopw [4, 5] (fun a b wr => a = undef ∧ b = undef ∧ wr = w) (fun _ _ _ => 0)
  case atStart => exact ⟨rfl, rfl, rfl⟩
  case round =>
    obtain ⟨rfl, rfl, rfl⟩ := hrel
    go_upto_region 2 with fail
    go_quiet (first
      | (go_at_call 10; refine Calls.quiet_of_same (HD.out _))
      | (go_at_call 23; refine Calls.quiet_of (HF.out _))
      | (go_at_call 103; refine Calls.quiet_of (HT.out _)))
    go_wp2_with (first
      | (go_at_call 23; refine (HF.out _).mono ?_; rintro e w2 ⟨rfl, m2, rfl⟩; rw [Lf.drewN_drewN])
      | (go_at_call 105; refine (HL.out _).mono ?_; rintro e w3 ⟨rfl, rfl⟩))
    go_ret
    exact ⟨rfl, _, rfl⟩
theorem cnt_none {xs : List Int} {v : Int} (h : Lf.cnt xs v = 0) (b : Nat) (hb : b < xs.length) : (Lf.isL xs b == v) = false := by
  unfold Lf.isL
  rw [if_pos ⟨by omega, by omega⟩, Int.toNat_natCast]
  have h0 : xs.countP (fun x => decide (x = v)) = 0 := by unfold Lf.cnt at h; omega
  have := List.countP_eq_zero.1 h0 (xs.getD b 0) (by rw [List.getD_eq_getElem?_getD, List.getElem?_eq_getElem hb, Option.getD_some]; exact List.getElem_mem hb)
  simpa using this
set_option maxRecDepth 20000 in
theorem firstBad_none {w f F A X} (h : Fa w f F A X) (hb : Lf.cnt X.xs 3 = 0) : Calls Tryz.prog 153 #[.pointer (some ⟨f, 0, none⟩)] w fun e w' => e = .returned (.int .i64 (-1)) ∧ w' = w := by
  have hg := h.wtr.chip.geo
  have hlen : X.xs.length = X.C.B := h.wtr.lif.ok.len
  have c1 : w.cell? ⟨f, 1, none⟩ = some (.int .i64 X.C.B) := h.c 1
  have HB : Hid (∀ b : Nat, b < X.C.B → Calls Tryz.prog 47 #[.pointer (some ⟨f, 0, none⟩), .int .i64 b] w fun e w' => e = .returned (.bool false) ∧ w' = w) := Hid.mk fun b hlt => by
    have := isBad_any h (b : Int)
    rw [cnt_none hb b (by omega)] at this
    exact this
  have hB : X.C.B ≤ 32 := by omega
  clear h hb hg hlen
  generalize X.C.B = B at *
  go_enter Tryz.func153, Tryz.ntmps153
  go_upto_region 2 with fail
  go_loopw [3, 9] (fun _ v wr => ∃ k : Nat, k ≤ B ∧ v = .int .i64 k ∧ wr = w) (fun _ v _ => 100 - (intOf v).toNat)
  case atStart => exact ⟨0, by omega, rfl, rfl⟩
  case round =>
    obtain ⟨k, hk, rfl, rfl⟩ := hrel
    by_cases hlt : k < B
    · have hlt' : (k : Int) < B := by omega
      have hc := Hid.mk (HB.out k hlt)
      go_wp2_with (go_at_call 47; refine hc.out.mono ?_; rintro e w1 ⟨rfl, rfl⟩)
      exact ⟨⟨k + 1, by omega, by go_num, trivial⟩, by simp [intOf]; omega⟩
    · have hlt' : ¬ (k : Int) < B := by omega
      go_wp2
      go_ret
      exact ⟨rfl, rfl⟩
set_option maxRecDepth 20000 in
theorem clearBad_none {w f F A X} (h : Fa w f F A X) (hb : Lf.cnt X.xs 3 = 0) : Calls Tryz.prog 107 #[.pointer (some ⟨f, 0, none⟩)] w fun e w' => e = .returned (.int .i64 0) ∧ w' = w := by
  have hg := h.wtr.chip.geo
  have c1 : w.cell? ⟨f, 1, none⟩ = some (.int .i64 X.C.B) := h.c 1
  have HB := Hid.mk (firstBad_none h hb)
  have hB : 8 ≤ X.C.B ∧ X.C.B ≤ 32 := by omega
  clear h hb hg
  generalize X.C.B = B at *
  go_enter Tryz.func107, Tryz.ntmps107
  go_upto_region 2 with fail
  go_loopw [3, 4, 10] (fun _ _ v wr => v = .int .i64 0 ∧ wr = w) (fun _ _ _ _ => 0)
  case atStart => exact ⟨rfl, rfl⟩
  case round =>
    obtain ⟨rfl, rfl⟩ := hrel
    have hlt' : (0 : Int) < B := by omega
    go_wp2_with (go_at_call 153; refine HB.out.mono ?_; rintro e w1 ⟨rfl, rfl⟩)
    go_ret
    exact ⟨rfl, rfl⟩
end Go.Proofs.YtcmmhfjnhlaepabGreatDoor
namespace Go.Proofs.YtcmmhfjnhlaepabGreatDoor
open Go Go.RowKit

theorem Fa.off {w w' : World} {f F A X} {S : Nat → Prop} (h : Fa w f F A X) (k : Kp S w w') (hs : ∀ i, S i → i ≠ f ∧ ¬ A.own X.C.B i ∧ Cel w i) : Fa w' f F A X :=
  ⟨(k.block f (Array.getElem?_eq_some_iff.1 h.box).1 (fun s => (hs f s).1 rfl)).trans h.box, h.wtr.off k (fun i hi => (hs i hi).2)⟩
/-- of each block, when it was written last: a row of numbers in a block of its own -/
structure La (w : World) (f : Nat) (F : Fc) (A : Wl) (X : Wx) (g : Nat) (l : List Int) : Prop where
  la : F.la = .slice (some ⟨g, 0, none⟩) X.C.B X.C.B
  row : Row w g 72 .u64 l
  len : l.length = X.C.B
  ne : g ≠ f
  own : ¬ A.own X.C.B g
set_option maxRecDepth 20000 in
theorem wrote_any {w f F A X g l} (h : Fa w f F A X) (hl : La w f F A X g l) (b p : Nat) (hb : b < X.C.B) (hp : p < X.C.P) (s : Int) : Calls Tryz.prog 125 #[.pointer (some ⟨f, 0, none⟩), .int .i64 (b * X.C.P + p : Nat), .int .u64 s] w fun e w' =>
    e = .returned (.tuple #[]) ∧ Fa w' f F A X ∧ La w' f F A X g (l.set b s) ∧ Kp (fun i => i = g) w w' := by
  have hg := h.wtr.chip.geo
  have c13 : w.cell? ⟨f, 13, none⟩ = some F.la := h.c 13
  rw [hl.la] at c13
  have c2 : w.cell? ⟨f, 2, none⟩ = some (.int .i64 X.C.P) := h.c 2
  have cg : w.cell? ⟨g, b, none⟩ = some (.int .u64 (l.getD b 0)) := hl.row.cell b (by rw [hl.len]; exact hb)
  have fg : w.frozen? ⟨g, b, none⟩ = false := frozen_of_row w g b _ _ hl.row
  have hk : Kp (fun i => i = g) w (w.drew.setCell ⟨g, b, none⟩ (.int .u64 s)) := ((Kp.refl (fun i => i = g) w).drew).setCell (p := ⟨g, b, none⟩) rfl _
  have hR : Row (w.drew.setCell ⟨g, b, none⟩ (.int .u64 s)) g 72 .u64 (l.set b s) := Row.stored (w := w.drew) hl.row b s
  have HF := Hid.mk (And.intro (h.off hk (fun i hi => ⟨fun e => hl.ne (hi.symm.trans e), fun o => hl.own (hi ▸ o), by subst hi; exact ⟨_, _, _, hl.row⟩⟩)) (And.intro (La.mk hl.la hR (by rw [List.length_set]; exact hl.len) hl.ne hl.own) hk))
  obtain ⟨n, hn⟩ : ∃ n, b * X.C.P + p = n := ⟨_, rfl⟩
  have hq : (n : Int).tdiv X.C.P = b := by
    rw [← hn, Int.tdiv_eq_ediv_of_nonneg (by omega)]
    have : (b * X.C.P + p) / X.C.P = b := by rw [Nat.add_comm, Nat.add_mul_div_right _ _ (by omega), Nat.div_eq_of_lt hp, Nat.zero_add]
    exact_mod_cast this
  rw [hn]
  have hB : b < X.C.B := hb
  generalize l.getD b 0 = x0 at *
  have hP0 : ¬ X.C.P = 0 := by omega
  have hP1 : (0 : Int) < X.C.P := by omega
  have e1 : IntKind.i64.wrap (b : Int) = b := by rw [IntKind.wrap_i64]; omega
  have hbB : (b : Int) < X.C.B := by omega
  have hPi : ¬ (X.C.P : Int) = 0 := by omega
  clear h hl hg hk hR hn hb hp
  generalize X.C.P = P at *
  generalize X.C.B = B at *
  go_enter Tryz.func125, Tryz.ntmps125
  go_region
  go_wp2
  go_end0
  exact ⟨rfl, HF.out.1, HF.out.2.1, HF.out.2.2⟩
end Go.Proofs.YtcmmhfjnhlaepabGreatDoor
namespace Go.Proofs.YtcmmhfjnhlaepabGreatDoor
open Go Go.RowKit

/-- of each place, whether its page tells what stands where: a row of bools in a block of its own -/
structure Tl (w : World) (f : Nat) (F : Fc) (A : Wl) (X : Wx) (g : Nat) (l : List Bool) : Prop where
  tl : F.tl = .slice (some ⟨g, 0, none⟩) (X.C.B * X.C.P) (X.C.B * X.C.P)
  row : w.heap[g]? = some (.cells (l.map Value.bool).toArray 4 (0, 0))
  len : l.length = X.C.B * X.C.P
  ne : g ≠ f
  own : ¬ A.own X.C.B g
theorem Tl.cell {w f F A X g l} (h : Tl w f F A X g l) (j : Nat) (hj : j < X.C.B * X.C.P) : w.cell? ⟨g, j, none⟩ = some (.bool (l.getD j false)) := by
  rw [cell_of_row w g j _ 4 _ h.row]
  have : j < l.length := by rw [h.len]; exact hj
  simp [List.getD_eq_getElem?_getD, this]
theorem Tl.set {w f F A X g l} (h : Tl w f F A X g l) (j : Nat) (v : Bool) : Tl (w.setCell ⟨g, j, none⟩ (.bool v)) f F A X g (l.set j v) := by
  refine ⟨h.tl, ?_, by rw [List.length_set]; exact h.len, h.ne, h.own⟩
  have := heap_setCell_same w g j _ 4 (.bool v) h.row
  rw [this]
  simp [List.map_set]
/-- the places of a list are marked -/
def told (l : List Bool) (ps : List Int) : List Bool := ps.foldl (fun m p => m.set p.toNat true) l
theorem told_snoc (l : List Bool) (ps : List Int) (p : Int) : told l (ps ++ [p]) = (told l ps).set p.toNat true := by
  unfold told
  rw [List.foldl_append]
  rfl
set_option maxRecDepth 20000 in
theorem nowTell_any {w f F A X g l} (h : Fa w f F A X) (hT : Tl w f F A X g l) (pa : Option Addr) (ps : List Int) (pc : Nat) (hps : Rds w pa ps) (hl : ps.length ≤ 1000) (hr : ∀ p ∈ ps, 0 ≤ p ∧ p < (X.C.B * X.C.P : Nat)) (hne : ∀ a, pa = some a → a.block ≠ g) :
    Calls Tryz.prog 74 #[.pointer (some ⟨f, 0, none⟩), .slice pa ps.length pc] w fun e w' => e = .returned (.tuple #[]) ∧ Fa w' f F A X ∧ Tl w' f F A X g (told l ps) ∧ Kp (fun i => i = g) w w' := by
  have hg := h.wtr.chip.geo
  have hbp : X.C.B * X.C.P ≤ 32 * 16 := Nat.mul_le_mul (by omega) (by omega)
  have H0 : Hid (Fa w f F A X ∧ Tl w f F A X g (told l (ps.take 0)) ∧ Kp (fun i => i = g) w w) := Hid.mk ⟨h, hT, Kp.refl _ _⟩
  have HR : Hid (∀ k, k < ps.length → ∀ wr, Kp (fun i => i = g) w wr → ∃ b o, pa = some ⟨b, o, none⟩ ∧ b ≠ g ∧ wr.cell? ⟨b, o + k, none⟩ = some (.int .i64 (ps.getD k 0))) := Hid.mk fun k hk wr q => by
    obtain ⟨b, o, e, hb, hc⟩ := hps k hk
    refine ⟨b, o, e, hne _ e, ?_⟩
    rw [← hc]
    unfold World.cell?
    rw [q.block b hb (hne _ e)]
  have HN : Hid (∀ k, k < ps.length → ∃ p : Nat, ps.getD k 0 = p ∧ p < X.C.B * X.C.P) := Hid.mk fun k hk => by
    have hm := hr (ps.getD k 0) (by rw [List.getD_eq_getElem?_getD, List.getElem?_eq_getElem hk, Option.getD_some]; exact List.getElem_mem hk)
    exact ⟨(ps.getD k 0).toNat, by omega, by omega⟩
  have HS : Hid (∀ k, k < ps.length → ps.take (k + 1) = ps.take k ++ [ps.getD k 0]) := Hid.mk fun k hk => by
    rw [List.take_add_one, List.getElem?_eq_getElem hk, List.getD_eq_getElem?_getD, List.getElem?_eq_getElem hk]
    rfl
  have HE : Hid (told l (ps.take ps.length) = told l ps) := Hid.mk (by rw [List.take_length])
  obtain ⟨n, hn⟩ : ∃ n, ps.length = n := ⟨_, rfl⟩
  rw [hn] at hl HR HN HS HE ⊢
  clear h hT hps hr hne hn hg
  go_enter Tryz.func74, Tryz.ntmps74
  go_upto_region 1 with fail
  go_loopw [5, 8] (fun _ v wr => ∃ k : Nat, k ≤ n ∧ v = .int .i64 k ∧ Fa wr f F A X ∧ Tl wr f F A X g (told l (ps.take k)) ∧ Kp (fun i => i = g) w wr) (fun _ v _ => 2000 - (intOf v).toNat)
  case atStart => exact ⟨0, by omega, rfl, H0.out⟩
  case round =>
    obtain ⟨k, hk, rfl, hf, ht, hq⟩ := hrel
    by_cases hlt : k < n
    · have hlt' : (k : Int) < n := by omega
      obtain ⟨b, o, rfl, hbg, cb⟩ := HR.out k hlt _ hq
      obtain ⟨p, hp, hpB⟩ := HN.out k hlt
      rw [hp] at cb
      have hs := HS.out k hlt
      rw [hp] at hs
      have c10 : wr.cell? ⟨f, 10, none⟩ = some F.tl := hf.c 10
      rw [ht.tl] at c10
      have cg := ht.cell p hpB
      have fg : wr.frozen? ⟨g, p, none⟩ = false := frozen_of_row wr g p _ _ ht.row
      have hk2 : Kp (fun i => i = g) wr (wr.setCell ⟨g, p, none⟩ (.bool true)) := (Kp.refl (fun i => i = g) wr).setCell (p := ⟨g, p, none⟩) rfl _
      have HX := Hid.mk (And.intro (hf.off hk2 (fun i hi => ⟨fun e => ht.ne (hi.symm.trans e), fun o => ht.own (hi ▸ o), by subst hi; exact ⟨_, _, _, ht.row⟩⟩)) (And.intro (ht.set p true) (hq.trans hk2)))
      have ht2 : told l (ps.take (k + 1)) = (told l (ps.take k)).set p true := by rw [hs, told_snoc, Int.toNat_natCast]
      rw [← ht2] at HX
      have hpB' : (p : Int) < (X.C.B * X.C.P : Nat) := by omega
      generalize (told l (ps.take k)).getD p false = v0 at *
      clear hf ht hq hk2 hs ht2 hp
      generalize X.C.B * X.C.P = np at *
      go_wp2
      exact ⟨⟨k + 1, by omega, by go_num, HX.out.1, HX.out.2.1, HX.out.2.2⟩, by simp [intOf]; omega⟩
    · have hlt' : ¬ (k : Int) < n := by omega
      have hkn : k = n := by omega
      subst hkn
      rw [HE.out] at ht
      have HX := Hid.mk (And.intro hf (And.intro ht hq))
      clear hf ht hq
      go_wp2
      go_end0
      exact ⟨rfl, HX.out.1, HX.out.2.1, HX.out.2.2⟩
end Go.Proofs.YtcmmhfjnhlaepabGreatDoor
