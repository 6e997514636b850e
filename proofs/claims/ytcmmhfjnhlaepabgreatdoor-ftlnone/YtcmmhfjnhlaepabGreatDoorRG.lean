/-
  A chip is formatted: the walk of Format, on the chip of the laws' awake. Condition: nothing was written on it. The laws' own cut (of no faults) and Geometry: their walks. No condition. A chip is bought, formatted, and its faults laid ready: the walk of the laws' begun, with no faults. Condition: the table's cells hold what the text lays. What four pages come to that say a checkpoint of two pages, a page of data and a group of changes; the others are blank. Pure. No condition. A chip is mounted: the walk of Mount, on the chip of the laws' awake. Condition: the four pages that awake writes are there, and no others. A chip is mounted: the walk of Mount. Condition: as of what it finds. The laws' awake: a chip is formatted, two changes are committed, a page is read, the chip is mounted, the page is read again. Condition: the table's cells hold what the text lays. What is asked of no FTL at all, and of no chip: the walks. No condition. The walk of the law FtlNone. Condition: the table's cells hold what the text lays.
-/
import Derived.Test.YtcmmhfjnhlaepabGreatDoorRF
import Derived.Test.YtcmmhfjnhlaepabGreatDoorRK6
import Derived.Deep.RegionWith
import Derived.Deep.QuietTactic
namespace Go.Proofs.YtcmmhfjnhlaepabGreatDoor
open Go Go.RowKit

theorem list_of {l : List Int} {n : Nat} {v : Int} (hl : l.length = n) (h : ∀ i, i < n → l.getD i 0 = v) : l = List.replicate n v := by
  apply List.ext_getElem (by rw [hl, List.length_replicate])
  intro i h1 h2
  have := h i (by omega)
  rw [List.getD_eq_getElem?_getD, List.getElem?_eq_getElem h1, Option.getD_some] at this
  rw [this, List.getElem_replicate]
theorem Fresh.free {X : Wx} (h : Fresh X.C.B X) (hl : X.xs.length = X.C.B) : X.free = X.C.B * X.C.P := by
  unfold Wx.free Lf.roomL Lf.cnt
  rw [h.o, if_neg (by decide), list_of hl h.xs, List.countP_replicate, if_pos (by decide)]
  omega
/-- an FTL, as Format leaves it -/
structure Fmt (w0 : World) (L : Ly) (f : Nat) (w : World) : Prop where
  ft : ∃ F A X gl la gt tl, Ft w0 f F A X gl la gt tl st1 w ∧ (X.C.B = 16 ∧ X.C.P = 8 ∧ X.C.Z = 64) ∧ Calm X ∧ Sq (-16) X 0 2 T4 Q4 ∧ X.wn = wn16 ∧ A.L = L ∧ F.nx = (2 : Nat) ∧ F.rs = 58 ∧ F.sp = 2 ∧ F.pl = 19 ∧ F.ky = 38 ∧ F.jr = 0 ∧ F.lost = false
set_option maxRecDepth 20000 in
theorem format_ok {w0 w : World} {L C} (h : Chip w L C) (hN : NewC C) (hT : Pg.Tab w) (hb : Below w0.heap.size w0 w) (hlo : ∀ i, L.own C.B i → w0.heap.size ≤ i) (h0 : 0 < w0.heap.size) :
    Calls Tryz.prog 14 #[.pointer (some ⟨L.a, 0, none⟩)] w fun e w' => ∃ f, e = .returned (.tuple #[.pointer (some ⟨f, 0, none⟩), .int .i64 0]) ∧ Fmt w0 L f w' := by
  have hroom : Rm.roomN (C.B : Int) C.P C.Z = 19 := by rw [hN.B, hN.P, hN.Z]; exact room_16
  have hresv : Rm.resv (C.B : Int) C.P C.Z ((19 : Nat) : Int) = 58 := by rw [hN.B, hN.P, hN.Z]; exact resv_16
  have hBP : C.B * C.P = 128 := by rw [hN.B, hN.P]
  have HLk := Hid.mk (look_ok h hT hN.off (by rw [hroom]; decide) blF (fun i hi => lk_blank (hN.pg _ _) (by rw [hN.Z]; decide)))
  have HG := Hid.mk (fun w' (b : Below w.heap.size w w') => geom_any (h.call b))
  have H := Hid.mk (And.intro h (And.intro hN (And.intro hT (And.intro hb (And.intro hlo (And.intro h0 (And.intro hroom (And.intro hresv hBP))))))))
  rw [hN.B, hN.P, hN.Z] at HG
  rw [hBP] at HLk
  have hl0 : ∀ f ∈ fal blF 128, f.c = 0 := fal_none (fun i _ => rfl)
  have hlok : ∀ f ∈ fal blF 128, f.ok := by
    intro f hf
    unfold fal at hf
    obtain ⟨i, hi, rfl⟩ := List.mem_map.1 hf
    exact ⟨(by decide : (0 : Int) ≤ 0 ∧ (0 : Int) ≤ 18446744073709551615), (by decide : (-9223372036854775808 : Int) ≤ 0 ∧ (0 : Int) ≤ 9223372036854775807), (by decide : (-9223372036854775808 : Int) ≤ 0 ∧ (0 : Int) ≤ 9223372036854775807)⟩
  have hlen : (fal blF 128).length = 128 := fal_len _ _
  obtain ⟨l, hl⟩ : ∃ l, fal blF 128 = l := ⟨_, rfl⟩
  rw [hl] at HLk hl0 hlok hlen
  have hfd : ∀ i, 0 ≤ (l.getD i fdZ).W ∧ 0 ≤ (l.getD i fdZ).S ∧ (l.getD i fdZ).S ≤ 1000000 := by
    intro i
    rw [← hl]
    unfold fal
    rw [List.getD_eq_getElem?_getD, List.getElem?_map]
    by_cases e : i < 128
    · rw [List.getElem?_eq_getElem (by simpa using e)]
      simp only [Option.map_some, Option.getD_some]
      exact ⟨Int.le_refl 0, Int.le_refl 0, (by decide : (0 : Int) ≤ 1000000)⟩
    · rw [List.getElem?_eq_none (by simpa using e)]
      exact ⟨Int.le_refl 0, Int.le_refl 0, (by decide : (0 : Int) ≤ 1000000)⟩
  have HL := Hid.mk (And.intro hl0 (And.intro hlok (And.intro hlen hfd)))
  have ha : ∀ a b c w, (Instr.field 23 (.agg #[a, b, c]) 0).run Tryz.prog w = .ok a w := by intros; kernel_rfl
  clear h hN hT hb hlo h0 hroom hresv hBP hl0 hlok hlen hfd hl
  go_enter Tryz.func14, Tryz.ntmps14
  go_upto_region 7 with (first
    | (go_at_call 31; refine HLk.out.mono ?_; rintro e w1 ⟨v, rfl, o1, b1⟩; obtain ⟨va, vc, rfl⟩ := o1.form; rw [List.length_map] at o1 ⊢)
    | (go_at_call 8; refine (HG.out _ b1).mono ?_; rintro e w2 ⟨rfl, b2⟩)
    | (go_at_call 33; refine (erasures_blank _ l (We.Ow.lower (We.Ow.call o1 b2) (Nat.zero_le _)) HL.out.2.1 (by rw [HL.out.2.2.1]; decide) HL.out.1 _).mono ?_; rintro e w3 ⟨P, rfl, h3⟩)
    | (go_at_call 32; refine (begin_any (w0 := w0) (H.out.1.call (below3 b1 (below3 b2 h3.below))) (H.out.2.2.1.call (below3 b1 (below3 b2 h3.below))) H.out.2.1.off (fun b _ => H.out.2.1.unm b) (h3.sth (fun i hi => by
        rcases hi with hi | hi
        · exact Nat.lt_of_lt_of_le hi (Nat.le_trans H.out.2.2.2.1.size (Nat.le_trans b1.size b2.size))
        · exact Nat.lt_of_lt_of_le (H.out.1.lt hi) (Nat.le_trans b1.size b2.size))) rfl (below3 H.out.2.2.2.1 (below3 b1 (below3 b2 h3.below))) H.out.2.2.2.2.1 H.out.2.2.2.2.2.1 ((FdsF.of (We.Ow.call o1 b2)).below h3.below) (by rw [HL.out.2.2.1, H.out.2.2.2.2.2.2.2.2]) HL.out.2.2.2).mono ?_; rintro e w4 ⟨f, A, gl, gt, rfl, b4, hAL, h4⟩))
  obtain ⟨hCh, hN, hT, hb, hlo, h0, hroom, hresv, hBP⟩ := H.out
  rw [hroom, hresv, show ((C.B : Nat) : Int).tdiv 8 = 2 by rw [hN.B]; rfl, nxR_none HL.out.1] at h4
  have hfr := fresh0 hN HL.out.1
  have g0 : (⟨C, xsR l C.B C.P C.B, -1, 0, wnR S8.noAb l C.B C.P C.B, []⟩ : Wx).C.B = 16 ∧ (⟨C, xsR l C.B C.P C.B, -1, 0, wnR S8.noAb l C.B C.P C.B, []⟩ : Wx).C.P = 8 ∧ (⟨C, xsR l C.B C.P C.B, -1, 0, wnR S8.noAb l C.B C.P C.B, []⟩ : Wx).C.Z = 64 := ⟨hN.B, hN.P, hN.Z⟩
  generalize (⟨C, xsR l C.B C.P C.B, -1, 0, wnR S8.noAb l C.B C.P C.B, []⟩ : Wx) = X at *
  have HE := Hid.mk (eraseAll_any h4 hfr)
  clear h4 hfr HLk HL hCh hN hT hb hlo h0 hroom hresv hBP b1 b2 b4 h3 o1
  go_upto_region 10 with (go_at_call 34; refine HE.out.mono ?_; rintro e w5 ⟨rfl, A5, X5, h5, hfr5, g5, m5⟩)
  obtain ⟨gB, gP, gZ⟩ := g0
  have hB5 : X5.C.B = 16 := g5.1.trans gB
  have hP5 : X5.C.P = 8 := g5.2.1.trans gP
  have hZ5 : X5.C.Z = 64 := g5.2.2.trans gZ
  obtain ⟨lx, lw⟩ := h5.lens
  have hq5 := hfr5.sq lw ⟨by omega, by omega, by omega⟩ T4 Q4 rfl
  have hwn : X5.wn = wn16 := list_of (lw.trans hB5) (fun i hi => by rw [hfr5.wn i (by omega), if_pos (by omega)])
  have hS := save_all h5 hfr5.calm hq5 (by omega) 0 (by omega) 1 rfl (by omega) (hq5.cnt3 lx) (hq5.wnB lw (by decide)) (by decide) (by decide) (by rw [hfr5.free lx, hB5, hP5, hZ5]; decide) st1 (by rw [hwn, hB5]; exact plays1) (fun r hr => List.all_eq_true.1 may1 r (by rw [← dump1]; exact hr)) (by rw [dump1]; decide) ckps (by rw [dump1, hZ5]; rfl) 2 ckps_len (by omega) (by omega) (fun i hi => by
    rw [Nat.zero_add]
    unfold T4 Q4
    rw [if_pos hi, if_pos hi]
    exact ⟨rfl, rfl⟩)
  rw [hB5] at hq5
  have HS := Hid.mk hS
  have H5 := Hid.mk (And.intro hq5 (And.intro hwn (And.intro hB5 (And.intro hP5 (And.intro hZ5 (And.intro lw (And.intro m5.L hAL)))))))
  clear hS hq5 hwn hB5 hP5 hZ5 lx lw m5 h5 hfr5 g5 gB gP gZ hAL HE
  go_upto_region 11 with (go_at_call 35; refine HS.out.mono ?_; rintro e w6 ⟨rfl, P', A6, X6, a6, r6, h6, g6, c6, har, hq6, m6⟩)
  obtain ⟨hq5, hwn, hB5, hP5, hZ5, lw, mL, hAL⟩ := H5.out
  rw [hP5] at har
  obtain ⟨rfl, rfl⟩ := row_0 har (by omega)
  rw [hB5] at hq6
  obtain ⟨lx6, lw6⟩ := h6.lens
  have hc3 := hq6.cnt3 lx6
  have hwn6 : X6.wn = wn16 := (hq5.wnEq hq6 lw lw6 g6.1).trans hwn
  have hI := isWorn_any h6.fa
  rw [hc3] at hI
  have HI := Hid.mk hI
  have H6 := Hid.mk (And.intro h6 (And.intro (And.intro (g6.1.trans hB5) (And.intro (g6.2.1.trans hP5) (g6.2.2.trans hZ5))) (And.intro c6 (And.intro hq6 (And.intro hwn6 (m6.L.trans (mL.trans hAL)))))))
  clear hI hc3 h6 g6 c6 hq6 hwn6 m6 hq5 hwn hB5 hP5 hZ5 lw lx6 lw6 mL hAL har HS H5
  go_wp2_with (go_at_call 36; refine HI.out.mono ?_; rintro e w7 ⟨rfl, n7, rfl⟩)
  go_ret2
  exact ⟨f, rfl, ⟨_, A6, X6, gl, _, gt, _, H6.out.1.drewN n7, H6.out.2.1, H6.out.2.2.1, H6.out.2.2.2.1, H6.out.2.2.2.2.1, H6.out.2.2.2.2.2, rfl, rfl, rfl, rfl, rfl, rfl, rfl⟩⟩
end Go.Proofs.YtcmmhfjnhlaepabGreatDoor
namespace Go.Proofs.YtcmmhfjnhlaepabGreatDoor
open Go Go.RowKit

/-- no faults -/
def noF : Value := .agg #[.slice none 0 0, .slice none 0 0, .slice none 0 0]
theorem geo_16 (w : World) : Calls Tryz.prog 12 #[.agg #[.int .i64 0, .int .i64 0, .int .i64 0]] w fun e w' => e = .returned (.agg #[.int .i64 16, .int .i64 8, .int .i64 64]) ∧ Below w.heap.size w w' := by
  have hb : Below w.heap.size w (w.alloc (.cells #[.int .i64 0, .int .i64 0, .int .i64 0] 23)) := (Below.refl _ w).alloc (Nat.le_refl _) _
  have hr := heap_alloc_new w (.cells #[.int .i64 0, .int .i64 0, .int .i64 0] 23)
  have b0 := cell_of_row _ _ 0 _ 23 _ hr
  have b1 := cell_of_row _ _ 1 _ 23 _ hr
  have b2 := cell_of_row _ _ 2 _ 23 _ hr
  simp only [List.getElem?_toArray, List.getElem?_cons_zero, List.getElem?_cons_succ] at b0 b1 b2
  have h7 : bits BinOp.and IntKind.i64 0 7 = 0 := by kernel_rfl
  have h3 : bits BinOp.and IntKind.i64 0 3 = 0 := by kernel_rfl
  have h31 : bits BinOp.and IntKind.i64 0 31 = 0 := by kernel_rfl
  go_enter Tryz.func12, Tryz.ntmps12
  go_wp2
  exact bodyPost_ret (v := .agg #[.int .i64 16, .int .i64 8, .int .i64 64]) (by rw [results_cell1 rfl]; go_simp) rfl ⟨rfl, hb.alloc hb.size _⟩
/-- a struct of faults that has none -/
def NoB (g : Nat) (w : World) : Prop := w.heap[g]? = some (.cells #[.slice none 0 0, .slice none 0 0, .slice none 0 0] 32 (0, 0))
theorem NoB.lt {g : Nat} {w : World} (h : NoB g w) : g < w.heap.size := (Array.getElem?_eq_some_iff.1 h).1
theorem NoB.call {g : Nat} {w w' : World} (h : NoB g w) (b : Below w.heap.size w w') : NoB g w' := (b.block g h.lt).trans h
theorem NoB.cells {g : Nat} {w : World} (h : NoB g w) : w.cell? ⟨g, 0, none⟩ = some (.slice none 0 0) ∧ w.cell? ⟨g, 1, none⟩ = some (.slice none 0 0) ∧ w.cell? ⟨g, 2, none⟩ = some (.slice none 0 0) :=
  ⟨by rw [cell_of_row w g _ _ 32 _ h]; rfl, by rw [cell_of_row w g _ _ 32 _ h]; rfl, by rw [cell_of_row w g _ _ 32 _ h]; rfl⟩
set_option maxRecDepth 20000 in
theorem cut_none (n : Nat) (hn : n < 1000) (w : World) : Calls Tryz.prog 25 #[noF, .int .i64 n] w fun e w' => e = .returned noF ∧ Below w.heap.size w w' := by
  have hs34 : ∀ w, (Instr.slice 29 (.slice none 0 0) none (some (.int .i64 0)) none).run Tryz.prog w = .ok (.slice none 0 0) w := fun w => cut_to (e := 87) Tryz.underlying29 size64 (a := none) (.inl rfl) 0 0 0 (Nat.le_refl _) w
  have hs29 : ∀ w, (Instr.slice 30 (.slice none 0 0) none (some (.int .i64 0)) none).run Tryz.prog w = .ok (.slice none 0 0) w := fun w => cut_to (e := 3) Tryz.underlying30 size3 (a := none) (.inl rfl) 0 0 0 (Nat.le_refl _) w
  have h8 : min (0 : Int) 8 = 0 := by decide
  have hmn : min (0 : Int) (n : Int) = 0 := by omega
  have hwn : IntKind.i64.wrap (n : Int) = n := by rw [IntKind.wrap_i64]; omega
  have hA : NoB w.heap.size (w.alloc (.cells #[.slice none 0 0, .slice none 0 0, .slice none 0 0] 32)) := heap_alloc_new w _
  have hAb : Below w.heap.size w (w.alloc (.cells #[.slice none 0 0, .slice none 0 0, .slice none 0 0] 32)) := (Below.refl _ w).alloc (Nat.le_refl _) _
  have hBb := hAb.alloc hAb.size (.cells #[.slice none 0 0, .slice none 0 0, .slice none 0 0] 32)
  have hA2 := hA.call (Pg.below_one _ (.cells #[.slice none 0 0, .slice none 0 0, .slice none 0 0] 32))
  have hB := heap_alloc_new (w.alloc (.cells #[.slice none 0 0, .slice none 0 0, .slice none 0 0] 32)) (.cells #[.slice none 0 0, .slice none 0 0, .slice none 0 0] 32)
  unfold noF
  go_enter Tryz.func25, Tryz.ntmps25
  go_upto_region 1 with fail
  rw [size_alloc] at hB
  generalize (w.alloc (.cells #[.slice none 0 0, .slice none 0 0, .slice none 0 0] 32)).alloc (.cells #[.slice none 0 0, .slice none 0 0, .slice none 0 0] 32) = W1 at *
  clear hA hAb
  refine wp_region_held_drew (S := fun w' => NoB w.heap.size w') (by kernel_rfl) (show NoB w.heap.size W1.drew from hA2) (fun hHeld => ?_)
  refine tkF 0 (fun _ q => NoB.cells q) hHeld ?_
  refine tkF 1 (fun _ q => NoB.cells q) hHeld ?_
  refine tkF 2 (fun _ q => NoB.cells q) hHeld ?_
  refine tkF 3 (fun _ q => NoB.cells q) hHeld ?_
  refine tkF 4 (fun _ q => NoB.cells q) hHeld ?_
  refine tkF 5 (fun _ q => NoB.cells q) hHeld ?_
  refine tkF 6 (fun _ q => NoB.cells q) hHeld ?_
  refine tkF 7 (fun _ q => NoB.cells q) hHeld ?_
  refine tkF 8 (fun _ q => NoB.cells q) hHeld ?_
  refine tkF 9 (fun _ q => NoB.cells q) hHeld ?_
  refine tkF 10 (fun _ q => NoB.cells q) hHeld ?_
  refine tkF 11 (fun _ q => NoB.cells q) hHeld ?_
  refine tkF 12 (fun _ q => NoB.cells q) hHeld ?_
  refine tkF 13 (fun _ q => NoB.cells q) hHeld ?_
  refine tkF 14 (fun _ q => NoB.cells q) hHeld ?_
  refine tkF 15 (fun _ q => NoB.cells q) hHeld ?_
  refine wpAnyH_ready (rs := [16]) (by kernel_rfl) (by simp) ?_
  refine arH rfl (fun K hK => ?_) AllReadyH.nil
  go_simp
  refine hK.out _ _ (hA2.call (Pg.below_one W1 _).drew) (fun hHeld => ?_)
  clear hK K
  try simp only [Act.put, zA, zB, zC]
  refine wpAnyH_ready (rs := [17]) (by kernel_rfl) (by simp) ?_
  refine arH rfl (fun K hK => ?_) AllReadyH.nil
  have hC := heap_alloc_new W1 (.cells #[.slice none 0 0, .slice none 0 0, .slice none 0 0] 32)
  go_simp
  refine hK.out _ _ (hA2.call (Pg.below_one W1 _).drew) (fun _ => ?_)
  clear hK K hHeld
  try simp only [Act.put, zA, zB, zC]
  refine wpAnyH_done (by kernel_rfl) ?_ _
  have b3 := (Pg.below_one W1 (.cells #[.slice none 0 0, .slice none 0 0, .slice none 0 0] 32)).drew
  have hA3 : NoB w.heap.size (W1.alloc (.cells #[.slice none 0 0, .slice none 0 0, .slice none 0 0] 32)).drew := hA2.call b3
  have hB3 : NoB (w.heap.size + 1) (W1.alloc (.cells #[.slice none 0 0, .slice none 0 0, .slice none 0 0] 32)).drew := NoB.call hB b3
  have hC3 : NoB W1.heap.size (W1.alloc (.cells #[.slice none 0 0, .slice none 0 0, .slice none 0 0] 32)).drew := hC
  have hbb : Below w.heap.size w (W1.alloc (.cells #[.slice none 0 0, .slice none 0 0, .slice none 0 0] 32)).drew := below3 hBb b3
  have hne : W1.heap.size ≠ w.heap.size + 1 := by have := NoB.lt hB; omega
  have hne2 : w.heap.size ≤ W1.heap.size := hBb.size
  generalize (W1.alloc (.cells #[.slice none 0 0, .slice none 0 0, .slice none 0 0] 32)).drew = W2 at *
  generalize W1.heap.size = g5 at *
  obtain ⟨a0, a1, a2⟩ := hA3.cells
  obtain ⟨d0, d1, d2⟩ := hC3.cells
  obtain ⟨e0, e1, e2⟩ := hB3.cells
  have f0 := frozen_of_row W2 g5 0 _ 32 hC3
  have f1 := frozen_of_row W2 g5 1 _ 32 hC3
  have f2 := frozen_of_row W2 g5 2 _ 32 hC3
  have q0 := frozen_of_row W2 (w.heap.size + 1) 0 _ 32 hB3
  have q1 := frozen_of_row W2 (w.heap.size + 1) 1 _ 32 hB3
  have q2 := frozen_of_row W2 (w.heap.size + 1) 2 _ 32 hB3
  have hw0 : IntKind.i64.wrap ((n : Int) - 0) = n := by rw [Int.sub_zero]; exact hwn
  clear hA2 hB hC hBb b3
  go_wp2_with fail
  have k := ((((Kp.refl (fun i => w.heap.size ≤ i) W2).setCell (p := ⟨g5, 1, none⟩) hne2 (.slice none 0 0)).setCell (p := ⟨w.heap.size + 1, 0, none⟩) (Nat.le_succ _) (.slice none 0 0)).setCell (p := ⟨w.heap.size + 1, 1, none⟩) (Nat.le_succ _) (.slice none 0 0)).setCell (p := ⟨w.heap.size + 1, 2, none⟩) (Nat.le_succ _) (.slice none 0 0)
  exact bodyPost_ret (v := .agg #[.slice none 0 0, .slice none 0 0, .slice none 0 0]) (by rw [results_cell1 rfl]; go_simp) rfl ⟨rfl, Kp.below hbb k hbb.size (fun i hi => hi)⟩
end Go.Proofs.YtcmmhfjnhlaepabGreatDoor
namespace Go.Proofs.YtcmmhfjnhlaepabGreatDoor
open Go Go.RowKit

/-- a chip whose faults are laid ready: none -/
def armC (C : Ch) : Ch := { C with did := 0, cuts := cutsOf [], fails := failsOf [] }
theorem Sq.arm {D : Int} {X : Wx} {r : Nat} {T Q} (h : Sq D X 0 r T Q) : Sq r { X with C := armC X.C } 0 r T Q :=
  ⟨⟨h.fin.off, h.fin.free, h.fin.opn, h.fin.cnt, h.fin.geo⟩, h.wz, h.le, h.xs, h.nx, h.says, by show (0 : Int) + r = ((0 * X.C.P + r : Nat) : Int); omega, by omega, h.bd, h.unm⟩
theorem calm_arm (X : Wx) : Calm { X with C := armC X.C } := ⟨fun i => by simp [armC, cutsOf], fun i => by simp [armC, failsOf]⟩
/-- an FTL, ahead of its first commit -/
structure Fm2 (w0 : World) (L : Ly) (f : Nat) (w : World) : Prop where
  ft : ∃ F A X gl la gt tl, Ft w0 f F A X gl la gt tl st1 w ∧ (X.C.B = 16 ∧ X.C.P = 8 ∧ X.C.Z = 64) ∧ Calm X ∧ Sq 2 X 0 2 T4 Q4 ∧ X.wn = wn16 ∧ A.L = L ∧ F.nx = (2 : Nat) ∧ F.rs = 58 ∧ F.sp = 2 ∧ F.pl = 19 ∧ F.ky = 38 ∧ F.jr = 0 ∧ F.lost = false
theorem arm_ok {w0 w : World} {L : Ly} {f : Nat} (h : Fmt w0 L f w) : Calls Tryz.prog 15 #[.pointer (some ⟨L.a, 0, none⟩), noF] w fun e w' => e = .returned (.tuple #[]) ∧ Fm2 w0 L f w' := by
  obtain ⟨F, A, X, gl, la, gt, tl, hf, hg, hc, hq, hwn, hL, h1, h2, h3, h4, h5, h6, h7⟩ := h.ft
  subst hL
  obtain ⟨mc, mf, n, k, h0, _, _⟩ := hf.fa.wtr.chip.to0
  have hA : Calls Tryz.prog 15 #[.pointer (some ⟨A.L.a, 0, none⟩), noF] w fun e w' => e = .returned (.tuple #[]) ∧ Chip w' A.L (armC X.C) ∧ Kp (A.L.own X.C.B) w w' :=
    arm_any h0 none none [] [] 0 0 (.slice none 0 0) (fun i hi => absurd hi (by simp)) (fun i hi => absurd hi (by simp)) (by simp) (by simp) (fun x hx => absurd hx (by simp)) (fun x hx => absurd hx (by simp))
  refine hA.mono ?_
  rintro e w' ⟨rfl, hch, k1⟩
  have hw := hf.fa.wtr.chipTo hch k1 rfl rfl
  have hn : Nxt A A X.C.B w w' := Nxt.of (k1.mono (fun i hi => .inr (.inl hi)))
  exact ⟨rfl, ⟨F, A, { X with C := armC X.C }, gl, la, gt, tl, hf.next hw hn ⟨rfl, rfl, rfl⟩, hg, calm_arm X, hq.arm, hwn, rfl, h1, h2, h3, h4, h5, h6, h7⟩⟩
theorem Bg2.facts {a g : Nat} {w : World} (h : Rm.Bx3 w a 0 0 0 ∧ NoB g w) : w.cell? ⟨a, 0, none⟩ = some (.int .i64 0) ∧ w.cell? ⟨a, 1, none⟩ = some (.int .i64 0) ∧ w.cell? ⟨a, 2, none⟩ = some (.int .i64 0) ∧ w.cell? ⟨g, 0, none⟩ = some (.slice none 0 0) ∧ w.cell? ⟨g, 1, none⟩ = some (.slice none 0 0) ∧ w.cell? ⟨g, 2, none⟩ = some (.slice none 0 0) := by
  obtain ⟨a0, a1, a2⟩ := h.1.cells
  exact ⟨a0, a1, a2, h.2.cells⟩
set_option maxRecDepth 20000 in
theorem begun_ok {w : World} (hT : Pg.Tab w) : Calls Tryz.prog 6 #[.agg #[.int .i64 0, .int .i64 0, .int .i64 0], noF, .int .i64 1] w fun e w' => ∃ (L : Ly) (f : Nat) (w0 : World), e = .returned (.tuple #[.pointer (some ⟨L.a, 0, none⟩), .pointer (some ⟨f, 0, none⟩), .bool true]) ∧ Below w.heap.size w w0 ∧ Fm2 w0 L f w' := by
  have HC := Hid.mk (fun w => cut_none 1 (by decide) w)
  have HGe := Hid.mk (fun w => geo_16 w)
  have HN : Hid (∀ w, Calls Tryz.prog 13 #[.agg #[.int .i64 16, .int .i64 8, .int .i64 64], noF] w fun e w' => ∃ L : Ly, e = .returned (.tuple #[.pointer (some ⟨L.a, 0, none⟩), .int .i64 0]) ∧ Chip w' L (begC 16 8 64 [] [] []) ∧ Below w.heap.size w w' ∧ ∀ i, L.own 16 i → w.heap.size < i) :=
    Hid.mk (fun w => new_any 16 8 64 (by decide) none none none [] [] [] 0 0 0 w (fun i hi => absurd hi (by simp)) (fun i hi => absurd hi (by simp)) (fun i hi => absurd hi (by simp)) (by simp) (by simp) (by simp) (fun x hx => absurd hx (by simp)) (fun x hx => absurd hx (by simp)))
  have HT := Hid.mk hT
  have HA := Hid.mk (fun (w0 w' : World) (L : Ly) (f : Nat) (h : Fmt w0 L f w') => arm_ok h)
  unfold noF at HC HN HA ⊢
  clear hT
  go_enter Tryz.func6, Tryz.ntmps6
  go_upto_region 2 with (go_at_call 25; refine (HC.out _).mono ?_; rintro e w1 ⟨rfl, b1⟩)
  have hx : Rm.Bx3 (w.alloc (.cells #[.int .i64 0, .int .i64 0, .int .i64 0] 23)) w.heap.size 0 0 0 := heap_alloc_new w _
  have bx := ((Below.refl w.heap.size w).alloc (Nat.le_refl _) (.cells #[.int .i64 0, .int .i64 0, .int .i64 0] 23))
  have hx2 := hx.call (Pg.below_one _ (.cells #[.slice none 0 0, .slice none 0 0, .slice none 0 0] 32))
  have bx2 := bx.alloc bx.size (.cells #[.slice none 0 0, .slice none 0 0, .slice none 0 0] 32)
  have hx3 := (hx2.call b1).call (Pg.below_one w1 (.cells #[.slice none 0 0, .slice none 0 0, .slice none 0 0] 32))
  have bx3 := below3 (below3 bx2 b1) (Pg.below_one w1 (.cells #[.slice none 0 0, .slice none 0 0, .slice none 0 0] 32))
  have hy : NoB w1.heap.size (w1.alloc (.cells #[.slice none 0 0, .slice none 0 0, .slice none 0 0] 32)) := heap_alloc_new w1 _
  clear hx bx hx2 bx2 b1
  generalize w1.heap.size = g9 at *
  generalize w1.alloc (.cells #[.slice none 0 0, .slice none 0 0, .slice none 0 0] 32) = W1 at *
  refine wp_region_held_drew (S := fun w' => Rm.Bx3 w' w.heap.size 0 0 0 ∧ NoB g9 w') (by kernel_rfl) (show Rm.Bx3 W1.drew w.heap.size 0 0 0 ∧ NoB g9 W1.drew from ⟨hx3, hy⟩) (fun hHeld => ?_)
  refine tkF 0 (fun _ q => Bg2.facts q) hHeld ?_
  refine tkF 2 (fun _ q => Bg2.facts q) hHeld ?_
  refine tkF 3 (fun _ q => Bg2.facts q) hHeld ?_
  refine tkF 4 (fun _ q => Bg2.facts q) hHeld ?_
  clear hHeld
  refine wpAnyH_ready (rs := [1]) (by kernel_rfl) (by simp) ?_
  refine arH rfl (fun K hK => ?_) AllReadyH.nil
  go_simp
  go_at_call 12
  refine (HGe.out _).mono ?_
  rintro e w2 ⟨rfl, b2⟩
  have b12 : Below W1.heap.size W1 w2 := below3 (Below.refl _ W1).drew b2
  refine hK.out _ _ ⟨hx3.call b12, hy.call b12⟩ (fun _ => ?_)
  clear hK K b2
  try simp only [Act.put, zA, zB, zC]
  refine wpAnyH_ready (rs := [5]) (by kernel_rfl) (by simp) ?_
  refine arH rfl (fun K hK => ?_) AllReadyH.nil
  go_simp
  go_at_call 13
  refine (HN.out _).mono ?_
  rintro e w3 ⟨L, rfl, hch, b3, hlo⟩
  have b13 : Below W1.heap.size W1 w3 := below3 b12 b3
  refine hK.out _ _ ⟨hx3.call b13, hy.call b13⟩ (fun hHeld => ?_)
  clear hK K
  try simp only [Act.put, zA, zB, zC]
  refine tkF 6 (fun _ q => Bg2.facts q) hHeld ?_
  refine tkF 7 (fun _ q => Bg2.facts q) hHeld ?_
  refine tkF 8 (fun _ q => Bg2.facts q) hHeld ?_
  refine tkF 9 (fun _ q => Bg2.facts q) hHeld ?_
  refine tkF 10 (fun _ q => Bg2.facts q) hHeld ?_
  refine wpAnyH_done (by kernel_rfl) ?_ _
  have HF := Hid.mk (format_ok (w0 := W1) hch newC_16 ((HT.out.call bx3).call b13) b13 (fun i hi => by have := hlo i hi; have := b12.size; omega) (Nat.lt_of_lt_of_le HT.out.1 bx3.size))
  have HX := Hid.mk (And.intro bx3 hy)
  clear hx3 hy bx3 b12 b13 b3 hch hlo hHeld HT HN HC HGe
  go_upto_region 4 with (go_at_call 14; refine HF.out.mono ?_; rintro e w4 ⟨f, rfl, h4⟩)
  obtain ⟨F, A, X, gl, la, gt, tl, hf, -⟩ := h4.ft
  have hy4 : NoB g9 w4 := (hf.below.block g9 HX.out.2.lt).trans HX.out.2
  obtain ⟨a0, a1, a2⟩ := hy4.cells
  have HZ := Hid.mk (HA.out _ _ _ _ h4)
  clear hf hy4 h4 HF
  go_wp2_with (go_at_call 15; refine HZ.out.mono ?_; rintro e w5 ⟨rfl, h5⟩)
  go_ret3
  exact ⟨L, f, W1, rfl, HX.out.1, h5⟩
end Go.Proofs.YtcmmhfjnhlaepabGreatDoor
namespace Go.Proofs.YtcmmhfjnhlaepabGreatDoor
open Go Go.RowKit

theorem isC_blank {f : Fd} (h : f.c = 0) : isC f = false := decide_eq_false (fun x => by omega)
theorem cntC_more (a b : List Fd) (h : ∀ f ∈ b, f.c = 0) : cntC (a ++ b) = cntC a := by
  unfold cntC
  rw [List.foldl_append]
  generalize a.foldl stepC (fun _ => 0, fun _ => 0) = p
  induction b generalizing p with
  | nil => rfl
  | cons f r ih =>
    rw [List.foldl_cons]
    have : stepC p f = p := by
      unfold stepC
      rw [if_neg (by rw [isC_blank (h f (by simp))]; decide)]
    rw [this]
    exact ih (fun g hg => h g (by simp [hg])) p
theorem nwW_more (a b : List Fd) (h : ∀ f ∈ b, f.c = 0) : nwW (a ++ b) = nwW a := by
  unfold nwW
  rw [cntC_more a b h, List.foldl_append]
  generalize (cntC a).2 = G
  generalize a.foldl (stN G) none = p
  induction b generalizing p with
  | nil => rfl
  | cons f r ih =>
    rw [List.foldl_cons]
    have : stN G p f = p := by
      unfold stN
      rw [if_neg (fun x => by rw [isC_blank (h f (by simp))] at x; exact absurd x.1 (by decide))]
    rw [this]
    exact ih (fun g hg => h g (by simp [hg])) p
theorem pgs_more (a b : List Fd) (h : ∀ f ∈ b, f.c = 0) (s o : Int) : pgs (a ++ b) s o = pgs a s o := by
  unfold pgs
  rw [List.foldl_append]
  generalize a.foldl (stP s o) (List.replicate o.toNat fdZ) = p
  induction b generalizing p with
  | nil => rfl
  | cons f r ih =>
    rw [List.foldl_cons]
    have : stP s o p f = p := by
      unfold stP
      rw [if_neg (fun x => by rw [isC_blank (h f (by simp))] at x; exact absurd x.1 (by decide))]
    rw [this]
    exact ih (fun g hg => h g (by simp [hg])) p
theorem jrn_more (a b : List Fd) (h : ∀ f ∈ b, f.c = 0) (s : Int) : jrn s (a ++ b) = jrn s a := by
  unfold jrn
  rw [List.filter_append]
  have : b.filter (isJ s) = [] := by
    rw [List.filter_eq_nil_iff]
    intro f hf
    have := h f hf
    unfold isJ
    simp only [decide_eq_true_eq]
    omega
  rw [this, List.append_nil]
theorem grt_more (a b : List Fd) (h : ∀ f ∈ b, f.c = 0) : grt (a ++ b) = grt a := by
  unfold grt
  rw [List.foldl_append]
  generalize a.foldl (fun m f => if f.c = 1 then max m f.S else m) (0 : Int) = p
  induction b generalizing p with
  | nil => rfl
  | cons f r ih =>
    rw [List.foldl_cons, if_neg (by have := h f (by simp); omega)]
    exact ih (fun g hg => h g (by simp [hg])) p
/-- the four pages -/
def F4 (i : Nat) : Fd := if i < 4 then ⟨i, 1, (Q4 i).1, (Q4 i).2.1, (Q4 i).2.2.1, (Q4 i).2.2.2, 1, T4 i⟩ else blF i
def four (t0 t1 t2 t3 : ByteArray) : List Fd := [⟨0, 1, 3, 1, 0, 2, 1, t0⟩, ⟨1, 1, 3, 1, 1, 2, 1, t1⟩, ⟨2, 1, 1, 2, 0, 1, 1, t2⟩, ⟨3, 1, 2, 3, 0, 1, 1, t3⟩]
def blanks : List Fd := (List.range 124).map (fun j => blF (4 + j))
theorem fal_4 : fal F4 128 = four (T4 0) (T4 1) (T4 2) (T4 3) ++ blanks := by
  unfold fal blanks
  rw [show (128 : Nat) = 4 + 124 from rfl, List.range_add, List.map_append, List.map_map]
  have e : List.map (F4 ∘ fun x => 4 + x) (List.range 124) = List.map (fun j => blF (4 + j)) (List.range 124) := by
    apply List.map_congr_left
    intro j _
    show F4 (4 + j) = blF (4 + j)
    unfold F4
    rw [if_neg (by omega)]
  rw [e]
  rfl
theorem blanks_c : ∀ f ∈ blanks, f.c = 0 := by
  intro f hf
  obtain ⟨j, _, rfl⟩ := List.mem_map.1 hf
  rfl
theorem newest_4 (t0 t1 t2 t3 : ByteArray) : nwW (four t0 t1 t2 t3) = some (1, 2) := by kernel_rfl
theorem pgs_4 (t0 t1 t2 t3 : ByteArray) : pgs (four t0 t1 t2 t3) 1 2 = [⟨0, 1, 3, 1, 0, 2, 1, t0⟩, ⟨1, 1, 3, 1, 1, 2, 1, t1⟩] := by kernel_rfl
theorem jrn_4 (t0 t1 t2 t3 : ByteArray) : jrn 1 (four t0 t1 t2 t3) = [⟨3, 1, 2, 3, 0, 1, 1, t3⟩] := by kernel_rfl
theorem grt_4 (t0 t1 t2 t3 : ByteArray) : grt (four t0 t1 t2 t3) = 3 := by kernel_rfl
theorem ckps_rows : [T4 0, T4 1] = [Gp.puts (sn16.take 13), Gp.puts (sn16.drop 13)] := by kernel_rfl
theorem tx2_rows : T4 3 = Gp.puts [rc1, rc2 2] := by kernel_rfl
end Go.Proofs.YtcmmhfjnhlaepabGreatDoor
namespace Go.Proofs.YtcmmhfjnhlaepabGreatDoor
open Go Go.RowKit

/-- the chip behind the commit -/
structure Cp (w0 : World) (L : Ly) (C : Ch) (w : World) : Prop where
  chip : Chip w L C
  tab : Pg.Tab w
  off : C.off = false
  unm : ∀ b, b < C.B → C.mark b = false
  B : C.B = 16
  P : C.P = 8
  Z : C.Z = 64
  says : ∀ i, i < 4 → Says C 0 i (T4 i) (Q4 i).1 (Q4 i).2.1 (Q4 i).2.2.1 (Q4 i).2.2.2 1
  blank : ∀ b p, b < 16 → p < 8 → (0 < b ∨ 4 ≤ p) → C.pg b p = ⟨#[]⟩
  below : Below w0.heap.size w0 w
  lo : ∀ i, L.own C.B i → w0.heap.size ≤ i
  z0 : 0 < w0.heap.size
theorem Cp.call {w0 L C} {w w' : World} (h : Cp w0 L C w) (b : Below w.heap.size w w') : Cp w0 L C w' :=
  { h with chip := h.chip.call b, tab := h.tab.call b, below := below3 h.below b }
theorem Cp.lk {w0 L C} {w : World} (h : Cp w0 L C w) (i : Nat) (hi : i < C.B * C.P) : LkIs C i (F4 i) := by
  rw [h.B, h.P] at hi
  unfold F4
  by_cases e : i < 4
  · rw [if_pos e]
    refine lk_says (W := 1) ?_
    rw [h.P, Nat.div_eq_of_lt (by omega), Nat.mod_eq_of_lt (by omega)]
    exact h.says i e
  · rw [if_neg e]
    refine lk_blank ?_ (by rw [h.Z]; decide)
    rw [h.P]
    exact h.blank _ _ (by omega) (by omega) (by omega)
theorem meta_is {w : World} {G P nx chk B ms a n cap} (h : ImB w G P nx chk (.slice (some a) n cap)) (hm : Ints w B (.slice (some a) n cap) ms) (hn : ms.length = n) (hl : n ≤ 1000) : Calls Tryz.prog 42 #[.pointer (some ⟨G, 0, none⟩)] w fun e w' => ∃ v, e = .returned v ∧ Ints w' w.heap.size v ms ∧ Below w.heap.size w w' := by
  obtain ⟨c0, c1, c2, c3⟩ := h.cells
  have hc := clone_any (Ints.rds hm) (by omega) cap
  rw [hn] at hc
  have HC := Hid.mk hc
  clear h hm hc hn
  go_enter Tryz.func42, Tryz.ntmps42
  go_wp2_with (go_at_call 81; refine HC.out.mono ?_; rintro e w1 ⟨v, rfl, i1, b1⟩)
  go_ret
  exact ⟨_, rfl, i1, b1⟩
def stJ (j : Nat) : S8.Ab := if j = 0 then st1 else st2
theorem jr_4 : Jr (jrn 1 (fal F4 128)) (fun _ => [rc1, rc2 2]) stJ := by
  rw [fal_4, jrn_more _ _ blanks_c, jrn_4]
  refine ⟨by decide, fun j hj => absurd hj (by simp), fun f hf => ?_, fun j hj => ?_, fun j _ => ⟨may2, by decide⟩, fun j hj => ?_⟩
  · obtain rfl := List.mem_singleton.1 hf
    exact ⟨rfl, rfl, (by decide : (0 : Int) ≤ 3 ∧ (3 : Int) ≤ 18446744073709551615)⟩
  · obtain rfl : j = 0 := by simpa using hj
    exact tx2_rows
  · obtain rfl : j = 0 := by simpa using hj
    exact plays2
theorem ok_4 : ∀ f ∈ fal F4 128, f.ok := by
  intro f hf
  rw [fal_4] at hf
  rcases List.mem_append.1 hf with q | q
  · simp only [four, List.mem_cons, List.not_mem_nil, or_false] at q
    rcases q with rfl | rfl | rfl | rfl <;> exact ⟨by unfold U64; decide, by unfold N64; decide, by unfold N64; decide⟩
  · obtain ⟨j, _, rfl⟩ := List.mem_map.1 q
    exact ⟨(by decide : (0 : Int) ≤ 0 ∧ (0 : Int) ≤ 18446744073709551615), (by decide : (-9223372036854775808 : Int) ≤ 0 ∧ (0 : Int) ≤ 9223372036854775807), (by decide : (-9223372036854775808 : Int) ≤ 0 ∧ (0 : Int) ≤ 9223372036854775807)⟩
theorem bd_4 (i : Nat) : 0 ≤ ((fal F4 128).getD i fdZ).W ∧ 0 ≤ ((fal F4 128).getD i fdZ).S ∧ ((fal F4 128).getD i fdZ).S ≤ 1000000 := by
  have all : ∀ f ∈ fal F4 128, 0 ≤ f.W ∧ 0 ≤ f.S ∧ f.S ≤ 1000000 := by
    intro f hf
    rw [fal_4] at hf
    rcases List.mem_append.1 hf with q | q
    · simp only [four, List.mem_cons, List.not_mem_nil, or_false] at q
      rcases q with rfl | rfl | rfl | rfl <;> dsimp only <;> decide
    · obtain ⟨j, _, rfl⟩ := List.mem_map.1 q
      exact ⟨Int.le_refl 0, Int.le_refl 0, (by decide : (0 : Int) ≤ 1000000)⟩
  rw [List.getD_eq_getElem?_getD]
  by_cases e : i < (fal F4 128).length
  · rw [List.getElem?_eq_getElem e]; exact all _ (List.getElem_mem e)
  · rw [List.getElem?_eq_none (by omega)]; exact ⟨Int.le_refl 0, Int.le_refl 0, (by decide : (0 : Int) ≤ 1000000)⟩
/-- what four pages come to -/
theorem rebuild_4 (a : Option Addr) (cap : Nat) (w : World) (h : We.Ow w 0 99 8 (.slice a 128 cap) ((fal F4 128).map Fd.row)) :
    Calls Tryz.prog 40 #[.slice a 128 cap] w fun e w' => ∃ G P mv, e = .returned (.tuple #[.pointer (some ⟨G, 0, none⟩), .int .i64 0]) ∧ Img w.heap.size w G P st2 4 1 [0, 1, 3] mv [] w' := by
  have hl := fal_len F4 128
  have hp : pgs (fal F4 128) 1 (2 : Nat) = [⟨0, 1, 3, 1, 0, 2, 1, T4 0⟩, ⟨1, 1, 3, 1, 1, 2, 1, T4 1⟩] := by rw [fal_4, pgs_more _ _ blanks_c]; exact pgs_4 _ _ _ _
  have hj : jrn 1 (fal F4 128) = [⟨3, 1, 2, 3, 0, 1, 1, T4 3⟩] := by rw [fal_4, jrn_more _ _ blanks_c]; exact jrn_4 _ _ _ _
  have hg : grt (fal F4 128) = 3 := by rw [fal_4, grt_more _ _ blanks_c]; exact grt_4 _ _ _ _
  have hr := rebuild_ok a cap (fal F4 128) w (by rw [hl]; exact h) ok_4 (by rw [hl]; decide) 1 2 (by rw [fal_4, nwW_more _ _ blanks_c]; exact newest_4 _ _ _ _) (by decide) (by rw [hp]; rfl) [sn16.take 13, sn16.drop 13] (by rw [hp]; exact ckps_rows)
    (fun x hx r hr => by
      have hm : r ∈ sn16 := by
        simp only [List.mem_cons, List.not_mem_nil, or_false] at hx
        rcases hx with rfl | rfl
        · exact List.mem_of_mem_take hr
        · exact List.mem_of_mem_drop hr
      exact List.all_eq_true.1 may1 r hm) (fun x hx => by
      simp only [List.mem_cons, List.not_mem_nil, or_false] at hx
      rcases hx with rfl | rfl <;> decide) (fun _ => [rc1, rc2 2]) stJ (by
      show S8.plays S8.noAb (sn16.take 13 ++ (sn16.drop 13 ++ [])) st1
      rw [List.append_nil, List.take_append_drop]
      exact plays1) jr_4 (by rw [hg]; decide)
  rw [hl, hp, hj, hg] at hr
  exact hr
end Go.Proofs.YtcmmhfjnhlaepabGreatDoor
namespace Go.Proofs.YtcmmhfjnhlaepabGreatDoor
open Go Go.RowKit

/-- an FTL that was mounted -/
structure Mtd (w0 : World) (C : Ch) (f : Nat) (w : World) : Prop where
  ft : ∃ F A X gl la gt tl, Ft w0 f F A X gl la gt tl st2 w ∧ X.C = C
/-- .. whose journal is counted -/
structure MtR (w0 : World) (f : Nat) (A : Wl) (X : Wx) (gl : Nat) (la : List Int) (gt : Nat) (B : Nat) (va : Option Addr) (vc : Nat) (na : Option Addr) (nc k : Nat) (w : World) : Prop where
  ft : ∃ (F : Fc) (j : Nat) (tl : List Bool), F.jr = (j : Int) ∧ j ≤ k ∧ Ft w0 f F A X gl la gt tl st2 w
  all : We.Ow w 0 99 8 (.slice va 128 vc) ((fal F4 128).map Fd.row)
  me : Ints w B (.slice na 3 nc) [0, 1, 3]
set_option maxRecDepth 20000 in
theorem mount_ok {w0 w : World} {L C} (h : Cp w0 L C w) : Calls Tryz.prog 18 #[.pointer (some ⟨L.a, 0, none⟩)] w fun e w' => ∃ f, e = .returned (.tuple #[.pointer (some ⟨f, 0, none⟩), .int .i64 0]) ∧ Mtd w0 C f w' := by
  have hroom : Rm.roomN (C.B : Int) C.P C.Z = 19 := by rw [h.B, h.P, h.Z]; exact room_16
  have hBP : C.B * C.P = 128 := by rw [h.B, h.P]
  have hl := look_ok h.chip h.tab h.off (by rw [hroom]; decide) F4 (fun i hi => h.lk i hi)
  rw [hBP] at hl
  have HLk := Hid.mk hl
  have H := Hid.mk (And.intro h hBP)
  clear h hl hroom hBP
  go_enter Tryz.func18, Tryz.ntmps18
  go_upto_region 10 with (first
    | (go_at_call 31; refine HLk.out.mono ?_; rintro e w1 ⟨v, rfl, o1, b1⟩; obtain ⟨va, vc, rfl⟩ := o1.form; rw [List.length_map, fal_len] at o1 ⊢)
    | (go_at_call 40; refine (rebuild_4 va vc _ (We.Ow.lower o1 (Nat.zero_le _))).mono ?_; rintro e w2 ⟨G, P, mv, rfl, h2⟩)
    | (go_at_call 41; refine (state_is h2.box).mono ?_; rintro e w2' ⟨rfl, rfl⟩))
  go_at_call 32
  have bb := below3 b1 h2.st.hold.below
  have hc2 := H.out.1.call bb
  have hB := begin_any (w0 := w0) (aa := va) (l := fal F4 128) (ac := vc) hc2.chip hc2.tab H.out.1.off H.out.1.unm (h2.st.hold.sth (Z := fun i => i < w0.heap.size ∨ L.own C.B i) (fun i hi => by
        rcases hi with hi | hi
        · exact Nat.lt_of_lt_of_le hi (Nat.le_trans H.out.1.below.size b1.size)
        · exact Nat.lt_of_lt_of_le (H.out.1.chip.lt hi) b1.size)) bad2 hc2.below H.out.1.lo H.out.1.z0 ((FdsF.of o1).below h2.st.hold.below) (by rw [fal_len, H.out.2]) bd_4
  rw [fal_len] at hB
  refine hB.mono ?_
  rintro e w3 ⟨f, A, gl, gt, rfl, b3, hAL, h3⟩
  obtain ⟨ma, mc, hmv⟩ := Ints.form h2.me
  obtain ⟨mg, rfl⟩ : ∃ mg, ma = some ⟨mg, 0, none⟩ := by
    have hme := h2.me
    rw [hmv] at hme
    obtain ⟨g, e, -⟩ := hme.cell (j := 0) (by decide)
    exact ⟨g, e⟩
  rw [show [(0 : Int), 1, 3].length = 3 from rfl] at hmv
  subst hmv
  have h2' := h2.call b3
  have HM := Hid.mk (meta_is h2'.box h2'.me rfl (by decide))
  have o3 := We.Ow.call (We.Ow.call o1 h2.st.hold.below) b3
  have HX := Hid.mk (And.intro h3 o3)
  clear hB h2 h2' h3 o3 hc2 bb o1 b1 b3 HLk hAL
  go_upto_region 11 with (go_at_call 42; refine HM.out.mono ?_; rintro e w4 ⟨v4, rfl, i4, b4⟩; obtain ⟨na, nc, rfl⟩ := Ints.form i4; rw [show [(0 : Int), 1, 3].length = 3 from rfl] at i4 ⊢)
  have hMR : Hid (MtR w0 f A ⟨C, xsR (fal F4 128) C.B C.P C.B, -1, 0, wnR st2 (fal F4 128) C.B C.P C.B, []⟩ gl (laR (fal F4 128) C.B C.P C.B) gt w3.heap.size va vc na nc 0 w4) := Hid.mk ⟨⟨_, 0, _, rfl, Nat.le_refl _, HX.out.1.call b4⟩, We.Ow.lower (We.Ow.call HX.out.2 b4) (Nat.zero_le _), i4⟩
  have hXC : (⟨C, xsR (fal F4 128) C.B C.P C.B, -1, 0, wnR st2 (fal F4 128) C.B C.P C.B, []⟩ : Wx).C = C := rfl
  have hnp : (⟨C, xsR (fal F4 128) C.B C.P C.B, -1, 0, wnR st2 (fal F4 128) C.B C.P C.B, []⟩ : Wx).C.B * (⟨C, xsR (fal F4 128) C.B C.P C.B, -1, 0, wnR st2 (fal F4 128) C.B C.P C.B, []⟩ : Wx).C.P = 128 := H.out.2
  generalize (⟨C, xsR (fal F4 128) C.B C.P C.B, -1, 0, wnR st2 (fal F4 128) C.B C.P C.B, []⟩ : Wx) = X at *
  generalize laR (fal F4 128) C.B C.P C.B = la at *
  generalize w3.heap.size = B3 at *
  have HC := Hid.mk (And.intro hXC hnp)
  clear i4 b4 HX HM hXC hnp H
  go_loopw [9, 40] (fun _ i wr => ∃ k : Nat, k ≤ 3 ∧ i = .int .i64 k ∧ MtR w0 f A X gl la gt B3 va vc na nc k wr) (fun _ i _ => 3 - (intOf i).toNat)
  case atStart => exact ⟨0, by omega, rfl, hMR.out⟩
  case round =>
    clear hMR
    obtain ⟨k, hk, rfl, hm⟩ := hrel
    by_cases hlt : k < 3
    · have hltI : (k : Int) < 3 := by omega
      obtain ⟨F, j, tl, hj, hjk, hf⟩ := hm.ft
      obtain ⟨g, rfl, hgl, -, cj, -⟩ := hm.me.cell (j := k) (by simpa using hlt)
      obtain ⟨p, hp, hp4⟩ : ∃ p : Nat, [(0 : Int), 1, 3].getD k 0 = p ∧ p < 4 := by
        rcases (show k = 0 ∨ k = 1 ∨ k = 2 by omega) with rfl | rfl | rfl
        · exact ⟨0, rfl, by decide⟩
        · exact ⟨1, rfl, by decide⟩
        · exact ⟨3, rfl, by decide⟩
      rw [hp] at cj
      obtain ⟨ga, oa, rfl, hga, hfd⟩ := (FdsF.of hm.all) p (by rw [fal_len]; omega)
      obtain ⟨q, hq⟩ : ∃ q, ((fal F4 128).getD p fdZ).K = q := ⟨_, rfl⟩
      have ck := hfd.2.2.1
      rw [hq] at ck
      have c10 : wr.cell? ⟨f, 10, none⟩ = some F.tl := hf.fa.c 10
      rw [hf.tl.tl, HC.out.2] at c10
      have c11 : wr.cell? ⟨f, 11, none⟩ = some (.int .i64 F.jr) := hf.fa.c 11
      rw [hj] at c11
      have f11 := hf.frz 11
      have cg := hf.tl.cell p (by rw [HC.out.2]; omega)
      have fg : wr.frozen? ⟨gt, p, none⟩ = false := frozen_of_row wr gt p _ _ hf.tl.row
      have hgat : ga ≠ gt := fun e => ow_ne_cell hm.all hf.tl.row (by decide) (by rw [← e]; simp [Value.ownBlock])
      have hgaf : ga ≠ f := fun e => ow_ne_cell hm.all hf.fa.box (by decide) (by rw [← e]; simp [Value.ownBlock])
      have hgt : gt ≠ f := hf.tl.ne
      have hgg : g ≠ gt := fun e => ow_ne_cell hm.me hf.tl.row (by decide) (by rw [← e]; simp [Value.ownBlock])
      have hgf : g ≠ f := fun e => ow_ne_cell hm.me hf.fa.box (by decide) (by rw [← e]; simp [Value.ownBlock])
      have hp128 : (p : Int) < 128 := by omega
      have k1 : Kp (fun i => i = gt) wr (wr.setCell ⟨gt, p, none⟩ (.bool true)) := (Kp.refl (fun i => i = gt) wr).setCell (p := ⟨gt, p, none⟩) rfl _
      have h1 := hf.tlTo (hf.fa.off k1 (fun i hi => ⟨fun e => hf.tl.ne (hi.symm.trans e), fun o => hf.tl.own (hi ▸ o), by subst hi; exact ⟨_, _, _, hf.tl.row⟩⟩)) (hf.tl.set p true) k1
      have hm1 : MtR w0 f A X gl la gt B3 (some ⟨ga, oa, none⟩) vc (some ⟨g, 0, none⟩) nc k (wr.setCell ⟨gt, p, none⟩ (.bool true)) :=
        ⟨⟨F, j, _, hj, hjk, h1⟩, We.Ow.same hm.all (fun i hi => k1.block i (We.Ow.lt hm.all i hi).2 (fun e => by
          have : ga = i := by simpa [Value.ownBlock] using hi
          omega)), We.Ow.same hm.me (fun i hi => k1.block i (We.Ow.lt hm.me i hi).2 (fun e => by
          have : g = i := by simpa [Value.ownBlock] using hi
          omega))⟩
      have k2 : Kp (fun i => i = f) (wr.setCell ⟨gt, p, none⟩ (.bool true)) ((wr.setCell ⟨gt, p, none⟩ (.bool true)).setCell ⟨f, 11, none⟩ (.int .i64 ((j : Int) + 1))) := (Kp.refl (fun i => i = f) _).setCell (p := ⟨f, 11, none⟩) rfl _
      have h2 := h1.cell (F' := { F with jr := (j : Int) + 1 }) 11 (.int .i64 ((j : Int) + 1)) rfl rfl rfl h1.st
      have hm2 : MtR w0 f A X gl la gt B3 (some ⟨ga, oa, none⟩) vc (some ⟨g, 0, none⟩) nc (k + 1) ((wr.setCell ⟨gt, p, none⟩ (.bool true)).setCell ⟨f, 11, none⟩ (.int .i64 ((j : Int) + 1))) :=
        ⟨⟨_, j + 1, _, rfl, by omega, h2⟩, We.Ow.same hm1.all (fun i hi => k2.block i (We.Ow.lt hm1.all i hi).2 (fun e => by
          have : ga = i := by simpa [Value.ownBlock] using hi
          omega)), We.Ow.same hm1.me (fun i hi => k2.block i (We.Ow.lt hm1.me i hi).2 (fun e => by
          have : g = i := by simpa [Value.ownBlock] using hi
          omega))⟩
      have hwj : IntKind.i64.wrap ((j : Int) + 1) = (j : Int) + 1 := by rw [IntKind.wrap_i64]; omega
      have HM1 := Hid.mk hm1
      have HM2 := Hid.mk hm2
      generalize tl.getD p false = v0 at *
      clear hm hf hfd hq k1 h1 hm1 k2 h2 hm2 hp hj hga hgl
      by_cases hq2 : q = 2
      · subst hq2
        go_wp2_with fail
        exact ⟨⟨k + 1, by omega, by go_num, HM2.out⟩, by simp [intOf]; omega⟩
      · have hqb : (q == 2) = false := by simp [hq2]
        go_wp2_with fail
        obtain ⟨⟨F', j', tl', e1, e2, e3⟩, e4, e5⟩ := HM1.out
        exact ⟨⟨k + 1, by omega, by go_num, ⟨⟨F', j', tl', e1, by omega, e3⟩, e4, e5⟩⟩, by simp [intOf]; omega⟩
    · obtain rfl : k = 3 := by omega
      have HS := Hid.mk hm
      clear hm
      go_wp2_with fail
      go_ret2
      obtain ⟨F, j, tl, _, _, hf⟩ := HS.out.ft
      exact ⟨f, rfl, ⟨F, A, X, gl, la, gt, tl, hf, HC.out.1⟩⟩
end Go.Proofs.YtcmmhfjnhlaepabGreatDoor
namespace Go.Proofs.YtcmmhfjnhlaepabGreatDoor
open Go Go.RowKit

/-- an FTL behind its first commit -/
structure Fm3 (w0 : World) (L : Ly) (C : Ch) (f : Nat) (w : World) : Prop where
  ft : ∃ F A X gl la gt tl, Ft w0 f F A X gl la gt tl st2 w ∧ X.C = C ∧ A.L = L
  cp : Cp w0 L C w
theorem free_16 {D : Int} {X : Wx} {T Q} (hq : Sq D X 0 2 T Q) (ok : Lf.Ok X.C.B X.C.P X.xs X.o X.nx) (hB : X.C.B = 16) (hP : X.C.P = 8) : 120 ≤ X.free := by
  have hx : X.xs = 1 :: List.replicate 15 0 := by
    apply List.ext_getElem (by rw [ok.len, hB]; rfl)
    intro i h1 h2
    have := hq.xs i (by rw [← ok.len]; exact h1)
    rw [List.getD_eq_getElem?_getD, List.getElem?_eq_getElem h1, Option.getD_some] at this
    rw [this, if_neg (by omega)]
    cases i with
    | zero => rw [if_pos ⟨rfl, by omega⟩]; rfl
    | succ i => rw [if_neg (fun x => by omega), List.getElem_cons_succ, List.getElem_replicate]
  have hn := ok.nxr
  unfold Wx.free Lf.roomL
  have hc : Lf.cnt X.xs 0 = 15 := by rw [hx]; rfl
  rw [hc, hP]
  rw [hP] at hn
  split <;> omega
theorem commit_ok {w0 w : World} {L : Ly} {f g : Nat} (h : Fm2 w0 L f w) (hg : ChB w g) : Calls Tryz.prog 11 #[.pointer (some ⟨f, 0, none⟩), .slice (some ⟨g, 0, none⟩) 2 2] w fun e w' => e = .returned (.int .i64 0) ∧ ∃ C, Fm3 w0 L C f w' := by
  obtain ⟨F, A, X, gl, la, gt, tl, hf, ⟨hB, hP, hZ⟩, hc, hq, hwn, hL, h1, h2, h3, h4, h5, h6, h7⟩ := h.ft
  obtain ⟨x, hx, hxq⟩ := spB
  have hfr := free_16 hq hf.fa.wtr.lif.ok hB hP
  have hC := Commit_two hf h7 hc hq (by omega) 2 h1 (by omega) (by decide) (by rw [h2]; omega) (by rw [h3]; omega) (by
    unfold Fc.want
    rw [h2, h3, hP, show (58 : Int).tdiv 2 = 29 from rfl]
    omega) (by rw [h6]; omega) hg (by rw [hwn, hB]; exact since1) st2 plays2 (by rw [hwn, hB]; exact since2) may2 tx2 (by rw [hZ]; exact pack2) ⟨rfl, rfl⟩ ⟨rfl, rfl⟩ apA1 apB1 hx hxq layC live_C (by rw [h4]; omega) (by rw [h5, pagesC]; omega)
  refine hC.mono ?_
  rintro e w' ⟨rfl, P', A', X', hf', g', c', hq', m'⟩
  have hB' : X'.C.B = 16 := g'.1.trans hB
  have hP' : X'.C.P = 8 := g'.2.1.trans hP
  have hZ' : X'.C.Z = 64 := g'.2.2.trans hZ
  have hL' : A'.L = L := m'.L.trans hL
  obtain ⟨lx', lw'⟩ := hf'.lens
  obtain ⟨lx, lw⟩ := hf.lens
  have hwn' : X'.wn = wn16 := (hq.wnEq hq' lw lw' g'.1).trans hwn
  have hch := hf'.fa.wtr.chip
  rw [hL'] at hch
  refine ⟨rfl, X'.C, ⟨_, A', X', gl, _, gt, _, hf', rfl, hL'⟩, ⟨hch, hf'.tab, hq'.fin.off, hq'.unm, hB', hP', hZ', fun i hi => ?_, fun b p hb hp hbp => ?_, hf'.below, fun i hi => ?_, hf'.z0⟩⟩
  · have := hq'.says 0 i (.inr ⟨rfl, hi⟩)
    rw [hwn', Nat.zero_mul, Nat.zero_add] at this
    exact this
  · exact hq'.rest (by rw [hB']; exact hb) (by rw [hP']; exact hp) (by omega)
  · exact Nat.le_trans hf'.lo.1 (hf'.fa.wtr.low i (.inr (.inl (by rw [hL']; exact hi))))
theorem read_x {w0 w wa : World} {L : Ly} {C : Ch} {f : Nat} (hc : Cp w0 L C wa) (h : ∃ F A X gl la gt tl, Ft w0 f F A X gl la gt tl st2 w ∧ X.C = C) : Calls Tryz.prog 17 #[.pointer (some ⟨f, 0, none⟩), .int .i64 1, .int .i64 2] w fun e w' => e = .returned (.tuple #[.string ⟨#[120]⟩, .bool true, .int .i64 0]) ∧ Below w.heap.size w w' := by
  obtain ⟨F, A, X, gl, la, gt, tl, hf, hX⟩ := h
  have hs := hc.says 2 (by omega)
  rw [← hX] at hs
  exact Read_any hf (by rw [hX]; exact hc.off) 0 2 (by rw [hX, hc.B]; omega) (by rw [hX, hc.P]; omega) hs 2 (by omega) (S8.k64 (by decide) (by decide)) (S8.k64 (by decide) (by decide)) get2
theorem Fm2.call {w0 L f} {w w' : World} (h : Fm2 w0 L f w) (b : Below w.heap.size w w') : Fm2 w0 L f w' := by
  obtain ⟨F, A, X, gl, la, gt, tl, hf, h1⟩ := h.ft
  exact ⟨⟨F, A, X, gl, la, gt, tl, hf.call b, h1⟩⟩
set_option maxRecDepth 20000 in
theorem awake_ok {w : World} (hT : Pg.Tab w) : Calls Tryz.prog 7 #[] w fun e w' => e = .returned (.bool true) ∧ Below w.heap.size w w' := by
  have HB := Hid.mk (begun_ok hT)
  clear hT
  unfold noF at HB
  go_enter Tryz.func7, Tryz.ntmps7
  go_upto_region 4 with (go_at_call 6; refine HB.out.mono ?_; rintro e w1 ⟨L, f, w0, rfl, b0, h1⟩)
  have HA := Hid.mk (commit_ok (h1.call (Pg.below_one w1 (.cells chC 49))) (show ChB (w1.alloc (.cells chC 49)) w1.heap.size from heap_alloc_new w1 _))
  unfold chC at HA
  clear h1 HB
  go_upto_region 5 with (go_at_call 11; refine HA.out.mono ?_; rintro e w2 ⟨rfl, C, h2⟩)
  have HR := Hid.mk (read_x h2.cp (by obtain ⟨F, A, X, gl, la, gt, tl, hf, hX, _⟩ := h2.ft; exact ⟨F, A, X, gl, la, gt, tl, hf, hX⟩))
  have HM := Hid.mk (fun w' (b : Below w2.heap.size w2 w') => mount_ok (h2.cp.call b))
  have HC := Hid.mk h2.cp
  clear h2 HA
  have hbeq : ((⟨#[120]⟩ : ByteArray) == ⟨#[120]⟩) = true := by kernel_rfl
  go_upto_region 6 with (go_at_call 17; refine HR.out.mono ?_; rintro e w3 ⟨rfl, b3⟩)
  go_upto_region 7 with (go_at_call 18; refine (HM.out _ b3).mono ?_; rintro e w4 ⟨f2, rfl, h4⟩)
  have HR2 := Hid.mk (read_x HC.out h4.ft)
  obtain ⟨F, A, X, gl, la, gt, tl, hf, -⟩ := h4.ft
  have HE := Hid.mk (below3 b0 hf.below)
  clear hf h4 HM HR HC b3 b0
  go_upto_region 8 with (go_at_call 17; refine HR2.out.mono ?_; rintro e w5 ⟨rfl, b5⟩)
  have HF := Hid.mk (below3 HE.out b5)
  clear b5 HE HR2
  go_wp2_with fail
  go_ret
  exact ⟨rfl, HF.out⟩
end Go.Proofs.YtcmmhfjnhlaepabGreatDoor
namespace Go.Proofs.YtcmmhfjnhlaepabGreatDoor
open Go Go.RowKit

theorem fisNone_nil (w : World) : Calls Tryz.prog 38 #[.pointer none] w fun e w' => e = .returned (.bool true) ∧ w' = w := by
  go_enter Tryz.func38, Tryz.ntmps38
  go_wp2
  go_ret
  exact ⟨rfl, rfl⟩
theorem frefuses_nil (w : World) : Calls Tryz.prog 26 #[.pointer none] w fun e w' => e = .returned (.int .i64 1) ∧ w' = w := by
  have HN := Hid.mk (fun w => fisNone_nil w)
  go_enter Tryz.func26, Tryz.ntmps26
  go_wp2_with (go_at_call 38; refine (HN.out _).mono ?_; rintro e w1 ⟨rfl, rfl⟩)
  go_ret
  exact ⟨rfl, rfl⟩
theorem fcommit_nil (w : World) : Calls Tryz.prog 11 #[.pointer none, .slice none 0 0] w fun e w' => e = .returned (.int .i64 1) ∧ w' = w := by
  have HN := Hid.mk (fun w => frefuses_nil w)
  go_enter Tryz.func11, Tryz.ntmps11
  go_wp2_with (go_at_call 26; refine (HN.out _).mono ?_; rintro e w1 ⟨rfl, rfl⟩)
  go_ret
  exact ⟨rfl, rfl⟩
theorem fcheckpoint_nil (w : World) : Calls Tryz.prog 21 #[.pointer none] w fun e w' => e = .returned (.int .i64 1) ∧ w' = w := by
  have HN := Hid.mk (fun w => frefuses_nil w)
  go_enter Tryz.func21, Tryz.ntmps21
  go_wp2_with (go_at_call 26; refine (HN.out _).mono ?_; rintro e w1 ⟨rfl, rfl⟩)
  go_ret
  exact ⟨rfl, rfl⟩
theorem fstate_nil (w : World) : Calls Tryz.prog 22 #[.pointer none] w fun e w' => e = .returned (.pointer none) ∧ w' = w := by
  have HN := Hid.mk (fun w => fisNone_nil w)
  go_enter Tryz.func22, Tryz.ntmps22
  go_wp2_with (go_at_call 38; refine (HN.out _).mono ?_; rintro e w1 ⟨rfl, rfl⟩)
  go_ret
  exact ⟨rfl, rfl⟩
theorem ffree_nil (w : World) : Calls Tryz.prog 23 #[.pointer none] w fun e w' => e = .returned (.int .i64 0) ∧ w' = w := by
  have HN := Hid.mk (fun w => fisNone_nil w)
  go_enter Tryz.func23, Tryz.ntmps23
  go_wp2_with (go_at_call 38; refine (HN.out _).mono ?_; rintro e w1 ⟨rfl, rfl⟩)
  go_ret
  exact ⟨rfl, rfl⟩
theorem ftells_nil (w : World) : Calls Tryz.prog 24 #[.pointer none] w fun e w' => e = .returned (.int .i64 0) ∧ w' = w := by
  have HN := Hid.mk (fun w => fisNone_nil w)
  go_enter Tryz.func24, Tryz.ntmps24
  go_wp2_with (go_at_call 38; refine (HN.out _).mono ?_; rintro e w1 ⟨rfl, rfl⟩)
  go_ret
  exact ⟨rfl, rfl⟩
theorem froom_nil (w : World) : Calls Tryz.prog 16 #[.pointer none] w fun e w' => e = .returned (.agg #[.int .i64 0, .int .i64 0, .int .i64 0, .int .i64 0]) ∧ Below w.heap.size w w' := by
  have HN : Hid (∀ w, Calls Tryz.prog 38 #[.pointer none] w fun e w' => e = .returned (.bool true) ∧ Below w.heap.size w w') := Hid.mk (fun w => (fisNone_nil w).mono (by rintro e w1 ⟨rfl, rfl⟩; exact ⟨rfl, Below.refl _ _⟩))
  have HX : Hid (Rm.Bx4 (w.alloc (.cells #[.int .i64 0, .int .i64 0, .int .i64 0, .int .i64 0] 52)) w.heap.size (.int .i64 0) (.int .i64 0) (.int .i64 0) (.int .i64 0)) := Hid.mk (heap_alloc_new w _)
  have HB := Hid.mk ((Below.refl w.heap.size w).alloc (Nat.le_refl _) (.cells #[.int .i64 0, .int .i64 0, .int .i64 0, .int .i64 0] 52))
  go_enter Tryz.func16, Tryz.ntmps16
  go_wp2_with (go_at_call 38; refine (HN.out _).mono ?_; rintro e w1 ⟨rfl, b1⟩; have X := HX.out.call b1; obtain ⟨z0, z1, z2, z3⟩ := X.cells; have y0 := X.fz 0; have y1 := X.fz 1; have y2 := X.fz 2; have y3 := X.fz 3)
  exact bodyPost_ret (Rm.room_result rfl rfl rfl (X.set _ _ _ _)) rfl ⟨rfl, Rm.set4_below (below3 HB.out b1) (Nat.le_refl _) _ _ _ _⟩
theorem fread_nil (s a : Int) (w : World) : Calls Tryz.prog 17 #[.pointer none, .int .i64 s, .int .i64 a] w fun e w' => e = .returned (.tuple #[.string ⟨#[]⟩, .bool false, .int .i64 1]) ∧ w' = w := by
  have HN := Hid.mk (fun w => fisNone_nil w)
  go_enter Tryz.func17, Tryz.ntmps17
  go_wp2_with (go_at_call 38; refine (HN.out _).mono ?_; rintro e w1 ⟨rfl, rfl⟩)
  go_ret3
  exact ⟨rfl, rfl⟩
theorem freadAt_nil (a : Int) (w : World) : Calls Tryz.prog 19 #[.pointer none, .int .i64 a] w fun e w' => e = .returned (.tuple #[.string ⟨#[]⟩, .int .i64 1]) ∧ w' = w := by
  have HN := Hid.mk (fun w => fisNone_nil w)
  go_enter Tryz.func19, Tryz.ntmps19
  go_wp2_with (go_at_call 38; refine (HN.out _).mono ?_; rintro e w1 ⟨rfl, rfl⟩)
  go_ret2
  exact ⟨rfl, rfl⟩
/-- a chip of this geometry is none that an FTL may have -/
theorem look_no0 {p : Option Addr} {B P S : Int} {T : World → Prop} (hG : ∀ w, T w → Calls Tryz.prog 8 #[.pointer p] w fun e w' => e = .returned (.agg #[.int .i64 B, .int .i64 P, .int .i64 S]) ∧ Below w.heap.size w w')
    (hC : ∀ w, Calls Tryz.prog 20 #[.agg #[.int .i64 B, .int .i64 P, .int .i64 S]] w fun e w' => e = .returned (.bool false) ∧ Below w.heap.size w w') (w : World) (hT : T w) :
    Calls Tryz.prog 31 #[.pointer p] w fun e w' => e = .returned (.tuple #[.slice none 0 0, .int .i64 1]) ∧ Below w.heap.size w w' := by
  have HG := Hid.mk (hG w hT)
  have HC := Hid.mk hC
  clear hG hC hT
  go_enter Tryz.func31, Tryz.ntmps31
  go_wp2_with (first
    | (go_at_call 8; refine HG.out.mono ?_; rintro e w1 ⟨rfl, b1⟩)
    | (go_at_call 20; refine (HC.out _).mono ?_; rintro e w2 ⟨rfl, b2⟩))
  go_ret2
  exact ⟨rfl, below3 b1 b2⟩
theorem mount_no0 {p : Option Addr} {w : World} (hL : Calls Tryz.prog 31 #[.pointer p] w fun e w' => e = .returned (.tuple #[.slice none 0 0, .int .i64 1]) ∧ Below w.heap.size w w') :
    Calls Tryz.prog 18 #[.pointer p] w fun e w' => e = .returned (.tuple #[.pointer none, .int .i64 1]) ∧ Below w.heap.size w w' := by
  have HL := Hid.mk hL
  clear hL
  go_enter Tryz.func18, Tryz.ntmps18
  go_wp2_with (go_at_call 31; refine HL.out.mono ?_; rintro e w1 ⟨rfl, b1⟩)
  go_ret2
  exact ⟨rfl, b1⟩
theorem format_no0 {p : Option Addr} {w : World} (hL : Calls Tryz.prog 31 #[.pointer p] w fun e w' => e = .returned (.tuple #[.slice none 0 0, .int .i64 1]) ∧ Below w.heap.size w w') :
    Calls Tryz.prog 14 #[.pointer p] w fun e w' => e = .returned (.tuple #[.pointer none, .int .i64 1]) ∧ Below w.heap.size w w' := by
  have HL := Hid.mk hL
  clear hL
  go_enter Tryz.func14, Tryz.ntmps14
  go_wp2_with (go_at_call 31; refine HL.out.mono ?_; rintro e w1 ⟨rfl, b1⟩)
  go_ret2
  exact ⟨rfl, b1⟩
theorem flook_nil (w : World) : Calls Tryz.prog 31 #[.pointer none] w fun e w' => e = .returned (.tuple #[.slice none 0 0, .int .i64 1]) ∧ Below w.heap.size w w' :=
  look_no0 (T := fun _ => True) (fun w _ => geom_nil w) (fun w => Rm.rcheck_none 0 0 0 (by unfold Rm.okG; omega) w) w trivial
theorem fmount_nil (w : World) : Calls Tryz.prog 18 #[.pointer none] w fun e w' => e = .returned (.tuple #[.pointer none, .int .i64 1]) ∧ Below w.heap.size w w' := mount_no0 (flook_nil w)
theorem fformat_nil (w : World) : Calls Tryz.prog 14 #[.pointer none] w fun e w' => e = .returned (.tuple #[.pointer none, .int .i64 1]) ∧ Below w.heap.size w w' := format_no0 (flook_nil w)
/-- a chip on which there is no room -/
theorem mount_few {w : World} {L C} (h : Chip w L C) (hr : ¬ 4 ≤ Rm.roomN (C.B : Int) C.P C.Z) : Calls Tryz.prog 18 #[.pointer (some ⟨L.a, 0, none⟩)] w fun e w' => e = .returned (.tuple #[.pointer none, .int .i64 1]) ∧ Below w.heap.size w w' := by
  have hgeo := h.geo
  have hg : Rm.okG C.B C.P C.Z := by unfold Rm.okG; omega
  have hC := fun w => Rm.rcheck_ok C.B C.P C.Z hg w
  rw [decide_eq_false hr] at hC
  exact mount_no0 (look_no0 (T := fun w => Chip w L C) (fun w h => geom_any h) hC w h)
/-- a chip on which nothing was written -/
theorem mount_blank {w : World} {L C} (h : Chip w L C) (hT : Pg.Tab w) (hoff : C.off = false) (hr : 4 ≤ Rm.roomN (C.B : Int) C.P C.Z) (hp : ∀ b p, C.pg b p = ⟨#[]⟩) : Calls Tryz.prog 18 #[.pointer (some ⟨L.a, 0, none⟩)] w fun e w' => e = .returned (.tuple #[.pointer none, .int .i64 150]) ∧ Below w.heap.size w w' := by
  have hgeo := h.geo
  have hn : C.B * C.P ≤ 32 * 16 := Nat.mul_le_mul (by omega) (by omega)
  have HL := Hid.mk (look_ok h hT hoff hr blF (fun i _ => lk_blank (hp _ _) (by omega)))
  obtain ⟨n, hnn⟩ : ∃ n, C.B * C.P = n := ⟨_, rfl⟩
  rw [hnn] at HL hn
  have HR := Hid.mk (fun (v : Value) (w w' : World) (o : We.Ow w' w.heap.size 99 8 v ((fal blF n).map Fd.row)) => rebuild_blank v (fal blF n) w' (o.lower (Nat.zero_le _)) (by
    intro f hf
    unfold fal at hf
    obtain ⟨i, hi, rfl⟩ := List.mem_map.1 hf
    exact ⟨(by decide : (0 : Int) ≤ 0 ∧ (0 : Int) ≤ 18446744073709551615), (by decide : (-9223372036854775808 : Int) ≤ 0 ∧ (0 : Int) ≤ 9223372036854775807), (by decide : (-9223372036854775808 : Int) ≤ 0 ∧ (0 : Int) ≤ 9223372036854775807)⟩) (by rw [fal_len]; omega) (nwW_blank (fal_none (fun i _ => rfl))))
  clear h hT hoff hr hp hgeo hnn hn
  go_enter Tryz.func18, Tryz.ntmps18
  go_wp2_with (first
    | (go_at_call 31; refine HL.out.mono ?_; rintro e w1 ⟨v, rfl, o1, b1⟩)
    | (go_at_call 40; refine (HR.out _ _ _ o1).mono ?_; rintro e w2 ⟨rfl, b2⟩))
  go_ret2
  exact ⟨rfl, below3 b1 b2⟩
end Go.Proofs.YtcmmhfjnhlaepabGreatDoor
namespace Go.Proofs.YtcmmhfjnhlaepabGreatDoor
open Go Go.RowKit

/-- what the law's walk holds: its geometry, the table -/
structure NS (w : World) (B P S : Int) (w' : World) : Prop where
  below : Below w.heap.size w w'
  geo : Rm.Bx3 w' w.heap.size B P S
  tab : Pg.Tab w'
theorem NS.call {w : World} {B P S : Int} {w1 w2 : World} (h : NS w B P S w1) (b : Below w1.heap.size w1 w2) : NS w B P S w2 := ⟨below3 h.below b, h.geo.call b, h.tab.call b⟩
theorem NS.beg {w : World} (hT : Pg.Tab w) (B P S : Int) : NS w B P S (w.alloc (.cells #[.int .i64 B, .int .i64 P, .int .i64 S] 23)) :=
  ⟨Rm.below_box w B P S, heap_alloc_new w _, hT.call (Rm.below_box w B P S)⟩
/-- New answers e0, and Mount of the chip x0 -/
def NewN (B P S e0 x0 : Int) : Prop := ∀ w, Pg.Tab w → Calls Tryz.prog 13 #[.agg #[.int .i64 B, .int .i64 P, .int .i64 S], .agg #[.slice none 0 0, .slice none 0 0, .slice none 0 0]] w fun e w' =>
  ∃ p, e = .returned (.tuple #[.pointer p, .int .i64 e0]) ∧ Below w.heap.size w w' ∧ ∀ w2, Below w'.heap.size w' w2 → Calls Tryz.prog 18 #[.pointer p] w2 fun e w3 => e = .returned (.tuple #[.pointer none, .int .i64 x0]) ∧ Below w2.heap.size w2 w3
set_option maxRecDepth 20000 in
theorem none_walk (B P S a e0 x0 : Int) (b : Bool) (hc : (e0 = 1 ∧ x0 = 1 ∧ b = false) ∨ (e0 = 0 ∧ x0 = 150 ∧ b = true) ∨ (e0 = 0 ∧ x0 = 1 ∧ b = false)) (hN : NewN B P S e0 x0)
    (hK : ∀ w, Calls Tryz.prog 20 #[.agg #[.int .i64 B, .int .i64 P, .int .i64 S]] w fun e w' => e = .returned (.bool b) ∧ Below w.heap.size w w') (w : World) (hT : Pg.Tab w) :
    Calls Tryz.prog 5 #[.agg #[.int .i64 B, .int .i64 P, .int .i64 S], .int .i64 a] w fun e w' => e = .returned (.bool true) ∧ Below w.heap.size w w' := by
  have X0 := Hid.mk (NS.beg hT B P S)
  have HN := Hid.mk hN
  have HK := Hid.mk hK
  have HA := Hid.mk (fun w (h : Pg.Tab w) => awake_ok h)
  have H1 := Hid.mk (fun w => fformat_nil w)
  have H2 := Hid.mk (fun w => fmount_nil w)
  have H3 := Hid.mk (fun w => fread_nil 1 a w)
  have H4 := Hid.mk (fun w => freadAt_nil a w)
  have H5 := Hid.mk (fun w => fcommit_nil w)
  have H6 := Hid.mk (fun w => fcheckpoint_nil w)
  have H7 := Hid.mk (fun w => fstate_nil w)
  have H8 := Hid.mk (fun w => froom_nil w)
  have H9 := Hid.mk (fun w => ffree_nil w)
  have H10 := Hid.mk (fun w => ftells_nil w)
  unfold NewN at HN
  clear hN hK hT
  rcases hc with ⟨rfl, rfl, rfl⟩ | ⟨rfl, rfl, rfl⟩ | ⟨rfl, rfl, rfl⟩
  all_goals
    go_enter Tryz.func5, Tryz.ntmps5
    go_upto_region 3 with (go_at_call 14; refine (H1.out _).mono ?_; rintro e w1 ⟨rfl, b1⟩)
    have X1 := Hid.mk (X0.out.call b1)
    clear b1 X0
    go_upto_region 4 with (go_at_call 18; refine (H2.out _).mono ?_; rintro e w2 ⟨rfl, b2⟩)
    have X2 := Hid.mk (X1.out.call b2)
    clear b2 X1
    obtain ⟨g0, g1, g2⟩ := X2.out.geo.cells
    go_upto_region 5 with (go_at_call 13; refine (HN.out _ (X2.out.tab.call (by first | exact Below.refl _ _ | exact (Below.refl _ _).drew))).mono ?_; rintro e w3 ⟨p, rfl, b3, HM⟩)
    have X3 := Hid.mk (X2.out.call (by first | exact b3 | exact below3 (Below.refl _ _).drew b3))
    replace HM := Hid.mk HM
    clear b3 X2 g0 g1 g2
    go_upto_region 6 with (go_at_call 18; refine (HM.out _ (by first | exact Below.refl _ _ | exact (Below.refl _ _).drew)).mono ?_; rintro e w4 ⟨rfl, b4⟩)
    have X4 := Hid.mk (X3.out.call (by first | exact b4 | exact below3 (Below.refl _ _).drew b4))
    clear b4 X3 HM
    go_upto_region 7 with (go_at_call 17; refine (H3.out _).mono ?_; rintro e w5 ⟨rfl, rfl⟩)
    go_upto_region 8 with (go_at_call 19; refine (H4.out _).mono ?_; rintro e w6 ⟨rfl, rfl⟩)
    go_upto_region 10 with (go_at_call 7; refine (HA.out _ X4.out.tab).mono ?_; rintro e w7 ⟨rfl, b7⟩)
    have X5 := Hid.mk (X4.out.call b7)
    clear b7 X4
    obtain ⟨g0, g1, g2⟩ := X5.out.geo.cells
    go_upto_region 12 with (go_at_call 20; refine (HK.out _).mono ?_; rintro e w8 ⟨rfl, b8⟩; first | (have X7 := Hid.mk (X6.out.call b8); clear b8) | (have X6 := Hid.mk (X5.out.call b8); clear b8; obtain ⟨k0, k1, k2⟩ := X6.out.geo.cells))
    go_wp2_with (first
      | (go_at_call 11; refine (H5.out _).mono ?_; rintro e wa ⟨rfl, rfl⟩)
      | (go_at_call 21; refine (H6.out _).mono ?_; rintro e wb ⟨rfl, rfl⟩)
      | (go_at_call 22; refine (H7.out _).mono ?_; rintro e wc ⟨rfl, rfl⟩)
      | (go_at_call 16; refine (H8.out _).mono ?_; rintro e wd ⟨rfl, b9⟩)
      | (go_at_call 23; refine (H9.out _).mono ?_; rintro e we ⟨rfl, rfl⟩)
      | (go_at_call 24; refine (H10.out _).mono ?_; rintro e wf ⟨rfl, rfl⟩))
    go_ret
    first
      | exact ⟨rfl, (X7.out.call b9).below⟩
      | exact ⟨rfl, (X5.out.call b9).below⟩
theorem ftlNone_any (B P S a : Int) (w : World) (hT : Pg.Tab w) : Calls Tryz.prog 5 #[.agg #[.int .i64 B, .int .i64 P, .int .i64 S], .int .i64 a] w fun e w' => e = .returned (.bool true) ∧ Below w.heap.size w w' := by
  by_cases hg : Rm.okG B P S
  · have hg' := hg
    unfold Rm.okG at hg'
    obtain ⟨B, rfl⟩ := Int.eq_ofNat_of_zero_le (show 0 ≤ B by omega)
    obtain ⟨P, rfl⟩ := Int.eq_ofNat_of_zero_le (show 0 ≤ P by omega)
    obtain ⟨S, rfl⟩ := Int.eq_ofNat_of_zero_le (show 0 ≤ S by omega)
    have hnew := fun w => new_any B P S (by omega) none none none [] [] [] 0 0 0 w (fun i hi => absurd hi (by simp)) (fun i hi => absurd hi (by simp)) (fun i hi => absurd hi (by simp)) (by simp) (by simp) (by simp) (fun x hx => absurd hx (by simp)) (fun x hx => absurd hx (by simp))
    by_cases hr : 4 ≤ Rm.roomN B P S
    · refine none_walk B P S a 0 150 true (.inr (.inl ⟨rfl, rfl, rfl⟩)) (fun w hT => (hnew w).mono ?_) (fun w => by have := Rm.rcheck_ok B P S hg w; rwa [decide_eq_true hr] at this) w hT
      rintro e w1 ⟨L, rfl, hc, b, _⟩
      exact ⟨_, rfl, b, fun w2 b2 => mount_blank (hc.call b2) ((hT.call b).call b2) rfl hr (fun _ _ => rfl)⟩
    · refine none_walk B P S a 0 1 false (.inr (.inr ⟨rfl, rfl, rfl⟩)) (fun w hT => (hnew w).mono ?_) (fun w => by have := Rm.rcheck_ok B P S hg w; rwa [decide_eq_false hr] at this) w hT
      rintro e w1 ⟨L, rfl, hc, b, _⟩
      exact ⟨_, rfl, b, fun w2 b2 => mount_few (hc.call b2) hr⟩
  · refine none_walk B P S a 1 1 false (.inl ⟨rfl, rfl, rfl⟩) (fun w _ => (new_refused B P S ?_ _ _ _ _ rfl w).mono ?_) (fun w => Rm.rcheck_none B P S hg w) w hT
    · cases h : okG B P S with
      | false => rfl
      | true =>
        exfalso
        apply hg
        unfold okG inR at h
        unfold Rm.okG
        simp at h
        omega
    · rintro e w1 ⟨rfl, b⟩
      exact ⟨_, rfl, b, fun w2 _ => fmount_nil w2⟩
end Go.Proofs.YtcmmhfjnhlaepabGreatDoor
