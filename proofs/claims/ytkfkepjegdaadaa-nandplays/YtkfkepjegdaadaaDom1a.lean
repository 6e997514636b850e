/-
  The law's do, one of its ways. No condition.
-/
import Derived.Test.YtkfkepjegdaadaaMd4
namespace Go.Proofs.Ytkfkepjegdaadaa
open Go Go.RowKit

set_option maxRecDepth 100000 in
set_option maxHeartbeats 4000000 in
theorem do_m1a {w : World} {L X C} (hc : Chip w L C) (hm : Md w (L.own C.B) X C) (b p f : Int) (hf : 0 ≤ f ∧ f < 256) (hr : refB C b = 0) (hd : C.did < 999) (hcut : C.cuts (C.did + 1) = none) :
    Calls Try.prog 13 #[.agg (mdA X C), .pointer (some ⟨L.a, 0, none⟩), .agg #[.int .i64 6, .int .i64 b, .int .i64 p, .int .u8 f]] w fun e w' => ∃ X', e = .returned (.tuple #[.agg (mdA X' ((markC C b).1)), .bool true]) ∧ Chip w' L ((markC C b).1) ∧ Md w' (L.own C.B) X' ((markC C b).1) ∧ Kp (L.own C.B) w w' ∧ Xf X X' := by
  have hD := Dw.start 6 b p f hc hm
  have hgeo := hm.geo
  have HC := Hid.mk (And.intro hc hm)
  have HBN := Hid.mk (And.intro hr hcut)
  have hbb := refB_zero hr
  have HBB2 := Hid.mk hbb
  clear hr hcut hbb
  obtain ⟨f1, hf1⟩ : ∃ f1 : Int, f1 = (f + 1) % 256 := ⟨_, rfl⟩
  have hf1b : 0 ≤ f1 ∧ f1 < 256 := by omega
  have hf2 : IntKind.u8.wrap (f + 1) = f1 := by rw [hf1]; simp [IntKind.wrap, IntKind.bits, IntKind.signed]
  obtain ⟨D, hDd⟩ : ∃ D, D = rep C.Z (u8 f) := ⟨_, rfl⟩
  obtain ⟨E, hE⟩ : ∃ E, E = rep 32 (u8 f1) := ⟨_, rfl⟩
  have eD : rep ((C.Z : Int).toNat) (u8 f) = D := by rw [hDd, Int.toNat_natCast]
  have eE : rep ((32 : Int).toNat) (u8 f1) = E := by rw [hE]; rfl
  have HX := Hid.mk (And.intro hDd (And.intro hE hf1))
  clear hDd hE
  go_enter Try.func13, Try.ntmps13
  go_upto_region 1 with fail
  generalize ((w.alloc (.cells (mdA X C) 39)).alloc (.cells #[.int .i64 6, .int .i64 b, .int .i64 p, .int .u8 f] 44)).alloc (.cells #[.int .i64 0, .int .i64 0, .int .i64 0, .slice none 0 0, .slice none 0 0, .slice none 0 0, .slice none 0 0, .slice none 0 0, .slice none 0 0, .slice none 0 0, .int .i64 0, .bool false] 39) = W0 at *
  obtain ⟨p0, p1, p2, p3, p4, p5, p6, p7, p8, p9, p10, p11⟩ := hD.own.cells
  obtain ⟨q0, q1, q2, q3⟩ := act_cells hD.act
  have HD := Hid.mk hD
  clear hD hc hm hf1
  go_cut [8] from 27 to 37 (fun v wx => v = .bool (blkB C b) ∧ W0 = wx)
  case first =>
    by_cases h1 : 0 ≤ b
    · by_cases h2 : b < C.B
      · go_wp2_with fail
        go_meet
        exact ⟨by rw [blkB_true h1 h2], rfl⟩
      · go_wp2_with fail
        go_meet
        exact ⟨by rw [blkB_false2 (by omega)], rfl⟩
    · go_wp2_with fail
      go_meet
      exact ⟨by rw [blkB_false1 (by omega)], rfl⟩
  case rest =>
    obtain ⟨rfl, rfl⟩ := hcut
    obtain ⟨BB, hBB⟩ : ∃ BB, blkB C b = BB := ⟨_, rfl⟩
    rw [hBB]
    have HBB := Hid.mk hBB
    clear hBB
    go_upto_region 2 with fail
    go_cut [9] from 38 to 51 (fun v wx => v = .bool (pgB C b p) ∧ W0 = wx)
    case first =>
      cases BB with
      | false =>
        go_wp2_with fail
        go_meet
        refine ⟨?_, rfl⟩
        cases hP : pgB C b p with
        | false => rfl
        | true =>
          have h1 := pgB_iff.1 hP
          have hB := HBB.out
          rw [blkB_iff.2 h1.1] at hB
          cases hB
      | true =>
        have hb2 := Hid.mk (blkB_iff.1 HBB.out)
        by_cases h1 : 0 ≤ p
        · by_cases h2 : p < C.P
          · go_wp2_with fail
            go_meet
            exact ⟨by rw [pgB_iff.2 ⟨hb2.out, h1, h2⟩], rfl⟩
          · go_wp2_with fail
            go_meet
            refine ⟨?_, rfl⟩
            cases hP : pgB C b p with
            | false => rfl
            | true => exact absurd (pgB_iff.1 hP).2.2 (by omega)
        · go_wp2_with fail
          go_meet
          refine ⟨?_, rfl⟩
          cases hP : pgB C b p with
          | false => rfl
          | true => exact absurd (pgB_iff.1 hP).2.1 (by omega)
    case rest =>
      obtain ⟨rfl, rfl⟩ := hcut
      obtain ⟨PP, hPP⟩ : ∃ PP, pgB C b p = PP := ⟨_, rfl⟩
      rw [hPP]
      have HPP := Hid.mk hPP
      clear hPP
      go_upto_region 3 with fail
      have hS1 := Hid.mk (dw_of HD.out.drew)
      go_region_held3 (fun w' => w'.cell? ⟨w.heap.size, 2, none⟩ = some (.int .i64 C.Z) ∧ w'.cell? ⟨w.heap.size + 1, 3, none⟩ = some (.int .u8 f) ∧ Dw w L X C 6 b p f w') (first | assumption | exact hS1.out | exact dw_keep (by assumption) (by assumption) | fail)
        (first | (go_at_call 18; refine (textI _ (by omega) (by omega) _ (by first | exact hf | exact hf1b) _).mono ?_; rintro x w3 ⟨rfl, b3⟩; (first | rw [eD] | rw [eE])))
      have hD3 : Dw w L X C 6 b p f w3 := (by assumption : _ ∧ _ ∧ Dw w L X C 6 b p f w3).2.2
      clear p0 p1 p2 p3 p4 p5 p6 p7 p8 p9 p10 p11 q0 q1 q2 q3 hS1 HD eD eE hf2
      obtain ⟨p0, p1, p2, p3, p4, p5, p6, p7, p8, p9, p10, p11⟩ := hD3.own.cells
      obtain ⟨q0, q1, q2, q3⟩ := act_cells hD3.act
      have HD := Hid.mk hD3
      clear hD3
      obtain ⟨R, hR⟩ : ∃ R, refB C b = R := ⟨_, rfl⟩
      obtain ⟨OO, hOO⟩ : ∃ OO, C.off = OO := ⟨_, rfl⟩
      rw [hOO] at p11
      have HOO := Hid.mk hOO
      have HR := Hid.mk hR
      clear hOO hR
      go_upto_block 0 with fail
      go_cut [12] from 62 to 86 (fun v wx => v = .int .i64 R ∧ w3 = wx)
      case first =>
        cases OO with
        | true =>
          go_wp2_with fail
          go_meet
          exact ⟨by rw [← HR.out, refB_off HOO.out], rfl⟩
        | false =>
          cases BB with
          | false =>
            go_wp2_with fail
            go_meet
            exact ⟨by rw [← HR.out, refB_no HOO.out HBB.out], rfl⟩
          | true =>
            go_wp2_with fail
            go_meet
            exact ⟨by rw [← HR.out, refB_yes HOO.out HBB.out], rfl⟩
      case rest =>
        obtain ⟨rfl, rfl⟩ := hcut
        rw [← HOO.out] at p11
        have hOw : Hid (∀ i, L.own C.B i → i < w.heap.size) := fun i hi => HC.out.1.lt hi
        have hR0 : R = 0 := by rw [← HR.out]; exact HBN.out.1
        subst hR0
        obtain ⟨C1, hC1⟩ : ∃ C1 : Ch, C1 = actC C := ⟨_, rfl⟩
        obtain ⟨i0, hi0⟩ : ∃ i0 : Int, i0 = 0 := ⟨_, rfl⟩
        have hact : actV X C = .tuple #[.agg (mdA X C1), .agg #[.int .i64 i0, .int .i64 0, .int .u8 0], .bool false, .bool (C.fails (C.did + 1))] := by
          unfold actV cutF
          rw [HBN.out.2, hC1, hi0]
          rfl
        generalize C.fails (C.did + 1) = F at *
        have HACT := Hid.mk (And.intro hact hC1)
        have hCB : Hid (C1.B = C.B) := by rw [hC1]; exact rfl
        clear hact hC1 hi0
        have lT : w.heap.size + 1 + 1 < w3.heap.size := (Array.getElem?_eq_some_iff.1 HD.out.res).1
        go_upto_region 20 with (go_at_call 31; refine (act_any HD.out.md).mono ?_; rintro e w4 ⟨rfl, b4⟩; rw [HACT.out.1]; unfold mdA)
        have hbN := below_two w4 (.cells #[.int .i64 C1.B, .int .i64 C1.P, .int .i64 C1.Z, .slice X.ca X.cl.length X.cc, .slice X.fa X.fl.length X.fc, .slice X.ba X.bn X.bc, .slice (some ⟨X.gp, 0, none⟩) (C1.B * C1.P) X.cp, .slice (some ⟨X.gw, 0, none⟩) C1.B X.cw, .slice (some ⟨X.gd, 0, none⟩) C1.B X.cd, .slice (some ⟨X.gm, 0, none⟩) C1.B X.cm, .int .i64 C1.did, .bool C1.off] 39) (.cells #[.int .i64 i0, .int .i64 0, .int .u8 0] 57)
        have hN6 : MdAt ((w4.alloc (.cells #[.int .i64 C1.B, .int .i64 C1.P, .int .i64 C1.Z, .slice X.ca X.cl.length X.cc, .slice X.fa X.fl.length X.fc, .slice X.ba X.bn X.bc, .slice (some ⟨X.gp, 0, none⟩) (C1.B * C1.P) X.cp, .slice (some ⟨X.gw, 0, none⟩) C1.B X.cw, .slice (some ⟨X.gd, 0, none⟩) C1.B X.cd, .slice (some ⟨X.gm, 0, none⟩) C1.B X.cm, .int .i64 C1.did, .bool C1.off] 39)).alloc (.cells #[.int .i64 i0, .int .i64 0, .int .u8 0] 57)) w4.heap.size X C1 := (Below.heap_alloc _ _ _ (by rw [size_alloc]; omega)).trans (heap_alloc_new w4 _)
        have hK6 := heap_alloc_new (w4.alloc (.cells #[.int .i64 C1.B, .int .i64 C1.P, .int .i64 C1.Z, .slice X.ca X.cl.length X.cc, .slice X.fa X.fl.length X.fc, .slice X.ba X.bn X.bc, .slice (some ⟨X.gp, 0, none⟩) (C1.B * C1.P) X.cp, .slice (some ⟨X.gw, 0, none⟩) C1.B X.cw, .slice (some ⟨X.gd, 0, none⟩) C1.B X.cd, .slice (some ⟨X.gm, 0, none⟩) C1.B X.cm, .int .i64 C1.did, .bool C1.off] 39)) (.cells #[.int .i64 i0, .int .i64 0, .int .u8 0] 57)
        rw [size_alloc] at hK6
        have hb6 := below3 b4 hbN
        have hD6 := HD.out.call hb6
        have md6 : Md ((w4.alloc (.cells #[.int .i64 C1.B, .int .i64 C1.P, .int .i64 C1.Z, .slice X.ca X.cl.length X.cc, .slice X.fa X.fl.length X.fc, .slice X.ba X.bn X.bc, .slice (some ⟨X.gp, 0, none⟩) (C1.B * C1.P) X.cp, .slice (some ⟨X.gw, 0, none⟩) C1.B X.cw, .slice (some ⟨X.gd, 0, none⟩) C1.B X.cd, .slice (some ⟨X.gm, 0, none⟩) C1.B X.cm, .int .i64 C1.did, .bool C1.off] 39)).alloc (.cells #[.int .i64 i0, .int .i64 0, .int .u8 0] 57)) (L.own C.B) X C1 := by
          have h9 := hD6.md.act1 hd
          rw [← HACT.out.2] at h9
          exact h9
        have lN : w3.heap.size ≤ w4.heap.size := b4.size
        generalize (w4.alloc (.cells #[.int .i64 C1.B, .int .i64 C1.P, .int .i64 C1.Z, .slice X.ca X.cl.length X.cc, .slice X.fa X.fl.length X.fc, .slice X.ba X.bn X.bc, .slice (some ⟨X.gp, 0, none⟩) (C1.B * C1.P) X.cp, .slice (some ⟨X.gw, 0, none⟩) C1.B X.cw, .slice (some ⟨X.gd, 0, none⟩) C1.B X.cd, .slice (some ⟨X.gm, 0, none⟩) C1.B X.cm, .int .i64 C1.did, .bool C1.off] 39)).alloc (.cells #[.int .i64 i0, .int .i64 0, .int .u8 0] 57) = W6 at *
        generalize w4.heap.size = N at *
        obtain ⟨_, j1, _, _⟩ := z57_cells hK6
        have H6 := Hid.mk (And.intro hD6 (And.intro hN6 md6))
        have lN6 : N < W6.heap.size := hN6.lt
        clear hbN hb6 b4 hK6 p0 p1 p2 p3 p4 p5 p6 p7 p8 p9 p10 p11 q0 q1 q2 q3
        have n9 := hN6.cells.2.2.2.2.2.2.2.2.2.1
        have hbb : 0 ≤ b ∧ b < C1.B := by
          obtain ⟨_, m, hm1, hm2⟩ := HBB2.out
          rw [hCB.out]
          omega
        obtain ⟨hb0, hb1⟩ := hbb
        obtain ⟨nb, hnb⟩ : ∃ nb : Nat, nb = b.toNat := ⟨_, rfl⟩
        have HNB := Hid.mk hnb
        have hnb2 : Hid (nb < C1.B) := by show nb < C1.B; omega
        clear hnb
        obtain ⟨cap, hcap, W1, hrun, hb3, hs3, hc3, hf3⟩ := append0 (W6.alloc (.cells #[] 4)) 37 4 (.bool false) 1 Try.underlying37 Try.info4' (by decide) W6.heap.size X.gm C1.B X.cm (fun i => .bool (C1.mark i)) (fun j hj => (md6.alloc _).mark j hj) (by rw [hCB.out]; omega) (by rw [hCB.out]; omega)
        rw [size_alloc] at hrun hs3 hc3 hf3
        have hb4 : Below W6.heap.size W6 W1 := below3 ((Below.refl _ W6).alloc (Nat.le_refl _) _) hb3
        have hL1 : Lr W6 (W6.heap.size + 1) C1.B (fun i => .bool (C1.mark i)) W1 := ⟨hb4, hs3, by omega, hc3, hf3⟩
        have ci := hc3 b.toNat (by rw [← HNB.out]; exact hnb2.out)
        have fi := hf3 b.toNat
        have HRun := Hid.mk hrun
        have hL2 := hL1.set b.toNat (.bool true)
        have hD7 := hD6.call hL2.below
        have hN7 := hN6.call hL2.below
        have hm7 := md6.call hL2.below
        have HL2 := Hid.mk (And.intro hL2 (And.intro hD7 (And.intro hN7 hm7)))
        clear hrun hL1 hL2 hb3 hb4 hs3 hc3 hf3 hD6 hN6 md6 hD7 hN7 hm7
        go_upto_region 22 with (first | (at_builtin; refine wpList_append0 rfl (.tmp 140) (.tmp 142) 37 rfl HRun.out rfl rfl ?_))
        have q1 : W1.cell? ⟨w.heap.size + 1, 1, none⟩ = some (.int .i64 b) := by
          have h9 := (act_cells HL2.out.2.1.act).2.1
          rw [World.cell?_setCell_other _ _ _ _ (by intro x; have h8 := congrArg Addr.block x; simp only at h8; omega)] at h9
          exact h9
        go_upto_region 23 with fail
        generalize W1.setCell ⟨W6.heap.size + 1, b.toNat, none⟩ (.bool true) = W2 at *
        clear ci fi HRun n9 q1
        have n9 := HL2.out.2.2.1.cells.2.2.2.2.2.2.2.2.2.1
        have f9 := HL2.out.2.2.1.frozen 9
        obtain ⟨X3, hX3⟩ : ∃ X3 : Mx, X3 = { X with gm := W6.heap.size + 1, cm := cap } := ⟨_, rfl⟩
        obtain ⟨C3, hC3⟩ : ∃ C3 : Ch, C3 = { C1 with mark := upd C1.mark b.toNat true } := ⟨_, rfl⟩
        have own7 : MdAt (W2.setCell ⟨N, 9, none⟩ (.slice (some ⟨W6.heap.size + 1, 0, none⟩) C1.B cap)) N X3 C3 := by
          rw [hX3, hC3]
          exact heap_setCell_same W2 N 9 _ 39 _ HL2.out.2.2.1
        have P7 : Put W2 (W2.setCell ⟨N, 9, none⟩ (.slice (some ⟨W6.heap.size + 1, 0, none⟩) C1.B cap)) N (.cells (mdA X3 C3) 39 (0, 0)) := ⟨own7, fun i hi => Below.heap_setCell W2 _ _ i hi, sc_size _ _ _, rfl, rfl, rfl⟩
        have lN2 : N < W2.heap.size := HL2.out.2.2.1.lt
        have hw6 : W6.heap.size ≤ W2.heap.size := HL2.out.1.below.size
        have md7 : Md (W2.setCell ⟨N, 9, none⟩ (.slice (some ⟨W6.heap.size + 1, 0, none⟩) C1.B cap)) (L.own C.B) X3 C3 := by
          have h1 := HL2.out.2.2.2.outOf HC.out.2 (Xn.refl W2 X) (g := N) (k := 9) (by omega) lN2 (.slice (some ⟨W6.heap.size + 1, 0, none⟩) C1.B cap)
          rw [hX3, hC3]
          refine h1.newMark (by rw [sc_size]; exact HL2.out.1.lt) (fun hs => by have := hOw.out _ hs; omega) (fun i hi => ?_)
          rw [World.cell?_setCell_other _ _ _ _ (by intro x; have := congrArg Addr.block x; simp only at this; omega), HL2.out.1.cell i hi]
        have hD7 : Dw w L X C 6 b p f (W2.setCell ⟨N, 9, none⟩ (.slice (some ⟨W6.heap.size + 1, 0, none⟩) C1.B cap)) :=
          ⟨P7.kp HL2.out.2.1.kp (by omega), (P7.other _ (by omega)).trans HL2.out.2.1.own, (P7.other _ (by omega)).trans HL2.out.2.1.act, (P7.other _ (by omega)).trans HL2.out.2.1.res, chip_put P7 HL2.out.2.1.chip (fun x => by have := hOw.out _ x; omega) HL2.out.2.2.1, P7.mdX HL2.out.2.1.md HC.out.2 (Xn.refl W2 X) (by omega) lN2⟩
        have hxn : Xn w3 X X3 := by
          rw [hX3]
          exact ⟨rfl, rfl, rfl, rfl, Or.inl rfl, Or.inl rfl, Or.inl rfl, Or.inr (by show w3.heap.size ≤ W6.heap.size + 1; omega)⟩
        have hB2 : Hid (C3.B = C.B) := by
          rw [hC3]
          exact hCB.out
        have HEC : Hid (markC C b = (C3, 0)) := by
          rw [hC3, HACT.out.2]
          exact markC_none HBN.out.1 HBN.out.2
        go_upto_region 24 with fail
        generalize (W2.setCell ⟨N, 9, none⟩ (.slice (some ⟨W6.heap.size + 1, 0, none⟩) C1.B cap)) = W7 at *
        have HQ : Hid (Dq w N X3 C3 6 b p f W7.drew) := ⟨own7, hD7.act, _, _, _, _, _, _, _, _, _, _, _, _, hD7.res⟩
        have HRES := Hid.mk hD7.drew.res
        have HM6 := Hid.mk (And.intro md7.drew (And.intro hD7.drew hxn))
        clear n9 f9 own7 P7 md7 hD7 hxn hX3 hC3 HL2 hcap hb0 hb1 hw6 lN2
        go_upto_region 24 with fail
        refine wp_region_held_drew (S := fun w' => (w'.cell? ⟨N, 0, none⟩ = some (.int .i64 C3.B) ∧ w'.cell? ⟨N, 1, none⟩ = some (.int .i64 C3.P) ∧ w'.cell? ⟨N, 2, none⟩ = some (.int .i64 C3.Z) ∧ w'.cell? ⟨N, 3, none⟩ = some (.slice X3.ca X3.cl.length X3.cc) ∧ w'.cell? ⟨N, 4, none⟩ = some (.slice X3.fa X3.fl.length X3.fc) ∧ w'.cell? ⟨N, 5, none⟩ = some (.slice X3.ba X3.bn X3.bc) ∧ w'.cell? ⟨N, 6, none⟩ = some (.slice (some ⟨X3.gp, 0, none⟩) (C3.B * C3.P) X3.cp) ∧ w'.cell? ⟨N, 7, none⟩ = some (.slice (some ⟨X3.gw, 0, none⟩) C3.B X3.cw) ∧ w'.cell? ⟨N, 8, none⟩ = some (.slice (some ⟨X3.gd, 0, none⟩) C3.B X3.cd) ∧ w'.cell? ⟨N, 9, none⟩ = some (.slice (some ⟨X3.gm, 0, none⟩) C3.B X3.cm) ∧ w'.cell? ⟨N, 10, none⟩ = some (.int .i64 C3.did) ∧ w'.cell? ⟨N, 11, none⟩ = some (.bool C3.off)) ∧ (w'.cell? ⟨w.heap.size + 1, 0, none⟩ = some (.int .i64 6) ∧ w'.cell? ⟨w.heap.size + 1, 1, none⟩ = some (.int .i64 b) ∧ w'.cell? ⟨w.heap.size + 1, 2, none⟩ = some (.int .i64 p)) ∧ Dq w N X3 C3 6 b p f w') (by kernel_rfl) (dqm_of HQ.out) (fun hHeld => ?_)
        refine wpAnyH_take (i := 0) (oi := { dst := some 150, op := Op.load 39 (Operand.tmp 15), type := 39, pos := "law.go:176", after := #[], guard := none }) (v := ?vv0) rfl (by kernel_rfl) (by kernel_rfl) (by kernel_rfl) (fun _ _ _ h => h) (Or.inl ⟨by rfl, ?yy0⟩) hHeld ?rr0
        case yy0 => (intro w0 hSw; (try dsimp only at hSw); go_simp; try with_reducible rfl)
        try simp only [Act.put, List.setIfInBounds_toArray, List.set_cons_zero, List.set_cons_succ]
        refine wpAnyH_take (i := 1) (oi := { dst := some 151, op := Op.move (Operand.tmp 1), type := 30, pos := "law.go:176", after := #[], guard := none }) (v := ?vv1) rfl (by kernel_rfl) (by kernel_rfl) (by kernel_rfl) (fun _ _ _ h => h) (Or.inl ⟨by rfl, ?yy1⟩) hHeld ?rr1
        case yy1 => (intro w0 hSw; (try dsimp only at hSw); go_simp; try with_reducible rfl)
        try simp only [Act.put, List.setIfInBounds_toArray, List.set_cons_zero, List.set_cons_succ]
        refine wpAnyH_take (i := 2) (oi := { dst := some 152, op := Op.fieldAddr 44 (Operand.tmp 5) 1, type := 0, pos := "law.go:176", after := #[], guard := none }) (v := ?vv2) rfl (by kernel_rfl) (by kernel_rfl) (by kernel_rfl) (fun _ _ _ h => h) (Or.inl ⟨by rfl, ?yy2⟩) hHeld ?rr2
        case yy2 => (intro w0 hSw; (try dsimp only at hSw); go_simp; try with_reducible rfl)
        try simp only [Act.put, List.setIfInBounds_toArray, List.set_cons_zero, List.set_cons_succ]
        refine wpAnyH_take (i := 3) (oi := { dst := some 153, op := Op.load 3 (Operand.tmp 152), type := 3, pos := "law.go:176", after := #[{ on := 2, ground := Ground.data }], guard := none }) (v := ?vv3) rfl (by kernel_rfl) (by kernel_rfl) (by kernel_rfl) (fun _ _ _ h => h) (Or.inl ⟨by rfl, ?yy3⟩) hHeld ?rr3
        case yy3 => (intro w0 hSw; (try dsimp only at hSw); go_simp; try with_reducible rfl)
        try simp only [Act.put, List.setIfInBounds_toArray, List.set_cons_zero, List.set_cons_succ]
        refine wpAnyH_take (i := 6) (oi := { dst := some 156, op := Op.move (Operand.tmp 17), type := 4, pos := "law.go:176", after := #[{ on := 8, ground := Ground.gcOnly Departure.lateStores }], guard := none }) (v := ?vv6) rfl (by kernel_rfl) (by kernel_rfl) (by kernel_rfl) (fun _ _ _ h => h) (Or.inl ⟨by rfl, ?yy6⟩) hHeld ?rr6
        case yy6 => (intro w0 hSw; (try dsimp only at hSw); go_simp; try with_reducible rfl)
        try simp only [Act.put, List.setIfInBounds_toArray, List.set_cons_zero, List.set_cons_succ]
        refine wpAnyH_ready (rs := [4]) (by kernel_rfl) (by simp) ?_
        refine AllReadyH.cons (o := { dst := some 154, op := Op.call { callee := Callee.value (Operand.func 25), args := #[Operand.tmp 151, Operand.tmp 153], argTypes := #[30, 3] }, type := 31, pos := "law.go:176", after := #[{ on := 1, ground := Ground.data }, { on := 3, ground := Ground.data }], guard := none }) rfl (fun K9 hK9 => ?_) AllReadyH.nil
        go_simp
        go_wp2_with (go_at_call 25; refine (mark_any HM6.out.2.1.chip b (by omega)).mono ?_; rintro x w5 ⟨rfl, ch5, k5⟩; rw [HEC.out] at ch5 ⊢)
        refine hK9.out _ _ (dqm_keep hHeld.2.2 k5 hOw.out (by omega)) (fun hHeld => ?_)
        clear hK9 K9
        try simp only [Act.put, List.setIfInBounds_toArray, List.set_cons_zero, List.set_cons_succ]
        refine wpAnyH_take (i := 5) (oi := { dst := some 155, op := Op.binOp BinOp.eql 31 (Operand.tmp 154) (Operand.const (Value.int IntKind.i64 51)) 31, type := 4, pos := "law.go:176", after := #[{ on := 4, ground := Ground.data }, { on := 8, ground := Ground.gcOnly Departure.lateStores }], guard := none }) (v := ?vv5) rfl (by kernel_rfl) (by kernel_rfl) (by kernel_rfl) (fun _ _ _ h => h) (Or.inl ⟨by rfl, ?yy5⟩) hHeld ?rr5
        case yy5 => (intro w0 hSw; (try dsimp only at hSw); go_simp; try with_reducible rfl)
        try simp only [Act.put, List.setIfInBounds_toArray, List.set_cons_zero, List.set_cons_succ]
        refine wpAnyH_take (i := 7) (oi := { dst := some 157, op := Op.binOp BinOp.eql 4 (Operand.tmp 155) (Operand.tmp 156) 4, type := 4, pos := "law.go:176", after := #[{ on := 5, ground := Ground.data }, { on := 6, ground := Ground.data }, { on := 8, ground := Ground.gcOnly Departure.lateStores }], guard := none }) (v := ?vv7) rfl (by kernel_rfl) (by kernel_rfl) (by kernel_rfl) (fun _ _ _ h => h) (Or.inl ⟨by rfl, ?yy7⟩) hHeld ?rr7
        case yy7 => (intro w0 hSw; (try dsimp only at hSw); go_simp; try with_reducible rfl)
        try simp only [Act.put, List.setIfInBounds_toArray, List.set_cons_zero, List.set_cons_succ]
        have hres5 := (k5.block _ (Array.getElem?_eq_some_iff.1 HRES.out).1 (fun x => by have := hOw.out _ x; omega)).trans HRES.out
        obtain ⟨s0, s1, s2, s3, s4, s5, s6, s7, s8, s9, s10, s11, sf⟩ := z39_cells hres5
        have HRES5 := Hid.mk hres5
        clear hres5
        refine wpAnyH_ready (rs := [8]) (by kernel_rfl) (by simp) ?_
        refine AllReadyH.cons (o := { dst := none, op := Op.store 39 (Operand.tmp 6) (Operand.tmp 150), type := 0, pos := "law.go:176", after := #[{ on := 0, ground := Ground.data }, { on := 4, ground := Ground.chain }, { on := 0, ground := Ground.phase }, { on := 1, ground := Ground.textOnly Departure.lateStores }, { on := 2, ground := Ground.textOnly Departure.lateStores }, { on := 3, ground := Ground.textOnly Departure.lateStores }, { on := 4, ground := Ground.textOnly Departure.lateStoresUnsure }, { on := 5, ground := Ground.textOnly Departure.lateStores }, { on := 6, ground := Ground.textOnly Departure.lateStores }, { on := 7, ground := Ground.textOnly Departure.lateStores }], guard := none }) rfl (fun K9 hK9 => ?_) AllReadyH.nil
        go_simp
        refine hK9.out _ _ (dqm_store (by omega) _ _ _ _ _ _ _ _ _ _ _ _ hHeld.2.2) (fun hHeld => ?_)
        clear hK9 K9
        try simp only [Act.put, List.setIfInBounds_toArray, List.set_cons_zero, List.set_cons_succ]
        refine wpAnyH_take (i := 9) (oi := { dst := some 7, op := Op.assign (Operand.tmp 157), type := 4, pos := "law.go:176", after := #[{ on := 7, ground := Ground.data }, { on := 8, ground := Ground.chain }, { on := 0, ground := Ground.phase }, { on := 1, ground := Ground.phase }, { on := 2, ground := Ground.phase }, { on := 3, ground := Ground.phase }, { on := 4, ground := Ground.phase }, { on := 5, ground := Ground.phase }, { on := 6, ground := Ground.phase }, { on := 7, ground := Ground.phase }, { on := 8, ground := Ground.phase }], guard := none }) (v := ?vv9) rfl (by kernel_rfl) (by kernel_rfl) (by kernel_rfl) (fun _ _ _ h => h) (Or.inl ⟨by rfl, ?yy9⟩) hHeld ?rr9
        case yy9 => (intro w0 hSw; (try dsimp only at hSw); go_simp; try with_reducible rfl)
        try simp only [Act.put, List.setIfInBounds_toArray, List.set_cons_zero, List.set_cons_succ]
        refine wpAnyH_done (by kernel_rfl) ?_ _
        clear hHeld
        have eW : ((((((((((((w5.setCell ⟨w.heap.size + 1 + 1, 0, none⟩ (.int .i64 C3.B)).setCell ⟨w.heap.size + 1 + 1, 1, none⟩ (.int .i64 C3.P)).setCell ⟨w.heap.size + 1 + 1, 2, none⟩ (.int .i64 C3.Z)).setCell ⟨w.heap.size + 1 + 1, 3, none⟩ (.slice X3.ca X3.cl.length X3.cc)).setCell ⟨w.heap.size + 1 + 1, 4, none⟩ (.slice X3.fa X3.fl.length X3.fc)).setCell ⟨w.heap.size + 1 + 1, 5, none⟩ (.slice X3.ba X3.bn X3.bc)).setCell ⟨w.heap.size + 1 + 1, 6, none⟩ (.slice (some ⟨X3.gp, 0, none⟩) (C3.B * C3.P) X3.cp)).setCell ⟨w.heap.size + 1 + 1, 7, none⟩ (.slice (some ⟨X3.gw, 0, none⟩) C3.B X3.cw)).setCell ⟨w.heap.size + 1 + 1, 8, none⟩ (.slice (some ⟨X3.gd, 0, none⟩) C3.B X3.cd)).setCell ⟨w.heap.size + 1 + 1, 9, none⟩ (.slice (some ⟨X3.gm, 0, none⟩) C3.B X3.cm)).setCell ⟨w.heap.size + 1 + 1, 10, none⟩ (.int .i64 C3.did)).setCell ⟨w.heap.size + 1 + 1, 11, none⟩ (.bool C3.off)) = setMd w5 (w.heap.size + 1 + 1) X3 C3 := rfl
        rw [eW]
        clear eW s0 s1 s2 s3 s4 s5 s6 s7 s8 s9 s10 s11 sf
        have hF := done_of HC.out.1 HC.out.2 HRES5.out ((HM6.out.2.1.kp).trans k5) ch5 hB2.out (HM6.out.1.kept k5) HM6.out.2.2 lT
        generalize setMd w5 (w.heap.size + 1 + 1) X3 C3 = W9 at *
        have HF := Hid.mk hF
        clear hF
        go_wp2_with fail
        exact bodyPost_ret (results_mt rfl rfl HF.out.1 rfl) rfl (by rw [HEC.out]; exact ⟨X3, rfl, HF.out.2.1, HF.out.2.2.1, HF.out.2.2.2⟩)
end Go.Proofs.Ytkfkepjegdaadaa
