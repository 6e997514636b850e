/-
  The law's do, some of its ways. No condition.
-/
import Derived.Test.YtkfkepjegdaadaaMd4
namespace Go.Proofs.Ytkfkepjegdaadaa
open Go Go.RowKit


set_option maxRecDepth 100000 in
set_option maxHeartbeats 4000000 in
theorem do_p {w : World} {L X C} (hc : Chip w L C) (hm : Md w (L.own C.B) X C) (b p f : Int) (hf : 0 ≤ f ∧ f < 256)  :
    Calls Try.prog 13 #[.agg (mdA X C), .pointer (some ⟨L.a, 0, none⟩), .agg #[.int .i64 7, .int .i64 b, .int .i64 p, .int .u8 f]] w fun e w' => ∃ X', e = .returned (.tuple #[.agg (mdA X' ({ C with off := false })), .bool true]) ∧ Chip w' L ({ C with off := false }) ∧ Md w' (L.own C.B) X' ({ C with off := false }) ∧ Kp (L.own C.B) w w' ∧ Xf X X' := by
  have hD := Dw.start 7 b p f hc hm
  have hgeo := hm.geo
  have HC := Hid.mk (And.intro hc hm)
  obtain ⟨f1, hf1⟩ : ∃ f1 : Int, f1 = (f + 1) % 256 := ⟨_, rfl⟩
  have hf1b : 0 ≤ f1 ∧ f1 < 256 := by omega
  have hf2 : IntKind.u8.wrap (f + 1) = f1 := by rw [hf1]; simp [IntKind.wrap, IntKind.bits, IntKind.signed]
  obtain ⟨D, hDd⟩ : ∃ D, D = rep C.Z (u8 f) := ⟨_, rfl⟩
  obtain ⟨E, hE⟩ : ∃ E, E = rep 32 (u8 f1) := ⟨_, rfl⟩
  have eD : rep ((C.Z : Int).toNat) (u8 f) = D := by rw [hDd, Int.toNat_natCast]
  have eE : rep ((32 : Int).toNat) (u8 f1) = E := by rw [hE]; rfl
  have HX := Hid.mk (And.intro hDd (And.intro hE hf1))
  clear hDd hE
  go_enter Try.func13, Try.ntmps13
  go_upto_region 1 with fail
  generalize ((w.alloc (.cells (mdA X C) 39)).alloc (.cells #[.int .i64 7, .int .i64 b, .int .i64 p, .int .u8 f] 44)).alloc (.cells #[.int .i64 0, .int .i64 0, .int .i64 0, .slice none 0 0, .slice none 0 0, .slice none 0 0, .slice none 0 0, .slice none 0 0, .slice none 0 0, .slice none 0 0, .int .i64 0, .bool false] 39) = W0 at *
  obtain ⟨p0, p1, p2, p3, p4, p5, p6, p7, p8, p9, p10, p11⟩ := hD.own.cells
  obtain ⟨q0, q1, q2, q3⟩ := act_cells hD.act
  have HD := Hid.mk hD
  clear hD hc hm hf1
  go_cut [8] from 27 to 37 (fun v wx => v = .bool (blkB C b) ∧ W0 = wx)
  case first =>
    by_cases h1 : 0 ≤ b
    · by_cases h2 : b < C.B
      · go_wp2_with fail
        go_meet
        exact ⟨by rw [blkB_true h1 h2], rfl⟩
      · go_wp2_with fail
        go_meet
        exact ⟨by rw [blkB_false2 (by omega)], rfl⟩
    · go_wp2_with fail
      go_meet
      exact ⟨by rw [blkB_false1 (by omega)], rfl⟩
  case rest =>
    obtain ⟨rfl, rfl⟩ := hcut
    obtain ⟨BB, hBB⟩ : ∃ BB, blkB C b = BB := ⟨_, rfl⟩
    rw [hBB]
    have HBB := Hid.mk hBB
    clear hBB
    go_upto_region 2 with fail
    go_cut [9] from 38 to 51 (fun v wx => v = .bool (pgB C b p) ∧ W0 = wx)
    case first =>
      cases BB with
      | false =>
        go_wp2_with fail
        go_meet
        refine ⟨?_, rfl⟩
        cases hP : pgB C b p with
        | false => rfl
        | true =>
          have h1 := pgB_iff.1 hP
          have hB := HBB.out
          rw [blkB_iff.2 h1.1] at hB
          cases hB
      | true =>
        have hb2 := Hid.mk (blkB_iff.1 HBB.out)
        by_cases h1 : 0 ≤ p
        · by_cases h2 : p < C.P
          · go_wp2_with fail
            go_meet
            exact ⟨by rw [pgB_iff.2 ⟨hb2.out, h1, h2⟩], rfl⟩
          · go_wp2_with fail
            go_meet
            refine ⟨?_, rfl⟩
            cases hP : pgB C b p with
            | false => rfl
            | true => exact absurd (pgB_iff.1 hP).2.2 (by omega)
        · go_wp2_with fail
          go_meet
          refine ⟨?_, rfl⟩
          cases hP : pgB C b p with
          | false => rfl
          | true => exact absurd (pgB_iff.1 hP).2.1 (by omega)
    case rest =>
      obtain ⟨rfl, rfl⟩ := hcut
      obtain ⟨PP, hPP⟩ : ∃ PP, pgB C b p = PP := ⟨_, rfl⟩
      rw [hPP]
      have HPP := Hid.mk hPP
      clear hPP
      go_upto_region 3 with fail
      have hS1 := Hid.mk (dw_of HD.out.drew)
      go_region_held3 (fun w' => w'.cell? ⟨w.heap.size, 2, none⟩ = some (.int .i64 C.Z) ∧ w'.cell? ⟨w.heap.size + 1, 3, none⟩ = some (.int .u8 f) ∧ Dw w L X C 7 b p f w') (first | assumption | exact hS1.out | exact dw_keep (by assumption) (by assumption) | fail)
        (first | (go_at_call 18; refine (textI _ (by omega) (by omega) _ (by first | exact hf | exact hf1b) _).mono ?_; rintro x w3 ⟨rfl, b3⟩; (first | rw [eD] | rw [eE])))
      have hD3 : Dw w L X C 7 b p f w3 := (by assumption : _ ∧ _ ∧ Dw w L X C 7 b p f w3).2.2
      clear p0 p1 p2 p3 p4 p5 p6 p7 p8 p9 p10 p11 q0 q1 q2 q3 hS1 HD eD eE hf2
      obtain ⟨p0, p1, p2, p3, p4, p5, p6, p7, p8, p9, p10, p11⟩ := hD3.own.cells
      obtain ⟨q0, q1, q2, q3⟩ := act_cells hD3.act
      have HD := Hid.mk hD3
      clear hD3
      obtain ⟨R, hR⟩ : ∃ R, refP C b p = R := ⟨_, rfl⟩
      obtain ⟨OO, hOO⟩ : ∃ OO, C.off = OO := ⟨_, rfl⟩
      rw [hOO] at p11
      have HOO := Hid.mk hOO
      have HR := Hid.mk hR
      clear hOO hR
      go_upto_block 0 with fail
      go_cut [12] from 62 to 86 (fun v wx => v = .int .i64 R ∧ w3 = wx)
      case first =>
        cases OO with
        | true =>
          go_wp2_with fail
          go_meet
          exact ⟨by rw [← HR.out, refP_off HOO.out], rfl⟩
        | false =>
          cases BB with
          | false =>
            go_wp2_with fail
            go_meet
            exact ⟨by rw [← HR.out, refP_no HOO.out HBB.out], rfl⟩
          | true =>
            cases PP with
            | false =>
              go_wp2_with fail
              go_meet
              exact ⟨by rw [← HR.out, refP_no2 HOO.out HBB.out HPP.out], rfl⟩
            | true =>
              go_wp2_with fail
              go_meet
              exact ⟨by rw [← HR.out, refP_yes HOO.out HBB.out HPP.out], rfl⟩
      case rest =>
        obtain ⟨rfl, rfl⟩ := hcut
        rw [← HOO.out] at p11
        have hOw : Hid (∀ i, L.own C.B i → i < w.heap.size) := fun i hi => HC.out.1.lt hi
        obtain ⟨C2, hC2⟩ : ∃ C2 : Ch, C2 = { C with off := false } := ⟨_, rfl⟩
        have HC2 := Hid.mk hC2
        have hB2 : Hid (C2.B = C.B) := by rw [hC2]; exact rfl
        clear hC2
        go_upto_region 27 with (go_at_call 23; refine (power_any HD.out.chip).mono ?_; rintro x w5 ⟨rfl, ch5, k5⟩; rw [← HC2.out] at ch5)
        have own5 := HD.out.own.kept k5 (fun x => by have := hOw.out _ x; omega)
        have res5 := (k5.block _ (Array.getElem?_eq_some_iff.1 HD.out.res).1 (fun x => by have := hOw.out _ x; omega)).trans HD.out.res
        clear p0 p1 p2 p3 p4 p5 p6 p7 p8 p9 p10 p11 q0 q1 q2 q3
        have p11 := own5.cells.2.2.2.2.2.2.2.2.2.2.2
        have f11 := own5.frozen 11
        have own6 : MdAt (w5.setCell ⟨w.heap.size, 11, none⟩ (.bool false)) w.heap.size X C2 := by
          rw [HC2.out]
          exact heap_setCell_same w5 w.heap.size 11 _ 39 (.bool false) own5
        have P6 : Put w5 (w5.setCell ⟨w.heap.size, 11, none⟩ (.bool false)) w.heap.size (.cells (mdA X C2) 39 (0, 0)) := ⟨own6, fun i hi => Below.heap_setCell w5 _ _ i hi, sc_size _ _ _, rfl, rfl, rfl⟩
        have ch6 := chip_put P6 ch5 (fun x => by rw [hB2.out] at x; have := hOw.out _ x; omega) own5
        have md5 : Md w5 (L.own C.B) X C2 := by
          rw [HC2.out]
          exact (HD.out.md.kept k5).off1 false
        have md6 := P6.mdX md5 HC.out.2 (Xn.refl w5 X) (Nat.le_refl _) own5.lt
        have res6 := (P6.other (w.heap.size + 1 + 1) (by omega)).trans res5
        have kp6 := P6.kp (HD.out.kp.trans k5) (Nat.le_refl _)
        go_upto_region 28 with fail
        generalize (w5.setCell ⟨w.heap.size, 11, none⟩ (.bool false)) = W6 at *
        have H6 := Hid.mk (And.intro ch6 (And.intro md6 kp6))
        clear p11 f11 P6 ch6 md5 md6 kp6 own5 res5 ch5
        obtain ⟨p0, p1, p2, p3, p4, p5, p6, p7, p8, p9, p10, p11⟩ := own6.cells
        obtain ⟨s0, s1, s2, s3, s4, s5, s6, s7, s8, s9, s10, s11, sf⟩ := z39_cells res6
        have HRES5 := Hid.mk res6
        clear own6 res6
        go_wp2_with fail
        have eW : ((((((((((((W6.setCell ⟨w.heap.size + 1 + 1, 0, none⟩ (.int .i64 C2.B)).setCell ⟨w.heap.size + 1 + 1, 1, none⟩ (.int .i64 C2.P)).setCell ⟨w.heap.size + 1 + 1, 2, none⟩ (.int .i64 C2.Z)).setCell ⟨w.heap.size + 1 + 1, 3, none⟩ (.slice X.ca X.cl.length X.cc)).setCell ⟨w.heap.size + 1 + 1, 4, none⟩ (.slice X.fa X.fl.length X.fc)).setCell ⟨w.heap.size + 1 + 1, 5, none⟩ (.slice X.ba X.bn X.bc)).setCell ⟨w.heap.size + 1 + 1, 6, none⟩ (.slice (some ⟨X.gp, 0, none⟩) (C2.B * C2.P) X.cp)).setCell ⟨w.heap.size + 1 + 1, 7, none⟩ (.slice (some ⟨X.gw, 0, none⟩) C2.B X.cw)).setCell ⟨w.heap.size + 1 + 1, 8, none⟩ (.slice (some ⟨X.gd, 0, none⟩) C2.B X.cd)).setCell ⟨w.heap.size + 1 + 1, 9, none⟩ (.slice (some ⟨X.gm, 0, none⟩) C2.B X.cm)).setCell ⟨w.heap.size + 1 + 1, 10, none⟩ (.int .i64 C2.did)).setCell ⟨w.heap.size + 1 + 1, 11, none⟩ (.bool C2.off)) = setMd W6 (w.heap.size + 1 + 1) X C2 := rfl
        rw [eW]
        clear eW s0 s1 s2 s3 s4 s5 s6 s7 s8 s9 s10 s11 sf p0 p1 p2 p3 p4 p5 p6 p7 p8 p9 p10 p11
        have hF := done_of HC.out.1 HC.out.2 HRES5.out (H6.out.2.2) (H6.out.1) hB2.out (H6.out.2.1) (Xn.refl W6 X) (Array.getElem?_eq_some_iff.1 HRES5.out).1
        generalize setMd W6 (w.heap.size + 1 + 1) X C2 = W9 at *
        exact bodyPost_ret (results_mt rfl rfl hF.1 rfl) rfl (by rw [← HC2.out]; exact ⟨X, rfl, hF.2.1, hF.2.2.1, hF.2.2.2⟩)


set_option maxRecDepth 100000 in
set_option maxHeartbeats 4000000 in
theorem do_r0 {w : World} {L X C} (hc : Chip w L C) (hm : Md w (L.own C.B) X C) (b p f : Int) (hf : 0 ≤ f ∧ f < 256) (hr : ¬ refP C b p = 0) :
    Calls Try.prog 13 #[.agg (mdA X C), .pointer (some ⟨L.a, 0, none⟩), .agg #[.int .i64 8, .int .i64 b, .int .i64 p, .int .u8 f]] w fun e w' => ∃ X', e = .returned (.tuple #[.agg (mdA X' (C)), .bool true]) ∧ Chip w' L (C) ∧ Md w' (L.own C.B) X' (C) ∧ Kp (L.own C.B) w w' ∧ Xf X X' := by
  have hD := Dw.start 8 b p f hc hm
  have hgeo := hm.geo
  have HC := Hid.mk (And.intro hc hm)
  obtain ⟨f1, hf1⟩ : ∃ f1 : Int, f1 = (f + 1) % 256 := ⟨_, rfl⟩
  have hf1b : 0 ≤ f1 ∧ f1 < 256 := by omega
  have hf2 : IntKind.u8.wrap (f + 1) = f1 := by rw [hf1]; simp [IntKind.wrap, IntKind.bits, IntKind.signed]
  obtain ⟨D, hDd⟩ : ∃ D, D = rep C.Z (u8 f) := ⟨_, rfl⟩
  obtain ⟨E, hE⟩ : ∃ E, E = rep 32 (u8 f1) := ⟨_, rfl⟩
  have eD : rep ((C.Z : Int).toNat) (u8 f) = D := by rw [hDd, Int.toNat_natCast]
  have eE : rep ((32 : Int).toNat) (u8 f1) = E := by rw [hE]; rfl
  have HX := Hid.mk (And.intro hDd (And.intro hE hf1))
  clear hDd hE
  go_enter Try.func13, Try.ntmps13
  go_upto_region 1 with fail
  generalize ((w.alloc (.cells (mdA X C) 39)).alloc (.cells #[.int .i64 8, .int .i64 b, .int .i64 p, .int .u8 f] 44)).alloc (.cells #[.int .i64 0, .int .i64 0, .int .i64 0, .slice none 0 0, .slice none 0 0, .slice none 0 0, .slice none 0 0, .slice none 0 0, .slice none 0 0, .slice none 0 0, .int .i64 0, .bool false] 39) = W0 at *
  obtain ⟨p0, p1, p2, p3, p4, p5, p6, p7, p8, p9, p10, p11⟩ := hD.own.cells
  obtain ⟨q0, q1, q2, q3⟩ := act_cells hD.act
  have HD := Hid.mk hD
  clear hD hc hm hf1
  go_cut [8] from 27 to 37 (fun v wx => v = .bool (blkB C b) ∧ W0 = wx)
  case first =>
    by_cases h1 : 0 ≤ b
    · by_cases h2 : b < C.B
      · go_wp2_with fail
        go_meet
        exact ⟨by rw [blkB_true h1 h2], rfl⟩
      · go_wp2_with fail
        go_meet
        exact ⟨by rw [blkB_false2 (by omega)], rfl⟩
    · go_wp2_with fail
      go_meet
      exact ⟨by rw [blkB_false1 (by omega)], rfl⟩
  case rest =>
    obtain ⟨rfl, rfl⟩ := hcut
    obtain ⟨BB, hBB⟩ : ∃ BB, blkB C b = BB := ⟨_, rfl⟩
    rw [hBB]
    have HBB := Hid.mk hBB
    clear hBB
    go_upto_region 2 with fail
    go_cut [9] from 38 to 51 (fun v wx => v = .bool (pgB C b p) ∧ W0 = wx)
    case first =>
      cases BB with
      | false =>
        go_wp2_with fail
        go_meet
        refine ⟨?_, rfl⟩
        cases hP : pgB C b p with
        | false => rfl
        | true =>
          have h1 := pgB_iff.1 hP
          have hB := HBB.out
          rw [blkB_iff.2 h1.1] at hB
          cases hB
      | true =>
        have hb2 := Hid.mk (blkB_iff.1 HBB.out)
        by_cases h1 : 0 ≤ p
        · by_cases h2 : p < C.P
          · go_wp2_with fail
            go_meet
            exact ⟨by rw [pgB_iff.2 ⟨hb2.out, h1, h2⟩], rfl⟩
          · go_wp2_with fail
            go_meet
            refine ⟨?_, rfl⟩
            cases hP : pgB C b p with
            | false => rfl
            | true => exact absurd (pgB_iff.1 hP).2.2 (by omega)
        · go_wp2_with fail
          go_meet
          refine ⟨?_, rfl⟩
          cases hP : pgB C b p with
          | false => rfl
          | true => exact absurd (pgB_iff.1 hP).2.1 (by omega)
    case rest =>
      obtain ⟨rfl, rfl⟩ := hcut
      obtain ⟨PP, hPP⟩ : ∃ PP, pgB C b p = PP := ⟨_, rfl⟩
      rw [hPP]
      have HPP := Hid.mk hPP
      clear hPP
      go_upto_region 3 with fail
      have hS1 := Hid.mk (dw_of HD.out.drew)
      go_region_held3 (fun w' => w'.cell? ⟨w.heap.size, 2, none⟩ = some (.int .i64 C.Z) ∧ w'.cell? ⟨w.heap.size + 1, 3, none⟩ = some (.int .u8 f) ∧ Dw w L X C 8 b p f w') (first | assumption | exact hS1.out | exact dw_keep (by assumption) (by assumption) | fail)
        (first | (go_at_call 18; refine (textI _ (by omega) (by omega) _ (by first | exact hf | exact hf1b) _).mono ?_; rintro x w3 ⟨rfl, b3⟩; (first | rw [eD] | rw [eE])))
      have hD3 : Dw w L X C 8 b p f w3 := (by assumption : _ ∧ _ ∧ Dw w L X C 8 b p f w3).2.2
      clear p0 p1 p2 p3 p4 p5 p6 p7 p8 p9 p10 p11 q0 q1 q2 q3 hS1 HD eD eE hf2
      obtain ⟨p0, p1, p2, p3, p4, p5, p6, p7, p8, p9, p10, p11⟩ := hD3.own.cells
      obtain ⟨q0, q1, q2, q3⟩ := act_cells hD3.act
      have HD := Hid.mk hD3
      clear hD3
      obtain ⟨R, hR⟩ : ∃ R, refP C b p = R := ⟨_, rfl⟩
      obtain ⟨OO, hOO⟩ : ∃ OO, C.off = OO := ⟨_, rfl⟩
      rw [hOO] at p11
      have HOO := Hid.mk hOO
      have HR := Hid.mk hR
      clear hOO hR
      go_upto_block 0 with fail
      go_cut [12] from 62 to 86 (fun v wx => v = .int .i64 R ∧ w3 = wx)
      case first =>
        cases OO with
        | true =>
          go_wp2_with fail
          go_meet
          exact ⟨by rw [← HR.out, refP_off HOO.out], rfl⟩
        | false =>
          cases BB with
          | false =>
            go_wp2_with fail
            go_meet
            exact ⟨by rw [← HR.out, refP_no HOO.out HBB.out], rfl⟩
          | true =>
            cases PP with
            | false =>
              go_wp2_with fail
              go_meet
              exact ⟨by rw [← HR.out, refP_no2 HOO.out HBB.out HPP.out], rfl⟩
            | true =>
              go_wp2_with fail
              go_meet
              exact ⟨by rw [← HR.out, refP_yes HOO.out HBB.out HPP.out], rfl⟩
      case rest =>
        obtain ⟨rfl, rfl⟩ := hcut
        rw [← HOO.out] at p11
        have hOw : Hid (∀ i, L.own C.B i → i < w.heap.size) := fun i hi => HC.out.1.lt hi
        have hR0 : ¬ R = 0 := by rw [← HR.out]; exact hr
        have eC : rdV C b p = .tuple #[.string ⟨#[]⟩, .string ⟨#[]⟩, .int .i64 R] := by unfold rdV; rw [if_neg hr, HR.out]
        have HEC := Hid.mk eC
        clear eC hr
        go_upto_region 31 with (go_at_call 20; refine (read_any HD.out.chip b p).mono ?_; rintro x w5 ⟨rfl, b5⟩; rw [HEC.out])
        have k5 : Kp (L.own C.B) w3 w5 := Kp.ofBelow b5
        have own5 := HD.out.own.kept k5 (fun x => by have := hOw.out _ x; omega)
        have res5 := (k5.block _ (Array.getElem?_eq_some_iff.1 HD.out.res).1 (fun x => by have := hOw.out _ x; omega)).trans HD.out.res
        clear p0 p1 p2 p3 p4 p5 p6 p7 p8 p9 p10 p11 q0 q1 q2 q3
        obtain ⟨p0, p1, p2, p3, p4, p5, p6, p7, p8, p9, p10, p11⟩ := own5.cells
        obtain ⟨s0, s1, s2, s3, s4, s5, s6, s7, s8, s9, s10, s11, sf⟩ := z39_cells res5
        have HRES5 := Hid.mk res5
        clear own5 res5
        go_wp2_with fail
        have eW : ((((((((((((w5.setCell ⟨w.heap.size + 1 + 1, 0, none⟩ (.int .i64 C.B)).setCell ⟨w.heap.size + 1 + 1, 1, none⟩ (.int .i64 C.P)).setCell ⟨w.heap.size + 1 + 1, 2, none⟩ (.int .i64 C.Z)).setCell ⟨w.heap.size + 1 + 1, 3, none⟩ (.slice X.ca X.cl.length X.cc)).setCell ⟨w.heap.size + 1 + 1, 4, none⟩ (.slice X.fa X.fl.length X.fc)).setCell ⟨w.heap.size + 1 + 1, 5, none⟩ (.slice X.ba X.bn X.bc)).setCell ⟨w.heap.size + 1 + 1, 6, none⟩ (.slice (some ⟨X.gp, 0, none⟩) (C.B * C.P) X.cp)).setCell ⟨w.heap.size + 1 + 1, 7, none⟩ (.slice (some ⟨X.gw, 0, none⟩) C.B X.cw)).setCell ⟨w.heap.size + 1 + 1, 8, none⟩ (.slice (some ⟨X.gd, 0, none⟩) C.B X.cd)).setCell ⟨w.heap.size + 1 + 1, 9, none⟩ (.slice (some ⟨X.gm, 0, none⟩) C.B X.cm)).setCell ⟨w.heap.size + 1 + 1, 10, none⟩ (.int .i64 C.did)).setCell ⟨w.heap.size + 1 + 1, 11, none⟩ (.bool C.off)) = setMd w5 (w.heap.size + 1 + 1) X C := rfl
        rw [eW]
        clear eW s0 s1 s2 s3 s4 s5 s6 s7 s8 s9 s10 s11 sf p0 p1 p2 p3 p4 p5 p6 p7 p8 p9 p10 p11
        have hF := done_of HC.out.1 HC.out.2 HRES5.out (HD.out.kp.trans k5) (HD.out.chip.call b5) rfl (HD.out.md.kept k5) (Xn.refl w5 X) (Array.getElem?_eq_some_iff.1 HRES5.out).1
        generalize setMd w5 (w.heap.size + 1 + 1) X C = W9 at *
        exact bodyPost_ret (results_mt rfl rfl hF.1 rfl) rfl ⟨X, rfl, hF.2.1, hF.2.2.1, hF.2.2.2⟩


set_option maxRecDepth 100000 in
set_option maxHeartbeats 4000000 in
theorem do_m0 {w : World} {L X C} (hc : Chip w L C) (hm : Md w (L.own C.B) X C) (b p f : Int) (hf : 0 ≤ f ∧ f < 256) (hr : ¬ refB C b = 0) (hd : C.did < 999) :
    Calls Try.prog 13 #[.agg (mdA X C), .pointer (some ⟨L.a, 0, none⟩), .agg #[.int .i64 6, .int .i64 b, .int .i64 p, .int .u8 f]] w fun e w' => ∃ X', e = .returned (.tuple #[.agg (mdA X' (C)), .bool true]) ∧ Chip w' L (C) ∧ Md w' (L.own C.B) X' (C) ∧ Kp (L.own C.B) w w' ∧ Xf X X' := by
  have hD := Dw.start 6 b p f hc hm
  have hgeo := hm.geo
  have HC := Hid.mk (And.intro hc hm)
  obtain ⟨f1, hf1⟩ : ∃ f1 : Int, f1 = (f + 1) % 256 := ⟨_, rfl⟩
  have hf1b : 0 ≤ f1 ∧ f1 < 256 := by omega
  have hf2 : IntKind.u8.wrap (f + 1) = f1 := by rw [hf1]; simp [IntKind.wrap, IntKind.bits, IntKind.signed]
  obtain ⟨D, hDd⟩ : ∃ D, D = rep C.Z (u8 f) := ⟨_, rfl⟩
  obtain ⟨E, hE⟩ : ∃ E, E = rep 32 (u8 f1) := ⟨_, rfl⟩
  have eD : rep ((C.Z : Int).toNat) (u8 f) = D := by rw [hDd, Int.toNat_natCast]
  have eE : rep ((32 : Int).toNat) (u8 f1) = E := by rw [hE]; rfl
  have HX := Hid.mk (And.intro hDd (And.intro hE hf1))
  clear hDd hE
  go_enter Try.func13, Try.ntmps13
  go_upto_region 1 with fail
  generalize ((w.alloc (.cells (mdA X C) 39)).alloc (.cells #[.int .i64 6, .int .i64 b, .int .i64 p, .int .u8 f] 44)).alloc (.cells #[.int .i64 0, .int .i64 0, .int .i64 0, .slice none 0 0, .slice none 0 0, .slice none 0 0, .slice none 0 0, .slice none 0 0, .slice none 0 0, .slice none 0 0, .int .i64 0, .bool false] 39) = W0 at *
  obtain ⟨p0, p1, p2, p3, p4, p5, p6, p7, p8, p9, p10, p11⟩ := hD.own.cells
  obtain ⟨q0, q1, q2, q3⟩ := act_cells hD.act
  have HD := Hid.mk hD
  clear hD hc hm hf1
  go_cut [8] from 27 to 37 (fun v wx => v = .bool (blkB C b) ∧ W0 = wx)
  case first =>
    by_cases h1 : 0 ≤ b
    · by_cases h2 : b < C.B
      · go_wp2_with fail
        go_meet
        exact ⟨by rw [blkB_true h1 h2], rfl⟩
      · go_wp2_with fail
        go_meet
        exact ⟨by rw [blkB_false2 (by omega)], rfl⟩
    · go_wp2_with fail
      go_meet
      exact ⟨by rw [blkB_false1 (by omega)], rfl⟩
  case rest =>
    obtain ⟨rfl, rfl⟩ := hcut
    obtain ⟨BB, hBB⟩ : ∃ BB, blkB C b = BB := ⟨_, rfl⟩
    rw [hBB]
    have HBB := Hid.mk hBB
    clear hBB
    go_upto_region 2 with fail
    go_cut [9] from 38 to 51 (fun v wx => v = .bool (pgB C b p) ∧ W0 = wx)
    case first =>
      cases BB with
      | false =>
        go_wp2_with fail
        go_meet
        refine ⟨?_, rfl⟩
        cases hP : pgB C b p with
        | false => rfl
        | true =>
          have h1 := pgB_iff.1 hP
          have hB := HBB.out
          rw [blkB_iff.2 h1.1] at hB
          cases hB
      | true =>
        have hb2 := Hid.mk (blkB_iff.1 HBB.out)
        by_cases h1 : 0 ≤ p
        · by_cases h2 : p < C.P
          · go_wp2_with fail
            go_meet
            exact ⟨by rw [pgB_iff.2 ⟨hb2.out, h1, h2⟩], rfl⟩
          · go_wp2_with fail
            go_meet
            refine ⟨?_, rfl⟩
            cases hP : pgB C b p with
            | false => rfl
            | true => exact absurd (pgB_iff.1 hP).2.2 (by omega)
        · go_wp2_with fail
          go_meet
          refine ⟨?_, rfl⟩
          cases hP : pgB C b p with
          | false => rfl
          | true => exact absurd (pgB_iff.1 hP).2.1 (by omega)
    case rest =>
      obtain ⟨rfl, rfl⟩ := hcut
      obtain ⟨PP, hPP⟩ : ∃ PP, pgB C b p = PP := ⟨_, rfl⟩
      rw [hPP]
      have HPP := Hid.mk hPP
      clear hPP
      go_upto_region 3 with fail
      have hS1 := Hid.mk (dw_of HD.out.drew)
      go_region_held3 (fun w' => w'.cell? ⟨w.heap.size, 2, none⟩ = some (.int .i64 C.Z) ∧ w'.cell? ⟨w.heap.size + 1, 3, none⟩ = some (.int .u8 f) ∧ Dw w L X C 6 b p f w') (first | assumption | exact hS1.out | exact dw_keep (by assumption) (by assumption) | fail)
        (first | (go_at_call 18; refine (textI _ (by omega) (by omega) _ (by first | exact hf | exact hf1b) _).mono ?_; rintro x w3 ⟨rfl, b3⟩; (first | rw [eD] | rw [eE])))
      have hD3 : Dw w L X C 6 b p f w3 := (by assumption : _ ∧ _ ∧ Dw w L X C 6 b p f w3).2.2
      clear p0 p1 p2 p3 p4 p5 p6 p7 p8 p9 p10 p11 q0 q1 q2 q3 hS1 HD eD eE hf2
      obtain ⟨p0, p1, p2, p3, p4, p5, p6, p7, p8, p9, p10, p11⟩ := hD3.own.cells
      obtain ⟨q0, q1, q2, q3⟩ := act_cells hD3.act
      have HD := Hid.mk hD3
      clear hD3
      obtain ⟨R, hR⟩ : ∃ R, refB C b = R := ⟨_, rfl⟩
      obtain ⟨OO, hOO⟩ : ∃ OO, C.off = OO := ⟨_, rfl⟩
      rw [hOO] at p11
      have HOO := Hid.mk hOO
      have HR := Hid.mk hR
      clear hOO hR
      go_upto_block 0 with fail
      go_cut [12] from 62 to 86 (fun v wx => v = .int .i64 R ∧ w3 = wx)
      case first =>
        cases OO with
        | true =>
          go_wp2_with fail
          go_meet
          exact ⟨by rw [← HR.out, refB_off HOO.out], rfl⟩
        | false =>
          cases BB with
          | false =>
            go_wp2_with fail
            go_meet
            exact ⟨by rw [← HR.out, refB_no HOO.out HBB.out], rfl⟩
          | true =>
            go_wp2_with fail
            go_meet
            exact ⟨by rw [← HR.out, refB_yes HOO.out HBB.out], rfl⟩
      case rest =>
        obtain ⟨rfl, rfl⟩ := hcut
        rw [← HOO.out] at p11
        have hOw : Hid (∀ i, L.own C.B i → i < w.heap.size) := fun i hi => HC.out.1.lt hi
        have hR0 : ¬ R = 0 := by rw [← HR.out]; exact hr
        clear hr
        have eC : markC C b = (C, R) := by unfold markC; rw [if_neg (by rw [HR.out]; exact hR0), HR.out]
        have HEC := Hid.mk eC
        clear eC
        have HQ : Hid (Dq w w.heap.size X C 6 b p f w3.drew) := ⟨HD.out.own, HD.out.act, _, _, _, _, _, _, _, _, _, _, _, _, HD.out.res⟩
        have HRES := Hid.mk HD.out.drew.res
        go_upto_region 18 with fail
        refine wp_region_held_drew (S := fun w' => (w'.cell? ⟨w.heap.size, 0, none⟩ = some (.int .i64 C.B) ∧ w'.cell? ⟨w.heap.size, 1, none⟩ = some (.int .i64 C.P) ∧ w'.cell? ⟨w.heap.size, 2, none⟩ = some (.int .i64 C.Z) ∧ w'.cell? ⟨w.heap.size, 3, none⟩ = some (.slice X.ca X.cl.length X.cc) ∧ w'.cell? ⟨w.heap.size, 4, none⟩ = some (.slice X.fa X.fl.length X.fc) ∧ w'.cell? ⟨w.heap.size, 5, none⟩ = some (.slice X.ba X.bn X.bc) ∧ w'.cell? ⟨w.heap.size, 6, none⟩ = some (.slice (some ⟨X.gp, 0, none⟩) (C.B * C.P) X.cp) ∧ w'.cell? ⟨w.heap.size, 7, none⟩ = some (.slice (some ⟨X.gw, 0, none⟩) C.B X.cw) ∧ w'.cell? ⟨w.heap.size, 8, none⟩ = some (.slice (some ⟨X.gd, 0, none⟩) C.B X.cd) ∧ w'.cell? ⟨w.heap.size, 9, none⟩ = some (.slice (some ⟨X.gm, 0, none⟩) C.B X.cm) ∧ w'.cell? ⟨w.heap.size, 10, none⟩ = some (.int .i64 C.did) ∧ w'.cell? ⟨w.heap.size, 11, none⟩ = some (.bool C.off)) ∧ (w'.cell? ⟨w.heap.size + 1, 0, none⟩ = some (.int .i64 6) ∧ w'.cell? ⟨w.heap.size + 1, 1, none⟩ = some (.int .i64 b) ∧ w'.cell? ⟨w.heap.size + 1, 2, none⟩ = some (.int .i64 p)) ∧ Dq w w.heap.size X C 6 b p f w') (by kernel_rfl) (dqm_of HQ.out) (fun hHeld => ?_)
        refine wpAnyH_take (i := 0) (oi := { dst := some 119, op := Op.load 39 (Operand.tmp 3), type := 39, pos := "law.go:168", after := #[], guard := none }) (v := ?vv0) rfl (by kernel_rfl) (by kernel_rfl) (by kernel_rfl) (fun _ _ _ h => h) (Or.inl ⟨by rfl, ?yy0⟩) hHeld ?rr0
        case yy0 => (intro w0 hSw; (try dsimp only at hSw); go_simp; try with_reducible rfl)
        try simp only [Act.put, List.setIfInBounds_toArray, List.set_cons_zero, List.set_cons_succ]
        refine wpAnyH_take (i := 1) (oi := { dst := some 120, op := Op.move (Operand.tmp 1), type := 30, pos := "law.go:168", after := #[], guard := none }) (v := ?vv1) rfl (by kernel_rfl) (by kernel_rfl) (by kernel_rfl) (fun _ _ _ h => h) (Or.inl ⟨by rfl, ?yy1⟩) hHeld ?rr1
        case yy1 => (intro w0 hSw; (try dsimp only at hSw); go_simp; try with_reducible rfl)
        try simp only [Act.put, List.setIfInBounds_toArray, List.set_cons_zero, List.set_cons_succ]
        refine wpAnyH_take (i := 2) (oi := { dst := some 121, op := Op.fieldAddr 44 (Operand.tmp 5) 1, type := 0, pos := "law.go:168", after := #[], guard := none }) (v := ?vv2) rfl (by kernel_rfl) (by kernel_rfl) (by kernel_rfl) (fun _ _ _ h => h) (Or.inl ⟨by rfl, ?yy2⟩) hHeld ?rr2
        case yy2 => (intro w0 hSw; (try dsimp only at hSw); go_simp; try with_reducible rfl)
        try simp only [Act.put, List.setIfInBounds_toArray, List.set_cons_zero, List.set_cons_succ]
        refine wpAnyH_take (i := 3) (oi := { dst := some 122, op := Op.load 3 (Operand.tmp 121), type := 3, pos := "law.go:168", after := #[{ on := 2, ground := Ground.data }], guard := none }) (v := ?vv3) rfl (by kernel_rfl) (by kernel_rfl) (by kernel_rfl) (fun _ _ _ h => h) (Or.inl ⟨by rfl, ?yy3⟩) hHeld ?rr3
        case yy3 => (intro w0 hSw; (try dsimp only at hSw); go_simp; try with_reducible rfl)
        try simp only [Act.put, List.setIfInBounds_toArray, List.set_cons_zero, List.set_cons_succ]
        refine wpAnyH_take (i := 5) (oi := { dst := some 124, op := Op.move (Operand.tmp 12), type := 31, pos := "law.go:168", after := #[{ on := 7, ground := Ground.gcOnly Departure.lateStores }], guard := none }) (v := ?vv5) rfl (by kernel_rfl) (by kernel_rfl) (by kernel_rfl) (fun _ _ _ h => h) (Or.inl ⟨by rfl, ?yy5⟩) hHeld ?rr5
        case yy5 => (intro w0 hSw; (try dsimp only at hSw); go_simp; try with_reducible rfl)
        try simp only [Act.put, List.setIfInBounds_toArray, List.set_cons_zero, List.set_cons_succ]
        refine wpAnyH_ready (rs := [4]) (by kernel_rfl) (by simp) ?_
        refine AllReadyH.cons (o := { dst := some 123, op := Op.call { callee := Callee.value (Operand.func 25), args := #[Operand.tmp 120, Operand.tmp 122], argTypes := #[30, 3] }, type := 31, pos := "law.go:168", after := #[{ on := 1, ground := Ground.data }, { on := 3, ground := Ground.data }], guard := none }) rfl (fun K9 hK9 => ?_) AllReadyH.nil
        go_simp
        go_wp2_with (go_at_call 25; refine (mark_any HD.out.drew.chip b (by omega)).mono ?_; rintro x w5 ⟨rfl, ch5, k5⟩; rw [HEC.out] at ch5 ⊢)
        refine hK9.out _ _ (dqm_keep hHeld.2.2 k5 hOw.out (by omega)) (fun hHeld => ?_)
        clear hK9 K9
        try simp only [Act.put, List.setIfInBounds_toArray, List.set_cons_zero, List.set_cons_succ]
        refine wpAnyH_take (i := 6) (oi := { dst := some 125, op := Op.binOp BinOp.eql 31 (Operand.tmp 123) (Operand.tmp 124) 31, type := 4, pos := "law.go:168", after := #[{ on := 4, ground := Ground.data }, { on := 5, ground := Ground.data }, { on := 7, ground := Ground.gcOnly Departure.lateStores }], guard := none }) (v := ?vv6) rfl (by kernel_rfl) (by kernel_rfl) (by kernel_rfl) (fun _ _ _ h => h) (Or.inl ⟨by rfl, ?yy6⟩) hHeld ?rr6
        case yy6 => (intro w0 hSw; (try dsimp only at hSw); go_simp; try with_reducible rfl)
        try simp only [Act.put, List.setIfInBounds_toArray, List.set_cons_zero, List.set_cons_succ]
        have hres5 := (k5.block _ (Array.getElem?_eq_some_iff.1 HRES.out).1 (fun x => by have := hOw.out _ x; omega)).trans HRES.out
        obtain ⟨s0, s1, s2, s3, s4, s5, s6, s7, s8, s9, s10, s11, sf⟩ := z39_cells hres5
        have HRES5 := Hid.mk hres5
        clear hres5
        refine wpAnyH_ready (rs := [7]) (by kernel_rfl) (by simp) ?_
        refine AllReadyH.cons (o := { dst := none, op := Op.store 39 (Operand.tmp 6) (Operand.tmp 119), type := 0, pos := "law.go:168", after := #[{ on := 0, ground := Ground.data }, { on := 4, ground := Ground.chain }, { on := 0, ground := Ground.phase }, { on := 1, ground := Ground.textOnly Departure.lateStores }, { on := 2, ground := Ground.textOnly Departure.lateStores }, { on := 3, ground := Ground.textOnly Departure.lateStores }, { on := 4, ground := Ground.textOnly Departure.lateStoresUnsure }, { on := 5, ground := Ground.textOnly Departure.lateStores }, { on := 6, ground := Ground.textOnly Departure.lateStores }], guard := none }) rfl (fun K9 hK9 => ?_) AllReadyH.nil
        go_simp
        refine hK9.out _ _ (dqm_store (by omega) _ _ _ _ _ _ _ _ _ _ _ _ hHeld.2.2) (fun hHeld => ?_)
        clear hK9 K9
        try simp only [Act.put, List.setIfInBounds_toArray, List.set_cons_zero, List.set_cons_succ]
        refine wpAnyH_take (i := 8) (oi := { dst := some 7, op := Op.assign (Operand.tmp 125), type := 4, pos := "law.go:168", after := #[{ on := 6, ground := Ground.data }, { on := 7, ground := Ground.chain }, { on := 0, ground := Ground.phase }, { on := 1, ground := Ground.phase }, { on := 2, ground := Ground.phase }, { on := 3, ground := Ground.phase }, { on := 4, ground := Ground.phase }, { on := 5, ground := Ground.phase }, { on := 6, ground := Ground.phase }, { on := 7, ground := Ground.phase }], guard := none }) (v := ?vv8) rfl (by kernel_rfl) (by kernel_rfl) (by kernel_rfl) (fun _ _ _ h => h) (Or.inl ⟨by rfl, ?yy8⟩) hHeld ?rr8
        case yy8 => (intro w0 hSw; (try dsimp only at hSw); go_simp; try with_reducible rfl)
        try simp only [Act.put, List.setIfInBounds_toArray, List.set_cons_zero, List.set_cons_succ]
        refine wpAnyH_done (by kernel_rfl) ?_ _
        clear hHeld
        have eW : ((((((((((((w5.setCell ⟨w.heap.size + 1 + 1, 0, none⟩ (.int .i64 C.B)).setCell ⟨w.heap.size + 1 + 1, 1, none⟩ (.int .i64 C.P)).setCell ⟨w.heap.size + 1 + 1, 2, none⟩ (.int .i64 C.Z)).setCell ⟨w.heap.size + 1 + 1, 3, none⟩ (.slice X.ca X.cl.length X.cc)).setCell ⟨w.heap.size + 1 + 1, 4, none⟩ (.slice X.fa X.fl.length X.fc)).setCell ⟨w.heap.size + 1 + 1, 5, none⟩ (.slice X.ba X.bn X.bc)).setCell ⟨w.heap.size + 1 + 1, 6, none⟩ (.slice (some ⟨X.gp, 0, none⟩) (C.B * C.P) X.cp)).setCell ⟨w.heap.size + 1 + 1, 7, none⟩ (.slice (some ⟨X.gw, 0, none⟩) C.B X.cw)).setCell ⟨w.heap.size + 1 + 1, 8, none⟩ (.slice (some ⟨X.gd, 0, none⟩) C.B X.cd)).setCell ⟨w.heap.size + 1 + 1, 9, none⟩ (.slice (some ⟨X.gm, 0, none⟩) C.B X.cm)).setCell ⟨w.heap.size + 1 + 1, 10, none⟩ (.int .i64 C.did)).setCell ⟨w.heap.size + 1 + 1, 11, none⟩ (.bool C.off)) = setMd w5 (w.heap.size + 1 + 1) X C := rfl
        rw [eW]
        clear eW s0 s1 s2 s3 s4 s5 s6 s7 s8 s9 s10 s11 sf
        have hF := done_of HC.out.1 HC.out.2 HRES5.out ((HD.out.drew.kp).trans k5) ch5 rfl (HD.out.drew.md.kept k5) (Xn.refl w5 X) (Array.getElem?_eq_some_iff.1 HRES5.out).1
        generalize setMd w5 (w.heap.size + 1 + 1) X C = W9 at *
        have HF := Hid.mk hF
        clear hF
        go_wp2_with fail
        exact bodyPost_ret (results_mt rfl rfl HF.out.1 rfl) rfl ⟨X, rfl, HF.out.2.1, HF.out.2.2.1, HF.out.2.2.2⟩
end Go.Proofs.Ytkfkepjegdaadaa
