/-
  The law's do, some of its ways. No condition.
-/
import Derived.Test.YtkfkepjegdaadaaMd4
namespace Go.Proofs.Ytkfkepjegdaadaa
open Go Go.RowKit


set_option maxRecDepth 100000 in
set_option maxHeartbeats 4000000 in
theorem do_r1a {w : World} {L X C} (hc : Chip w L C) (hm : Md w (L.own C.B) X C) (b p f : Int) (hf : 0 ≤ f ∧ f < 256) (n q : Nat) (hbn : b = n) (hpq : p = q) (hn : n < C.B) (hq : q < C.P) (hr : refP C b p = 0) (he : C.pg n q = ⟨#[]⟩) :
    Calls Try.prog 13 #[.agg (mdA X C), .pointer (some ⟨L.a, 0, none⟩), .agg #[.int .i64 8, .int .i64 b, .int .i64 p, .int .u8 f]] w fun e w' => ∃ X', e = .returned (.tuple #[.agg (mdA X' (C)), .bool true]) ∧ Chip w' L (C) ∧ Md w' (L.own C.B) X' (C) ∧ Kp (L.own C.B) w w' ∧ Xf X X' := by
  have hD := Dw.start 8 b p f hc hm
  have hgeo := hm.geo
  have HC := Hid.mk (And.intro hc hm)
  have HBN := Hid.mk (And.intro hbn (And.intro hpq (And.intro hn (And.intro hq (And.intro hr he)))))
  clear hbn hpq hn hq hr he
  obtain ⟨f1, hf1⟩ : ∃ f1 : Int, f1 = (f + 1) % 256 := ⟨_, rfl⟩
  have hf1b : 0 ≤ f1 ∧ f1 < 256 := by omega
  have hf2 : IntKind.u8.wrap (f + 1) = f1 := by rw [hf1]; simp [IntKind.wrap, IntKind.bits, IntKind.signed]
  obtain ⟨D, hDd⟩ : ∃ D, D = rep C.Z (u8 f) := ⟨_, rfl⟩
  obtain ⟨E, hE⟩ : ∃ E, E = rep 32 (u8 f1) := ⟨_, rfl⟩
  have eD : rep ((C.Z : Int).toNat) (u8 f) = D := by rw [hDd, Int.toNat_natCast]
  have eE : rep ((32 : Int).toNat) (u8 f1) = E := by rw [hE]; rfl
  have HX := Hid.mk (And.intro hDd (And.intro hE hf1))
  clear hDd hE
  go_enter Try.func13, Try.ntmps13
  go_upto_region 1 with fail
  generalize ((w.alloc (.cells (mdA X C) 39)).alloc (.cells #[.int .i64 8, .int .i64 b, .int .i64 p, .int .u8 f] 44)).alloc (.cells #[.int .i64 0, .int .i64 0, .int .i64 0, .slice none 0 0, .slice none 0 0, .slice none 0 0, .slice none 0 0, .slice none 0 0, .slice none 0 0, .slice none 0 0, .int .i64 0, .bool false] 39) = W0 at *
  obtain ⟨p0, p1, p2, p3, p4, p5, p6, p7, p8, p9, p10, p11⟩ := hD.own.cells
  obtain ⟨q0, q1, q2, q3⟩ := act_cells hD.act
  have HD := Hid.mk hD
  clear hD hc hm hf1
  go_cut [8] from 27 to 37 (fun v wx => v = .bool (blkB C b) ∧ W0 = wx)
  case first =>
    by_cases h1 : 0 ≤ b
    · by_cases h2 : b < C.B
      · go_wp2_with fail
        go_meet
        exact ⟨by rw [blkB_true h1 h2], rfl⟩
      · go_wp2_with fail
        go_meet
        exact ⟨by rw [blkB_false2 (by omega)], rfl⟩
    · go_wp2_with fail
      go_meet
      exact ⟨by rw [blkB_false1 (by omega)], rfl⟩
  case rest =>
    obtain ⟨rfl, rfl⟩ := hcut
    obtain ⟨BB, hBB⟩ : ∃ BB, blkB C b = BB := ⟨_, rfl⟩
    rw [hBB]
    have HBB := Hid.mk hBB
    clear hBB
    go_upto_region 2 with fail
    go_cut [9] from 38 to 51 (fun v wx => v = .bool (pgB C b p) ∧ W0 = wx)
    case first =>
      cases BB with
      | false =>
        go_wp2_with fail
        go_meet
        refine ⟨?_, rfl⟩
        cases hP : pgB C b p with
        | false => rfl
        | true =>
          have h1 := pgB_iff.1 hP
          have hB := HBB.out
          rw [blkB_iff.2 h1.1] at hB
          cases hB
      | true =>
        have hb2 := Hid.mk (blkB_iff.1 HBB.out)
        by_cases h1 : 0 ≤ p
        · by_cases h2 : p < C.P
          · go_wp2_with fail
            go_meet
            exact ⟨by rw [pgB_iff.2 ⟨hb2.out, h1, h2⟩], rfl⟩
          · go_wp2_with fail
            go_meet
            refine ⟨?_, rfl⟩
            cases hP : pgB C b p with
            | false => rfl
            | true => exact absurd (pgB_iff.1 hP).2.2 (by omega)
        · go_wp2_with fail
          go_meet
          refine ⟨?_, rfl⟩
          cases hP : pgB C b p with
          | false => rfl
          | true => exact absurd (pgB_iff.1 hP).2.1 (by omega)
    case rest =>
      obtain ⟨rfl, rfl⟩ := hcut
      obtain ⟨PP, hPP⟩ : ∃ PP, pgB C b p = PP := ⟨_, rfl⟩
      rw [hPP]
      have HPP := Hid.mk hPP
      clear hPP
      go_upto_region 3 with fail
      have hS1 := Hid.mk (dw_of HD.out.drew)
      go_region_held3 (fun w' => w'.cell? ⟨w.heap.size, 2, none⟩ = some (.int .i64 C.Z) ∧ w'.cell? ⟨w.heap.size + 1, 3, none⟩ = some (.int .u8 f) ∧ Dw w L X C 8 b p f w') (first | assumption | exact hS1.out | exact dw_keep (by assumption) (by assumption) | fail)
        (first | (go_at_call 18; refine (textI _ (by omega) (by omega) _ (by first | exact hf | exact hf1b) _).mono ?_; rintro x w3 ⟨rfl, b3⟩; (first | rw [eD] | rw [eE])))
      have hD3 : Dw w L X C 8 b p f w3 := (by assumption : _ ∧ _ ∧ Dw w L X C 8 b p f w3).2.2
      clear p0 p1 p2 p3 p4 p5 p6 p7 p8 p9 p10 p11 q0 q1 q2 q3 hS1 HD eD eE hf2
      obtain ⟨p0, p1, p2, p3, p4, p5, p6, p7, p8, p9, p10, p11⟩ := hD3.own.cells
      obtain ⟨q0, q1, q2, q3⟩ := act_cells hD3.act
      have HD := Hid.mk hD3
      clear hD3
      obtain ⟨R, hR⟩ : ∃ R, refP C b p = R := ⟨_, rfl⟩
      obtain ⟨OO, hOO⟩ : ∃ OO, C.off = OO := ⟨_, rfl⟩
      rw [hOO] at p11
      have HOO := Hid.mk hOO
      have HR := Hid.mk hR
      clear hOO hR
      go_upto_block 0 with fail
      go_cut [12] from 62 to 86 (fun v wx => v = .int .i64 R ∧ w3 = wx)
      case first =>
        cases OO with
        | true =>
          go_wp2_with fail
          go_meet
          exact ⟨by rw [← HR.out, refP_off HOO.out], rfl⟩
        | false =>
          cases BB with
          | false =>
            go_wp2_with fail
            go_meet
            exact ⟨by rw [← HR.out, refP_no HOO.out HBB.out], rfl⟩
          | true =>
            cases PP with
            | false =>
              go_wp2_with fail
              go_meet
              exact ⟨by rw [← HR.out, refP_no2 HOO.out HBB.out HPP.out], rfl⟩
            | true =>
              go_wp2_with fail
              go_meet
              exact ⟨by rw [← HR.out, refP_yes HOO.out HBB.out HPP.out], rfl⟩
      case rest =>
        obtain ⟨rfl, rfl⟩ := hcut
        rw [← HOO.out] at p11
        have hOw : Hid (∀ i, L.own C.B i → i < w.heap.size) := fun i hi => HC.out.1.lt hi
        have hR0 : R = 0 := by rw [← HR.out]; exact HBN.out.2.2.2.2.1
        subst hR0
        obtain ⟨V, hV⟩ : ∃ V, V = seen C n q := ⟨_, rfl⟩
        have zV : V.size = C.Z + 32 := by rw [hV]; exact seen_size HC.out.1 n q
        obtain ⟨xx, hxx⟩ : ∃ xx, xx = V.extract 0 C.Z := ⟨_, rfl⟩
        obtain ⟨yy, hyy⟩ : ∃ yy, yy = V.extract C.Z (C.Z + 32) := ⟨_, rfl⟩
        have hxy : xx ++ yy = V := by rw [hxx, hyy]; exact ext_join V C.Z (C.Z + 32) zV (by omega)
        have zx : xx.size = C.Z := by rw [hxx, ByteArray.size_extract]; omega
        have zy : yy.size = 32 := by rw [hyy, ByteArray.size_extract]; omega
        have eC : rdV C b p = .tuple #[.string xx, .string yy, .int .i64 0] := by
          unfold rdV
          rw [if_pos HBN.out.2.2.2.2.1, hxx, hyy, hV, HBN.out.1, HBN.out.2.1]
          rfl
        have HEC := Hid.mk (And.intro eC (And.intro hV hxx))
        clear eC hV hxx hyy
        go_upto_region 31 with (go_at_call 20; refine (read_any HD.out.chip b p).mono ?_; rintro x w5 ⟨rfl, b5⟩; rw [HEC.out.1])
        have hD5 := HD.out.call b5
        clear p0 p1 p2 p3 p4 p5 p6 p7 p8 p9 p10 p11 q0 q1 q2 q3
        obtain ⟨bp, hbp, hbi, hbl, hb5⟩ := bp_of C n HBN.out.2.2.1 ⟨hgeo.2.1, hgeo.2.2.2.1⟩
        have hbI : b * C.P = (bp : Int) := by rw [HBN.out.1]; exact hbi
        obtain ⟨ix, hix⟩ : ∃ ix : Nat, ix = bp + q := ⟨_, rfl⟩
        have hq2 := HBN.out.2.2.2.1
        have hpI : (bp : Int) + p = (ix : Int) := by rw [HBN.out.2.1]; omega
        have hiB : (ix : Int) < ((C.B * C.P : Nat) : Int) := by omega
        have hi5 : (ix : Int) ≤ 512 := by omega
        have hbp5 : (bp : Int) ≤ 512 := by omega
        have hp0 : 0 ≤ p := by rw [HBN.out.2.1]; omega
        have hp16 : p ≤ 16 := by rw [HBN.out.2.1]; omega
        have hiB2 : (ix : Int) < (C.B : Int) * (C.P : Int) := by rw [← Int.natCast_mul]; exact hiB
        have cP := hD5.md.pg ix (by omega)
        have e1 : ix / C.P = n ∧ ix % C.P = q := (page_at hq2).1 (by rw [hix, hbp])
        rw [e1.1, e1.2] at cP
        obtain ⟨p0, p1, p2, p3, p4, p5, p6, p7, p8, p9, p10, p11⟩ := hD5.own.cells
        obtain ⟨q0, q1, q2, q3⟩ := act_cells hD5.act
        have H5 := Hid.mk hD5
        clear hD5 e1 hbp hbi hbl hb5 hix hq2
        rw [HBN.out.2.2.2.2.2] at cP
        have hVF : V = rep (C.Z + 32) 255 := by
          rw [HEC.out.2.1]
          unfold seen
          rw [if_pos HBN.out.2.2.2.2.2]
        have htx : ∀ W, Calls Try.prog 18 #[.int .i64 ((C.Z : Int) + 32), .int .u8 255] W fun e w' => e = .returned (.string V) ∧ Below W.heap.size W w' := fun W => by
          rw [hVF]
          exact text_any (C.Z + 32) (by omega) 255 (by decide) W
        have HTx := Hid.mk htx
        clear htx hVF
        have hz1 : (C.Z : Int) ≤ 256 := by omega
        go_upto_region 36 with (go_at_call 18; refine (HTx.out _).mono ?_; rintro e W7 ⟨rfl, b7⟩)
        have hD7 := H5.out.call b7
        clear p0 p1 p2 p3 p4 p5 p6 p7 p8 p9 p10 p11 q0 q1 q2 q3 cP
        obtain ⟨p0, p1, p2, p3, p4, p5, p6, p7, p8, p9, p10, p11⟩ := hD7.own.cells
        obtain ⟨s0, s1, s2, s3, s4, s5, s6, s7, s8, s9, s10, s11, sf⟩ := z39_cells hD7.res
        have HRES5 := Hid.mk hD7.res
        have H7 := Hid.mk hD7
        clear hD7
        go_wp2_with fail
        have eW : ((((((((((((W7.setCell ⟨w.heap.size + 1 + 1, 0, none⟩ (.int .i64 C.B)).setCell ⟨w.heap.size + 1 + 1, 1, none⟩ (.int .i64 C.P)).setCell ⟨w.heap.size + 1 + 1, 2, none⟩ (.int .i64 C.Z)).setCell ⟨w.heap.size + 1 + 1, 3, none⟩ (.slice X.ca X.cl.length X.cc)).setCell ⟨w.heap.size + 1 + 1, 4, none⟩ (.slice X.fa X.fl.length X.fc)).setCell ⟨w.heap.size + 1 + 1, 5, none⟩ (.slice X.ba X.bn X.bc)).setCell ⟨w.heap.size + 1 + 1, 6, none⟩ (.slice (some ⟨X.gp, 0, none⟩) (C.B * C.P) X.cp)).setCell ⟨w.heap.size + 1 + 1, 7, none⟩ (.slice (some ⟨X.gw, 0, none⟩) C.B X.cw)).setCell ⟨w.heap.size + 1 + 1, 8, none⟩ (.slice (some ⟨X.gd, 0, none⟩) C.B X.cd)).setCell ⟨w.heap.size + 1 + 1, 9, none⟩ (.slice (some ⟨X.gm, 0, none⟩) C.B X.cm)).setCell ⟨w.heap.size + 1 + 1, 10, none⟩ (.int .i64 C.did)).setCell ⟨w.heap.size + 1 + 1, 11, none⟩ (.bool C.off)) = setMd W7 (w.heap.size + 1 + 1) X C := rfl
        rw [eW]
        clear eW s0 s1 s2 s3 s4 s5 s6 s7 s8 s9 s10 s11 sf p0 p1 p2 p3 p4 p5 p6 p7 p8 p9 p10 p11
        have hF := done_of HC.out.1 HC.out.2 HRES5.out (H7.out.kp) (H7.out.chip) rfl (H7.out.md) (Xn.refl W7 X) (Array.getElem?_eq_some_iff.1 HRES5.out).1
        generalize setMd W7 (w.heap.size + 1 + 1) X C = W9 at *
        exact bodyPost_ret (results_mt rfl rfl hF.1 rfl) rfl ⟨X, rfl, hF.2.1, hF.2.2.1, hF.2.2.2⟩


set_option maxRecDepth 100000 in
set_option maxHeartbeats 4000000 in
theorem do_r1b {w : World} {L X C} (hc : Chip w L C) (hm : Md w (L.own C.B) X C) (b p f : Int) (hf : 0 ≤ f ∧ f < 256) (n q : Nat) (hbn : b = n) (hpq : p = q) (hn : n < C.B) (hq : q < C.P) (hr : refP C b p = 0) (he : ¬ C.pg n q = ⟨#[]⟩) :
    Calls Try.prog 13 #[.agg (mdA X C), .pointer (some ⟨L.a, 0, none⟩), .agg #[.int .i64 8, .int .i64 b, .int .i64 p, .int .u8 f]] w fun e w' => ∃ X', e = .returned (.tuple #[.agg (mdA X' (C)), .bool true]) ∧ Chip w' L (C) ∧ Md w' (L.own C.B) X' (C) ∧ Kp (L.own C.B) w w' ∧ Xf X X' := by
  have hD := Dw.start 8 b p f hc hm
  have hgeo := hm.geo
  have HC := Hid.mk (And.intro hc hm)
  have HBN := Hid.mk (And.intro hbn (And.intro hpq (And.intro hn (And.intro hq (And.intro hr he)))))
  clear hbn hpq hn hq hr he
  obtain ⟨f1, hf1⟩ : ∃ f1 : Int, f1 = (f + 1) % 256 := ⟨_, rfl⟩
  have hf1b : 0 ≤ f1 ∧ f1 < 256 := by omega
  have hf2 : IntKind.u8.wrap (f + 1) = f1 := by rw [hf1]; simp [IntKind.wrap, IntKind.bits, IntKind.signed]
  obtain ⟨D, hDd⟩ : ∃ D, D = rep C.Z (u8 f) := ⟨_, rfl⟩
  obtain ⟨E, hE⟩ : ∃ E, E = rep 32 (u8 f1) := ⟨_, rfl⟩
  have eD : rep ((C.Z : Int).toNat) (u8 f) = D := by rw [hDd, Int.toNat_natCast]
  have eE : rep ((32 : Int).toNat) (u8 f1) = E := by rw [hE]; rfl
  have HX := Hid.mk (And.intro hDd (And.intro hE hf1))
  clear hDd hE
  go_enter Try.func13, Try.ntmps13
  go_upto_region 1 with fail
  generalize ((w.alloc (.cells (mdA X C) 39)).alloc (.cells #[.int .i64 8, .int .i64 b, .int .i64 p, .int .u8 f] 44)).alloc (.cells #[.int .i64 0, .int .i64 0, .int .i64 0, .slice none 0 0, .slice none 0 0, .slice none 0 0, .slice none 0 0, .slice none 0 0, .slice none 0 0, .slice none 0 0, .int .i64 0, .bool false] 39) = W0 at *
  obtain ⟨p0, p1, p2, p3, p4, p5, p6, p7, p8, p9, p10, p11⟩ := hD.own.cells
  obtain ⟨q0, q1, q2, q3⟩ := act_cells hD.act
  have HD := Hid.mk hD
  clear hD hc hm hf1
  go_cut [8] from 27 to 37 (fun v wx => v = .bool (blkB C b) ∧ W0 = wx)
  case first =>
    by_cases h1 : 0 ≤ b
    · by_cases h2 : b < C.B
      · go_wp2_with fail
        go_meet
        exact ⟨by rw [blkB_true h1 h2], rfl⟩
      · go_wp2_with fail
        go_meet
        exact ⟨by rw [blkB_false2 (by omega)], rfl⟩
    · go_wp2_with fail
      go_meet
      exact ⟨by rw [blkB_false1 (by omega)], rfl⟩
  case rest =>
    obtain ⟨rfl, rfl⟩ := hcut
    obtain ⟨BB, hBB⟩ : ∃ BB, blkB C b = BB := ⟨_, rfl⟩
    rw [hBB]
    have HBB := Hid.mk hBB
    clear hBB
    go_upto_region 2 with fail
    go_cut [9] from 38 to 51 (fun v wx => v = .bool (pgB C b p) ∧ W0 = wx)
    case first =>
      cases BB with
      | false =>
        go_wp2_with fail
        go_meet
        refine ⟨?_, rfl⟩
        cases hP : pgB C b p with
        | false => rfl
        | true =>
          have h1 := pgB_iff.1 hP
          have hB := HBB.out
          rw [blkB_iff.2 h1.1] at hB
          cases hB
      | true =>
        have hb2 := Hid.mk (blkB_iff.1 HBB.out)
        by_cases h1 : 0 ≤ p
        · by_cases h2 : p < C.P
          · go_wp2_with fail
            go_meet
            exact ⟨by rw [pgB_iff.2 ⟨hb2.out, h1, h2⟩], rfl⟩
          · go_wp2_with fail
            go_meet
            refine ⟨?_, rfl⟩
            cases hP : pgB C b p with
            | false => rfl
            | true => exact absurd (pgB_iff.1 hP).2.2 (by omega)
        · go_wp2_with fail
          go_meet
          refine ⟨?_, rfl⟩
          cases hP : pgB C b p with
          | false => rfl
          | true => exact absurd (pgB_iff.1 hP).2.1 (by omega)
    case rest =>
      obtain ⟨rfl, rfl⟩ := hcut
      obtain ⟨PP, hPP⟩ : ∃ PP, pgB C b p = PP := ⟨_, rfl⟩
      rw [hPP]
      have HPP := Hid.mk hPP
      clear hPP
      go_upto_region 3 with fail
      have hS1 := Hid.mk (dw_of HD.out.drew)
      go_region_held3 (fun w' => w'.cell? ⟨w.heap.size, 2, none⟩ = some (.int .i64 C.Z) ∧ w'.cell? ⟨w.heap.size + 1, 3, none⟩ = some (.int .u8 f) ∧ Dw w L X C 8 b p f w') (first | assumption | exact hS1.out | exact dw_keep (by assumption) (by assumption) | fail)
        (first | (go_at_call 18; refine (textI _ (by omega) (by omega) _ (by first | exact hf | exact hf1b) _).mono ?_; rintro x w3 ⟨rfl, b3⟩; (first | rw [eD] | rw [eE])))
      have hD3 : Dw w L X C 8 b p f w3 := (by assumption : _ ∧ _ ∧ Dw w L X C 8 b p f w3).2.2
      clear p0 p1 p2 p3 p4 p5 p6 p7 p8 p9 p10 p11 q0 q1 q2 q3 hS1 HD eD eE hf2
      obtain ⟨p0, p1, p2, p3, p4, p5, p6, p7, p8, p9, p10, p11⟩ := hD3.own.cells
      obtain ⟨q0, q1, q2, q3⟩ := act_cells hD3.act
      have HD := Hid.mk hD3
      clear hD3
      obtain ⟨R, hR⟩ : ∃ R, refP C b p = R := ⟨_, rfl⟩
      obtain ⟨OO, hOO⟩ : ∃ OO, C.off = OO := ⟨_, rfl⟩
      rw [hOO] at p11
      have HOO := Hid.mk hOO
      have HR := Hid.mk hR
      clear hOO hR
      go_upto_block 0 with fail
      go_cut [12] from 62 to 86 (fun v wx => v = .int .i64 R ∧ w3 = wx)
      case first =>
        cases OO with
        | true =>
          go_wp2_with fail
          go_meet
          exact ⟨by rw [← HR.out, refP_off HOO.out], rfl⟩
        | false =>
          cases BB with
          | false =>
            go_wp2_with fail
            go_meet
            exact ⟨by rw [← HR.out, refP_no HOO.out HBB.out], rfl⟩
          | true =>
            cases PP with
            | false =>
              go_wp2_with fail
              go_meet
              exact ⟨by rw [← HR.out, refP_no2 HOO.out HBB.out HPP.out], rfl⟩
            | true =>
              go_wp2_with fail
              go_meet
              exact ⟨by rw [← HR.out, refP_yes HOO.out HBB.out HPP.out], rfl⟩
      case rest =>
        obtain ⟨rfl, rfl⟩ := hcut
        rw [← HOO.out] at p11
        have hOw : Hid (∀ i, L.own C.B i → i < w.heap.size) := fun i hi => HC.out.1.lt hi
        have hR0 : R = 0 := by rw [← HR.out]; exact HBN.out.2.2.2.2.1
        subst hR0
        obtain ⟨V, hV⟩ : ∃ V, V = seen C n q := ⟨_, rfl⟩
        have zV : V.size = C.Z + 32 := by rw [hV]; exact seen_size HC.out.1 n q
        obtain ⟨xx, hxx⟩ : ∃ xx, xx = V.extract 0 C.Z := ⟨_, rfl⟩
        obtain ⟨yy, hyy⟩ : ∃ yy, yy = V.extract C.Z (C.Z + 32) := ⟨_, rfl⟩
        have hxy : xx ++ yy = V := by rw [hxx, hyy]; exact ext_join V C.Z (C.Z + 32) zV (by omega)
        have zx : xx.size = C.Z := by rw [hxx, ByteArray.size_extract]; omega
        have zy : yy.size = 32 := by rw [hyy, ByteArray.size_extract]; omega
        have eC : rdV C b p = .tuple #[.string xx, .string yy, .int .i64 0] := by
          unfold rdV
          rw [if_pos HBN.out.2.2.2.2.1, hxx, hyy, hV, HBN.out.1, HBN.out.2.1]
          rfl
        have HEC := Hid.mk (And.intro eC (And.intro hV hxx))
        clear eC hV hxx hyy
        go_upto_region 31 with (go_at_call 20; refine (read_any HD.out.chip b p).mono ?_; rintro x w5 ⟨rfl, b5⟩; rw [HEC.out.1])
        have hD5 := HD.out.call b5
        clear p0 p1 p2 p3 p4 p5 p6 p7 p8 p9 p10 p11 q0 q1 q2 q3
        obtain ⟨bp, hbp, hbi, hbl, hb5⟩ := bp_of C n HBN.out.2.2.1 ⟨hgeo.2.1, hgeo.2.2.2.1⟩
        have hbI : b * C.P = (bp : Int) := by rw [HBN.out.1]; exact hbi
        obtain ⟨ix, hix⟩ : ∃ ix : Nat, ix = bp + q := ⟨_, rfl⟩
        have hq2 := HBN.out.2.2.2.1
        have hpI : (bp : Int) + p = (ix : Int) := by rw [HBN.out.2.1]; omega
        have hiB : (ix : Int) < ((C.B * C.P : Nat) : Int) := by omega
        have hi5 : (ix : Int) ≤ 512 := by omega
        have hbp5 : (bp : Int) ≤ 512 := by omega
        have hp0 : 0 ≤ p := by rw [HBN.out.2.1]; omega
        have hp16 : p ≤ 16 := by rw [HBN.out.2.1]; omega
        have hiB2 : (ix : Int) < (C.B : Int) * (C.P : Int) := by rw [← Int.natCast_mul]; exact hiB
        have cP := hD5.md.pg ix (by omega)
        have e1 : ix / C.P = n ∧ ix % C.P = q := (page_at hq2).1 (by rw [hix, hbp])
        rw [e1.1, e1.2] at cP
        obtain ⟨p0, p1, p2, p3, p4, p5, p6, p7, p8, p9, p10, p11⟩ := hD5.own.cells
        obtain ⟨q0, q1, q2, q3⟩ := act_cells hD5.act
        have H5 := Hid.mk hD5
        clear hD5 e1 hbp hbi hbl hb5 hix hq2
        have hVF : C.pg n q = V := by
          rw [HEC.out.2.1]
          unfold seen
          rw [if_neg HBN.out.2.2.2.2.2]
        rw [hVF] at cP
        have hne : ¬ V = ⟨#[]⟩ := by rw [← hVF]; exact HBN.out.2.2.2.2.2
        have hne2 := notEmpty hne
        clear hVF
        obtain ⟨s0, s1, s2, s3, s4, s5, s6, s7, s8, s9, s10, s11, sf⟩ := z39_cells H5.out.res
        have HRES5 := Hid.mk H5.out.res
        go_wp2_with fail
        have eW : ((((((((((((w5.setCell ⟨w.heap.size + 1 + 1, 0, none⟩ (.int .i64 C.B)).setCell ⟨w.heap.size + 1 + 1, 1, none⟩ (.int .i64 C.P)).setCell ⟨w.heap.size + 1 + 1, 2, none⟩ (.int .i64 C.Z)).setCell ⟨w.heap.size + 1 + 1, 3, none⟩ (.slice X.ca X.cl.length X.cc)).setCell ⟨w.heap.size + 1 + 1, 4, none⟩ (.slice X.fa X.fl.length X.fc)).setCell ⟨w.heap.size + 1 + 1, 5, none⟩ (.slice X.ba X.bn X.bc)).setCell ⟨w.heap.size + 1 + 1, 6, none⟩ (.slice (some ⟨X.gp, 0, none⟩) (C.B * C.P) X.cp)).setCell ⟨w.heap.size + 1 + 1, 7, none⟩ (.slice (some ⟨X.gw, 0, none⟩) C.B X.cw)).setCell ⟨w.heap.size + 1 + 1, 8, none⟩ (.slice (some ⟨X.gd, 0, none⟩) C.B X.cd)).setCell ⟨w.heap.size + 1 + 1, 9, none⟩ (.slice (some ⟨X.gm, 0, none⟩) C.B X.cm)).setCell ⟨w.heap.size + 1 + 1, 10, none⟩ (.int .i64 C.did)).setCell ⟨w.heap.size + 1 + 1, 11, none⟩ (.bool C.off)) = setMd w5 (w.heap.size + 1 + 1) X C := rfl
        rw [eW]
        clear eW s0 s1 s2 s3 s4 s5 s6 s7 s8 s9 s10 s11 sf p0 p1 p2 p3 p4 p5 p6 p7 p8 p9 p10 p11
        have hF := done_of HC.out.1 HC.out.2 HRES5.out (H5.out.kp) (H5.out.chip) rfl (H5.out.md) (Xn.refl w5 X) (Array.getElem?_eq_some_iff.1 HRES5.out).1
        generalize setMd w5 (w.heap.size + 1 + 1) X C = W9 at *
        exact bodyPost_ret (results_mt rfl rfl hF.1 rfl) rfl ⟨X, rfl, hF.2.1, hF.2.2.1, hF.2.2.2⟩
end Go.Proofs.Ytkfkepjegdaadaa
