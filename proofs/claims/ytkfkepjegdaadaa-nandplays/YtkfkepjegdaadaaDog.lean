/-
  The law's do, some of its ways. No condition.
-/
import Derived.Test.YtkfkepjegdaadaaMd4
namespace Go.Proofs.Ytkfkepjegdaadaa
open Go Go.RowKit


set_option maxRecDepth 100000 in
set_option maxHeartbeats 4000000 in
theorem do_g0 {w : World} {L X C} (hc : Chip w L C) (hm : Md w (L.own C.B) X C) (K b p f : Int) (hf : 0 ≤ f ∧ f < 256) (h4 : ¬ K = 4) (h5 : ¬ K = 5) (h6 : ¬ K = 6) (h7 : ¬ K = 7) (h8 : ¬ K = 8) (h9 : ¬ K = 9) (hr : ¬ refP C b p = 0) (hd : C.did < 999) :
    Calls Try.prog 13 #[.agg (mdA X C), .pointer (some ⟨L.a, 0, none⟩), .agg #[.int .i64 K, .int .i64 b, .int .i64 p, .int .u8 f]] w fun e w' => ∃ X', e = .returned (.tuple #[.agg (mdA X' (C)), .bool true]) ∧ Chip w' L (C) ∧ Md w' (L.own C.B) X' (C) ∧ Kp (L.own C.B) w w' ∧ Xf X X' := by
  have hD := Dw.start K b p f hc hm
  have hgeo := hm.geo
  have HC := Hid.mk (And.intro hc hm)
  have kn4 : (K != 4) = true := bne_iff_ne.2 h4
  have ke4 : (K == 4) = false := beq_eq_false_iff_ne.2 h4
  have kn5 : (K != 5) = true := bne_iff_ne.2 h5
  have ke5 : (K == 5) = false := beq_eq_false_iff_ne.2 h5
  have kn6 : (K != 6) = true := bne_iff_ne.2 h6
  have ke6 : (K == 6) = false := beq_eq_false_iff_ne.2 h6
  have kn7 : (K != 7) = true := bne_iff_ne.2 h7
  have ke7 : (K == 7) = false := beq_eq_false_iff_ne.2 h7
  have kn8 : (K != 8) = true := bne_iff_ne.2 h8
  have ke8 : (K == 8) = false := beq_eq_false_iff_ne.2 h8
  have kn9 : (K != 9) = true := bne_iff_ne.2 h9
  have ke9 : (K == 9) = false := beq_eq_false_iff_ne.2 h9
  obtain ⟨f1, hf1⟩ : ∃ f1 : Int, f1 = (f + 1) % 256 := ⟨_, rfl⟩
  have hf1b : 0 ≤ f1 ∧ f1 < 256 := by omega
  have hf2 : IntKind.u8.wrap (f + 1) = f1 := by rw [hf1]; simp [IntKind.wrap, IntKind.bits, IntKind.signed]
  obtain ⟨D, hDd⟩ : ∃ D, D = rep C.Z (u8 f) := ⟨_, rfl⟩
  obtain ⟨E, hE⟩ : ∃ E, E = rep 32 (u8 f1) := ⟨_, rfl⟩
  have eD : rep ((C.Z : Int).toNat) (u8 f) = D := by rw [hDd, Int.toNat_natCast]
  have eE : rep ((32 : Int).toNat) (u8 f1) = E := by rw [hE]; rfl
  have HX := Hid.mk (And.intro hDd (And.intro hE hf1))
  clear hDd hE
  go_enter Try.func13, Try.ntmps13
  go_upto_region 1 with fail
  generalize ((w.alloc (.cells (mdA X C) 39)).alloc (.cells #[.int .i64 K, .int .i64 b, .int .i64 p, .int .u8 f] 44)).alloc (.cells #[.int .i64 0, .int .i64 0, .int .i64 0, .slice none 0 0, .slice none 0 0, .slice none 0 0, .slice none 0 0, .slice none 0 0, .slice none 0 0, .slice none 0 0, .int .i64 0, .bool false] 39) = W0 at *
  obtain ⟨p0, p1, p2, p3, p4, p5, p6, p7, p8, p9, p10, p11⟩ := hD.own.cells
  obtain ⟨q0, q1, q2, q3⟩ := act_cells hD.act
  have HD := Hid.mk hD
  clear hD hc hm hf1
  go_cut [8] from 27 to 37 (fun v wx => v = .bool (blkB C b) ∧ W0 = wx)
  case first =>
    by_cases h1 : 0 ≤ b
    · by_cases h2 : b < C.B
      · go_wp2_with fail
        go_meet
        exact ⟨by rw [blkB_true h1 h2], rfl⟩
      · go_wp2_with fail
        go_meet
        exact ⟨by rw [blkB_false2 (by omega)], rfl⟩
    · go_wp2_with fail
      go_meet
      exact ⟨by rw [blkB_false1 (by omega)], rfl⟩
  case rest =>
    obtain ⟨rfl, rfl⟩ := hcut
    obtain ⟨BB, hBB⟩ : ∃ BB, blkB C b = BB := ⟨_, rfl⟩
    rw [hBB]
    have HBB := Hid.mk hBB
    clear hBB
    go_upto_region 2 with fail
    go_cut [9] from 38 to 51 (fun v wx => v = .bool (pgB C b p) ∧ W0 = wx)
    case first =>
      cases BB with
      | false =>
        go_wp2_with fail
        go_meet
        refine ⟨?_, rfl⟩
        cases hP : pgB C b p with
        | false => rfl
        | true =>
          have h1 := pgB_iff.1 hP
          have hB := HBB.out
          rw [blkB_iff.2 h1.1] at hB
          cases hB
      | true =>
        have hb2 := Hid.mk (blkB_iff.1 HBB.out)
        by_cases h1 : 0 ≤ p
        · by_cases h2 : p < C.P
          · go_wp2_with fail
            go_meet
            exact ⟨by rw [pgB_iff.2 ⟨hb2.out, h1, h2⟩], rfl⟩
          · go_wp2_with fail
            go_meet
            refine ⟨?_, rfl⟩
            cases hP : pgB C b p with
            | false => rfl
            | true => exact absurd (pgB_iff.1 hP).2.2 (by omega)
        · go_wp2_with fail
          go_meet
          refine ⟨?_, rfl⟩
          cases hP : pgB C b p with
          | false => rfl
          | true => exact absurd (pgB_iff.1 hP).2.1 (by omega)
    case rest =>
      obtain ⟨rfl, rfl⟩ := hcut
      obtain ⟨PP, hPP⟩ : ∃ PP, pgB C b p = PP := ⟨_, rfl⟩
      rw [hPP]
      have HPP := Hid.mk hPP
      clear hPP
      go_upto_region 3 with fail
      have hS1 := Hid.mk (dw_of HD.out.drew)
      go_region_held3 (fun w' => w'.cell? ⟨w.heap.size, 2, none⟩ = some (.int .i64 C.Z) ∧ w'.cell? ⟨w.heap.size + 1, 3, none⟩ = some (.int .u8 f) ∧ Dw w L X C K b p f w') (first | assumption | exact hS1.out | exact dw_keep (by assumption) (by assumption) | fail)
        (first | (go_at_call 18; refine (textI _ (by omega) (by omega) _ (by first | exact hf | exact hf1b) _).mono ?_; rintro x w3 ⟨rfl, b3⟩; (first | rw [eD] | rw [eE])))
      have hD3 : Dw w L X C K b p f w3 := (by assumption : _ ∧ _ ∧ Dw w L X C K b p f w3).2.2
      clear p0 p1 p2 p3 p4 p5 p6 p7 p8 p9 p10 p11 q0 q1 q2 q3 hS1 HD eD eE hf2
      obtain ⟨p0, p1, p2, p3, p4, p5, p6, p7, p8, p9, p10, p11⟩ := hD3.own.cells
      obtain ⟨q0, q1, q2, q3⟩ := act_cells hD3.act
      have HD := Hid.mk hD3
      clear hD3
      obtain ⟨R, hR⟩ : ∃ R, refP C b p = R := ⟨_, rfl⟩
      obtain ⟨OO, hOO⟩ : ∃ OO, C.off = OO := ⟨_, rfl⟩
      rw [hOO] at p11
      have HOO := Hid.mk hOO
      have HR := Hid.mk hR
      clear hOO hR
      go_upto_block 0 with fail
      go_cut [12] from 62 to 86 (fun v wx => v = .int .i64 R ∧ w3 = wx)
      case first =>
        cases OO with
        | true =>
          go_wp2_with fail
          go_meet
          exact ⟨by rw [← HR.out, refP_off HOO.out], rfl⟩
        | false =>
          cases BB with
          | false =>
            go_wp2_with fail
            go_meet
            exact ⟨by rw [← HR.out, refP_no HOO.out HBB.out], rfl⟩
          | true =>
            cases PP with
            | false =>
              go_wp2_with fail
              go_meet
              exact ⟨by rw [← HR.out, refP_no2 HOO.out HBB.out HPP.out], rfl⟩
            | true =>
              go_wp2_with fail
              go_meet
              exact ⟨by rw [← HR.out, refP_yes HOO.out HBB.out HPP.out], rfl⟩
      case rest =>
        obtain ⟨rfl, rfl⟩ := hcut
        rw [← HOO.out] at p11
        have hOw : Hid (∀ i, L.own C.B i → i < w.heap.size) := fun i hi => HC.out.1.lt hi
        have hR0 : ¬ R = 0 := by rw [← HR.out]; exact hr
        clear hr
        have eC : progC C b p D E = (C, R) := by unfold progC; rw [if_neg (by rw [HR.out]; exact hR0), HR.out]
        have HEC := Hid.mk eC
        clear eC
        have HQ : Hid (Dq w w.heap.size X C K b p f w3.drew) := ⟨HD.out.own, HD.out.act, _, _, _, _, _, _, _, _, _, _, _, _, HD.out.res⟩
        have HRES := Hid.mk HD.out.drew.res
        go_upto_region 41 with fail
        refine wp_region_held_drew (S := fun w' => (w'.cell? ⟨w.heap.size, 0, none⟩ = some (.int .i64 C.B) ∧ w'.cell? ⟨w.heap.size, 1, none⟩ = some (.int .i64 C.P) ∧ w'.cell? ⟨w.heap.size, 2, none⟩ = some (.int .i64 C.Z) ∧ w'.cell? ⟨w.heap.size, 3, none⟩ = some (.slice X.ca X.cl.length X.cc) ∧ w'.cell? ⟨w.heap.size, 4, none⟩ = some (.slice X.fa X.fl.length X.fc) ∧ w'.cell? ⟨w.heap.size, 5, none⟩ = some (.slice X.ba X.bn X.bc) ∧ w'.cell? ⟨w.heap.size, 6, none⟩ = some (.slice (some ⟨X.gp, 0, none⟩) (C.B * C.P) X.cp) ∧ w'.cell? ⟨w.heap.size, 7, none⟩ = some (.slice (some ⟨X.gw, 0, none⟩) C.B X.cw) ∧ w'.cell? ⟨w.heap.size, 8, none⟩ = some (.slice (some ⟨X.gd, 0, none⟩) C.B X.cd) ∧ w'.cell? ⟨w.heap.size, 9, none⟩ = some (.slice (some ⟨X.gm, 0, none⟩) C.B X.cm) ∧ w'.cell? ⟨w.heap.size, 10, none⟩ = some (.int .i64 C.did) ∧ w'.cell? ⟨w.heap.size, 11, none⟩ = some (.bool C.off)) ∧ (w'.cell? ⟨w.heap.size + 1, 0, none⟩ = some (.int .i64 K) ∧ w'.cell? ⟨w.heap.size + 1, 1, none⟩ = some (.int .i64 b) ∧ w'.cell? ⟨w.heap.size + 1, 2, none⟩ = some (.int .i64 p)) ∧ Dq w w.heap.size X C K b p f w') (by kernel_rfl) (dqm_of HQ.out) (fun hHeld => ?_)
        refine wpAnyH_take (i := 0) (oi := { dst := some 250, op := Op.load 39 (Operand.tmp 3), type := 39, pos := "law.go:196", after := #[], guard := none }) (v := ?vv0) rfl (by kernel_rfl) (by kernel_rfl) (by kernel_rfl) (fun _ _ _ h => h) (Or.inl ⟨by rfl, ?yy0⟩) hHeld ?rr0
        case yy0 => (intro w0 hSw; (try dsimp only at hSw); go_simp; try with_reducible rfl)
        try simp only [Act.put, List.setIfInBounds_toArray, List.set_cons_zero, List.set_cons_succ]
        refine wpAnyH_take (i := 1) (oi := { dst := some 251, op := Op.move (Operand.tmp 1), type := 30, pos := "law.go:196", after := #[], guard := none }) (v := ?vv1) rfl (by kernel_rfl) (by kernel_rfl) (by kernel_rfl) (fun _ _ _ h => h) (Or.inl ⟨by rfl, ?yy1⟩) hHeld ?rr1
        case yy1 => (intro w0 hSw; (try dsimp only at hSw); go_simp; try with_reducible rfl)
        try simp only [Act.put, List.setIfInBounds_toArray, List.set_cons_zero, List.set_cons_succ]
        refine wpAnyH_take (i := 2) (oi := { dst := some 252, op := Op.fieldAddr 44 (Operand.tmp 5) 1, type := 0, pos := "law.go:196", after := #[], guard := none }) (v := ?vv2) rfl (by kernel_rfl) (by kernel_rfl) (by kernel_rfl) (fun _ _ _ h => h) (Or.inl ⟨by rfl, ?yy2⟩) hHeld ?rr2
        case yy2 => (intro w0 hSw; (try dsimp only at hSw); go_simp; try with_reducible rfl)
        try simp only [Act.put, List.setIfInBounds_toArray, List.set_cons_zero, List.set_cons_succ]
        refine wpAnyH_take (i := 3) (oi := { dst := some 253, op := Op.load 3 (Operand.tmp 252), type := 3, pos := "law.go:196", after := #[{ on := 2, ground := Ground.data }], guard := none }) (v := ?vv3) rfl (by kernel_rfl) (by kernel_rfl) (by kernel_rfl) (fun _ _ _ h => h) (Or.inl ⟨by rfl, ?yy3⟩) hHeld ?rr3
        case yy3 => (intro w0 hSw; (try dsimp only at hSw); go_simp; try with_reducible rfl)
        try simp only [Act.put, List.setIfInBounds_toArray, List.set_cons_zero, List.set_cons_succ]
        refine wpAnyH_take (i := 4) (oi := { dst := some 254, op := Op.fieldAddr 44 (Operand.tmp 5) 2, type := 0, pos := "law.go:196", after := #[], guard := none }) (v := ?vv4) rfl (by kernel_rfl) (by kernel_rfl) (by kernel_rfl) (fun _ _ _ h => h) (Or.inl ⟨by rfl, ?yy4⟩) hHeld ?rr4
        case yy4 => (intro w0 hSw; (try dsimp only at hSw); go_simp; try with_reducible rfl)
        try simp only [Act.put, List.setIfInBounds_toArray, List.set_cons_zero, List.set_cons_succ]
        refine wpAnyH_take (i := 5) (oi := { dst := some 255, op := Op.load 3 (Operand.tmp 254), type := 3, pos := "law.go:196", after := #[{ on := 4, ground := Ground.data }], guard := none }) (v := ?vv5) rfl (by kernel_rfl) (by kernel_rfl) (by kernel_rfl) (fun _ _ _ h => h) (Or.inl ⟨by rfl, ?yy5⟩) hHeld ?rr5
        case yy5 => (intro w0 hSw; (try dsimp only at hSw); go_simp; try with_reducible rfl)
        try simp only [Act.put, List.setIfInBounds_toArray, List.set_cons_zero, List.set_cons_succ]
        refine wpAnyH_take (i := 6) (oi := { dst := some 256, op := Op.move (Operand.tmp 10), type := 9, pos := "law.go:196", after := #[], guard := none }) (v := ?vv6) rfl (by kernel_rfl) (by kernel_rfl) (by kernel_rfl) (fun _ _ _ h => h) (Or.inl ⟨by rfl, ?yy6⟩) hHeld ?rr6
        case yy6 => (intro w0 hSw; (try dsimp only at hSw); go_simp; try with_reducible rfl)
        try simp only [Act.put, List.setIfInBounds_toArray, List.set_cons_zero, List.set_cons_succ]
        refine wpAnyH_take (i := 7) (oi := { dst := some 257, op := Op.move (Operand.tmp 11), type := 9, pos := "law.go:196", after := #[], guard := none }) (v := ?vv7) rfl (by kernel_rfl) (by kernel_rfl) (by kernel_rfl) (fun _ _ _ h => h) (Or.inl ⟨by rfl, ?yy7⟩) hHeld ?rr7
        case yy7 => (intro w0 hSw; (try dsimp only at hSw); go_simp; try with_reducible rfl)
        try simp only [Act.put, List.setIfInBounds_toArray, List.set_cons_zero, List.set_cons_succ]
        refine wpAnyH_take (i := 9) (oi := { dst := some 259, op := Op.move (Operand.tmp 12), type := 31, pos := "law.go:196", after := #[{ on := 11, ground := Ground.gcOnly Departure.lateStores }], guard := none }) (v := ?vv9) rfl (by kernel_rfl) (by kernel_rfl) (by kernel_rfl) (fun _ _ _ h => h) (Or.inl ⟨by rfl, ?yy9⟩) hHeld ?rr9
        case yy9 => (intro w0 hSw; (try dsimp only at hSw); go_simp; try with_reducible rfl)
        try simp only [Act.put, List.setIfInBounds_toArray, List.set_cons_zero, List.set_cons_succ]
        refine wpAnyH_ready (rs := [8]) (by kernel_rfl) (by simp) ?_
        refine AllReadyH.cons (o := { dst := some 258, op := Op.call { callee := Callee.value (Operand.func 17), args := #[Operand.tmp 251, Operand.tmp 253, Operand.tmp 255, Operand.tmp 256, Operand.tmp 257], argTypes := #[30, 3, 3, 9, 9] }, type := 31, pos := "law.go:196", after := #[{ on := 1, ground := Ground.data }, { on := 3, ground := Ground.data }, { on := 5, ground := Ground.data }, { on := 6, ground := Ground.data }, { on := 7, ground := Ground.data }], guard := none }) rfl (fun K9 hK9 => ?_) AllReadyH.nil
        go_simp
        go_wp2_with (go_at_call 17; refine (prog_any HD.out.drew.chip b p D E (by omega)).mono ?_; rintro x w5 ⟨rfl, ch5, k5⟩; rw [HEC.out] at ch5 ⊢)
        refine hK9.out _ _ (dqm_keep hHeld.2.2 k5 hOw.out (by omega)) (fun hHeld => ?_)
        clear hK9 K9
        try simp only [Act.put, List.setIfInBounds_toArray, List.set_cons_zero, List.set_cons_succ]
        refine wpAnyH_take (i := 10) (oi := { dst := some 260, op := Op.binOp BinOp.eql 31 (Operand.tmp 258) (Operand.tmp 259) 31, type := 4, pos := "law.go:196", after := #[{ on := 8, ground := Ground.data }, { on := 9, ground := Ground.data }, { on := 11, ground := Ground.gcOnly Departure.lateStores }], guard := none }) (v := ?vv10) rfl (by kernel_rfl) (by kernel_rfl) (by kernel_rfl) (fun _ _ _ h => h) (Or.inl ⟨by rfl, ?yy10⟩) hHeld ?rr10
        case yy10 => (intro w0 hSw; (try dsimp only at hSw); go_simp; try with_reducible rfl)
        try simp only [Act.put, List.setIfInBounds_toArray, List.set_cons_zero, List.set_cons_succ]
        have hres5 := (k5.block _ (Array.getElem?_eq_some_iff.1 HRES.out).1 (fun x => by have := hOw.out _ x; omega)).trans HRES.out
        obtain ⟨s0, s1, s2, s3, s4, s5, s6, s7, s8, s9, s10, s11, sf⟩ := z39_cells hres5
        have HRES5 := Hid.mk hres5
        clear hres5
        refine wpAnyH_ready (rs := [11]) (by kernel_rfl) (by simp) ?_
        refine AllReadyH.cons (o := { dst := none, op := Op.store 39 (Operand.tmp 6) (Operand.tmp 250), type := 0, pos := "law.go:196", after := #[{ on := 0, ground := Ground.data }, { on := 8, ground := Ground.chain }, { on := 0, ground := Ground.phase }, { on := 1, ground := Ground.textOnly Departure.lateStores }, { on := 2, ground := Ground.textOnly Departure.lateStores }, { on := 3, ground := Ground.textOnly Departure.lateStores }, { on := 4, ground := Ground.textOnly Departure.lateStores }, { on := 5, ground := Ground.textOnly Departure.lateStores }, { on := 6, ground := Ground.textOnly Departure.lateStores }, { on := 7, ground := Ground.textOnly Departure.lateStores }, { on := 8, ground := Ground.textOnly Departure.lateStoresUnsure }, { on := 9, ground := Ground.textOnly Departure.lateStores }, { on := 10, ground := Ground.textOnly Departure.lateStores }], guard := none }) rfl (fun K9 hK9 => ?_) AllReadyH.nil
        go_simp
        refine hK9.out _ _ (dqm_store (by omega) _ _ _ _ _ _ _ _ _ _ _ _ hHeld.2.2) (fun hHeld => ?_)
        clear hK9 K9
        try simp only [Act.put, List.setIfInBounds_toArray, List.set_cons_zero, List.set_cons_succ]
        refine wpAnyH_take (i := 12) (oi := { dst := some 7, op := Op.assign (Operand.tmp 260), type := 4, pos := "law.go:196", after := #[{ on := 10, ground := Ground.data }, { on := 11, ground := Ground.chain }, { on := 0, ground := Ground.phase }, { on := 1, ground := Ground.phase }, { on := 2, ground := Ground.phase }, { on := 3, ground := Ground.phase }, { on := 4, ground := Ground.phase }, { on := 5, ground := Ground.phase }, { on := 6, ground := Ground.phase }, { on := 7, ground := Ground.phase }, { on := 8, ground := Ground.phase }, { on := 9, ground := Ground.phase }, { on := 10, ground := Ground.phase }, { on := 11, ground := Ground.phase }], guard := none }) (v := ?vv12) rfl (by kernel_rfl) (by kernel_rfl) (by kernel_rfl) (fun _ _ _ h => h) (Or.inl ⟨by rfl, ?yy12⟩) hHeld ?rr12
        case yy12 => (intro w0 hSw; (try dsimp only at hSw); go_simp; try with_reducible rfl)
        try simp only [Act.put, List.setIfInBounds_toArray, List.set_cons_zero, List.set_cons_succ]
        refine wpAnyH_done (by kernel_rfl) ?_ _
        clear hHeld
        have eW : ((((((((((((w5.setCell ⟨w.heap.size + 1 + 1, 0, none⟩ (.int .i64 C.B)).setCell ⟨w.heap.size + 1 + 1, 1, none⟩ (.int .i64 C.P)).setCell ⟨w.heap.size + 1 + 1, 2, none⟩ (.int .i64 C.Z)).setCell ⟨w.heap.size + 1 + 1, 3, none⟩ (.slice X.ca X.cl.length X.cc)).setCell ⟨w.heap.size + 1 + 1, 4, none⟩ (.slice X.fa X.fl.length X.fc)).setCell ⟨w.heap.size + 1 + 1, 5, none⟩ (.slice X.ba X.bn X.bc)).setCell ⟨w.heap.size + 1 + 1, 6, none⟩ (.slice (some ⟨X.gp, 0, none⟩) (C.B * C.P) X.cp)).setCell ⟨w.heap.size + 1 + 1, 7, none⟩ (.slice (some ⟨X.gw, 0, none⟩) C.B X.cw)).setCell ⟨w.heap.size + 1 + 1, 8, none⟩ (.slice (some ⟨X.gd, 0, none⟩) C.B X.cd)).setCell ⟨w.heap.size + 1 + 1, 9, none⟩ (.slice (some ⟨X.gm, 0, none⟩) C.B X.cm)).setCell ⟨w.heap.size + 1 + 1, 10, none⟩ (.int .i64 C.did)).setCell ⟨w.heap.size + 1 + 1, 11, none⟩ (.bool C.off)) = setMd w5 (w.heap.size + 1 + 1) X C := rfl
        rw [eW]
        clear eW s0 s1 s2 s3 s4 s5 s6 s7 s8 s9 s10 s11 sf
        have hF := done_of HC.out.1 HC.out.2 HRES5.out ((HD.out.drew.kp).trans k5) ch5 rfl (HD.out.drew.md.kept k5) (Xn.refl w5 X) (Array.getElem?_eq_some_iff.1 HRES5.out).1
        generalize setMd w5 (w.heap.size + 1 + 1) X C = W9 at *
        have HF := Hid.mk hF
        clear hF
        go_wp2_with fail
        exact bodyPost_ret (results_mt rfl rfl HF.out.1 rfl) rfl ⟨X, rfl, HF.out.2.1, HF.out.2.2.1, HF.out.2.2.2⟩


set_option maxRecDepth 100000 in
set_option maxHeartbeats 4000000 in
theorem do_g1 {w : World} {L X C} (hc : Chip w L C) (hm : Md w (L.own C.B) X C) (K b p f : Int) (hf : 0 ≤ f ∧ f < 256) (h4 : ¬ K = 4) (h5 : ¬ K = 5) (h6 : ¬ K = 6) (h7 : ¬ K = 7) (h8 : ¬ K = 8) (h9 : ¬ K = 9) (n q : Nat) (hbn : b = n) (hpq : p = q) (hn : n < C.B) (hq : q < C.P) (hr : refP C b p = 0) (hd : C.did < 999) :
    Calls Try.prog 13 #[.agg (mdA X C), .pointer (some ⟨L.a, 0, none⟩), .agg #[.int .i64 K, .int .i64 b, .int .i64 p, .int .u8 f]] w fun e w' => ∃ X', e = .returned (.tuple #[.agg (mdA X' ((progM C n q (rep C.Z (u8 f) ++ rep 32 (u8 ((f + 1) % 256)))).1)), .bool true]) ∧ Chip w' L ((progM C n q (rep C.Z (u8 f) ++ rep 32 (u8 ((f + 1) % 256)))).1) ∧ Md w' (L.own C.B) X' ((progM C n q (rep C.Z (u8 f) ++ rep 32 (u8 ((f + 1) % 256)))).1) ∧ Kp (L.own C.B) w w' ∧ Xf X X' := by
  have hD := Dw.start K b p f hc hm
  have hgeo := hm.geo
  have HC := Hid.mk (And.intro hc hm)
  have kn4 : (K != 4) = true := bne_iff_ne.2 h4
  have ke4 : (K == 4) = false := beq_eq_false_iff_ne.2 h4
  have kn5 : (K != 5) = true := bne_iff_ne.2 h5
  have ke5 : (K == 5) = false := beq_eq_false_iff_ne.2 h5
  have kn6 : (K != 6) = true := bne_iff_ne.2 h6
  have ke6 : (K == 6) = false := beq_eq_false_iff_ne.2 h6
  have kn7 : (K != 7) = true := bne_iff_ne.2 h7
  have ke7 : (K == 7) = false := beq_eq_false_iff_ne.2 h7
  have kn8 : (K != 8) = true := bne_iff_ne.2 h8
  have ke8 : (K == 8) = false := beq_eq_false_iff_ne.2 h8
  have kn9 : (K != 9) = true := bne_iff_ne.2 h9
  have ke9 : (K == 9) = false := beq_eq_false_iff_ne.2 h9
  have HBN := Hid.mk (And.intro hbn (And.intro hpq (And.intro hn (And.intro hq hr))))
  clear hbn hpq hn hq hr
  obtain ⟨f1, hf1⟩ : ∃ f1 : Int, f1 = (f + 1) % 256 := ⟨_, rfl⟩
  have hf1b : 0 ≤ f1 ∧ f1 < 256 := by omega
  have hf2 : IntKind.u8.wrap (f + 1) = f1 := by rw [hf1]; simp [IntKind.wrap, IntKind.bits, IntKind.signed]
  obtain ⟨D, hDd⟩ : ∃ D, D = rep C.Z (u8 f) := ⟨_, rfl⟩
  obtain ⟨E, hE⟩ : ∃ E, E = rep 32 (u8 f1) := ⟨_, rfl⟩
  have eD : rep ((C.Z : Int).toNat) (u8 f) = D := by rw [hDd, Int.toNat_natCast]
  have eE : rep ((32 : Int).toNat) (u8 f1) = E := by rw [hE]; rfl
  have HX := Hid.mk (And.intro hDd (And.intro hE hf1))
  clear hDd hE
  go_enter Try.func13, Try.ntmps13
  go_upto_region 1 with fail
  generalize ((w.alloc (.cells (mdA X C) 39)).alloc (.cells #[.int .i64 K, .int .i64 b, .int .i64 p, .int .u8 f] 44)).alloc (.cells #[.int .i64 0, .int .i64 0, .int .i64 0, .slice none 0 0, .slice none 0 0, .slice none 0 0, .slice none 0 0, .slice none 0 0, .slice none 0 0, .slice none 0 0, .int .i64 0, .bool false] 39) = W0 at *
  obtain ⟨p0, p1, p2, p3, p4, p5, p6, p7, p8, p9, p10, p11⟩ := hD.own.cells
  obtain ⟨q0, q1, q2, q3⟩ := act_cells hD.act
  have HD := Hid.mk hD
  clear hD hc hm hf1
  go_cut [8] from 27 to 37 (fun v wx => v = .bool (blkB C b) ∧ W0 = wx)
  case first =>
    by_cases h1 : 0 ≤ b
    · by_cases h2 : b < C.B
      · go_wp2_with fail
        go_meet
        exact ⟨by rw [blkB_true h1 h2], rfl⟩
      · go_wp2_with fail
        go_meet
        exact ⟨by rw [blkB_false2 (by omega)], rfl⟩
    · go_wp2_with fail
      go_meet
      exact ⟨by rw [blkB_false1 (by omega)], rfl⟩
  case rest =>
    obtain ⟨rfl, rfl⟩ := hcut
    obtain ⟨BB, hBB⟩ : ∃ BB, blkB C b = BB := ⟨_, rfl⟩
    rw [hBB]
    have HBB := Hid.mk hBB
    clear hBB
    go_upto_region 2 with fail
    go_cut [9] from 38 to 51 (fun v wx => v = .bool (pgB C b p) ∧ W0 = wx)
    case first =>
      cases BB with
      | false =>
        go_wp2_with fail
        go_meet
        refine ⟨?_, rfl⟩
        cases hP : pgB C b p with
        | false => rfl
        | true =>
          have h1 := pgB_iff.1 hP
          have hB := HBB.out
          rw [blkB_iff.2 h1.1] at hB
          cases hB
      | true =>
        have hb2 := Hid.mk (blkB_iff.1 HBB.out)
        by_cases h1 : 0 ≤ p
        · by_cases h2 : p < C.P
          · go_wp2_with fail
            go_meet
            exact ⟨by rw [pgB_iff.2 ⟨hb2.out, h1, h2⟩], rfl⟩
          · go_wp2_with fail
            go_meet
            refine ⟨?_, rfl⟩
            cases hP : pgB C b p with
            | false => rfl
            | true => exact absurd (pgB_iff.1 hP).2.2 (by omega)
        · go_wp2_with fail
          go_meet
          refine ⟨?_, rfl⟩
          cases hP : pgB C b p with
          | false => rfl
          | true => exact absurd (pgB_iff.1 hP).2.1 (by omega)
    case rest =>
      obtain ⟨rfl, rfl⟩ := hcut
      obtain ⟨PP, hPP⟩ : ∃ PP, pgB C b p = PP := ⟨_, rfl⟩
      rw [hPP]
      have HPP := Hid.mk hPP
      clear hPP
      go_upto_region 3 with fail
      have hS1 := Hid.mk (dw_of HD.out.drew)
      go_region_held3 (fun w' => w'.cell? ⟨w.heap.size, 2, none⟩ = some (.int .i64 C.Z) ∧ w'.cell? ⟨w.heap.size + 1, 3, none⟩ = some (.int .u8 f) ∧ Dw w L X C K b p f w') (first | assumption | exact hS1.out | exact dw_keep (by assumption) (by assumption) | fail)
        (first | (go_at_call 18; refine (textI _ (by omega) (by omega) _ (by first | exact hf | exact hf1b) _).mono ?_; rintro x w3 ⟨rfl, b3⟩; (first | rw [eD] | rw [eE])))
      have hD3 : Dw w L X C K b p f w3 := (by assumption : _ ∧ _ ∧ Dw w L X C K b p f w3).2.2
      clear p0 p1 p2 p3 p4 p5 p6 p7 p8 p9 p10 p11 q0 q1 q2 q3 hS1 HD eD eE hf2
      obtain ⟨p0, p1, p2, p3, p4, p5, p6, p7, p8, p9, p10, p11⟩ := hD3.own.cells
      obtain ⟨q0, q1, q2, q3⟩ := act_cells hD3.act
      have HD := Hid.mk hD3
      clear hD3
      obtain ⟨R, hR⟩ : ∃ R, refP C b p = R := ⟨_, rfl⟩
      obtain ⟨OO, hOO⟩ : ∃ OO, C.off = OO := ⟨_, rfl⟩
      rw [hOO] at p11
      have HOO := Hid.mk hOO
      have HR := Hid.mk hR
      clear hOO hR
      go_upto_block 0 with fail
      go_cut [12] from 62 to 86 (fun v wx => v = .int .i64 R ∧ w3 = wx)
      case first =>
        cases OO with
        | true =>
          go_wp2_with fail
          go_meet
          exact ⟨by rw [← HR.out, refP_off HOO.out], rfl⟩
        | false =>
          cases BB with
          | false =>
            go_wp2_with fail
            go_meet
            exact ⟨by rw [← HR.out, refP_no HOO.out HBB.out], rfl⟩
          | true =>
            cases PP with
            | false =>
              go_wp2_with fail
              go_meet
              exact ⟨by rw [← HR.out, refP_no2 HOO.out HBB.out HPP.out], rfl⟩
            | true =>
              go_wp2_with fail
              go_meet
              exact ⟨by rw [← HR.out, refP_yes HOO.out HBB.out HPP.out], rfl⟩
      case rest =>
        obtain ⟨rfl, rfl⟩ := hcut
        rw [← HOO.out] at p11
        have hOw : Hid (∀ i, L.own C.B i → i < w.heap.size) := fun i hi => HC.out.1.lt hi
        have hR0 : R = 0 := by rw [← HR.out]; exact HBN.out.2.2.2.2
        subst hR0
        have zD : D.size = C.Z := by rw [HX.out.1, rep_size]
        have zE : E.size = 32 := by rw [HX.out.2.1, rep_size]
        obtain ⟨C2, R2, hEC⟩ : ∃ C2 R2, progM C n q (D ++ E) = (C2, R2) := ⟨_, _, rfl⟩
        have hPC : progC C b p D E = (C2, R2) := by
          rw [← hEC]
          obtain ⟨hbn, hpq, hn, hq, hr⟩ := HBN.out
          subst hbn
          subst hpq
          exact progC_progM hr zD zE
        have hP2 : progM C n q (rep C.Z (u8 f) ++ rep 32 (u8 ((f + 1) % 256))) = (C2, R2) := by
          rw [← hEC, HX.out.1, HX.out.2.1, HX.out.2.2]
        have hB2 : Hid (C2.B = C.B) := by
          have := progM_B C n q (D ++ E)
          rw [hEC] at this
          exact this
        have hem : ∀ w5, Md w5 (L.own C.B) X C → (∀ i, L.own C.B i → i < w5.heap.size) → Calls Try.prog 32 #[.agg (mdA X C), .int .i64 b, .int .i64 p, .string (D ++ E)] w5 fun e w' => ∃ X', e = .returned (.tuple #[.agg (mdA X' C2), .int .i64 R2]) ∧ Md w' (L.own C.B) X' C2 ∧ Below w5.heap.size w5 w' ∧ Xn w5 X X' := by
          intro w5 h1 h2
          obtain ⟨hbn, hpq, hn, hq, hr⟩ := HBN.out
          have h3 := progm_any h1 h2 n q hn hq (D ++ E) (by rw [ByteArray.size_append, zD, zE]) hd
          rw [hEC] at h3
          subst hbn
          subst hpq
          exact h3
        have HEM := Hid.mk hem
        have HPC := Hid.mk hPC
        have HEC := Hid.mk hP2
        clear hem hPC hEC hP2
        have lT : w.heap.size + 1 + 1 < w3.heap.size := (Array.getElem?_eq_some_iff.1 HD.out.res).1
        go_upto_region 43 with (go_at_call 32; refine (HEM.out _ HD.out.md (fun i hi => HD.out.chip.lt hi)).mono ?_; rintro e w4 ⟨X2, rfl, md4, b4, x4⟩; unfold mdA)
        have hb6 : Below w3.heap.size w3 (w4.alloc (.cells #[.int .i64 C2.B, .int .i64 C2.P, .int .i64 C2.Z, .slice X2.ca X2.cl.length X2.cc, .slice X2.fa X2.fl.length X2.fc, .slice X2.ba X2.bn X2.bc, .slice (some ⟨X2.gp, 0, none⟩) (C2.B * C2.P) X2.cp, .slice (some ⟨X2.gw, 0, none⟩) C2.B X2.cw, .slice (some ⟨X2.gd, 0, none⟩) C2.B X2.cd, .slice (some ⟨X2.gm, 0, none⟩) C2.B X2.cm, .int .i64 C2.did, .bool C2.off] 39)) := b4.alloc b4.size _
        have hD6 := HD.out.call hb6
        have hN6 : MdAt (w4.alloc (.cells #[.int .i64 C2.B, .int .i64 C2.P, .int .i64 C2.Z, .slice X2.ca X2.cl.length X2.cc, .slice X2.fa X2.fl.length X2.fc, .slice X2.ba X2.bn X2.bc, .slice (some ⟨X2.gp, 0, none⟩) (C2.B * C2.P) X2.cp, .slice (some ⟨X2.gw, 0, none⟩) C2.B X2.cw, .slice (some ⟨X2.gd, 0, none⟩) C2.B X2.cd, .slice (some ⟨X2.gm, 0, none⟩) C2.B X2.cm, .int .i64 C2.did, .bool C2.off] 39)) w4.heap.size X2 C2 := heap_alloc_new w4 _
        have md6 := md4.alloc (.cells #[.int .i64 C2.B, .int .i64 C2.P, .int .i64 C2.Z, .slice X2.ca X2.cl.length X2.cc, .slice X2.fa X2.fl.length X2.fc, .slice X2.ba X2.bn X2.bc, .slice (some ⟨X2.gp, 0, none⟩) (C2.B * C2.P) X2.cp, .slice (some ⟨X2.gw, 0, none⟩) C2.B X2.cw, .slice (some ⟨X2.gd, 0, none⟩) C2.B X2.cd, .slice (some ⟨X2.gm, 0, none⟩) C2.B X2.cm, .int .i64 C2.did, .bool C2.off] 39)
        have lN : w3.heap.size ≤ w4.heap.size := b4.size
        generalize (w4.alloc (.cells #[.int .i64 C2.B, .int .i64 C2.P, .int .i64 C2.Z, .slice X2.ca X2.cl.length X2.cc, .slice X2.fa X2.fl.length X2.fc, .slice X2.ba X2.bn X2.bc, .slice (some ⟨X2.gp, 0, none⟩) (C2.B * C2.P) X2.cp, .slice (some ⟨X2.gw, 0, none⟩) C2.B X2.cw, .slice (some ⟨X2.gd, 0, none⟩) C2.B X2.cd, .slice (some ⟨X2.gm, 0, none⟩) C2.B X2.cm, .int .i64 C2.did, .bool C2.off] 39)) = W6 at *
        generalize w4.heap.size = N at *
        have HQ : Hid (Dq w N X2 C2 K b p f W6.drew) := ⟨hN6, hD6.act, _, _, _, _, _, _, _, _, _, _, _, _, hD6.res⟩
        have HRES := Hid.mk hD6.drew.res
        have HM6 := Hid.mk (And.intro md6.drew (And.intro hD6.drew x4))
        clear hb6 hD6 hN6 md6 md4 b4 x4 p0 p1 p2 p3 p4 p5 p6 p7 p8 p9 p10 p11 q0 q1 q2 q3
        go_upto_region 43 with fail
        refine wp_region_held_drew (S := fun w' => (w'.cell? ⟨N, 0, none⟩ = some (.int .i64 C2.B) ∧ w'.cell? ⟨N, 1, none⟩ = some (.int .i64 C2.P) ∧ w'.cell? ⟨N, 2, none⟩ = some (.int .i64 C2.Z) ∧ w'.cell? ⟨N, 3, none⟩ = some (.slice X2.ca X2.cl.length X2.cc) ∧ w'.cell? ⟨N, 4, none⟩ = some (.slice X2.fa X2.fl.length X2.fc) ∧ w'.cell? ⟨N, 5, none⟩ = some (.slice X2.ba X2.bn X2.bc) ∧ w'.cell? ⟨N, 6, none⟩ = some (.slice (some ⟨X2.gp, 0, none⟩) (C2.B * C2.P) X2.cp) ∧ w'.cell? ⟨N, 7, none⟩ = some (.slice (some ⟨X2.gw, 0, none⟩) C2.B X2.cw) ∧ w'.cell? ⟨N, 8, none⟩ = some (.slice (some ⟨X2.gd, 0, none⟩) C2.B X2.cd) ∧ w'.cell? ⟨N, 9, none⟩ = some (.slice (some ⟨X2.gm, 0, none⟩) C2.B X2.cm) ∧ w'.cell? ⟨N, 10, none⟩ = some (.int .i64 C2.did) ∧ w'.cell? ⟨N, 11, none⟩ = some (.bool C2.off)) ∧ (w'.cell? ⟨w.heap.size + 1, 0, none⟩ = some (.int .i64 K) ∧ w'.cell? ⟨w.heap.size + 1, 1, none⟩ = some (.int .i64 b) ∧ w'.cell? ⟨w.heap.size + 1, 2, none⟩ = some (.int .i64 p)) ∧ Dq w N X2 C2 K b p f w') (by kernel_rfl) (dqm_of HQ.out) (fun hHeld => ?_)
        refine wpAnyH_take (i := 0) (oi := { dst := some 273, op := Op.load 39 (Operand.tmp 25), type := 39, pos := "law.go:199", after := #[], guard := none }) (v := ?vv0) rfl (by kernel_rfl) (by kernel_rfl) (by kernel_rfl) (fun _ _ _ h => h) (Or.inl ⟨by rfl, ?yy0⟩) hHeld ?rr0
        case yy0 => (intro w0 hSw; (try dsimp only at hSw); go_simp; try with_reducible rfl)
        try simp only [Act.put, List.setIfInBounds_toArray, List.set_cons_zero, List.set_cons_succ]
        refine wpAnyH_take (i := 1) (oi := { dst := some 274, op := Op.move (Operand.tmp 1), type := 30, pos := "law.go:199", after := #[], guard := none }) (v := ?vv1) rfl (by kernel_rfl) (by kernel_rfl) (by kernel_rfl) (fun _ _ _ h => h) (Or.inl ⟨by rfl, ?yy1⟩) hHeld ?rr1
        case yy1 => (intro w0 hSw; (try dsimp only at hSw); go_simp; try with_reducible rfl)
        try simp only [Act.put, List.setIfInBounds_toArray, List.set_cons_zero, List.set_cons_succ]
        refine wpAnyH_take (i := 2) (oi := { dst := some 275, op := Op.fieldAddr 44 (Operand.tmp 5) 1, type := 0, pos := "law.go:199", after := #[], guard := none }) (v := ?vv2) rfl (by kernel_rfl) (by kernel_rfl) (by kernel_rfl) (fun _ _ _ h => h) (Or.inl ⟨by rfl, ?yy2⟩) hHeld ?rr2
        case yy2 => (intro w0 hSw; (try dsimp only at hSw); go_simp; try with_reducible rfl)
        try simp only [Act.put, List.setIfInBounds_toArray, List.set_cons_zero, List.set_cons_succ]
        refine wpAnyH_take (i := 3) (oi := { dst := some 276, op := Op.load 3 (Operand.tmp 275), type := 3, pos := "law.go:199", after := #[{ on := 2, ground := Ground.data }], guard := none }) (v := ?vv3) rfl (by kernel_rfl) (by kernel_rfl) (by kernel_rfl) (fun _ _ _ h => h) (Or.inl ⟨by rfl, ?yy3⟩) hHeld ?rr3
        case yy3 => (intro w0 hSw; (try dsimp only at hSw); go_simp; try with_reducible rfl)
        try simp only [Act.put, List.setIfInBounds_toArray, List.set_cons_zero, List.set_cons_succ]
        refine wpAnyH_take (i := 4) (oi := { dst := some 277, op := Op.fieldAddr 44 (Operand.tmp 5) 2, type := 0, pos := "law.go:199", after := #[], guard := none }) (v := ?vv4) rfl (by kernel_rfl) (by kernel_rfl) (by kernel_rfl) (fun _ _ _ h => h) (Or.inl ⟨by rfl, ?yy4⟩) hHeld ?rr4
        case yy4 => (intro w0 hSw; (try dsimp only at hSw); go_simp; try with_reducible rfl)
        try simp only [Act.put, List.setIfInBounds_toArray, List.set_cons_zero, List.set_cons_succ]
        refine wpAnyH_take (i := 5) (oi := { dst := some 278, op := Op.load 3 (Operand.tmp 277), type := 3, pos := "law.go:199", after := #[{ on := 4, ground := Ground.data }], guard := none }) (v := ?vv5) rfl (by kernel_rfl) (by kernel_rfl) (by kernel_rfl) (fun _ _ _ h => h) (Or.inl ⟨by rfl, ?yy5⟩) hHeld ?rr5
        case yy5 => (intro w0 hSw; (try dsimp only at hSw); go_simp; try with_reducible rfl)
        try simp only [Act.put, List.setIfInBounds_toArray, List.set_cons_zero, List.set_cons_succ]
        refine wpAnyH_take (i := 6) (oi := { dst := some 279, op := Op.move (Operand.tmp 10), type := 9, pos := "law.go:199", after := #[], guard := none }) (v := ?vv6) rfl (by kernel_rfl) (by kernel_rfl) (by kernel_rfl) (fun _ _ _ h => h) (Or.inl ⟨by rfl, ?yy6⟩) hHeld ?rr6
        case yy6 => (intro w0 hSw; (try dsimp only at hSw); go_simp; try with_reducible rfl)
        try simp only [Act.put, List.setIfInBounds_toArray, List.set_cons_zero, List.set_cons_succ]
        refine wpAnyH_take (i := 7) (oi := { dst := some 280, op := Op.move (Operand.tmp 11), type := 9, pos := "law.go:199", after := #[], guard := none }) (v := ?vv7) rfl (by kernel_rfl) (by kernel_rfl) (by kernel_rfl) (fun _ _ _ h => h) (Or.inl ⟨by rfl, ?yy7⟩) hHeld ?rr7
        case yy7 => (intro w0 hSw; (try dsimp only at hSw); go_simp; try with_reducible rfl)
        try simp only [Act.put, List.setIfInBounds_toArray, List.set_cons_zero, List.set_cons_succ]
        refine wpAnyH_take (i := 9) (oi := { dst := some 282, op := Op.move (Operand.tmp 26), type := 31, pos := "law.go:199", after := #[{ on := 11, ground := Ground.gcOnly Departure.lateStores }], guard := none }) (v := ?vv9) rfl (by kernel_rfl) (by kernel_rfl) (by kernel_rfl) (fun _ _ _ h => h) (Or.inl ⟨by rfl, ?yy9⟩) hHeld ?rr9
        case yy9 => (intro w0 hSw; (try dsimp only at hSw); go_simp; try with_reducible rfl)
        try simp only [Act.put, List.setIfInBounds_toArray, List.set_cons_zero, List.set_cons_succ]
        refine wpAnyH_ready (rs := [8]) (by kernel_rfl) (by simp) ?_
        refine AllReadyH.cons (o := { dst := some 281, op := Op.call { callee := Callee.value (Operand.func 17), args := #[Operand.tmp 274, Operand.tmp 276, Operand.tmp 278, Operand.tmp 279, Operand.tmp 280], argTypes := #[30, 3, 3, 9, 9] }, type := 31, pos := "law.go:199", after := #[{ on := 1, ground := Ground.data }, { on := 3, ground := Ground.data }, { on := 5, ground := Ground.data }, { on := 6, ground := Ground.data }, { on := 7, ground := Ground.data }], guard := none }) rfl (fun K9 hK9 => ?_) AllReadyH.nil
        go_simp
        go_wp2_with (go_at_call 17; refine (prog_any HM6.out.2.1.chip b p D E (by omega)).mono ?_; rintro x w5 ⟨rfl, ch5, k5⟩; rw [HPC.out] at ch5 ⊢)
        refine hK9.out _ _ (dqm_keep hHeld.2.2 k5 hOw.out (by omega)) (fun hHeld => ?_)
        clear hK9 K9
        try simp only [Act.put, List.setIfInBounds_toArray, List.set_cons_zero, List.set_cons_succ]
        refine wpAnyH_take (i := 10) (oi := { dst := some 283, op := Op.binOp BinOp.eql 31 (Operand.tmp 281) (Operand.tmp 282) 31, type := 4, pos := "law.go:199", after := #[{ on := 8, ground := Ground.data }, { on := 9, ground := Ground.data }, { on := 11, ground := Ground.gcOnly Departure.lateStores }], guard := none }) (v := ?vv10) rfl (by kernel_rfl) (by kernel_rfl) (by kernel_rfl) (fun _ _ _ h => h) (Or.inl ⟨by rfl, ?yy10⟩) hHeld ?rr10
        case yy10 => (intro w0 hSw; (try dsimp only at hSw); go_simp; try with_reducible rfl)
        try simp only [Act.put, List.setIfInBounds_toArray, List.set_cons_zero, List.set_cons_succ]
        have hres5 := (k5.block _ (Array.getElem?_eq_some_iff.1 HRES.out).1 (fun x => by have := hOw.out _ x; omega)).trans HRES.out
        obtain ⟨s0, s1, s2, s3, s4, s5, s6, s7, s8, s9, s10, s11, sf⟩ := z39_cells hres5
        have HRES5 := Hid.mk hres5
        clear hres5
        refine wpAnyH_ready (rs := [11]) (by kernel_rfl) (by simp) ?_
        refine AllReadyH.cons (o := { dst := none, op := Op.store 39 (Operand.tmp 6) (Operand.tmp 273), type := 0, pos := "law.go:199", after := #[{ on := 0, ground := Ground.data }, { on := 8, ground := Ground.chain }, { on := 0, ground := Ground.phase }, { on := 1, ground := Ground.textOnly Departure.lateStores }, { on := 2, ground := Ground.textOnly Departure.lateStores }, { on := 3, ground := Ground.textOnly Departure.lateStores }, { on := 4, ground := Ground.textOnly Departure.lateStores }, { on := 5, ground := Ground.textOnly Departure.lateStores }, { on := 6, ground := Ground.textOnly Departure.lateStores }, { on := 7, ground := Ground.textOnly Departure.lateStores }, { on := 8, ground := Ground.textOnly Departure.lateStoresUnsure }, { on := 9, ground := Ground.textOnly Departure.lateStores }, { on := 10, ground := Ground.textOnly Departure.lateStores }], guard := none }) rfl (fun K9 hK9 => ?_) AllReadyH.nil
        go_simp
        refine hK9.out _ _ (dqm_store (by omega) _ _ _ _ _ _ _ _ _ _ _ _ hHeld.2.2) (fun hHeld => ?_)
        clear hK9 K9
        try simp only [Act.put, List.setIfInBounds_toArray, List.set_cons_zero, List.set_cons_succ]
        refine wpAnyH_take (i := 12) (oi := { dst := some 7, op := Op.assign (Operand.tmp 283), type := 4, pos := "law.go:199", after := #[{ on := 10, ground := Ground.data }, { on := 11, ground := Ground.chain }, { on := 0, ground := Ground.phase }, { on := 1, ground := Ground.phase }, { on := 2, ground := Ground.phase }, { on := 3, ground := Ground.phase }, { on := 4, ground := Ground.phase }, { on := 5, ground := Ground.phase }, { on := 6, ground := Ground.phase }, { on := 7, ground := Ground.phase }, { on := 8, ground := Ground.phase }, { on := 9, ground := Ground.phase }, { on := 10, ground := Ground.phase }, { on := 11, ground := Ground.phase }], guard := none }) (v := ?vv12) rfl (by kernel_rfl) (by kernel_rfl) (by kernel_rfl) (fun _ _ _ h => h) (Or.inl ⟨by rfl, ?yy12⟩) hHeld ?rr12
        case yy12 => (intro w0 hSw; (try dsimp only at hSw); go_simp; try with_reducible rfl)
        try simp only [Act.put, List.setIfInBounds_toArray, List.set_cons_zero, List.set_cons_succ]
        refine wpAnyH_done (by kernel_rfl) ?_ _
        clear hHeld
        have eW : ((((((((((((w5.setCell ⟨w.heap.size + 1 + 1, 0, none⟩ (.int .i64 C2.B)).setCell ⟨w.heap.size + 1 + 1, 1, none⟩ (.int .i64 C2.P)).setCell ⟨w.heap.size + 1 + 1, 2, none⟩ (.int .i64 C2.Z)).setCell ⟨w.heap.size + 1 + 1, 3, none⟩ (.slice X2.ca X2.cl.length X2.cc)).setCell ⟨w.heap.size + 1 + 1, 4, none⟩ (.slice X2.fa X2.fl.length X2.fc)).setCell ⟨w.heap.size + 1 + 1, 5, none⟩ (.slice X2.ba X2.bn X2.bc)).setCell ⟨w.heap.size + 1 + 1, 6, none⟩ (.slice (some ⟨X2.gp, 0, none⟩) (C2.B * C2.P) X2.cp)).setCell ⟨w.heap.size + 1 + 1, 7, none⟩ (.slice (some ⟨X2.gw, 0, none⟩) C2.B X2.cw)).setCell ⟨w.heap.size + 1 + 1, 8, none⟩ (.slice (some ⟨X2.gd, 0, none⟩) C2.B X2.cd)).setCell ⟨w.heap.size + 1 + 1, 9, none⟩ (.slice (some ⟨X2.gm, 0, none⟩) C2.B X2.cm)).setCell ⟨w.heap.size + 1 + 1, 10, none⟩ (.int .i64 C2.did)).setCell ⟨w.heap.size + 1 + 1, 11, none⟩ (.bool C2.off)) = setMd w5 (w.heap.size + 1 + 1) X2 C2 := rfl
        rw [eW]
        clear eW s0 s1 s2 s3 s4 s5 s6 s7 s8 s9 s10 s11 sf
        have hF := done_of HC.out.1 HC.out.2 HRES5.out ((HM6.out.2.1.kp).trans k5) ch5 hB2.out (HM6.out.1.kept k5) HM6.out.2.2 lT
        generalize setMd w5 (w.heap.size + 1 + 1) X2 C2 = W9 at *
        have HF := Hid.mk hF
        clear hF
        go_wp2_with fail
        exact bodyPost_ret (results_mt rfl rfl HF.out.1 rfl) rfl (by rw [HEC.out]; exact ⟨X2, rfl, HF.out.2.1, HF.out.2.2.1, HF.out.2.2.2⟩)
end Go.Proofs.Ytkfkepjegdaadaa
