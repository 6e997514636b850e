/-
  Records are written as pages that belong together: the walk of CkptWrites. Condition: the table's cells hold what the text lays.
-/
import Derived.Test.YtbhggcleijjofaaDoorAwk
import Derived.Test.YtbhggcleijjofaaDoorGPck
namespace Go.Proofs.YtbhggcleijjofaaDoor
open Go Go.RowKit
set_option maxRecDepth 100000

theorem low_u (n : Int) (m : Nat) (hm : m ≤ 1000000) : ∃ k : Nat, bits .and .u64 n (m : Int) = (k : Int) ∧ k ≤ m := by
  unfold bits
  simp only []
  have h : (BitVec.ofInt IntKind.u64.bits n &&& BitVec.ofInt IntKind.u64.bits (m : Int)).toNat ≤ m := by
    rw [BitVec.toNat_and]
    refine Nat.le_trans Nat.and_le_right ?_
    rw [BitVec.toNat_ofInt]
    show ((m : Int) % ((2 ^ 64 : Nat) : Int)).toNat ≤ m
    omega
  refine ⟨_, ?_, h⟩
  generalize (BitVec.ofInt IntKind.u64.bits n &&& BitVec.ofInt IntKind.u64.bits (m : Int)).toNat = x at *
  rw [IntKind.wrap_u64]
  omega
set_option maxHeartbeats 2000000 in
theorem ckptWrites_true (xa : Option Addr) (xl xc : Nat) (xf : Nat → Gp.R6) (seq : Int) (w : World) (hx : Gp.RecsF w xa xl xf) (hT : Pg.Tab w) : Calls Tryd.prog 3 #[.slice xa xl xc, .bool true, .int .u64 seq] w fun e w' => e = .returned (.bool true) ∧ Below w.heap.size w w' := by
  have hbg := Hid.mk (begun_none 0 0 0 w hT.1)
  have HX := Hid.mk (And.intro hx hT)
  clear hx hT
  obtain ⟨s, hs, hs6⟩ := low_u seq 65535 (by omega)
  replace hs : bits .and .u64 seq 65535 = (s : Int) := hs
  go_enter Tryd.func3, Tryd.ntmps3
  go_upto_region 4 with (first
    | (go_at_call 6; refine hbg.out.mono ?_; rintro e w1 ⟨b, p, z, A, rfl, h1⟩; have H1 := Hid.mk h1; clear h1)
    | (go_at_call 7; refine (awake_any w1 (HX.out.2.call H1.out.below)).mono ?_; rintro e w2 ⟨rfl, b2⟩))
  have hg := H1.out.geo
  have hbp : 32 ≤ b * p := Nat.mul_le_mul (show 8 ≤ b by omega) (show 4 ≤ p by omega)
  have R2 := Hid.mk ((Run.beg H1.out HX.out.2).call b2)
  have hgeo : Hid (∀ w', Wtr w' A (begX b p z [] []) → Calls Tryd.prog 9 #[.pointer (some ⟨A.L.a, 0, none⟩)] w' fun e w'' => e = .returned (.agg #[.int .i64 b, .int .i64 p, .int .i64 z]) ∧ Below w'.heap.size w' w'') := fun w' h => geom_any h.chip
  have hfd := fldZ
  have hgd := Hid.mk (Gp.good_any xa xl xc xf w2 (HX.out.1.below R2.out.below))
  clear H1 hbg b2 HX
  go_upto_region 5 with (first
    | (go_at_call 8; refine hgd.out.mono ?_; rintro e w3 ⟨vl, rs, rfl, rw3, h30⟩; obtain ⟨la, lc, rfl⟩ := rw3.form; have R3 := Hid.mk (R2.out.call rw3.below))
    | (go_at_call 9; refine (hgeo.out _ R3.out.wtr).mono ?_; rintro e w4 ⟨rfl, b4⟩))
  have R4 := Hid.mk (R3.out.call b4)
  have hrec := rw3.recs.below b4
  have hmy := rw3.may
  obtain ⟨ts, hts⟩ : ∃ ts, Gp.packGo (z : Nat) (rs.map Gp.R6.put) [] ⟨#[]⟩ = ts := ⟨_, rfl⟩
  have hpl := Gp.packGo_len z (rs.map Gp.R6.put) [] ⟨#[]⟩
  rw [hts, List.length_map] at hpl
  simp only [List.length_nil, Nat.zero_add] at hpl
  obtain ⟨m, hm⟩ : ∃ m, ts.length = m := ⟨_, rfl⟩
  rw [hm] at hpl
  have hpk := Hid.mk (Gp.pack_any la lc z rs w4 hrec hmy (by omega))
  rw [hts, hm] at hpk
  have hZ : (begX b p z [] []).C.Z = z := rfl
  have HD := Hid.mk (And.intro hrec (And.intro hmy hts))
  clear hgd rw3 b4 R2 R3 hrec hmy hts
  go_upto_region 8 with (first
    | (go_at_call 10; refine hpk.out.mono ?_; rintro e w5 ⟨vt, rfl, ot, b5⟩; obtain ⟨ta, tc, rfl⟩ := Gp.owns_form ot))
  have ot2 := txW_own (ts := ts) (by rw [hm]; exact ot)
  have HO : Hid (∀ i, A.own (begX b p z [] []).C.B i → Value.ownBlock (.slice ta m tc) ≠ some i) := fun i hi q => by
    have h1 := (ot2.lt i q).1
    have h2 := R4.out.wtr.lt i hi
    omega
  have R5 := R4.out.call b5
  have S5 := Sq.beg b p z [] [] (by omega) (by omega) (by omega) (fun i => ts.getD i ⟨#[]⟩) (fun i => (3, sqN (3 : Nat) s i, i, m))
  have hw := write_any R5.wtr R5.tab S5 0 (by simp) rs la lc (HD.out.1.below b5) HD.out.2.1 h30 3 (by omega) s (by omega) z ⟨by omega, Nat.le_refl _⟩ ts HD.out.2.2 (fun i hi => ⟨by rw [Nat.zero_add], by rw [Nat.zero_add, hm]⟩) (by rw [hm]; show 0 + m ≤ b * p; omega) 0 (0, 0) (beg_cuts b p z _) (fun _ => rfl) (.inl (Nat.le_refl _))
  rw [hm] at hw
  have HW := Hid.mk hw
  have HR := Hid.mk (And.intro R5 ot2)
  clear hw R5 S5 R4 hpk ot ot2 b5 HD
  go_upto_region 9 with (first
    | (go_at_call 11; refine HW.out.mono ?_; rintro e w6 ⟨X6, A6, t6, tb6, n6, g6, cu6, fa6, hcase⟩; rcases hcase with ⟨_, ⟨v6, rfl, o6⟩, a6, r6, ar6, S6⟩ | ⟨h0, _⟩; rotate_left; exact absurd h0 (by omega)))
  have R6 := HR.out.1.next t6 n6
  have eA : A6.a = A.a := n6.a
  have hP : X6.C.P = p := g6.2.1
  have hB : X6.C.B = b := g6.1
  have ar6' : a6 * p + r6 = m := by have := ar6; rw [Nat.zero_add] at this; exact this
  have ot6 : We.Ow w6 0 9 1 (.slice ta m tc) (txW ts) := (HR.out.2.lower (Nat.zero_le _)).same (fun g hg' => n6.kp.block g (HR.out.2.lt g hg').2 (fun x => HO.out g x hg'))
  have hrd : ∀ i, i < m → ∀ w', Below w6.heap.size w6 w' → Calls Tryd.prog 12 #[.pointer (some ⟨A.a, 0, none⟩), .int .i64 i] w' fun e w'' => e = .returned (.tuple #[Pg.tagV 3 (sqN (3 : Nat) s i) i m 0, .string (ts.getD i ⟨#[]⟩), .int .i64 0]) ∧ Below w'.heap.size w' w'' := by
    intro i hi w' bw
    have hB' : i / X6.C.P < X6.C.B := Nat.div_lt_of_lt_mul (by rw [hB, hP, Nat.mul_comm]; omega)
    have hP' : i % X6.C.P < X6.C.P := Nat.mod_lt _ (by rw [hP]; omega)
    have hpg := S6.pgs (by rw [hP]; omega) (i := i) (by rw [hB, hP]; omega)
    rw [show a6 * X6.C.P + r6 = m by rw [hP]; exact ar6', if_pos hi] at hpg
    have hq := read_ok (R6.call bw).wtr (R6.call bw).tab _ _ hB' hP' S6.fin.off hpg i (div_mod_at _ _)
    rw [eA] at hq
    exact hq
  obtain ⟨pa, pc, rfl⟩ := Ints.form o6
  rw [plc_len] at o6 ⊢
  have HL := Hid.mk (And.intro hrd (And.intro o6 (And.intro ot6 R6.below)))
  clear hrd o6 ot6 R6 HR HW HO t6 tb6 n6 g6 cu6 fa6 ar6 ar6' S6 eA hP hB hZ
  have hm32 : ¬ (32 : Int) < (m : Int) := by omega
  go_upto_region 15 with fail
  go_loopw [18, 19] (fun wv i wr => ∃ k : Nat, k ≤ m ∧ i = .int .i64 k ∧ wv = .int .u64 (sqN (3 : Nat) s k) ∧ Below w6.heap.size w6 wr) (fun _ i _ => m - (intOf i).toNat)
  case atStart => exact ⟨0, Nat.zero_le _, rfl, rfl, Below.refl _ _⟩
  case round =>
    obtain ⟨k, hk, rfl, rfl, hb⟩ := hrel
    by_cases hlt : k < m
    · have hltI : (k : Int) < (m : Int) := by omega
      obtain ⟨gp, rfl, _, d0⟩ := Ints.one HL.out.2.1 hlt
      obtain ⟨gt, rfl, hgt, d1⟩ := txW_at HL.out.2.2.1 (j := k) (by omega)
      rw [Nat.zero_add] at d0
      have hgp := (We.Ow.lt HL.out.2.1 gp rfl).2
      have e0 : wr.cell? ⟨gp, k, none⟩ = some (.int .i64 k) := (hb.cell (p := ⟨gp, k, none⟩) hgp).trans d0
      have e1 : wr.cell? ⟨gt, k, none⟩ = some (.string (ts.getD k ⟨#[]⟩)) := (hb.cell (p := ⟨gt, k, none⟩) hgt).trans d1
      have hrk := HL.out.1 k hlt wr hb
      unfold Pg.tagV at hrk
      generalize ts.getD k ⟨#[]⟩ = tx at *
      obtain ⟨q, hq⟩ : ∃ q, sqN (3 : Nat) s k = q := ⟨_, rfl⟩
      rw [hq] at hrk ⊢
      have hq1 : Hid (sqN (3 : Nat) s (k + 1) = q) := Hid.mk (by rw [← hq]; rfl)
      have hqs : q < 1000000 := by rw [← hq]; unfold sqN; split <;> omega
      have hwq : IntKind.u64.wrap ((q : Int) + 1) = ((q + 1 : Nat) : Int) := by rw [IntKind.wrap_u64]; omega
      replace hrk := Hid.mk hrk
      clear d0 d1 hq
      go_upto_region 18 with (first
        | (go_at_call 12; refine hrk.out.mono ?_; rintro e w7 ⟨rfl, b7⟩))
      have b8 := Pg.below_one w7 (.cells #[.int .i64 3, .int .u64 (q : Int), .int .i64 (k : Int), .int .i64 (m : Int), .int .i64 0] 43)
      have N0 := Pg.TB.fresh w7 3 q k m 0
      have hb2 := Hid.mk (below3 (below3 hb b7) b8)
      have z0 := ((b8.cell (p := ⟨gp, k, none⟩) (Nat.lt_of_lt_of_le (Nat.lt_of_lt_of_le hgp hb.size) b7.size)).trans ((b7.cell (p := ⟨gp, k, none⟩) (Nat.lt_of_lt_of_le hgp hb.size)).trans e0))
      have z1 := ((b8.cell (p := ⟨gt, k, none⟩) (Nat.lt_of_lt_of_le (Nat.lt_of_lt_of_le hgt hb.size) b7.size)).trans ((b7.cell (p := ⟨gt, k, none⟩) (Nat.lt_of_lt_of_le hgt hb.size)).trans e1))
      obtain ⟨c0, c1, c2, c3, c4⟩ := N0.five
      clear hb b7 b8 e0 e1 N0 hrk
      generalize (w7.alloc (.cells #[.int .i64 3, .int .u64 (q : Int), .int .i64 (k : Int), .int .i64 (m : Int), .int .i64 0] 43)) = V at *
      generalize w7.heap.size = g7 at *
      go_wp2_with fail
      exact ⟨⟨k + 1, by omega, by go_num, by rw [hq1.out], hb2.out⟩, by simp [intOf]; omega⟩
    · obtain rfl : k = m := by omega
      have hB2 := Hid.mk (below3 HL.out.2.2.2 hb)
      have hqs : sqN (3 : Nat) s k < 1000000 := by unfold sqN; split <;> omega
      have hwq : IntKind.u64.wrap (((sqN (3 : Nat) s k : Nat) : Int) + 1) = ((sqN (3 : Nat) s k + 1 : Nat) : Int) := by rw [IntKind.wrap_u64]; omega
      have hnx : nxv 3 s k = sqN (3 : Nat) s k + 1 := by
        unfold nxv sqN
        rw [if_neg (by omega)]
        rfl
      rw [hnx]
      clear hb hnx
      generalize sqN (3 : Nat) s k = q at *
      go_wp2_with fail
      go_ret
      exact ⟨rfl, hB2.out⟩
set_option maxHeartbeats 2000000 in
theorem ckptWrites_false (xa : Option Addr) (xl xc : Nat) (xf : Nat → Gp.R6) (seq : Int) (w : World) (hx : Gp.RecsF w xa xl xf) (hT : Pg.Tab w) : Calls Tryd.prog 3 #[.slice xa xl xc, .bool false, .int .u64 seq] w fun e w' => e = .returned (.bool true) ∧ Below w.heap.size w w' := by
  have hbg := Hid.mk (begun_none 0 0 0 w hT.1)
  have HX := Hid.mk (And.intro hx hT)
  clear hx hT
  obtain ⟨s, hs, hs6⟩ := low_u seq 65535 (by omega)
  replace hs : bits .and .u64 seq 65535 = (s : Int) := hs
  go_enter Tryd.func3, Tryd.ntmps3
  go_upto_region 4 with (first
    | (go_at_call 6; refine hbg.out.mono ?_; rintro e w1 ⟨b, p, z, A, rfl, h1⟩; have H1 := Hid.mk h1; clear h1)
    | (go_at_call 7; refine (awake_any w1 (HX.out.2.call H1.out.below)).mono ?_; rintro e w2 ⟨rfl, b2⟩))
  have hg := H1.out.geo
  have hbp : 32 ≤ b * p := Nat.mul_le_mul (show 8 ≤ b by omega) (show 4 ≤ p by omega)
  have R2 := Hid.mk ((Run.beg H1.out HX.out.2).call b2)
  have hgeo : Hid (∀ w', Wtr w' A (begX b p z [] []) → Calls Tryd.prog 9 #[.pointer (some ⟨A.L.a, 0, none⟩)] w' fun e w'' => e = .returned (.agg #[.int .i64 b, .int .i64 p, .int .i64 z]) ∧ Below w'.heap.size w' w'') := fun w' h => geom_any h.chip
  have hfd := fldZ
  have hgd := Hid.mk (Gp.good_any xa xl xc xf w2 (HX.out.1.below R2.out.below))
  clear H1 hbg b2 HX
  go_upto_region 5 with (first
    | (go_at_call 8; refine hgd.out.mono ?_; rintro e w3 ⟨vl, rs, rfl, rw3, h30⟩; obtain ⟨la, lc, rfl⟩ := rw3.form; have R3 := Hid.mk (R2.out.call rw3.below))
    | (go_at_call 9; refine (hgeo.out _ R3.out.wtr).mono ?_; rintro e w4 ⟨rfl, b4⟩))
  have R4 := Hid.mk (R3.out.call b4)
  have hrec := rw3.recs.below b4
  have hmy := rw3.may
  obtain ⟨ts, hts⟩ : ∃ ts, Gp.packGo (z : Nat) (rs.map Gp.R6.put) [] ⟨#[]⟩ = ts := ⟨_, rfl⟩
  have hpl := Gp.packGo_len z (rs.map Gp.R6.put) [] ⟨#[]⟩
  rw [hts, List.length_map] at hpl
  simp only [List.length_nil, Nat.zero_add] at hpl
  obtain ⟨m, hm⟩ : ∃ m, ts.length = m := ⟨_, rfl⟩
  rw [hm] at hpl
  have hpk := Hid.mk (Gp.pack_any la lc z rs w4 hrec hmy (by omega))
  rw [hts, hm] at hpk
  have hZ : (begX b p z [] []).C.Z = z := rfl
  have HD := Hid.mk (And.intro hrec (And.intro hmy hts))
  clear hgd rw3 b4 R2 R3 hrec hmy hts
  go_upto_region 8 with (first
    | (go_at_call 10; refine hpk.out.mono ?_; rintro e w5 ⟨vt, rfl, ot, b5⟩; obtain ⟨ta, tc, rfl⟩ := Gp.owns_form ot))
  have ot2 := txW_own (ts := ts) (by rw [hm]; exact ot)
  have HO : Hid (∀ i, A.own (begX b p z [] []).C.B i → Value.ownBlock (.slice ta m tc) ≠ some i) := fun i hi q => by
    have h1 := (ot2.lt i q).1
    have h2 := R4.out.wtr.lt i hi
    omega
  have R5 := R4.out.call b5
  have S5 := Sq.beg b p z [] [] (by omega) (by omega) (by omega) (fun i => ts.getD i ⟨#[]⟩) (fun i => (2, sqN (2 : Nat) s i, i, m))
  have hw := write_any R5.wtr R5.tab S5 0 (by simp) rs la lc (HD.out.1.below b5) HD.out.2.1 h30 2 (by omega) s (by omega) z ⟨by omega, Nat.le_refl _⟩ ts HD.out.2.2 (fun i hi => ⟨by rw [Nat.zero_add], by rw [Nat.zero_add, hm]⟩) (by rw [hm]; show 0 + m ≤ b * p; omega) 0 (0, 0) (beg_cuts b p z _) (fun _ => rfl) (.inl (Nat.le_refl _))
  rw [hm] at hw
  have HW := Hid.mk hw
  have HR := Hid.mk (And.intro R5 ot2)
  clear hw R5 S5 R4 hpk ot ot2 b5 HD
  go_upto_region 9 with (first
    | (go_at_call 11; refine HW.out.mono ?_; rintro e w6 ⟨X6, A6, t6, tb6, n6, g6, cu6, fa6, hcase⟩; rcases hcase with ⟨_, ⟨v6, rfl, o6⟩, a6, r6, ar6, S6⟩ | ⟨h0, _⟩; rotate_left; exact absurd h0 (by omega)))
  have R6 := HR.out.1.next t6 n6
  have eA : A6.a = A.a := n6.a
  have hP : X6.C.P = p := g6.2.1
  have hB : X6.C.B = b := g6.1
  have ar6' : a6 * p + r6 = m := by have := ar6; rw [Nat.zero_add] at this; exact this
  have ot6 : We.Ow w6 0 9 1 (.slice ta m tc) (txW ts) := (HR.out.2.lower (Nat.zero_le _)).same (fun g hg' => n6.kp.block g (HR.out.2.lt g hg').2 (fun x => HO.out g x hg'))
  have hrd : ∀ i, i < m → ∀ w', Below w6.heap.size w6 w' → Calls Tryd.prog 12 #[.pointer (some ⟨A.a, 0, none⟩), .int .i64 i] w' fun e w'' => e = .returned (.tuple #[Pg.tagV 2 (sqN (2 : Nat) s i) i m 0, .string (ts.getD i ⟨#[]⟩), .int .i64 0]) ∧ Below w'.heap.size w' w'' := by
    intro i hi w' bw
    have hB' : i / X6.C.P < X6.C.B := Nat.div_lt_of_lt_mul (by rw [hB, hP, Nat.mul_comm]; omega)
    have hP' : i % X6.C.P < X6.C.P := Nat.mod_lt _ (by rw [hP]; omega)
    have hpg := S6.pgs (by rw [hP]; omega) (i := i) (by rw [hB, hP]; omega)
    rw [show a6 * X6.C.P + r6 = m by rw [hP]; exact ar6', if_pos hi] at hpg
    have hq := read_ok (R6.call bw).wtr (R6.call bw).tab _ _ hB' hP' S6.fin.off hpg i (div_mod_at _ _)
    rw [eA] at hq
    exact hq
  obtain ⟨pa, pc, rfl⟩ := Ints.form o6
  rw [plc_len] at o6 ⊢
  have HL := Hid.mk (And.intro hrd (And.intro o6 (And.intro ot6 R6.below)))
  clear hrd o6 ot6 R6 HR HW HO t6 tb6 n6 g6 cu6 fa6 ar6 ar6' S6 eA hP hB hZ
  have hm32 : ¬ (32 : Int) < (m : Int) := by omega
  go_upto_region 15 with fail
  go_loopw [18, 19] (fun wv i wr => ∃ k : Nat, k ≤ m ∧ i = .int .i64 k ∧ wv = .int .u64 (sqN (2 : Nat) s k) ∧ Below w6.heap.size w6 wr) (fun _ i _ => m - (intOf i).toNat)
  case atStart => exact ⟨0, Nat.zero_le _, rfl, rfl, Below.refl _ _⟩
  case round =>
    obtain ⟨k, hk, rfl, rfl, hb⟩ := hrel
    by_cases hlt : k < m
    · have hltI : (k : Int) < (m : Int) := by omega
      obtain ⟨gp, rfl, _, d0⟩ := Ints.one HL.out.2.1 hlt
      obtain ⟨gt, rfl, hgt, d1⟩ := txW_at HL.out.2.2.1 (j := k) (by omega)
      rw [Nat.zero_add] at d0
      have hgp := (We.Ow.lt HL.out.2.1 gp rfl).2
      have e0 : wr.cell? ⟨gp, k, none⟩ = some (.int .i64 k) := (hb.cell (p := ⟨gp, k, none⟩) hgp).trans d0
      have e1 : wr.cell? ⟨gt, k, none⟩ = some (.string (ts.getD k ⟨#[]⟩)) := (hb.cell (p := ⟨gt, k, none⟩) hgt).trans d1
      have hrk := HL.out.1 k hlt wr hb
      unfold Pg.tagV at hrk
      generalize ts.getD k ⟨#[]⟩ = tx at *
      obtain ⟨q, hq⟩ : ∃ q, sqN (2 : Nat) s k = q := ⟨_, rfl⟩
      rw [hq] at hrk ⊢
      have hq1 : Hid (sqN (2 : Nat) s (k + 1) = q + 1) := Hid.mk (by rw [← hq]; rfl)
      have hqs : q < 1000000 := by rw [← hq]; unfold sqN; split <;> omega
      have hwq : IntKind.u64.wrap ((q : Int) + 1) = ((q + 1 : Nat) : Int) := by rw [IntKind.wrap_u64]; omega
      replace hrk := Hid.mk hrk
      clear d0 d1 hq
      go_upto_region 18 with (first
        | (go_at_call 12; refine hrk.out.mono ?_; rintro e w7 ⟨rfl, b7⟩))
      have b8 := Pg.below_one w7 (.cells #[.int .i64 2, .int .u64 (q : Int), .int .i64 (k : Int), .int .i64 (m : Int), .int .i64 0] 43)
      have N0 := Pg.TB.fresh w7 2 q k m 0
      have hb2 := Hid.mk (below3 (below3 hb b7) b8)
      have z0 := ((b8.cell (p := ⟨gp, k, none⟩) (Nat.lt_of_lt_of_le (Nat.lt_of_lt_of_le hgp hb.size) b7.size)).trans ((b7.cell (p := ⟨gp, k, none⟩) (Nat.lt_of_lt_of_le hgp hb.size)).trans e0))
      have z1 := ((b8.cell (p := ⟨gt, k, none⟩) (Nat.lt_of_lt_of_le (Nat.lt_of_lt_of_le hgt hb.size) b7.size)).trans ((b7.cell (p := ⟨gt, k, none⟩) (Nat.lt_of_lt_of_le hgt hb.size)).trans e1))
      obtain ⟨c0, c1, c2, c3, c4⟩ := N0.five
      clear hb b7 b8 e0 e1 N0 hrk
      generalize (w7.alloc (.cells #[.int .i64 2, .int .u64 (q : Int), .int .i64 (k : Int), .int .i64 (m : Int), .int .i64 0] 43)) = V at *
      generalize w7.heap.size = g7 at *
      go_wp2_with fail
      exact ⟨⟨k + 1, by omega, by go_num, by rw [hq1.out]; go_num, hb2.out⟩, by simp [intOf]; omega⟩
    · obtain rfl : k = m := by omega
      have hB2 := Hid.mk (below3 HL.out.2.2.2 hb)
      have hqs : sqN (2 : Nat) s k < 1000000 := by unfold sqN; split <;> omega
      have hwq : IntKind.u64.wrap (((sqN (2 : Nat) s k : Nat) : Int) + 1) = ((sqN (2 : Nat) s k + 1 : Nat) : Int) := by rw [IntKind.wrap_u64]; omega
      have hnx : nxv 2 s k = sqN (2 : Nat) s k := by
        unfold nxv sqN
        rw [if_neg (by omega)]
        show s + (k - 1) + 1 = s + k
        omega
      rw [hnx]
      clear hb hnx
      generalize sqN (2 : Nat) s k = q at *
      go_wp2_with fail
      go_ret
      exact ⟨rfl, hB2.out⟩
theorem ckptWrites_any (xa : Option Addr) (xl xc : Nat) (xf : Nat → Gp.R6) (check : Bool) (seq : Int) (w : World) (hx : Gp.RecsF w xa xl xf) (hT : Pg.Tab w) : Calls Tryd.prog 3 #[.slice xa xl xc, .bool check, .int .u64 seq] w fun e w' => e = .returned (.bool true) ∧ Below w.heap.size w w' := by
  cases check
  · exact ckptWrites_false xa xl xc xf seq w hx hT
  · exact ckptWrites_true xa xl xc xf seq w hx hT
end Go.Proofs.YtbhggcleijjofaaDoor
