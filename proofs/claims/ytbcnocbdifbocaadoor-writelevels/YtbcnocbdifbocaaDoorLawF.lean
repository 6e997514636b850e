/-
  The walk of WriteFull. Condition: the table's cells hold what the text lays.
-/
import Derived.Test.YtbcnocbdifbocaaDoorErs
namespace Go.Proofs.YtbcnocbdifbocaaDoor
open Go Go.RowKit
set_option maxRecDepth 100000

def xT (_ : Nat) : ByteArray := ⟨#[120]⟩
def mQ (i : Nat) : Nat := i % 100000
theorem mQ_lt (i : Nat) : mQ i < 18446744073709551616 := by unfold mQ; omega
theorem mQ_is (i : Nat) (h : i < 100000) : mQ i = i := by unfold mQ; omega
/-- what WriteFull holds while it writes -/
structure FuS (w : World) (G b p z : Nat) (a0 : Nat) (k : Nat) (wr : World) : Prop where
  ex : ∃ A X a r, RunG w G b p z A X wr ∧ Sq X a r xT mQ ∧ (∀ i, X.C.cuts i = none) ∧ (∀ i, X.C.fails i = false) ∧ (∀ i, X.C.worn i = 0) ∧ (∀ i, X.C.dead i = false) ∧ A.a = a0 ∧ k = a * p + r
/-- the number of a block, out of whatever number -/
theorem block_of (n : Int) (b : Nat) (hb : 1 ≤ b) (hb2 : b ≤ 32) : ∃ (x : Int) (c : Nat), n.tmod (b : Int) = x ∧ -33 < x ∧ x < 33 ∧ (x + (b : Int)).tmod (b : Int) = (c : Int) ∧ c < b := by
  have h1 := Int.lt_tmod_of_pos n (show (0 : Int) < b by omega)
  have h2 := Int.tmod_lt_of_pos n (show (0 : Int) < b by omega)
  have h3 : 0 ≤ (n.tmod (b : Int) + (b : Int)).tmod (b : Int) := Int.tmod_nonneg _ (by omega)
  have h4 := Int.tmod_lt_of_pos (n.tmod (b : Int) + (b : Int)) (show (0 : Int) < b by omega)
  obtain ⟨c, hc⟩ := Int.eq_ofNat_of_zero_le h3
  exact ⟨_, c, rfl, by omega, by omega, hc, by omega⟩
/-- of blocks that were all full one was erased: the next page stands there -/
theorem full_pick {X : Wx} {T Q} (h : Sq X X.C.B 0 T Q) (ok : Lf.Ok X.C.B X.C.P X.xs X.o X.nx) {c : Nat} (hc : c < X.C.B) {n : Nat} {s : ByteArray} {pl er : Int} {Y : Wx} (q : PlOk (X.era c) n s pl er Y) : pl = (c : Int) * (X.C.P : Int) ∧ er = 0 := by
  have hl := ok.len
  have ho : X.o = -1 := by
    have := ok.or
    refine Decidable.byContradiction fun hn => ?_
    obtain ⟨j, hj⟩ := Int.eq_ofNat_of_zero_le (show 0 ≤ X.o by omega)
    obtain ⟨h1, h2⟩ := ok.open_at j hj
    have := h.xs j h1
    rw [if_pos h1] at this
    omega
  have ho2 : (X.era c).o = -1 := by show (if X.o = c then -1 else X.o) = -1; rw [ho]; split <;> rfl
  have hx : ∀ i, (X.era c).xs.getD i 0 = if i = c then 0 else X.xs.getD i 0 := era_xs (by omega)
  rcases q with ⟨_, _, _, _, h5⟩ | ⟨b, X1, q, ht, hb, _, rfl, rfl, _⟩
  · exact absurd (by rw [hx, if_pos rfl]) (h5 c hc)
  · rcases ht with ⟨h1, _⟩ | ⟨_, h1, _, h3⟩
    · rw [ho2] at h1; omega
    · have hbc : b = c := by
        refine Decidable.byContradiction fun hn => ?_
        have := h1.free
        rw [hx, if_neg hn] at this
        have h2 := h.xs b hb
        rw [if_pos (show b < X.C.B from hb)] at h2
        omega
      subst hbc
      refine ⟨?_, rfl⟩
      rw [h3]
      show (b : Int) * (X.C.P : Int) + 0 = _
      omega
set_option maxHeartbeats 1000000 in
theorem writeFull_any (B0 P0 Z0 n : Int) (w : World) (hT : Pg.Tab w) : Calls Tryd.prog 6 #[.agg #[.int .i64 B0, .int .i64 P0, .int .i64 Z0], .int .i64 n] w fun e w' => e = .returned (.bool true) ∧ Below w.heap.size w w' := by
  have B0' := (Below.refl w.heap.size w).alloc (Nat.le_refl _) (.cells #[.int .i64 B0, .int .i64 P0, .int .i64 Z0] 23)
  have hbg := Hid.mk (begun_none B0 P0 Z0 (w.alloc (.cells #[.int .i64 B0, .int .i64 P0, .int .i64 Z0] 23)) (hT.call B0').1)
  have HT := Hid.mk (And.intro B0' (hT.call B0'))
  clear hT B0'
  go_enter Tryd.func6, Tryd.ntmps6
  go_upto_region 4 with (first
    | (go_at_call 9; refine hbg.out.mono ?_; rintro e w1 ⟨b, p, z, A0, rfl, h1⟩; have HR := Hid.mk (And.intro (Run.from HT.out.1 (Run.beg h1 HT.out.2)) h1.geo); clear h1)
    | (go_at_call 10; refine (awake_any _ HR.out.1.tab).mono ?_; rintro e w2 ⟨rfl, b2⟩; replace HR := Hid.mk (And.intro (HR.out.1.call b2) HR.out.2); clear b2))
  have hge := Hid.mk (geom_any HR.out.1.wtr.chip)
  have hg := HR.out.2
  replace hge : Hid (Calls Tryd.prog 11 #[.pointer (some ⟨A0.L.a, 0, none⟩)] w2 fun e w' => e = .returned (.agg #[.int .i64 b, .int .i64 p, .int .i64 z]) ∧ Below w2.heap.size w2 w') := hge
  go_upto_region 5 with (first
    | (go_at_call 11; refine hge.out.mono ?_; rintro e w3 ⟨rfl, b3⟩; have HG := Hid.mk (RunG.start (HR.out.1.call b3) b p z rfl rfl rfl); clear b3))
  generalize w3.heap.size = G at *
  generalize (w3.alloc (.cells #[.int .i64 b, .int .i64 p, .int .i64 z] 23)) = V at *
  have hmr := Lf.mul_range (a := (b : Int)) (b := (p : Int)) (A := 32) (B := 16) (by omega) (by omega)
  obtain ⟨v, hv⟩ : ∃ v : Nat, b * p = v := ⟨_, rfl⟩
  have hvI : (b : Int) * (p : Int) = (v : Int) := by rw [← hv]; simp
  rw [hvI] at hmr
  have hm : wrap64 ((b : Int) * (p : Int)) = (v : Int) := by rw [hvI]; unfold wrap64; omega
  have S0 := Sq.beg b p z [] [] (by omega) (by omega) (by omega) xT mQ
  have HX := Hid.mk (And.intro HR.out.1.wtr.chip.geo (And.intro S0 hv))
  have ha0 : ∃ a0, a0 = A0.a := ⟨_, rfl⟩
  obtain ⟨a0, ha0⟩ := ha0
  rw [← ha0]
  have HA0 := Hid.mk ha0
  clear hbg HT HR hge S0 hv ha0
  go_wp2_with fail
  go_loopw [9] (fun i wr => ∃ k : Nat, i = .int .i64 k ∧ k ≤ v ∧ FuS w G b p z a0 k wr) (fun i _ => v - (intOf i).toNat)
  case atStart => exact ⟨0, rfl, Nat.zero_le _, ⟨A0, _, 0, 0, HG.out, HX.out.2.1, fun _ => rfl, fun _ => rfl, fun _ => rfl, fun _ => by simp [begX, begC, newC], HA0.out.symm, by omega⟩⟩
  case round =>
    obtain ⟨k, rfl, hk, ⟨A, X, a, r, RG, S, cu, fa, wo, de, ea, hka⟩⟩ := hrel
    obtain ⟨c0, c1, c2⟩ := RG.cells
    have hP := RG.eP
    have hB := RG.eB
    have hle := S.le
    rw [hB, hP] at hle
    by_cases hlt : k < v
    · have hlt1 : (k : Int) < (v : Int) := by omega
      have hab : a < b := by
        rcases hle with q | ⟨q1, q2⟩
        · exact q.1
        · subst q1 q2
          have := HX.out.2.2
          omega
      have htg := Hid.mk (tag_any k (by omega))
      have hap := fun w' (R : RunG w G b p z A X w') => append_sq R.run S (by rw [hB]; exact hab) mQ_lt k (by rw [hP, ← hka, mQ_is k (by omega)]) ⟨#[120]⟩ rfl (by rw [R.eZ]; show 1 ≤ z; omega) (cu _) (fa _) 0
      rw [ea] at hap
      have HP := Hid.mk hap
      have HR := Hid.mk RG
      have HC := Hid.mk (And.intro cu (And.intro fa (And.intro wo (And.intro de (And.intro ea (And.intro hP hka))))))
      clear hap RG S cu fa wo de ea hka hle
      go_wp2_with (first
        | (go_at_call 19; refine (htg.out _).mono ?_; rintro e w4 ⟨rfl, b4⟩; replace HR := Hid.mk (HR.out.call b4); clear b4)
        | (go_at_call 18; refine (HP.out _ HR.out).mono ?_; rintro e w5 ⟨X5, A5, a5, r5, rfl, S5, G5, C5, F5, W5, D5, R5, N5, k5, q5⟩; have H5 := Hid.mk (And.intro (HR.out.next R5.wtr N5 G5) (And.intro S5 (And.intro C5 (And.intro F5 (And.intro W5 (And.intro D5 (And.intro N5.a k5))))))); clear S5 G5 C5 F5 W5 D5 R5 N5 k5 q5))
      obtain ⟨RG5, S5, C5, F5, W5, D5, N5, k5⟩ := H5.out
      obtain ⟨cu, fa, wo, de, ea, hP, hka⟩ := HC.out
      refine ⟨⟨k + 1, by go_num, by omega, ⟨A5, X5, a5, r5, RG5, S5, fun i => by rw [C5]; exact cu i, fun i => by rw [F5]; exact fa i, fun i => by rw [W5]; exact wo i, fun i => by rw [D5]; exact de i, N5.trans ea, ?_⟩⟩, by simp [intOf]; omega⟩
      rw [hP] at k5
      omega
    · have hlt1 : ¬ (k : Int) < (v : Int) := by omega
      have hab : a = b ∧ r = 0 := by
        rcases hle with ⟨q1, q2⟩ | q
        · exfalso
          have h2 : (a + 1) * p ≤ b * p := Nat.mul_le_mul_right p q1
          rw [Nat.succ_mul, HX.out.2.2] at h2
          omega
        · exact q
      obtain ⟨rfl, rfl⟩ := hab
      obtain ⟨x, c, hx1, hx2, hx3, hx4, hcb⟩ := block_of n a (by omega) (by omega)
      have ht1 := Hid.mk tag1
      have S' : Sq X X.C.B 0 xT mQ := by rw [hB]; exact S
      have hap := fun w' (R : RunG w G a p z A X w') => append_full R.run S' 1 (by omega) ⟨#[120]⟩ (by rw [R.eZ]; show 1 ≤ z; omega) (cu _) (fa _) 0
      rw [ea] at hap
      have HP := Hid.mk hap
      have HR := Hid.mk RG
      have HC := Hid.mk (And.intro cu (And.intro fa (And.intro wo (And.intro de (And.intro ea (And.intro hP (And.intro hB S)))))))
      clear hap RG S S' cu fa wo de ea hka hle hP hB
      go_upto_region 12 with (first
        | (go_at_call 19; refine (ht1.out _).mono ?_; rintro e w4 ⟨rfl, b4⟩; replace HR := Hid.mk (HR.out.call b4); clear b4)
        | (go_at_call 18; refine (HP.out _ HR.out).mono ?_; rintro e w5 ⟨A5, rfl, h5, n5⟩; have H5 := Hid.mk (And.intro (HR.out.next h5 n5 ⟨rfl, rfl, rfl⟩) n5.a); clear h5 n5))
      clear c0 c1 c2
      obtain ⟨c0, c1, c2⟩ := H5.out.1.cells
      have hbn : ¬ a = 0 := by omega
      have hbp : (0 : Int) < (a : Int) := by omega
      have hwx : IntKind.i64.wrap (x + (a : Int)) = x + (a : Int) := by rw [IntKind.wrap_i64]; omega
      go_region
      obtain ⟨cu, fa, wo, de, ea, hP, hB, S⟩ := HC.out
      have hcB : c < X.C.B := by rw [hB]; exact hcb
      have hlx := H5.out.1.run.wtr.lif.ok.len
      have hlw := H5.out.1.run.wtr.wlen
      have hdid := S.did
      have hx3c := S.xs c hcB
      rw [if_pos (by omega)] at hx3c
      have hgo := erase_go hcB S.fin.off (cu _) (de c) (fa _) (by rw [hx3c]; decide)
      have her := fun w' (R : RunG w G a p z A5 X w') => werase_any R.run.wtr c hcB (by rw [hdid, hP]; simp only [Int.natCast_add, Int.natCast_mul]; omega) (fun n => by rw [wo n]; omega) (by rw [S.wz]; omega) (by rw [S.bd]; simp)
      rw [hgo.1, hgo.2, H5.out.2, ea] at her
      have HE := Hid.mk her
      have fin2 := S.fin.era (b := c) (by omega) (by omega) (de c) (by rw [S.wz]; omega)
      have hpk := fun {n : Nat} {s : ByteArray} {pl er : Int} {Y : Wx} (q : PlOk (X.era c) n s pl er Y) => full_pick (by rw [hB]; exact S) H5.out.1.run.wtr.lif.ok hcB q
      obtain ⟨u, hu⟩ : ∃ u, (c : Int) * (p : Int) = u := ⟨_, rfl⟩
      have hur := Lf.mul_range (a := (c : Int)) (b := (p : Int)) (A := 32) (B := 16) (by omega) (by omega)
      rw [hu] at hur
      have hum : wrap64 ((c : Int) * (p : Int)) = u := by rw [hu]; unfold wrap64; omega
      rw [hP, hu] at hpk
      have hap2 := fun w' A' (R : RunG w G a p z A' (X.era c) w') => append_plain R.run.wtr R.run.tab fin2 1 (by omega) ⟨#[121]⟩ (by rw [R.eZ]; show 1 ≤ z; omega) (by show X.C.did + 1 < 900000; rw [hdid, hP]; simp only [Int.natCast_add, Int.natCast_mul]; omega) (by show X.bd.length ≤ 900; rw [S.bd]; simp) (cu _) (fa _) 0
      have HP2 := Hid.mk hap2
      have HPK := Hid.mk (fun (n : Nat) (s : ByteArray) (pl er : Int) (Y : Wx) (q : PlOk (X.era c) n s pl er Y) => hpk q)
      have HA5 := Hid.mk (H5.out.2.trans ea)
      replace HR := Hid.mk (H5.out.1.drew)
      clear hap2 hpk her hgo fin2 hdid hx3c cu fa wo de ea hP hB S hlx hlw H5 HP HC hu
      go_upto_region 14 with (first
        | (go_at_call 15; refine (HE.out _ HR.out).mono ?_; rintro e w6 ⟨rfl, A6, h6, n6⟩; replace HR := Hid.mk (HR.out.next h6 n6 ⟨rfl, rfl, rfl⟩); have HA6 := Hid.mk (n6.a.trans HA5.out); clear h6 n6))
      have hap3 := fun w' (R : RunG w G a p z A6 (X.era c) w') => HP2.out w' A6 R
      rw [HA6.out] at hap3
      have HP3 := Hid.mk hap3
      clear hap3 HP2 HE
      go_upto_region 15 with (first
        | (go_at_call 19; refine (ht1.out _).mono ?_; rintro e w7 ⟨rfl, b7⟩; replace HR := Hid.mk (HR.out.call b7); clear b7)
        | (go_at_call 18; refine (HP3.out _ HR.out).mono ?_; rintro e w8 ⟨pl, er, X8, A8, rfl, q8, g8, h8, n8⟩; obtain ⟨rfl, rfl⟩ := HPK.out _ _ _ _ _ q8; have H8 := Hid.mk (HR.out.next h8 n8 g8); clear q8 g8 h8 n8))
      clear c0 c1 c2
      obtain ⟨c0, c1, c2⟩ := H8.out.cells
      go_wp2_with fail
      go_ret
      exact ⟨by first | rfl | (simp [hum]), H8.out.run.below⟩
end Go.Proofs.YtbcnocbdifbocaaDoor
