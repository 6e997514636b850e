/-
  The walk of WriteBad. Condition: the table's cells hold what the text lays.
-/
import Derived.Test.YtbcnocbdifbocaaDoorBad
namespace Go.Proofs.YtbcnocbdifbocaaDoor
open Go Go.RowKit
set_option maxRecDepth 100000

theorem lat_any {w : World} {a g n k xs o nx} (h : Lf.Lif w a g n k xs o nx) : Calls Tryd.prog 16 #[.pointer (some ⟨a, 0, none⟩)] w fun e w' => ∃ (x y : Int) (t : Bool) (m : Nat), e = .returned (.tuple #[.int .i64 x, .int .i64 y, .bool t]) ∧ w' = w.drewN m ∧ (t = true → x = o ∧ 0 ≤ o) := by
  by_cases ho : 0 ≤ o
  · refine (Lf.at_some h ho).mono ?_
    rintro e w' ⟨rfl, m, rfl⟩
    exact ⟨o, nx, true, m, rfl, rfl, fun _ => ⟨rfl, ho⟩⟩
  · have := h.ok.or
    refine (Lf.at_none h (by omega)).mono ?_
    rintro e w' ⟨rfl, rfl⟩
    exact ⟨0, 0, false, 0, rfl, rfl, fun h => by cases h⟩
theorem below_join {a b c : World} (h : Below a.heap.size a b) (k : Below b.heap.size b c) : Below a.heap.size a c := below3 h k
theorem bd_nil {X : Wx} (h : X.bd = []) : ({ X with bd := [] } : Wx) = X := by cases X; simp_all
theorem Wc.nobd {X : Wx} {H K} (h : Wc X H K) : Wc ({ X with bd := [] } : Wx) H K := ⟨⟨h.fin.off, h.fin.free, h.fin.opn, h.fin.cnt, h.fin.geo⟩, h.cuts, h.live, h.had, h.wo, h.wnb⟩
theorem at_L {L L0 : Ly} {f : Nat} {w : World} {vs : List Value} {Q : Ending → World → Prop} (e : L = L0) (h : Calls Tryd.prog f ((Value.pointer (some ⟨L.a, 0, none⟩)) :: vs).toArray w Q) : Calls Tryd.prog f ((Value.pointer (some ⟨L0.a, 0, none⟩)) :: vs).toArray w Q := e ▸ h
/-- where WriteBad is: nothing failed yet, or this block did -/
def Wh (X : Wx) (n k : Nat) (v : Int) : Prop := k ≤ n ∧ v = -1 ∧ X.C.did + 1 = k ∨ n < k ∧ ∃ b0 : Nat, v = b0 ∧ Bd X b0 ∧ X.C.did = k + 1
/-- a block's number out of a place -/
theorem place_div (b q p : Nat) (hq : q < p) : ((b : Int) * (p : Int) + (q : Int)).tdiv (p : Int) = b := by
  have h0 := Int.mul_nonneg (Int.natCast_nonneg b) (Int.natCast_nonneg p)
  rw [Int.tdiv_eq_ediv_of_nonneg (by omega), Int.add_comm, Int.add_mul_ediv_right _ _ (by omega), Int.ediv_eq_zero_of_lt (by omega) (by omega)]
  omega
set_option maxHeartbeats 4000000 in
theorem writeBad_any (B0 P0 Z0 n0 m0 : Int) (w : World) (hT : Pg.Tab w) : Calls Tryd.prog 4 #[.agg #[.int .i64 B0, .int .i64 P0, .int .i64 Z0], .int .i64 n0, .int .i64 m0] w fun e w' => e = .returned (.bool true) ∧ Below w.heap.size w w' := by
  have B1 := (Below.refl w.heap.size w).alloc (Nat.le_refl _) (.cells #[.int .i64 B0, .int .i64 P0, .int .i64 Z0] 23)
  have r0 := heap_alloc_new w (.cells #[.int .i64 B0, .int .i64 P0, .int .i64 Z0] 23)
  obtain ⟨M, hM, hM2⟩ := low m0 15 (by omega)
  replace hM : bits .and .i64 m0 15 = (M : Int) := hM
  obtain ⟨q, hq, hq2⟩ := low n0 15 (by omega)
  replace hq : bits .and .i64 n0 15 = (q : Int) := hq
  obtain ⟨n, hn⟩ : ∃ n : Nat, n = 1 + q := ⟨_, rfl⟩
  have HAI : Hid ((1 : Int) + (q : Int) = (n : Int)) := (by omega : (1 : Int) + (q : Int) = (n : Int))
  have hn1 : 1 ≤ n ∧ n ≤ 16 := by omega
  clear hn
  have HT := Hid.mk hT
  have H1 := Hid.mk (And.intro B1 r0)
  have hcs : (w.alloc (.cells #[.int .i64 B0, .int .i64 P0, .int .i64 Z0] 23)).cell? ⟨w.heap.size, 0, none⟩ = some (.int .i64 B0) ∧ (w.alloc (.cells #[.int .i64 B0, .int .i64 P0, .int .i64 Z0] 23)).cell? ⟨w.heap.size, 1, none⟩ = some (.int .i64 P0) ∧ (w.alloc (.cells #[.int .i64 B0, .int .i64 P0, .int .i64 Z0] 23)).cell? ⟨w.heap.size, 2, none⟩ = some (.int .i64 Z0) := by
    refine ⟨?_, ?_, ?_⟩ <;> (rw [cell_of_row _ w.heap.size _ _ 23 _ r0]; rfl)
  obtain ⟨c0, c1, c2⟩ := hcs
  clear hT B1 r0
  go_enter Tryd.func4, Tryd.ntmps4
  go_upto_region 2 with fail
  rw [HAI.out]
  generalize (w.alloc (.cells #[.int .i64 B0, .int .i64 P0, .int .i64 Z0] 23)) = V3 at *
  have B4 := H1.out.1.alloc H1.out.1.size (.cells #[.int .i64 n] 3)
  have hbg := begun_any B0 P0 Z0 none (some ⟨V3.heap.size, 0, none⟩) [] [(n : Int)] 0 1 (V3.alloc (.cells #[.int .i64 n] 3)) (by rw [size_alloc]; omega) (fun i hi => by simp at hi) (one_int V3 n) (.inl rfl) (.inr ⟨_, _, rfl⟩) (Nat.le_refl _) (Nat.le_refl _) (fun x hx => by simp at hx) (fun x hx => by simp only [List.mem_singleton] at hx; subst hx; exact wf_did ⟨by omega, by omega⟩)
  replace hbg : Calls Tryd.prog 9 #[.agg #[.int .i64 B0, .int .i64 P0, .int .i64 Z0], .agg #[.slice none 0 0, .slice (some ⟨V3.heap.size, 0, none⟩) 1 1, .slice none 0 0]] (V3.alloc (.cells #[.int .i64 n] 3)) fun e w' =>
      ∃ b p z A, e = .returned (.tuple #[.pointer (some ⟨A.L.a, 0, none⟩), .pointer (some ⟨A.a, 0, none⟩), .bool true]) ∧ Begd (V3.alloc (.cells #[.int .i64 n] 3)) [] [(n : Int)] b p z A w' := hbg
  have BW4 := Hid.mk B4
  have HT4 := Hid.mk (HT.out.call B4)
  have HBG := Hid.mk hbg
  clear B4 hbg HT H1
  go_upto_region 5 with (first
    | (go_at_call 9; refine HBG.out.mono ?_; rintro e w1 ⟨b, p, z, A0, rfl, h1⟩; have HR := Hid.mk (And.intro (Run.beg h1 HT4.out) h1.geo); clear h1)
    | (go_at_call 10; refine (awake_any _ HR.out.1.tab).mono ?_; rintro e w2 ⟨rfl, b2⟩; replace HR := Hid.mk (And.intro (HR.out.1.call b2) HR.out.2); clear b2))
  clear HBG HT4 c0 c1 c2
  generalize hV4 : (V3.alloc (.cells #[.int .i64 n] 3)) = V4 at *
  clear hV4
  have hgeo := HR.out.2
  obtain ⟨a0, ha0⟩ : ∃ a0, a0 = A0.a := ⟨_, rfl⟩
  obtain ⟨L0, hL0⟩ : ∃ L0, L0 = A0.L := ⟨_, rfl⟩
  rw [← ha0, ← hL0]
  have S0 : Gd (begX b p z [] [(n : Int)]) n := ⟨⟨_, Wc.beg b p z _ (by omega)⟩, rfl, rfl⟩
  have HA0 := Hid.mk (And.intro ha0 (And.intro hL0 S0))
  have hpn : ¬ p = 0 := by omega
  have hpp : (0 : Int) < (p : Int) := by omega
  have hfd := fldP
  clear ha0 hL0 S0
  go_wp2_with fail
  go_loopw [11, 12] (fun v i wr => ∃ (k : Nat) (x : Int) (A : Wl) (X : Wx), v = .int .i64 x ∧ i = .int .i64 k ∧ 1 ≤ k ∧ k ≤ n + M + 1 ∧ Run V4 A X wr ∧ A.a = a0 ∧ A.L = L0 ∧ Gd X n ∧ Wh X n k x ∧ X.C.B = b ∧ X.C.P = p ∧ X.C.Z = z) (fun _ i _ => n + M + 1 - (intOf i).toNat)
  case atStart => exact ⟨1, -1, A0, _, rfl, rfl, by omega, by omega, HR.out.1, HA0.out.1.symm, HA0.out.2.1.symm, HA0.out.2.2, .inl ⟨by omega, rfl, by rfl⟩, rfl, rfl, rfl⟩
  case round =>
    clear HR HA0
    obtain ⟨k, x, A, X, rfl, rfl, hk1, hk, RR, ea, eL, GD, WH, eB, eP, eZ⟩ := hrel
    by_cases hlt : k ≤ n + M
    · have hlt1 : (k : Int) ≤ (n : Int) + (M : Int) := by omega
      have htg := Hid.mk (tag_any k (by omega))
      have hli := Hid.mk (life_any RR.wtr)
      rw [ea] at hli
      have hat := Hid.mk (lat_any RR.wtr.lif)
      have HR := Hid.mk RR
      have HC := Hid.mk (And.intro ea (And.intro eL (And.intro GD (And.intro WH (And.intro eB (And.intro eP eZ))))))
      clear RR ea eL GD WH eB eP eZ
      go_upto_region 10 with (first
        | (go_at_call 13; refine hli.out.mono ?_; rintro e w3 ⟨rfl, rfl⟩)
        | (go_at_call 16; refine hat.out.mono ?_; rintro e w4 ⟨ax, ay, at', am, rfl, rfl, ah⟩; replace HR := Hid.mk (HR.out.drewN am); have HAT := Hid.mk ah; clear ah))
      clear hat hli
      obtain ⟨ea, eL, GD, WH, eB, eP, eZ⟩ := HC.out
      have ok := HR.out.wtr.lif.ok
      by_cases hkn : k = n
      · subst hkn
        have hd : X.C.did + 1 = k := by rcases WH with ⟨_, _, q⟩ | ⟨q, _⟩ <;> omega
        have hsz : (⟨#[116, 101, 120, 116]⟩ : ByteArray).size ≤ X.C.Z := by rw [eZ]; show 4 ≤ z; omega
        have hap := fun w' (R : Run V4 A X w') => append_bad R.wtr R.tab GD hd (by omega) k (by omega) ⟨#[116, 101, 120, 116]⟩ hsz 0
        rw [ea] at hap
        have HP := Hid.mk hap
        have HDD := Hid.mk hd
        clear hap ok ea eL GD WH eB eP eZ hsz hd
        go_upto_region 11 with (first
          | (go_at_call 19; refine (htg.out _).mono ?_; rintro e w5 ⟨rfl, b5⟩; replace HR := Hid.mk (HR.out.call b5); clear b5)
          | (go_at_call 18; refine (HP.out _ HR.out).mono ?_; rintro e w6 ⟨pl, er, X5, A5, rfl, q5, g5, h5, n5⟩; have H5 := Hid.mk (And.intro (HR.out.next h5 n5) (And.intro q5 (And.intro g5 (And.intro n5.a n5.L)))); clear q5 g5 h5 n5))
        clear HP HR htg
        obtain ⟨R5, q5, g5, na, nL⟩ := H5.out
        rcases q5 with rfl | ⟨rfl, b0, b5, q5, hwas, hne, hb5, hq5, rfl, hB5, hbd5, hW5, hf5, hd5⟩
        · have HB5 := Hid.mk (below_join BW4.out R5.below)
          clear H5 R5 g5 na nL
          go_wp2_with fail
          go_ret
          exact ⟨rfl, HB5.out⟩
        · obtain ⟨ea, eL, GD, WH, eB, eP, eZ⟩ := HC.out
          rw [eP] at hq5
          rw [eB] at hb5
          have hdq := place_div b5 q5 p hq5
          have hmr := Lf.mul_range (a := (b5 : Int)) (b := (p : Int)) (A := 32) (B := 16) (by omega) (by omega)
          rw [eP]
          obtain ⟨u, hu⟩ : ∃ u, (b5 : Int) * (p : Int) + (q5 : Int) = u := ⟨_, rfl⟩
          rw [hu] at hdq ⊢
          have hbd := bads_any R5.wtr
          rw [hbd5, na, ea] at hbd
          obtain ⟨ba, bc, hbv⟩ := R5.wtr.bad.form
          rw [hbd5] at hbv
          replace hbv : A5.bv = .slice ba 1 bc := hbv
          have HBV := Hid.mk hbv
          have HBD := Hid.mk hbd
          have hlt0 := hB5.lt
          have hg5 : X5.C.B = b := g5.1.trans eB
          rw [hg5] at hlt0
          have h9 : Gd ({ X5 with bd := [] } : Wx) k ∧ Wh ({ X5 with bd := [] } : Wx) k (k + 1) b0 := by
            obtain ⟨H, hW⟩ := hW5
            exact ⟨⟨⟨H, hW.nobd⟩, hf5, rfl⟩, .inr ⟨by omega, b0, rfl, ⟨hB5.lt, hB5.is, hB5.mark, hB5.dead⟩, by show X5.C.did = _; rw [hd5]; have := HDD.out; omega⟩⟩
          have H6 := Hid.mk (And.intro R5 (And.intro h9 (And.intro (na.trans ea) (And.intro (nL.trans eL) (And.intro hg5 (And.intro (g5.2.1.trans eP) (g5.2.2.trans eZ)))))))
          have hwb : IntKind.i64.wrap (b5 : Int) = b5 := by rw [IntKind.wrap_i64]; omega
          have hne1 : ¬ (b5 : Int) = (b0 : Int) := by omega
          have hb0 : (0 : Int) ≤ (b0 : Int) := by omega
          have hww : at' = true → ax = (b0 : Int) := fun h => by obtain ⟨h1, h2⟩ := HAT.out h; rw [h1]; exact hwas h2
          clear H5 HC hbd hbv h9 R5 g5 na nL ea eL GD WH eB eP eZ hmr hu hwas hB5 hbd5 hW5 hf5 hd5 hg5 HAT hne
          go_upto_region 14 with (first
            | (go_at_call 21; refine HBD.out.mono ?_; rintro e w7 ⟨rfl, i7, A6, h6, n6⟩; rw [HBV.out] at i7 ⊢; obtain ⟨gb, rfl, -, -, cb, -⟩ := i7.cell (j := 0) (by simp); have H7 := Hid.mk (And.intro (H6.out.1.next h6 n6) (And.intro n6.a n6.L)); clear h6 n6 i7))
          replace cb : w7.cell? ⟨gb, 0, none⟩ = some (.int .i64 b0) := cb
          obtain ⟨-, ⟨GD5, WH5⟩, ea, eL, eB, eP, eZ⟩ := H6.out
          obtain ⟨R7, na, nL⟩ := H7.out
          have HF := Hid.mk (And.intro R7 (And.intro (na.trans ea) (And.intro (nL.trans eL) (And.intro GD5 (And.intro WH5 (And.intro eB (And.intro eP eZ)))))))
          have hge := at_L (vs := []) (nL.trans eL) (geom_any R7.wtr.chip)
          replace hge : Calls Tryd.prog 11 #[.pointer (some ⟨L0.a, 0, none⟩)] w7 fun e w' => e = .returned (.agg #[.int .i64 X5.C.B, .int .i64 X5.C.P, .int .i64 X5.C.Z]) ∧ Below w7.heap.size w7 w' := hge
          rw [eB, eP, eZ] at hge
          have HGE := Hid.mk hge
          clear HBD HBV H6 H7 R7 na nL GD5 WH5 ea eL eB eP eZ hge
          cases at'
          · clear hww
            go_wp2_with (first
              | (go_at_call 11; refine HGE.out.mono ?_; rintro e w8 ⟨rfl, b8⟩))
            obtain ⟨f1, f2, f3, f4, f5, f6, f7, f8⟩ := HF.out
            exact ⟨⟨k + 1, b0, A6, _, rfl, by go_num, by omega, by omega, f1.call b8, f2, f3, f4, f5, f6, f7, f8⟩, by simp [intOf]; omega⟩
          · have hax := hww rfl
            subst hax
            clear hww
            go_wp2_with (first
              | (go_at_call 11; refine HGE.out.mono ?_; rintro e w8 ⟨rfl, b8⟩))
            obtain ⟨f1, f2, f3, f4, f5, f6, f7, f8⟩ := HF.out
            exact ⟨⟨k + 1, b0, A6, _, rfl, by go_num, by omega, by omega, f1.call b8, f2, f3, f4, f5, f6, f7, f8⟩, by simp [intOf]; omega⟩
      · have hdk : X.C.did ≤ 100 := by rcases WH with ⟨_, _, q⟩ | ⟨_, b0, _, _, q⟩ <;> omega
        have hfn : X.C.fails (X.C.did + 1) = false := GD.no (by rcases WH with ⟨_, _, q⟩ | ⟨_, b0, _, _, q⟩ <;> omega)
        obtain ⟨H, hW⟩ := GD.wc
        have hsz : (⟨#[116, 101, 120, 116]⟩ : ByteArray).size ≤ X.C.Z := by rw [eZ]; show 4 ≤ z; omega
        have hap := fun w' (R : Run V4 A X w') => append_plain R.wtr R.tab hW.fin k (by omega) ⟨#[116, 101, 120, 116]⟩ hsz (by omega) (by rw [GD.bd]; simp) (hW.cuts _) hfn 0
        rw [ea] at hap
        have HP := Hid.mk hap
        have HOK := Hid.mk (And.intro ok hsz)
        clear hap hW H ok hfn ea eL GD WH eB eP eZ hsz
        go_upto_region 11 with (first
          | (go_at_call 19; refine (htg.out _).mono ?_; rintro e w5 ⟨rfl, b5⟩; replace HR := Hid.mk (HR.out.call b5); clear b5)
          | (go_at_call 18; refine (HP.out _ HR.out).mono ?_; rintro e w6 ⟨pl, er, X5, A5, rfl, q5, g5, h5, n5⟩; have H5 := Hid.mk (And.intro (HR.out.next h5 n5) (And.intro q5 (And.intro g5 (And.intro n5.a n5.L)))); clear q5 g5 h5 n5))
        clear HP HR htg HAT
        obtain ⟨R5, q5, g5, na, nL⟩ := H5.out
        rcases q5 with ⟨rfl, rfl, -, -, -⟩ | ⟨b5, X1, q5, ht, hb5, hq5, rfl, rfl, rfl⟩
        · have HB5 := Hid.mk (below_join BW4.out R5.below)
          clear H5 R5 g5 na nL
          go_wp2_with fail
          go_ret
          exact ⟨rfl, HB5.out⟩
        · obtain ⟨ea, eL, GD, WH, eB, eP, eZ⟩ := HC.out
          obtain ⟨ok, hsz⟩ := HOK.out
          have GD5 := GD.put ok ht k (by omega) _ hsz
          have WH5 : Wh (X1.put b5 q5 k ⟨#[116, 101, 120, 116]⟩) n (k + 1) x ∧ ∀ b0 : Nat, x = b0 → b5 ≠ b0 := by
            obtain ⟨e1, _, _⟩ := ht.C
            have hdd : (X1.put b5 q5 k ⟨#[116, 101, 120, 116]⟩).C.did = X.C.did + 1 := by show X1.C.did + 1 = _; rw [e1]
            rcases WH with ⟨w1, w2, w3⟩ | ⟨w1, b0, w2, w3, w4⟩
            · exact ⟨.inl ⟨by omega, w2, by rw [hdd]; omega⟩, fun b0 hx => by omega⟩
            · exact ⟨.inr ⟨by omega, b0, w2, w3.put ok ht k _, by rw [hdd]; omega⟩, fun b1 hx => by have := w3.ne ok ht; omega⟩
          rw [eP] at hq5
          rw [eB] at hb5
          have hdq := place_div b5 q5 p hq5
          have hmr := Lf.mul_range (a := (b5 : Int)) (b := (p : Int)) (A := 32) (B := 16) (by omega) (by omega)
          rw [eP]
          obtain ⟨u, hu⟩ : ∃ u, (b5 : Int) * (p : Int) + (q5 : Int) = u := ⟨_, rfl⟩
          rw [hu] at hdq ⊢
          generalize X1.put b5 q5 k ⟨#[116, 101, 120, 116]⟩ = X5 at *
          have hbd := bads_any R5.wtr
          rw [GD5.bd, na, ea] at hbd
          obtain ⟨ba, bc, hbv⟩ := R5.wtr.bad.form
          rw [GD5.bd] at hbv
          replace hbv : A5.bv = .slice ba 0 bc := hbv
          have HBV := Hid.mk hbv
          have HBD := Hid.mk hbd
          have H6 := Hid.mk (And.intro R5 (And.intro GD5 (And.intro WH5 (And.intro (na.trans ea) (And.intro (nL.trans eL) (And.intro (g5.1.trans eB) (And.intro (g5.2.1.trans eP) (g5.2.2.trans eZ))))))))
          have hwb : IntKind.i64.wrap (b5 : Int) = b5 := by rw [IntKind.wrap_i64]; omega
          have hkI : ¬ (k : Int) = (n : Int) := by omega
          clear H5 HC HOK hbd hbv GD5 WH5 WH R5 g5 na nL ea eL GD eB eP eZ ok hsz ht hmr hu
          go_upto_region 14 with (first
            | (go_at_call 21; refine HBD.out.mono ?_; rintro e w7 ⟨rfl, -, A6, h6, n6⟩; rw [HBV.out]; have H7 := Hid.mk (And.intro (H6.out.1.next h6 n6) (And.intro n6.a n6.L)); clear h6 n6))
          rw [bd_nil H6.out.2.1.bd] at H7
          obtain ⟨-, GD5, WH5, ea, eL, eB, eP, eZ⟩ := H6.out
          obtain ⟨R7, na, nL⟩ := H7.out
          have HF := Hid.mk (And.intro R7 (And.intro (na.trans ea) (And.intro (nL.trans eL) (And.intro GD5 (And.intro WH5.1 (And.intro eB (And.intro eP eZ)))))))
          have hge := at_L (vs := []) (nL.trans eL) (geom_any R7.wtr.chip)
          rw [eB, eP, eZ] at hge
          have HGE := Hid.mk hge
          rcases WH5 with ⟨⟨-, rfl, -⟩ | ⟨-, b0, rfl, -, -⟩, hne⟩
          · clear HBD HBV H6 H7 R7 na nL GD5 ea eL eB eP eZ hge
            go_wp2_with fail
            obtain ⟨f1, f2, f3, f4, f5, f6, f7, f8⟩ := HF.out
            exact ⟨⟨k + 1, -1, A6, X5, rfl, by go_num, by omega, by omega, f1, f2, f3, f4, f5, f6, f7, f8⟩, by simp [intOf]; omega⟩
          · have hne1 : ¬ (b5 : Int) = (b0 : Int) := by have := hne b0 rfl; omega
            have hb0 : (0 : Int) ≤ (b0 : Int) := by omega
            clear HBD HBV H6 H7 R7 na nL GD5 ea eL eB eP eZ hge
            go_wp2_with (first
              | (go_at_call 11; refine HGE.out.mono ?_; rintro e w8 ⟨rfl, b8⟩))
            obtain ⟨f1, f2, f3, f4, f5, f6, f7, f8⟩ := HF.out
            exact ⟨⟨k + 1, b0, A6, X5, rfl, by go_num, by omega, by omega, f1.call b8, f2, f3, f4, f5, f6, f7, f8⟩, by simp [intOf]; omega⟩
    · have hlt1 : ¬ (k : Int) ≤ (n : Int) + (M : Int) := by omega
      obtain ⟨b0, rfl, hB⟩ : ∃ b0 : Nat, x = b0 ∧ Bd X b0 := by
        rcases WH with ⟨q, _⟩ | ⟨_, b0, h1, h2, _⟩
        · omega
        · exact ⟨b0, h1, h2⟩
      obtain ⟨H, hW⟩ := GD.wc
      have hoff := hW.fin.off
      have hrf : refB X.C (b0 : Int) = 0 := refB_ok hoff hB.lt
      have hmk := at_L (vs := [.int .i64 b0]) eL (marked_any RR.wtr.chip b0)
      replace hmk : Calls Tryd.prog 22 #[.pointer (some ⟨L0.a, 0, none⟩), .int .i64 b0] wr fun e w' => e = .returned (.tuple #[.bool (if refB X.C b0 = 0 then X.C.mark (b0 : Int).toNat else false), .int .i64 (refB X.C b0)]) ∧ w' = wr := hmk
      rw [hrf, if_pos rfl, Int.toNat_natCast, hB.mark] at hmk
      have hli := Hid.mk (life_any RR.wtr)
      rw [ea] at hli
      have his := Lf.is_any RR.wtr.lif (b0 : Int)
      rw [Lf.isL_in X.xs b0 (by rw [RR.wtr.lif.ok.len]; exact hB.lt), hB.is] at his
      have hde := at_L (vs := []) eL (dead_any RR.wtr.chip)
      replace hde : Calls Tryd.prog 23 #[.pointer (some ⟨L0.a, 0, none⟩)] wr fun e w' => e = .returned (.slice (some ⟨wr.heap.size, 0, none⟩) X.C.B X.C.B) ∧ w'.rowIs wr.heap.size 4 X.C.B (fun b => .bool (X.C.dead b)) ∧ Below wr.heap.size wr w' := hde
      have hbl := hB.lt
      have hdd := hB.dead
      have hbI : (b0 : Int) < (X.C.B : Int) := by omega
      have hb0 : (0 : Int) ≤ (b0 : Int) := by omega
      have HMK := Hid.mk hmk
      have HIS := Hid.mk his
      have HDE := Hid.mk hde
      have HBL := Hid.mk (below_join BW4.out RR.below)
      have HDD := Hid.mk (And.intro hdd hbl)
      clear hmk his hde hB hW GD WH RR ea eL eB eP eZ hrf hoff H hbl hdd
      go_wp2_with (first
        | (go_at_call 22; refine HMK.out.mono ?_; rintro e w3 ⟨rfl, rfl⟩)
        | (go_at_call 13; refine hli.out.mono ?_; rintro e w4 ⟨rfl, rfl⟩)
        | (go_at_call 14; refine HIS.out.mono ?_; rintro e w5 ⟨rfl, rfl⟩)
        | (go_at_call 23; refine HDE.out.mono ?_; rintro e w6 ⟨rfl, r6, b6⟩; have cD := r6.cell HDD.out.2; rw [HDD.out.1] at cD; have HB6 := Hid.mk (below_join HBL.out b6); clear r6 b6))
      go_ret
      exact ⟨rfl, HB6.out⟩
end Go.Proofs.YtbcnocbdifbocaaDoor
