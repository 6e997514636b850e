/-
  ScanBlank, walked. Condition: the table's cells hold what the text lays.
-/
import Derived.Test.YtaphpdmfjnhlaaaGreatDoorBGrp
namespace Go.Proofs.YtaphpdmfjnhlaaaGreatDoor
open Go Go.RowKit
set_option maxRecDepth 100000
set_option maxHeartbeats 4000000 in
theorem scanBlank_any (xa : Option Addr) (xl xc : Nat) (gs : Nat -> Gr) (w : World) (hx : GrpF w xa xl gs) (hT : Pg.Tab w) : Calls Tryz.prog 6 #[.slice xa xl xc] w fun e w' => e = .returned (.bool true) /\ Below w.heap.size w w' := by
 have hbg := Hid.mk (begun_none 0 0 0 w hT.1)
 have HT := Hid.mk (And.intro hT hx)
 clear hT hx
 go_enter Tryz.func6, Tryz.ntmps6
 go_upto_region 2 with (first
  | (go_at_call 7; refine hbg.out.mono ?_; rintro e w1 ⟨b, p, z, A, rfl, h1⟩; have H1 := Hid.mk h1; clear h1))
 have hg := H1.out.geo
 have hbp : b * p <= 15 * 11 := Nat.mul_le_mul (show b <= 15 by omega) (show p <= 11 by omega)
 have hbp2 : 32 <= b * p := Nat.mul_le_mul (show 8 <= b by omega) (show 4 <= p by omega)
 have R1 := Run.beg H1.out HT.out.1
 have S1 := Sq.beg b p z [] [] (by omega) (by omega) (by omega) (fun _ => ⟨#[]⟩) (fun _ => (2, 0, 0, 1))
 have haw := Hid.mk (awake_any w1 R1.tab)
 have HR := Hid.mk (And.intro R1 S1)
 clear R1 S1 H1 hbg
 go_upto_region 5 with (first
  | (go_at_call 8; refine haw.out.mono ?_; rintro e w2 ⟨rfl, b2⟩))
 have HR2 := Hid.mk (And.intro (HR.out.1.call b2) HR.out.2)
 clear HR haw b2
 go_loopw [6] (fun i wr => ∃ (k : Nat) (A' : Wl) (X' : Wx) (a' r' : Nat) (T : Nat -> ByteArray) (Q : Nat -> Tg), k <= 6 /\ k <= xl /\ i = .int .i64 k /\ Run w A' X' wr /\ A'.a = A.a /\ A'.L = A.L /\ Geq X' (begX b p z [] []) /\ X'.C.cuts = (begX b p z [] []).C.cuts /\ X'.C.fails = (begX b p z [] []).C.fails /\ a' * p + r' = k /\ Sq 0 X' a' r' T Q /\ Jn Q k) (fun i _ => 6 - (intOf i).toNat)
 case atStart => exact ⟨0, A, _, 0, 0, _, _, by omega, Nat.zero_le _, rfl, HR2.out.1, rfl, rfl, ⟨rfl, rfl, rfl⟩, rfl, rfl, by simp, HR2.out.2, fun i hi => by omega⟩
 case round =>
  clear HR2
  obtain ⟨k, A', X', a', r', T, Q, hk6, hkl, rfl, hR, hAa, hAL, hgq, hcu, hfa, har, hS, hJ⟩ := hrel
  by_cases hgo : k < xl /\ k < 6
  ·obtain ⟨hg1, hg2⟩ := hgo
   have hk1 : (k : Int) < (xl : Int) := by omega
   have hk2 : (k : Int) < 6 := by omega
   obtain ⟨g, o, rfl, hgl, q0, q1, hrec⟩ := HT.out.2.below hR.below k hg1
   generalize gs k = gr at *
   have hgd := Hid.mk (good_any gr.a gr.n gr.cap gr.f wr hrec (rat_no wr wr.heap.size) (Nat.le_refl _) inv_no)
   have hrl := gdF_len gr.f (min gr.n 6) S8.noAb
   have hrm := Hid.mk (gdF_may gr.f (min gr.n 6) S8.noAb)
   have HS := Hid.mk (And.intro hR (And.intro hS hJ))
   clear hR hS hJ hrec
   go_upto_region 8 with (first
    | (go_at_call 15; refine hgd.out.mono ?_; rintro e w3 ⟨v3, u0, u1, u2, u3, rfl, o3, rr3, b3, _⟩; obtain ⟨s0, t0, s0', rfl⟩ := rr3.sp.isSl; obtain ⟨s1, t1, s1', rfl⟩ := rr3.lv.isSl; obtain ⟨s2, t2, s2', rfl⟩ := rr3.bad.isSl; obtain ⟨s3, t3, s3', rfl⟩ := rr3.worn.isSl; clear rr3; obtain ⟨a3, c3, rfl⟩ := o3.form; rw [List.length_map] at o3 |-))
   have b4 := Pg.below_one w3 (.cells #[.slice s0 t0 s0', .slice s1 t1 s1', .slice s2 t2 s2', .slice s3 t3 s3'] 38)
   have hrc := recs_ow (o3.call b4)
   have R3 := (HS.out.1.call b3).call b4
   generalize (gdF gr.f (min gr.n 6) S8.noAb).1 = rws at *
   have hXP : X'.C.P = p := hgq.2.1
   have hXB : X'.C.B = b := hgq.1
   have hXZ : X'.C.Z = z := hgq.2.2
   have hS2 : Sq 0 X' a' r' (fun i => if i < k then T i else Gp.puts rws) (fun i => if i < k then Q i else (2, k, 0, 1)) := HS.out.2.1.cong (fun i hi => by
    rw [hXP, har] at hi
    exact ⟨if_pos hi, if_pos hi⟩)
   have hTQ : ∀ i, i < [Gp.puts rws].length -> (fun i => if i < k then T i else Gp.puts rws) (k + i) = [Gp.puts rws].getD i ⟨#[]⟩ /\ (fun i => if i < k then Q i else (2, k, 0, 1)) (k + i) = (2, sqN ((2 : Nat) : Int) k i, i, [Gp.puts rws].length) := fun i hi => by
    have h0 : i = 0 := by simpa using hi
    subst h0
    dsimp only
    rw [if_neg (by omega), if_neg (by omega)]
    exact ⟨rfl, rfl⟩
   have hw := write_any R3.wtr R3.tab hS2 k (by rw [hXP]; exact har) rws a3 c3 hrc hrm.out (by omega) 2 (by omega) k (by omega) 64 ⟨by omega, by rw [hXZ]; omega⟩ [Gp.puts rws] (pack_few rws hrm.out (by omega)) hTQ 0 (0, 0) (by rw [hcu]; exact beg_cuts b p z (0, 0)) (by rw [hfa]; exact fun i => rfl) (by omega)
   rw [hAa] at hw
   have HW := Hid.mk hw
   have HR3 := Hid.mk R3
   have hwk : IntKind.u64.wrap (k : Int) = (k : Int) := by rw [IntKind.wrap_u64]; omega
   have hJ2 : Hid (Jn (fun i => if i < k then Q i else (2, k, 0, 1)) (k + 1)) := Hid.mk (fun i hi => by
    by_cases hik : i < k
    ·obtain ⟨s, hs, hq⟩ := HS.out.2.2 i hik
     exact ⟨s, hs, by dsimp only; rw [if_pos hik]; exact hq⟩
    ·exact ⟨k, by omega, by dsimp only; rw [if_neg hik]⟩)
   clear hw R3 hrc hS2 hTQ b4 o3 b3 hgd
   go_wp2_with (first
    | (go_at_call 17; refine HW.out.mono ?_; rintro e w5 ⟨X5, A5, t5, tb5, n5, g5, cu5, fa5, hcase⟩; rcases hcase with ⟨_, _, ⟨v5, rfl, _⟩, a5, r5, ar5, S5⟩ | ⟨h0, _⟩ | ⟨h0, _⟩; rotate_left; exact absurd h0 (by omega); (exfalso; rw [hXB, hXP] at h0; have h00 : b * p < k + 1 := h0; omega)))
   refine ⟨⟨k + 1, A5, X5, a5, r5, _, _, by omega, by omega, by go_num, HR3.out.next t5 n5, n5.a.trans hAa, n5.L.trans hAL, ⟨g5.1.trans hgq.1, g5.2.1.trans hgq.2.1, g5.2.2.trans hgq.2.2⟩, cu5.trans hcu, fa5.trans hfa, by rw [hXP] at ar5; exact ar5, S5, hJ2.out⟩, by simp [intOf]; omega⟩
  ·have hXP : X'.C.P = p := hgq.2.1
   have hXB : X'.C.B = b := hgq.1
   obtain ⟨F, hF, hall⟩ := hS.all hR.wtr hR.tab
   rw [hXP, har, hXB] at hF
   rw [hXP, hXB, hAL] at hall
   obtain ⟨hN, hok⟩ := hJ.blank hF
   have HA := Hid.mk hall
   have HN := Hid.mk (And.intro hN hok)
   have HB := Hid.mk hR.below
   have hnil := Hid.mk (fun w => rebuild_blank (.slice none 0 0) [] w (We.Ow.nil _ _ _ _) (fun f hf => by cases hf) (by simp) rfl)
   have hrb : Hid (∀ (w6 : World) (v6 : Value), We.Ow w6 w.heap.size 70 8 v6 ((fal F (b * p)).map Fd.row) -> Calls Tryz.prog 11 #[v6] w6 fun e w' => e = .returned (.tuple #[.pointer none, .int .i64 150]) /\ Below w6.heap.size w6 w') := Hid.mk (fun w6 v6 o6 => rebuild_blank v6 (fal F (b * p)) w6 (o6.lower (Nat.zero_le _)) HN.out.2 (by rw [fal_len]; omega) HN.out.1)
   have hBs := Hid.mk hR.below.size
   clear hall hN hok hR hS hJ hF
   rcases (show ¬ k < xl \/ (k < xl /\ ¬ k < 6) by omega) with hc | ⟨hc, hc2⟩
   ·have hcI : ¬ (k : Int) < (xl : Int) := by omega
    go_upto_region 10 with (go_at_call 10; refine HA.out.mono ?_; rintro e w6 ⟨v6, rfl, o6, b6⟩; obtain ⟨a6, c6, rfl⟩ := o6.form; rw [List.length_map, fal_len] at o6 |-)
    have h6 := Hid.mk (hrb.out _ _ (o6.lower hBs.out))
    clear o6
    go_upto_region 11 with (go_at_call 11; refine h6.out.mono ?_; rintro e w7 ⟨rfl, b7⟩)
    go_upto_region 12 with (go_at_call 10; refine (all_nil _).mono ?_; rintro e w' ⟨rfl, rfl⟩)
    go_wp2_with (first
     | (go_at_call 11; refine (hnil.out _).mono ?_; rintro e w8 ⟨rfl, b8⟩)
     | (go_at_call 13; refine (state_nil _).mono ?_; rintro e w' ⟨rfl, rfl⟩)
     | (go_at_call 14; refine (next_nil _).mono ?_; rintro e w' ⟨rfl, rfl⟩)
     | (go_at_call 23; refine (check_nil _).mono ?_; rintro e w' ⟨rfl, rfl⟩)
     | (go_at_call 24; refine (meta_nil _).mono ?_; rintro e w' ⟨rfl, rfl⟩))
    go_ret
    exact ⟨rfl, below3 (below3 (below3 HB.out b6) b7) b8⟩
   ·have hcI : (k : Int) < (xl : Int) := by omega
    have hcI2 : ¬ (k : Int) < 6 := by omega
    go_upto_region 10 with (go_at_call 10; refine HA.out.mono ?_; rintro e w6 ⟨v6, rfl, o6, b6⟩; obtain ⟨a6, c6, rfl⟩ := o6.form; rw [List.length_map, fal_len] at o6 |-)
    have h6 := Hid.mk (hrb.out _ _ (o6.lower hBs.out))
    clear o6
    go_upto_region 11 with (go_at_call 11; refine h6.out.mono ?_; rintro e w7 ⟨rfl, b7⟩)
    go_upto_region 12 with (go_at_call 10; refine (all_nil _).mono ?_; rintro e w' ⟨rfl, rfl⟩)
    go_wp2_with (first
     | (go_at_call 11; refine (hnil.out _).mono ?_; rintro e w8 ⟨rfl, b8⟩)
     | (go_at_call 13; refine (state_nil _).mono ?_; rintro e w' ⟨rfl, rfl⟩)
     | (go_at_call 14; refine (next_nil _).mono ?_; rintro e w' ⟨rfl, rfl⟩)
     | (go_at_call 23; refine (check_nil _).mono ?_; rintro e w' ⟨rfl, rfl⟩)
     | (go_at_call 24; refine (meta_nil _).mono ?_; rintro e w' ⟨rfl, rfl⟩))
    go_ret
    exact ⟨rfl, below3 (below3 (below3 HB.out b6) b7) b8⟩
end Go.Proofs.YtaphpdmfjnhlaaaGreatDoor
