/-
  Erasing a block of the chip, letting a block be free: the walks of Erase and Free. No condition.
-/
import Derived.Test.YtcmmhfjnhlaepabGreatDoorRK6
import Derived.Lib.SliceRun
import Derived.Lib.LazyBuf
import Derived.BigFrame
namespace Go.Proofs.YtcmmhfjnhlaepabGreatDoor
open Go Go.RowKit

namespace Lf
theorem free_of {p : Value} {b : Int} {w : World} {R : Bool} {Q : World → Prop} (h : Calls Tryz.prog 155 #[p, .int .i64 b, .int .i64 0] w fun e w' => e = .returned (.bool R) ∧ Q w') : Calls Tryz.prog 118 #[p, .int .i64 b] w fun e w' => e = .returned (.bool R) ∧ Q w' := by
  have H := Hid.mk h
  clear h
  go_enter Tryz.func118, Tryz.ntmps118
  go_wp2_with (go_at_call 155; refine H.out.mono ?_; rintro e w' ⟨rfl, hq⟩)
  go_ret
  exact ⟨rfl, hq⟩
end Lf
set_option maxHeartbeats 1000000 in
theorem erase_any {w : World} {L C} (h : Chip w L C) (b : Int) (hd : C.did < 999999) (hw : ∀ n, 0 ≤ C.worn n ∧ C.worn n < 999999) : Calls Tryz.prog 117 #[.pointer (some ⟨L.a, 0, none⟩), .int .i64 b] w fun e w' =>
    e = .returned (.int .i64 (eraseC C b).2) ∧ Chip w' L (eraseC C b).1 ∧ Kp (L.own C.B) w w' := by
  unfold eraseC
  by_cases h0 : refB C b = 0
  · rw [if_pos h0]
    have hr0 := Hid.mk h0
    obtain ⟨hoff, b, rfl, hb⟩ := refB_zero h0
    have HO := Hid.mk hoff
    clear hoff
    rw [Int.toNat_natCast]
    obtain ⟨mc, mf, n, k, _, _, c0, c1, c2, c3, c4, c5, c6, c7, hf⟩ := h.cellA
    obtain ⟨b0, b1, b2, b3⟩ := h.cellB b hb
    have f6 := hf 6
    have g1 := h.frozenB (b * 4 + 1)
    have hdr := h.didr
    have hwb := hw b
    have HD := Hid.mk ((h.setDid (C.did + 1) (by omega)).setWorn b (C.worn b + 1))
    have HK := Hid.mk (((Kp.refl (L.own C.B) w).setCell (p := ⟨L.a, 6, none⟩) (Or.inl rfl) (.int .i64 (C.did + 1))).setCell (p := ⟨L.bs, b * 4 + 1, none⟩) (Or.inr (Or.inl rfl)) (.int .i64 (C.worn b + 1)))
    have hab := h.ab
    have hab' : ¬ L.a = L.bs := fun e => h.ab e.symm
    have HG := Hid.mk h.geo
    have HH := Hid.mk h
    have hb1 : (b : Int) < C.B := by omega
    have hgp := h.geo
    clear h h0 hf hw
    cases hc : C.cuts (C.did + 1) with
    | none =>
      simp only
      cases hfa : C.dead b || C.fails (C.did + 1)
      · rw [if_neg (by decide)]
        go_enter Tryz.func117, Tryz.ntmps117
        go_upto_region 15 with (first
          | (go_at_call 156; refine (refuse_any HH.out _).mono ?_; rintro e w' ⟨rfl, rfl⟩; rw [hr0.out])
          | (go_at_call 157; refine (cutnow_none HD.out hc).mono ?_; rintro e w1 ⟨rfl, b1⟩; unfold cut0; have HW := Hid.mk ((HD.out.call b1).alloc (.cells #[.int .i64 0, .int .i64 0, .int .u8 0] 87)); have HQ := Hid.mk ((HK.out.call b1).alloc (.cells #[.int .i64 0, .int .i64 0, .int .u8 0] 87)))
          | (go_at_call 160; refine (failsnow_any HW.out (b := b) hb).mono ?_; rintro e w2 ⟨rfl, h2, q2⟩; simp only [hfa]))
        have ed : C.dead b = false := by
          cases hx : C.dead b
          · rfl
          · rw [hx] at hfa
            exact absurd hfa (by simp)
        have e2 : upd C.dead b (C.dead b || C.fails (C.did + 1)) = C.dead := by rw [hfa, ← ed, upd_self]
        replace h2 : Chip w2 L { C with did := C.did + 1, worn := upd C.worn b (C.worn b + 1), dead := upd C.dead b (C.dead b || C.fails (C.did + 1)) } := h2
        rw [e2] at h2
        have HQ2 := Hid.mk (HQ.out.trans q2)
        have hcl := clear_run (h2.pgs b hb) C.P C.P (Nat.le_refl _)
        clear b1 HD HK HH c0 c1 c2 c3 c4 c5 c6 c7 b0 b2 b3 f6 g1 HW HQ q2 e2 ed
        obtain ⟨b0, b1, b2, b3⟩ := h2.cellB b hb
        have H2 := Hid.mk h2
        clear h2
        go_wp2_with (simp only [hcl])
        go_ret
        exact ⟨rfl, H2.out.clear b C.P hb, HQ2.out.cells _ _ _ (Or.inr (Or.inr ⟨b, hb, rfl⟩))⟩
      · rw [if_pos rfl]
        go_enter Tryz.func117, Tryz.ntmps117
        go_wp2_with (first
          | (go_at_call 156; refine (refuse_any HH.out _).mono ?_; rintro e w' ⟨rfl, rfl⟩; rw [hr0.out])
          | (go_at_call 157; refine (cutnow_none HD.out hc).mono ?_; rintro e w1 ⟨rfl, b1⟩; unfold cut0; have HW := Hid.mk ((HD.out.call b1).alloc (.cells #[.int .i64 0, .int .i64 0, .int .u8 0] 87)); have HQ := Hid.mk ((HK.out.call b1).alloc (.cells #[.int .i64 0, .int .i64 0, .int .u8 0] 87)))
          | (go_at_call 160; refine (failsnow_any HW.out (b := b) hb).mono ?_; rintro e w2 ⟨rfl, h2, q2⟩; simp only [hfa]; have HQ2 := Hid.mk (HQ.out.trans q2)))
        go_ret
        replace h2 : Chip w2 L { C with did := C.did + 1, worn := upd C.worn b (C.worn b + 1), dead := upd C.dead b (C.dead b || C.fails (C.did + 1)) } := h2
        rw [hfa] at h2
        exact ⟨rfl, h2, HQ2.out⟩
    | some x =>
      obtain ⟨k0, x0⟩ := x
      simp only
      have hfl := HH.out.fill _ _ hc
      go_enter Tryz.func117, Tryz.ntmps117
      go_upto_region 9 with (first
        | (go_at_call 156; refine (refuse_any HH.out _).mono ?_; rintro e w' ⟨rfl, rfl⟩; rw [hr0.out])
        | (go_at_call 157; refine (cutnow_some HD.out hc).mono ?_; rintro e w1 ⟨rfl, h1, q1⟩; unfold cutV))
      have cv := heap_alloc_new w1 (.cells #[.int .i64 (C.did + 1), .int .i64 k0, .int .u8 x0] 87)
      have HW := Hid.mk (h1.alloc (.cells #[.int .i64 (C.did + 1), .int .i64 k0, .int .u8 x0] 87))
      have HQ := Hid.mk ((HK.out.trans q1).alloc (.cells #[.int .i64 (C.did + 1), .int .i64 k0, .int .u8 x0] 87))
      generalize w1.alloc (.cells #[.int .i64 (C.did + 1), .int .i64 k0, .int .u8 x0] 87) = W at *
      have hGa : ∀ i, L.own C.B i → i < w1.heap.size := fun i hi => h1.lt hi
      generalize w1.heap.size = G at *
      clear h1 q1 HD HK HH c0 c1 c2 c3 c4 c5 c6 c7 b0 b1 b2 b3 f6 g1
      obtain ⟨b0, b1, b2, b3⟩ := HW.out.cellB b hb
      have v0 : W.cell? ⟨G, 0, none⟩ = some (.int .i64 (C.did + 1)) := cell_of_row _ _ 0 _ 87 _ cv
      have v1 : W.cell? ⟨G, 1, none⟩ = some (.int .i64 k0) := cell_of_row _ _ 1 _ 87 _ cv
      have v2 : W.cell? ⟨G, 2, none⟩ = some (.int .u8 x0) := cell_of_row _ _ 2 _ 87 _ cv
      have HCV := Hid.mk (And.intro cv hGa)
      clear cv hGa b1 b2 b3
      obtain ⟨kk, hkk, hm⟩ : ∃ kk : Nat, kk ≤ C.P ∧ min (max k0 0) (C.P : Int) = kk := ⟨(min (max k0 0) (C.P : Int)).toNat, by omega, by omega⟩
      have hcl := clear_run (HW.out.drew.pgs b hb) kk C.P hkk
      have hki : (kk : Int) ≤ C.P := by omega
      go_region
      have hcG : (W.drew.setCells (L.pb b) 0 (List.replicate kk (.string ⟨#[]⟩))).heap[G]? = some (.cells #[.int .i64 (C.did + 1), .int .i64 k0, .int .u8 x0] 87 (0, 0)) :=
        (heap_setCells _ _ _ _ G (fun e => by have := HCV.out.2 (L.pb b) (Or.inr (Or.inr ⟨b, hb, rfl⟩)); omega)).trans HCV.out.1
      have hnG : G ≠ L.pb b := fun e => by have := HCV.out.2 (L.pb b) (Or.inr (Or.inr ⟨b, hb, rfl⟩)); omega
      have hC := HW.out.drew.clear b kk hb
      have hK := HQ.out.drew.cells (L.pb b) (List.replicate kk (.string ⟨#[]⟩)) 0 (Or.inr (Or.inr ⟨b, hb, rfl⟩))
      generalize W.drew.setCells (L.pb b) 0 (List.replicate kk (.string ⟨#[]⟩)) = W2 at *
      clear hcl v0 v1 v2 b0 HCV HW HQ
      obtain ⟨C2, hCC⟩ : ∃ C2 : Ch, C2 = { C with did := C.did + 1, worn := upd C.worn b (C.worn b + 1), off := true, pg := upd C.pg b (fun p => if p < kk then ⟨#[]⟩ else C.pg b p) } := ⟨_, rfl⟩
      have hC2 : Chip W2 L C2 := by rw [hCC]; exact hC
      have hK2 : Kp (L.own C2.B) w' W2 := by rw [hCC]; exact hK
      have eB : C2.B = C.B := by rw [hCC]
      have eP : C2.P = C.P := by rw [hCC]
      have eZ : C2.Z = C.Z := by rw [hCC]
      have HCC := Hid.mk hCC
      have HC2 := Hid.mk (And.intro hC2 hK2)
      have HcG := Hid.mk hcG
      have HnG := Hid.mk hnG
      clear hCC hC2 hK2 hC hK hcG hnG
      by_cases hin : 0 ≤ k0 ∧ k0 < C.P
      · obtain ⟨q, rfl⟩ := Int.eq_ofNat_of_zero_le hin.1
        have hq : q < C.P := by omega
        have hq1 : (q : Int) < C.P := by omega
        have HPK := Hid.mk (PgK.start (b := b) (q := q) HC2.out.1 HC2.out.2 HcG.out HnG.out (by rw [eB]; exact hb) (by rw [eP]; exact hq))
        have HS := Hid.mk HPK.out.drew.drew.cells
        obtain ⟨u0, u1, u2, u3, u4, u5, _⟩ := HPK.out.cells
        have hqk : kk = q := by omega
        have HE := Hid.mk (And.intro eP (And.intro eZ eB))
        rw [eP] at u0
        clear hm hin eP eB hkk hki eZ
        go_upto_region 10 with fail
        go_region
        go_upto_region 11 with fail
        have hq3 : (q : Int) < C2.P := by rw [HE.out.1]; exact hq1
        clear u0 u1 u2 u3 u4 u5
        go_region_held3 (fun w2 => w2.cell? ⟨L.bs, b * 4, none⟩ = some (.slice (some ⟨L.pb b, 0, none⟩) C2.P C2.P) ∧ w2.cell? ⟨L.pb b, q, none⟩ = some (.string (strAt w2 ⟨L.pb b, q, none⟩)) ∧ w2.frozen? ⟨L.pb b, q, none⟩ = false ∧
            w2.cell? ⟨G, 0, none⟩ = some (.int .i64 (C.did + 1)) ∧ w2.cell? ⟨G, 1, none⟩ = some (.int .i64 q) ∧ w2.cell? ⟨G, 2, none⟩ = some (.int .u8 x0) ∧ PgK w' L C2 b q G (C.did + 1) q x0 w2) (first | assumption | exact HS.out | exact pg_keep (by assumption) (by assumption) | exact pg_store (by assumption) (kp_size _ _ (rep_size _ _)) rfl | fail)
          (first
            | (go_at_call 159; refine (fill_any _ _ _ hfl _).mono ?_; rintro e w5 ⟨rfl, b5⟩)
            | (go_at_call 139; refine (filled_any (pg_chip (by assumption)) _).mono ?_; rintro e w6 ⟨rfl, b6⟩)
            | (go_at_call 158; refine (kept_any (pg_chip (by assumption)) _).mono ?_; rintro e w7 ⟨rfl, b7⟩))
        have h7 := ((HPK.out.drew.drew.call b5).call b6).call b7
        have H7 := Hid.mk (h7.done (s := kp C2.Z (rep (C2.Z + 32) (u8 x0))) (kp_size _ _ (rep_size _ _)))
        clear h7 b5 b6 b7 HS HPK
        go_wp2_with fail
        go_ret
        refine ⟨rfl, ?_, ?_⟩
        · have h8 := H7.out.1
          have e8 := torn_in (x := x0) HCC.out hqk hq
          unfold putPg at h8
          rw [e8] at h8
          exact h8
        · rw [← HE.out.2.2]
          exact H7.out.2
      · have HPK := Hid.mk (PgK.start (b := b) (q := 0) HC2.out.1 HC2.out.2 HcG.out HnG.out (by rw [eB]; exact hb) (by rw [eP]; omega))
        obtain ⟨u0, u1, u2, u3, u4, u5, _⟩ := HPK.out.cells
        rw [eP] at u0
        have ef := torn_out (C := C) (b := b) (x := x0) HCC.out (by omega) hm hkk
        have HE := Hid.mk (And.intro ef eB)
        clear eP eB eZ hm hkk hki ef
        by_cases hk0 : 0 ≤ k0
        · have hk1 : ¬ k0 < C.P := by omega
          go_upto_region 10 with fail
          go_region
          go_wp2_with fail
          go_ret
          refine ⟨rfl, ?_, ?_⟩
          · rw [← HE.out.1]
            exact HC2.out.1.drew
          · rw [← HE.out.2]
            exact HC2.out.2.drew
        · go_upto_region 10 with fail
          go_region
          go_wp2_with fail
          go_ret
          refine ⟨rfl, ?_, ?_⟩
          · rw [← HE.out.1]
            exact HC2.out.1.drew
          · rw [← HE.out.2]
            exact HC2.out.2.drew
  · rw [if_neg h0]
    have HH := Hid.mk h
    clear h
    go_enter Tryz.func117, Tryz.ntmps117
    go_wp2_with (go_at_call 156; refine (refuse_any HH.out _).mono ?_; rintro e w' ⟨rfl, rfl⟩)
    go_ret
    exact ⟨rfl, HH.out, Kp.refl _ _⟩
end Go.Proofs.YtcmmhfjnhlaepabGreatDoor
