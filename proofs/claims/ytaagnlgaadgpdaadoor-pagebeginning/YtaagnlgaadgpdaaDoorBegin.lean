/-
  The walk of PageBeginning. Condition: the table's cells hold what the text lays.
-/
import Derived.Test.YtaagnlgaadgpdaaDoorTorn
namespace Go.Proofs.YtaagnlgaadgpdaaDoor
open Go Go.RowKit

/-- so many bytes from a place on are one byte -/
def fil (l : List UInt8) (k : Nat) (f : UInt8) : Nat → List UInt8
  | 0 => l
  | j + 1 => (fil l k f j).set (k + j) f
theorem fil_length (l : List UInt8) (k : Nat) (f : UInt8) (j : Nat) : (fil l k f j).length = l.length := by
  induction j with
  | zero => rfl
  | succ j ih => rw [fil, List.length_set, ih]
/-- what both sides tell of a page, and what the law asks then -/
structure Told (A1 A2 U DP LL : ByteArray) (same : Bool) (c K S I O W : Int) (t : ByteArray) : Prop where
  p : ∀ w, Tab w → Calls Tryd.prog 13 #[.string A1, .string A2] w fun e w' => e = .returned (.tuple #[.int .i64 c, .agg #[.int .i64 K, .int .u64 S, .int .i64 I, .int .i64 O, .int .i64 W], .string t]) ∧ Below w.heap.size w w'
  r : ∀ w, Calls Tryd.prog 14 #[.string A1, .string A2] w fun e w' => e = .returned (.tuple #[.int .i64 c, .agg #[.int .i64 K, .int .u64 S, .int .i64 I, .int .i64 O, .int .i64 W], .string t]) ∧ Below w.heap.size w w'
  s : (same = true ∧ LL = DP ∧ c = 1 ∧ t = U) ∨ (same = false ∧ ¬ LL = DP)
theorem told_any (A1 A2 U DP LL : ByteArray) (z1 : A1.size ≤ 65535) (z2 : A2.size ≤ 1000000) (hs : LL = DP → ∃ K S I O W, Val A1 A2 U K S I O W) : ∃ same c K S I O W t, Told A1 A2 U DP LL same c K S I O W t := by
  by_cases h : LL = DP
  · obtain ⟨K, S, I, O, W, hv⟩ := hs h
    exact ⟨true, 1, K, S, I, O, W, U, fun w hT => look_v hv w hT, fun w => rlook_val hv w, .inl ⟨rfl, h, rfl, rfl⟩⟩
  · by_cases hE : allF A1 = true ∧ allF A2 = true
    · exact ⟨false, 0, 0, 0, 0, 0, 0, ⟨#[]⟩, fun w _ => look_erased _ _ (by omega) z2 hE.1 hE.2 w, fun w => rlook_e _ _ z1 z2 hE.1 hE.2 w, .inr ⟨rfl, h⟩⟩
    · by_cases hV : ∃ t K S I O W, Val A1 A2 t K S I O W
      · obtain ⟨t, K, S, I, O, W, hv⟩ := hV
        exact ⟨false, 1, K, S, I, O, W, t, fun w hT => look_v hv w hT, fun w => rlook_val hv w, .inr ⟨rfl, h⟩⟩
      · exact ⟨false, 2, 0, 0, 0, 0, 0, ⟨#[]⟩, fun w hT => look_t _ _ z1 z2 hE hV w hT, fun w => rlook_t _ _ z1 z2 hE hV w, .inr ⟨rfl, h⟩⟩
/-- what the law holds behind its loop -/
def BgS (w : World) (G : Nat) (L : List UInt8) (wx : World) : Prop := HasBytes wx G L ∧ Below w.heap.size w wx ∧ Tab wx ∧ G < wx.heap.size
theorem BgS.call {w : World} {G : Nat} {L : List UInt8} {wx w2 : World} (h : BgS w G L wx) (b : Below wx.heap.size wx w2) : BgS w G L w2 := ⟨h.1.below b h.2.2.2, below3 h.2.1 b, h.2.2.1.call b, Nat.lt_of_lt_of_le h.2.2.2 b.size⟩
theorem BgS.drew {w : World} {G : Nat} {L : List UInt8} {wx : World} (h : BgS w G L wx) : BgS w G L wx.drew := ⟨h.1, h.2.1.drew, h.2.2.1, h.2.2.2⟩
theorem BgS.alloc {w : World} {G : Nat} {L : List UInt8} {wx : World} (h : BgS w G L wx) (o : Obj) : BgS w G L (wx.alloc o) := h.call (below_one wx o)
theorem bg_a {w : World} {G : Nat} {L : List UInt8} {wr w9 : World} (h : BgS w G L wr) (b : Below wr.drew.heap.size wr.drew w9) (Y1 Y2 Y3 Y4 Y5 : Int) :
    TB (w9.alloc (.cells #[.int .i64 Y1, .int .u64 Y2, .int .i64 Y3, .int .i64 Y4, .int .i64 Y5] 24)) w9.heap.size Y1 Y2 Y3 Y4 Y5 ∧ BgS w G L (w9.alloc (.cells #[.int .i64 Y1, .int .u64 Y2, .int .i64 Y3, .int .i64 Y4, .int .i64 Y5] 24)) :=
  ⟨TB.fresh w9 Y1 Y2 Y3 Y4 Y5, (h.drew.call b).alloc _⟩
theorem bg_b {w : World} {G : Nat} {L : List UInt8} {wr w9 : World} (h : BgS w G L wr) (b : Below (wr.alloc (.cells #[.int .i64 0, .int .u64 0, .int .i64 0, .int .i64 0, .int .i64 0] 24)).drew.heap.size (wr.alloc (.cells #[.int .i64 0, .int .u64 0, .int .i64 0, .int .i64 0, .int .i64 0] 24)).drew w9) (Y1 Y2 Y3 Y4 Y5 : Int) :
    TB (((((w9.setCell ⟨wr.heap.size, 0, none⟩ (.int .i64 Y1)).setCell ⟨wr.heap.size, 1, none⟩ (.int .u64 Y2)).setCell ⟨wr.heap.size, 2, none⟩ (.int .i64 Y3)).setCell ⟨wr.heap.size, 3, none⟩ (.int .i64 Y4)).setCell ⟨wr.heap.size, 4, none⟩ (.int .i64 Y5)) wr.heap.size Y1 Y2 Y3 Y4 Y5 ∧
    BgS w G L (((((w9.setCell ⟨wr.heap.size, 0, none⟩ (.int .i64 Y1)).setCell ⟨wr.heap.size, 1, none⟩ (.int .u64 Y2)).setCell ⟨wr.heap.size, 2, none⟩ (.int .i64 Y3)).setCell ⟨wr.heap.size, 3, none⟩ (.int .i64 Y4)).setCell ⟨wr.heap.size, 4, none⟩ (.int .i64 Y5)) := by
  have h9 := (h.alloc (.cells #[.int .i64 0, .int .u64 0, .int .i64 0, .int .i64 0, .int .i64 0] 24)).drew.call b
  have hz := h.2.1.size
  have hw := tb_whole (tb_kept b) h9.2.1 hz Y1 Y2 Y3 Y4 Y5
  have hG := h.2.2.2
  have n0 : wr.heap.size ≠ 0 := by omega
  have nG : wr.heap.size ≠ G := by omega
  refine ⟨hw.1, ((((h9.1.other nG _).other nG _).other nG _).other nG _).other nG _, hw.2, ((((h9.2.2.1.other n0 _).other n0 _).other n0 _).other n0 _).other n0 _, ?_⟩
  simpa [World.setCell] using h9.2.2.2
theorem tb_b {g : Nat} {Z1 Z2 Z3 Z4 Z5 : Int} {wr w9 : World} (h : TB wr g Z1 Z2 Z3 Z4 Z5) (b : Below (wr.alloc (.cells #[.int .i64 0, .int .u64 0, .int .i64 0, .int .i64 0, .int .i64 0] 24)).drew.heap.size (wr.alloc (.cells #[.int .i64 0, .int .u64 0, .int .i64 0, .int .i64 0, .int .i64 0] 24)).drew w9) (Y1 Y2 Y3 Y4 Y5 : Int) :
    TB (((((w9.setCell ⟨wr.heap.size, 0, none⟩ (.int .i64 Y1)).setCell ⟨wr.heap.size, 1, none⟩ (.int .u64 Y2)).setCell ⟨wr.heap.size, 2, none⟩ (.int .i64 Y3)).setCell ⟨wr.heap.size, 3, none⟩ (.int .i64 Y4)).setCell ⟨wr.heap.size, 4, none⟩ (.int .i64 Y5)) g Z1 Z2 Z3 Z4 Z5 := by
  have h9 := (h.alloc (.cells #[.int .i64 0, .int .u64 0, .int .i64 0, .int .i64 0, .int .i64 0] 24)).drew.call b
  have hl := h.lt
  have nG : wr.heap.size ≠ g := by omega
  exact ((((h9.other nG _).other nG _).other nG _).other nG _).other nG _
set_option maxRecDepth 20000 in
set_option maxHeartbeats 8000000 in
theorem pageBeginning_any (K S I O W : Int) (hS0 : 0 ≤ S) (hS : S ≤ 18446744073709551615) (s : ByteArray) (z : Int) (w : World) (hT : Tab w) :
    Calls Tryd.prog 6 #[tagV K S I O W, .string s, .int .i64 z] w fun e w' => e = .returned (.bool true) ∧ Below w.heap.size w w' := by
  obtain ⟨S, rfl⟩ := Int.eq_ofNat_of_zero_le hS0
  have hu := cut_size s
  obtain ⟨k0, k1⟩ := and_low K 1 (by omega)
  obtain ⟨o0, o1⟩ := and_low O 7 (by omega)
  obtain ⟨w0, w1⟩ := and_low W 65535 (by omega)
  obtain ⟨kk, hkk⟩ := Int.eq_ofNat_of_zero_le k0
  obtain ⟨oo, hoo⟩ := Int.eq_ofNat_of_zero_le o0
  obtain ⟨ww, hww⟩ := Int.eq_ofNat_of_zero_le w0
  have hm := made_may kk oo ww (by omega) (by omega) (by omega)
  have fo := fun w hT => frame_ok (1 + kk) S 0 (1 + oo) ww hm (cut s) 300 hu (by omega) w hT
  have kb : (kk : Int) ≤ 1 := by omega
  have ob : (oo : Int) ≤ 7 := by omega
  have wb : (ww : Int) ≤ 65535 := by omega
  have q1 : ((1 + kk : Nat) : Int) = 1 + (kk : Int) := by omega
  have q2 : ((1 + oo : Nat) : Int) = 1 + (oo : Int) := by omega
  have q3 : ((0 : Nat) : Int) = 0 := rfl
  have q4 : ((300 : Nat) : Int) = 300 := rfl
  have q5 : ((1 : Nat) : Int) = 1 := rfl
  have q6 : ((7 : Nat) : Int) = 7 := rfl
  have q7 : ((65535 : Nat) : Int) = 65535 := rfl
  rw [q5] at hkk
  rw [q6] at hoo
  rw [q7] at hww
  unfold tagV at fo ⊢
  rw [q1, q2, q3, q4] at fo
  clear q1 q2 q3 q4 q5 q6 q7 k0 k1 o0 o1 w0 w1
  have hzD := padB_size (cut s) 300 hu
  have hzP := spareB_size (1 + kk) S 0 (1 + oo) ww (cut s) 300
  generalize hD : padB (cut s) 300 = D at *
  generalize hP : spareB (1 + kk) S 0 (1 + oo) ww (cut s) 300 = P at *
  generalize hU : cut s = U at *
  have HU := Hid.mk hU
  have HD := Hid.mk (And.intro hD hP)
  have HM := Hid.mk hm
  have HT := Hid.mk hT
  clear hU hD hP hm hT
  have hDP : (D ++ P).size = 332 := by rw [ByteArray.size_append, hzD, hzP]
  have hconv := fun w s => run_bytes_of_string (P := Tryd.prog) w 9 37 5 s Tryd.underlying9 Tryd.underlying37 Tryd.underlying5
  obtain ⟨f, hf⟩ : ∃ f : UInt8, f = UInt8.ofNat (z / 1024 % 256).toNat := ⟨_, rfl⟩
  have hf1 : z / 1024 % 256 = (f.toNat : Int) := by
    rw [hf, UInt8.toNat_ofNat']
    omega
  have hf2 : IntKind.u8.wrap (z / 1024) = (f.toNat : Int) := by
    rw [← hf1]
    simp [IntKind.wrap, IntKind.bits, IntKind.signed]
  clear hf
  go_enter Tryd.func6, Tryd.ntmps6
  go_upto_region 6 with (first
    | (go_at_call 7; refine (few_any _ _).mono ?_; rintro e v0 ⟨rfl, hv0⟩; rw [hv0]; clear hv0; rw [HU.out])
    | (go_at_call 8; refine (fo _ ((HT.out.alloc _).alloc _)).mono ?_; rintro e W1 ⟨rfl, b1⟩; have HB := Hid.mk (And.intro (below3 (below_two w _ _) b1) (((HT.out.alloc _).alloc _).call b1)); clear b1)
    | (go_at_call 10; refine (awake_any _ HB.out.2).mono ?_; rintro e W2 ⟨rfl, b1⟩; replace HB := Hid.mk (And.intro (below3 HB.out.1 b1) (HB.out.2.call b1)); clear b1))
  clear fo hkk hoo hww hf1 hf2
  obtain ⟨a1, ha1⟩ : ∃ a1, z.tmod 332 = a1 := ⟨_, rfl⟩
  have ha2 : -332 < a1 ∧ a1 < 332 := by rw [← ha1]; exact ⟨Int.lt_tmod_of_pos z (by omega), Int.tmod_lt_of_pos z (by omega)⟩
  obtain ⟨k, hk⟩ := Int.eq_ofNat_of_zero_le (Int.tmod_nonneg 332 (show 0 ≤ a1 + 332 by omega))
  have hk2 : (k : Int) < 332 := by rw [← hk]; exact Int.tmod_lt_of_pos _ (by omega)
  have hcap := grownCap_ge W2 332 0 5
  have hcap2 := grownCap_le_maxLen W2 332 0 5 (by unfold maxLen; omega)
  go_upto_region 8 with fail
  have hB0 := (HasBytes.converted W2 (D ++ P) (grownCap W2 332 0 5) 5).drew
  have hbz := HB.out.1.size
  have hgl : W2.heap.size < (W2.alloc (.cells (bytesRow (D ++ P) (grownCap W2 332 0 5)) 5 ((bytesRow (D ++ P) (grownCap W2 332 0 5)).size, (bytesRow (D ++ P) (grownCap W2 332 0 5)).size + 1))).drew.heap.size := by
    show W2.heap.size < (W2.alloc _).heap.size
    rw [size_alloc]
    omega
  have hbb := (HB.out.1.alloc HB.out.1.size (.cells (bytesRow (D ++ P) (grownCap W2 332 0 5)) 5 ((bytesRow (D ++ P) (grownCap W2 332 0 5)).size, (bytesRow (D ++ P) (grownCap W2 332 0 5)).size + 1))).drew
  have hbt := (HB.out.2.alloc (.cells (bytesRow (D ++ P) (grownCap W2 332 0 5)) 5 ((bytesRow (D ++ P) (grownCap W2 332 0 5)).size, (bytesRow (D ++ P) (grownCap W2 332 0 5)).size + 1))).drew
  generalize (W2.alloc (.cells (bytesRow (D ++ P) (grownCap W2 332 0 5)) 5 ((bytesRow (D ++ P) (grownCap W2 332 0 5)).size, (bytesRow (D ++ P) (grownCap W2 332 0 5)).size + 1))).drew = V at *
  generalize grownCap W2 332 0 5 = cap at *
  have HG : Hid (w.heap.size ≤ W2.heap.size) := hbz
  clear hbz HB hconv
  generalize W2.heap.size = G at *
  obtain ⟨L, hL⟩ : ∃ L, L = (D ++ P).data.toList := ⟨_, rfl⟩
  rw [← hL] at hB0
  have hLl : L.length = 332 := by rw [hL, Array.length_toList]; exact hDP
  have HL := Hid.mk hL
  clear hL hk ha1
  go_wp2_with fail
  go_loopw [15] (fun i wr => ∃ j : Nat, k + j ≤ 332 ∧ i = .int .i64 ((k + j : Nat) : Int) ∧ HasBytes wr G (fil L k f j) ∧ Below w.heap.size w wr ∧ Tab wr ∧ G < wr.heap.size) (fun i _ => 332 - (intOf i).toNat)
  case atStart => exact ⟨0, by omega, rfl, hB0, hbb, hbt, hgl⟩
  case round =>
    clear hB0 hbb hbt hgl
    obtain ⟨j, hj, rfl, hB, hb, htb, hgl⟩ := hrel
    obtain ⟨kj, hkj⟩ : ∃ kj : Nat, kj = k + j := ⟨_, rfl⟩
    rw [← hkj]
    by_cases hjn : (kj : Int) < 332
    · obtain ⟨c1, f1⟩ := hB kj (by rw [fil_length]; omega)
      generalize hv : (fil L k f j).getD kj 0 = v at c1
      have HQ := Hid.mk (And.intro hB (And.intro hb (And.intro htb (And.intro hgl (And.intro hv hkj)))))
      clear hB hb htb hgl hv hkj
      go_wp2_with fail
      obtain ⟨hB, hb, htb, hgl, hv, hkj⟩ := HQ.out
      have hg0 : G ≠ 0 := by
        have := HG.out
        have := HT.out.1
        omega
      refine ⟨⟨j + 1, by omega, by rw [hkj]; go_num, ?_, hb.setCell HG.out _, htb.other hg0 _, by simpa [World.setCell] using hgl⟩, by simp [intOf]; omega⟩
      rw [hkj]
      exact hB.stored (k + j) (by rw [fil_length]; omega) _
    · generalize hLL : fil L k f j = L2 at *
      have hl2 : L2.length = 332 := by rw [← hLL, fil_length, hLl]
      have htold := told_any (ofL (L2.take 300)) (ofL (L2.drop 300)) U (D ++ P) (ofL L2) (by rw [ofL_size, List.length_take]; omega) (by rw [ofL_size, List.length_drop]; omega) (by
        intro e
        have e1 : L2 = D.data.toList ++ P.data.toList := by
          have e2 := congrArg (fun x : ByteArray => x.data.toList) e
          simpa [ofL, toList_append] using e2
        have hd : D.data.toList.length = 300 := by rw [Array.length_toList]; exact hzD
        have e3 : ofL (L2.take 300) = D := by
          rw [e1, List.take_left' hd]
          rfl
        have e4 : ofL (L2.drop 300) = P := by
          rw [e1, List.drop_left' hd]
          rfl
        rw [e3, e4, ← HD.out.1, ← HD.out.2]
        exact ⟨1 + kk, S, 0, 1 + oo, ww, Val.framed _ _ _ _ _ HM.out (by omega) U 300 hu (by omega)⟩)
      obtain ⟨same, c, Y1, Y2, Y3, Y4, Y5, t, hX⟩ := htold
      have HX := Hid.mk hX
      have cv0 := fun (W' : World) (h : HasBytes W' G L2) => h.back (P := Tryd.prog) 37 9 5 332 cap hl2.symm Tryd.underlying37 Tryd.underlying5 Tryd.underlying9
      have cv1 := fun (W' : World) (h : HasBytes W' G L2) => h.front 300 cap (by omega)
      have cv2 := fun (W' : World) (h : HasBytes W' G L2) => h.rest 300 32 (cap - 300) (by omega)
      have HQ : Hid (BgS w G L2 wr) := ⟨hB, hb, htb, hgl⟩
      have x0 := cv0 wr hB
      rw [show (⟨L2.toArray⟩ : ByteArray) = ofL L2 from rfl] at x0
      have HV := Hid.mk (And.intro cv1 cv2)
      have hc3 : (300 : Int) ≤ (cap : Int) := by omega
      clear hX cv0 cv1 cv2 hB hb htb hgl hLL hl2 hLl hkj
      generalize ofL (L2.take 300) = A1 at *
      generalize ofL (L2.drop 300) = A2 at *
      generalize ofL L2 = LL at *
      have hDPs : D.size + P.size = 332 := by omega
      have hs := HX.out.s
      rcases hs with ⟨rfl, rfl, rfl, rfl⟩ | ⟨rfl, hne⟩
      · go_upto_region 13 with fail
        clear x0
        have x1 := HV.out.1 wr.drew HQ.out.1
        have x2 := HV.out.2 wr.drew HQ.out.1
        have x3 := fun o => HV.out.1 (wr.alloc o).drew (HQ.out.alloc o).1
        have x4 := fun o => HV.out.2 (wr.alloc o).drew (HQ.out.alloc o).1
        go_cut [17, 18, 19] (fun vc vp vt wx => vc = .int .i64 1 ∧ vt = .string t ∧ ∃ g, vp = .pointer (some ⟨g, 0, none⟩) ∧ TB wx g Y1 Y2 Y3 Y4 Y5 ∧ BgS w G L2 wx)
        case first =>
          go_region_with (first | (go_at_call 13; refine (HX.out.p _ (by first | exact HQ.out.2.2.1 | exact HQ.out.drew.2.2.1 | exact (HQ.out.alloc _).2.2.1)).mono ?_; rintro e w9 ⟨rfl, b9⟩; have hz8 := TB.fresh w9 0 0 0 0 0; have p0 := hz8.frozen 0; have p1 := hz8.frozen 1; have p2 := hz8.frozen 2; have p3 := hz8.frozen 3; have p4 := hz8.frozen 4; obtain ⟨r0, r1, r2, r3, r4⟩ := hz8.five; clear hz8; (try (have hz9 : TB w9 wr.heap.size 0 0 0 0 0 := tb_kept b9; have y0 := hz9.frozen 0; have y1 := hz9.frozen 1; have y2 := hz9.frozen 2; have y3 := hz9.frozen 3; have y4 := hz9.frozen 4; obtain ⟨z0, z1, z2, z3, z4⟩ := hz9.five; clear hz9))))
          all_goals
            go_wp2_with fail
            go_meet
            first
            | exact ⟨rfl, rfl, _, rfl, (bg_a HQ.out b9 Y1 Y2 Y3 Y4 Y5).1, (bg_a HQ.out b9 Y1 Y2 Y3 Y4 Y5).2⟩
            | exact ⟨rfl, rfl, _, rfl, (bg_b HQ.out b9 Y1 Y2 Y3 Y4 Y5).1, (bg_b HQ.out b9 Y1 Y2 Y3 Y4 Y5).2⟩
        case rest =>
          obtain ⟨rfl, rfl, g1, rfl, hN1, hS1⟩ := hcut
          replace HQ := Hid.mk hS1
          have HN := Hid.mk hN1
          clear x1 x2 x3 x4 hS1 hN1
          go_upto_region 14 with fail
          have x1 := HV.out.1 wc.drew HQ.out.1
          have x2 := HV.out.2 wc.drew HQ.out.1
          have x3 := fun o => HV.out.1 (wc.alloc o).drew (HQ.out.alloc o).1
          have x4 := fun o => HV.out.2 (wc.alloc o).drew (HQ.out.alloc o).1
          go_cut [20, 21, 22] (fun vc vp vt wx => vc = .int .i64 1 ∧ vt = .string t ∧ ∃ g, vp = .pointer (some ⟨g, 0, none⟩) ∧ TB wx g Y1 Y2 Y3 Y4 Y5 ∧ BgS w G L2 wx ∧ TB wx g1 Y1 Y2 Y3 Y4 Y5)
          case first =>
            go_region_with (first | (go_at_call 14; refine (HX.out.r _).mono ?_; rintro e w9 ⟨rfl, b9⟩; have hz8 := TB.fresh w9 0 0 0 0 0; have p0 := hz8.frozen 0; have p1 := hz8.frozen 1; have p2 := hz8.frozen 2; have p3 := hz8.frozen 3; have p4 := hz8.frozen 4; obtain ⟨r0, r1, r2, r3, r4⟩ := hz8.five; clear hz8; (try (have hz9 : TB w9 wc.heap.size 0 0 0 0 0 := tb_kept b9; have y0 := hz9.frozen 0; have y1 := hz9.frozen 1; have y2 := hz9.frozen 2; have y3 := hz9.frozen 3; have y4 := hz9.frozen 4; obtain ⟨z0, z1, z2, z3, z4⟩ := hz9.five; clear hz9))))
            all_goals
              go_wp2_with fail
              go_meet
              first
              | exact ⟨rfl, rfl, _, rfl, (bg_a HQ.out b9 Y1 Y2 Y3 Y4 Y5).1, (bg_a HQ.out b9 Y1 Y2 Y3 Y4 Y5).2, (HN.out.drew.call b9).alloc _⟩
              | exact ⟨rfl, rfl, _, rfl, (bg_b HQ.out b9 Y1 Y2 Y3 Y4 Y5).1, (bg_b HQ.out b9 Y1 Y2 Y3 Y4 Y5).2, tb_b HN.out b9 Y1 Y2 Y3 Y4 Y5⟩
          case rest =>
            obtain ⟨rfl, rfl, g2, rfl, hN2, hS2, hN1⟩ := hcut
            obtain ⟨c0, c1, c2, c3, c4⟩ := hN1.five
            obtain ⟨d0, d1, d2, d3, d4⟩ := hN2.five
            have HB := Hid.mk hS2.2.1
            clear x1 x2 x3 x4 HQ HN hN1 hN2 hS2
            go_wp2_with fail
            go_ret
            exact ⟨rfl, HB.out⟩
      · have hnb := bytes_beq_false _ _ hne
        clear hne
        go_upto_region 13 with fail
        clear x0
        have x1 := HV.out.1 wr.drew HQ.out.1
        have x2 := HV.out.2 wr.drew HQ.out.1
        have x3 := fun o => HV.out.1 (wr.alloc o).drew (HQ.out.alloc o).1
        have x4 := fun o => HV.out.2 (wr.alloc o).drew (HQ.out.alloc o).1
        go_cut [17, 18, 19] (fun vc vp vt wx => vc = .int .i64 c ∧ vt = .string t ∧ ∃ g, vp = .pointer (some ⟨g, 0, none⟩) ∧ TB wx g Y1 Y2 Y3 Y4 Y5 ∧ BgS w G L2 wx)
        case first =>
          go_region_with (first | (go_at_call 13; refine (HX.out.p _ (by first | exact HQ.out.2.2.1 | exact HQ.out.drew.2.2.1 | exact (HQ.out.alloc _).2.2.1)).mono ?_; rintro e w9 ⟨rfl, b9⟩; have hz8 := TB.fresh w9 0 0 0 0 0; have p0 := hz8.frozen 0; have p1 := hz8.frozen 1; have p2 := hz8.frozen 2; have p3 := hz8.frozen 3; have p4 := hz8.frozen 4; obtain ⟨r0, r1, r2, r3, r4⟩ := hz8.five; clear hz8; (try (have hz9 : TB w9 wr.heap.size 0 0 0 0 0 := tb_kept b9; have y0 := hz9.frozen 0; have y1 := hz9.frozen 1; have y2 := hz9.frozen 2; have y3 := hz9.frozen 3; have y4 := hz9.frozen 4; obtain ⟨z0, z1, z2, z3, z4⟩ := hz9.five; clear hz9))))
          all_goals
            go_wp2_with fail
            go_meet
            first
            | exact ⟨rfl, rfl, _, rfl, (bg_a HQ.out b9 Y1 Y2 Y3 Y4 Y5).1, (bg_a HQ.out b9 Y1 Y2 Y3 Y4 Y5).2⟩
            | exact ⟨rfl, rfl, _, rfl, (bg_b HQ.out b9 Y1 Y2 Y3 Y4 Y5).1, (bg_b HQ.out b9 Y1 Y2 Y3 Y4 Y5).2⟩
        case rest =>
          obtain ⟨rfl, rfl, g1, rfl, hN1, hS1⟩ := hcut
          replace HQ := Hid.mk hS1
          have HN := Hid.mk hN1
          clear x1 x2 x3 x4 hS1 hN1
          go_upto_region 14 with fail
          have x1 := HV.out.1 wc.drew HQ.out.1
          have x2 := HV.out.2 wc.drew HQ.out.1
          have x3 := fun o => HV.out.1 (wc.alloc o).drew (HQ.out.alloc o).1
          have x4 := fun o => HV.out.2 (wc.alloc o).drew (HQ.out.alloc o).1
          go_cut [20, 21, 22] (fun vc vp vt wx => vc = .int .i64 c ∧ vt = .string t ∧ ∃ g, vp = .pointer (some ⟨g, 0, none⟩) ∧ TB wx g Y1 Y2 Y3 Y4 Y5 ∧ BgS w G L2 wx ∧ TB wx g1 Y1 Y2 Y3 Y4 Y5)
          case first =>
            go_region_with (first | (go_at_call 14; refine (HX.out.r _).mono ?_; rintro e w9 ⟨rfl, b9⟩; have hz8 := TB.fresh w9 0 0 0 0 0; have p0 := hz8.frozen 0; have p1 := hz8.frozen 1; have p2 := hz8.frozen 2; have p3 := hz8.frozen 3; have p4 := hz8.frozen 4; obtain ⟨r0, r1, r2, r3, r4⟩ := hz8.five; clear hz8; (try (have hz9 : TB w9 wc.heap.size 0 0 0 0 0 := tb_kept b9; have y0 := hz9.frozen 0; have y1 := hz9.frozen 1; have y2 := hz9.frozen 2; have y3 := hz9.frozen 3; have y4 := hz9.frozen 4; obtain ⟨z0, z1, z2, z3, z4⟩ := hz9.five; clear hz9))))
            all_goals
              go_wp2_with fail
              go_meet
              first
              | exact ⟨rfl, rfl, _, rfl, (bg_a HQ.out b9 Y1 Y2 Y3 Y4 Y5).1, (bg_a HQ.out b9 Y1 Y2 Y3 Y4 Y5).2, (HN.out.drew.call b9).alloc _⟩
              | exact ⟨rfl, rfl, _, rfl, (bg_b HQ.out b9 Y1 Y2 Y3 Y4 Y5).1, (bg_b HQ.out b9 Y1 Y2 Y3 Y4 Y5).2, tb_b HN.out b9 Y1 Y2 Y3 Y4 Y5⟩
          case rest =>
            obtain ⟨rfl, rfl, g2, rfl, hN2, hS2, hN1⟩ := hcut
            obtain ⟨c0, c1, c2, c3, c4⟩ := hN1.five
            obtain ⟨d0, d1, d2, d3, d4⟩ := hN2.five
            have HB := Hid.mk hS2.2.1
            clear x1 x2 x3 x4 HQ HN hN1 hN2 hS2
            go_wp2_with fail
            go_ret
            exact ⟨rfl, HB.out⟩
end Go.Proofs.YtaagnlgaadgpdaaDoor
