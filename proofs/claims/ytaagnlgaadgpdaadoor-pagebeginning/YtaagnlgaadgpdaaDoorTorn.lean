/-
  The walk of PageTorn. Condition: the table's cells hold what the text lays.
-/
import Derived.Test.YtaagnlgaadgpdaaDoorBurst
import Derived.Test.YtaagnlgaadgpdaaDoorFrames
namespace Go.Proofs.YtaagnlgaadgpdaaDoor
open Go Go.RowKit

theorem and_low (x : Int) (m : Nat) (hm : m < 9223372036854775808) : 0 ≤ bits .and .i64 x m ∧ bits .and .i64 x m ≤ m := by
  have e : bits .and .i64 x m = IntKind.i64.wrap ((BitVec.ofInt 64 x &&& BitVec.ofInt 64 m).toNat : Int) := rfl
  have e1 : BitVec.ofInt 64 (m : Int) = BitVec.ofNat 64 m := BitVec.ofInt_natCast 64 m
  have h : (BitVec.ofInt 64 x &&& BitVec.ofNat 64 m).toNat ≤ m := by
    rw [BitVec.toNat_and, BitVec.toNat_ofNat, Nat.mod_eq_of_lt (by omega)]
    exact Nat.and_le_right
  rw [e, e1, wrap_i64 _ (by omega)]
  omega
/-- the tag that the law makes -/
theorem made_may (kk oo ww : Nat) (hk : kk ≤ 1) (ho : oo ≤ 7) (hw : ww ≤ 65535) : mayB ((1 + kk : Nat) : Int) ((0 : Nat) : Int) ((1 + oo : Nat) : Int) (ww : Int) := by
  unfold mayB
  omega
theorem Tab.other {w : World} (h : Tab w) {a : Addr} (ha : a.block ≠ 0) (v : Value) : Tab (w.setCell a v) := by
  refine ⟨by simpa [World.setCell] using h.1, fun i hi => ?_⟩
  have hne : a ≠ ⟨0, i, none⟩ := by
    intro e
    rw [e] at ha
    exact ha rfl
  rw [World.cell?_setCell_other _ _ _ _ hne]
  exact h.2 i hi
theorem tb_kept {w0 w1 : World} (b : Below (w0.alloc (.cells #[.int .i64 0, .int .u64 0, .int .i64 0, .int .i64 0, .int .i64 0] 24)).drew.heap.size (w0.alloc (.cells #[.int .i64 0, .int .u64 0, .int .i64 0, .int .i64 0, .int .i64 0] 24)).drew w1) : TB w1 w0.heap.size 0 0 0 0 0 := (TB.fresh w0 0 0 0 0 0).drew.call b
/-- 'string(b[:h])' and 'string(b[l:])' -/
theorem HasBytes.front {w : World} {g : Nat} {l : List UInt8} (h : HasBytes w g l) (n cap : Nat) (hn : n ≤ l.length) : (convert 37 9 (.slice (some ⟨g, 0, none⟩) n cap)).run Tryd.prog w = .ok (.string (ofL (l.take n))) w :=
  (h.take n).back 37 9 5 n cap (by rw [List.length_take]; omega) Tryd.underlying37 Tryd.underlying5 Tryd.underlying9
theorem HasBytes.rest {w : World} {g : Nat} {l : List UInt8} (h : HasBytes w g l) (n m cap : Nat) (hm : m = l.length - n) : (convert 37 9 (.slice (some ⟨g, n, none⟩) m cap)).run Tryd.prog w = .ok (.string (ofL (l.drop n))) w := by
  subst hm
  have hl : (l.drop n).length = l.length - n := List.length_drop
  rw [← hl]
  refine run_convert_bytes_back w 37 9 5 ⟨g, n, none⟩ cap (l.drop n) Tryd.underlying37 Tryd.underlying5 Tryd.underlying9 ?_
  intro j hj
  have hj2 : n + j < l.length := by omega
  have := (h (n + j) hj2).1
  rw [List.getD_eq_getElem?_getD, List.getElem?_eq_getElem hj2] at this
  have ea : (⟨g, n, none⟩ : Addr).add j = ⟨g, n + j, none⟩ := by unfold Addr.add; split <;> simp_all
  rw [ea, this, List.getElem_drop]
  rfl
set_option maxRecDepth 20000 in
set_option maxHeartbeats 8000000 in
theorem pageTorn_any (K S I O W : Int) (hS0 : 0 ≤ S) (hS : S ≤ 18446744073709551615) (s : ByteArray) (z : Int) (w : World) (hT : Tab w) :
    Calls Tryd.prog 5 #[tagV K S I O W, .string s, .int .i64 z] w fun e w' => e = .returned (.bool true) ∧ Below w.heap.size w w' := by
  obtain ⟨S, rfl⟩ := Int.eq_ofNat_of_zero_le hS0
  have hu := cut_size s
  obtain ⟨k0, k1⟩ := and_low K 1 (by omega)
  obtain ⟨o0, o1⟩ := and_low O 7 (by omega)
  obtain ⟨w0, w1⟩ := and_low W 65535 (by omega)
  obtain ⟨kk, hkk⟩ := Int.eq_ofNat_of_zero_le k0
  obtain ⟨oo, hoo⟩ := Int.eq_ofNat_of_zero_le o0
  obtain ⟨ww, hww⟩ := Int.eq_ofNat_of_zero_le w0
  have hm := made_may kk oo ww (by omega) (by omega) (by omega)
  have fo := fun w hT => frame_ok (1 + kk) S 0 (1 + oo) ww hm (cut s) 300 hu (by omega) w hT
  have kb : (kk : Int) ≤ 1 := by omega
  have ob : (oo : Int) ≤ 7 := by omega
  have wb : (ww : Int) ≤ 65535 := by omega
  have q1 : ((1 + kk : Nat) : Int) = 1 + (kk : Int) := by omega
  have q2 : ((1 + oo : Nat) : Int) = 1 + (oo : Int) := by omega
  have q3 : ((0 : Nat) : Int) = 0 := rfl
  have q4 : ((300 : Nat) : Int) = 300 := rfl
  have q5 : ((1 : Nat) : Int) = 1 := rfl
  have q6 : ((7 : Nat) : Int) = 7 := rfl
  have q7 : ((65535 : Nat) : Int) = 65535 := rfl
  rw [q5] at hkk
  rw [q6] at hoo
  rw [q7] at hww
  unfold tagV at fo ⊢
  rw [q1, q2, q3, q4] at fo
  clear q1 q2 q3 q4 q5 q6 q7 k0 k1 o0 o1 w0 w1
  have hzD := padB_size (cut s) 300 hu
  have hzP := spareB_size (1 + kk) S 0 (1 + oo) ww (cut s) 300
  generalize hD : padB (cut s) 300 = D at *
  generalize hP : spareB (1 + kk) S 0 (1 + oo) ww (cut s) 300 = P at *
  generalize hU : cut s = U at *
  have HU := Hid.mk hU
  have HD := Hid.mk (And.intro hD hP)
  have HM := Hid.mk hm
  have HT := Hid.mk hT
  clear hU hD hP hm hT
  have hDP : (D ++ P).size = 332 := by rw [ByteArray.size_append, hzD, hzP]
  have hconv := fun w s => run_bytes_of_string (P := Tryd.prog) w 9 37 5 s Tryd.underlying9 Tryd.underlying37 Tryd.underlying5
  go_enter Tryd.func5, Tryd.ntmps5
  go_upto_region 6 with (first
    | (go_at_call 7; refine (few_any _ _).mono ?_; rintro e v0 ⟨rfl, hv0⟩; rw [hv0]; clear hv0; rw [HU.out])
    | (go_at_call 8; refine (fo _ ((HT.out.alloc _).alloc _)).mono ?_; rintro e W1 ⟨rfl, b1⟩; have HB := Hid.mk (And.intro (below3 (below_two w _ _) b1) (((HT.out.alloc _).alloc _).call b1)); clear b1)
    | (go_at_call 10; refine (awake_any _ HB.out.2).mono ?_; rintro e W2 ⟨rfl, b1⟩; replace HB := Hid.mk (And.intro (below3 HB.out.1 b1) (HB.out.2.call b1)); clear b1))
  clear fo hkk hoo hww
  obtain ⟨a1, ha1⟩ : ∃ a1, z.tmod 329 = a1 := ⟨_, rfl⟩
  have ha2 : -329 < a1 ∧ a1 < 329 := by rw [← ha1]; exact ⟨Int.lt_tmod_of_pos z (by omega), Int.tmod_lt_of_pos z (by omega)⟩
  obtain ⟨k, hk⟩ := Int.eq_ofNat_of_zero_le (Int.tmod_nonneg 329 (show 0 ≤ a1 + 332 - 3 by omega))
  have hk2 : (k : Int) < 329 := by rw [← hk]; exact Int.tmod_lt_of_pos _ (by omega)
  obtain ⟨n0, n1⟩ := and_low (z / 512) 3 (by omega)
  obtain ⟨nn, hnn⟩ := Int.eq_ofNat_of_zero_le n0
  have nb : (nn : Int) ≤ 3 := by rw [← hnn]; exact n1
  obtain ⟨m0, m1⟩ := and_low (z / 4096) 63 (by omega)
  obtain ⟨mm, hmm⟩ := Int.eq_ofNat_of_zero_le m0
  have mb : (mm : Int) ≤ 63 := by rw [← hmm]; exact m1
  have q1 : ((3 : Nat) : Int) = 3 := rfl
  have q2 : ((63 : Nat) : Int) = 63 := rfl
  rw [q1] at hnn
  rw [q2] at hmm
  clear n0 n1 m0 m1 q1 q2
  have hcap := grownCap_ge W2 332 0 5
  have hcap2 := grownCap_le_maxLen W2 332 0 5 (by unfold maxLen; omega)
  go_upto_region 9 with fail
  have hB0 := (HasBytes.converted W2 (D ++ P) (grownCap W2 332 0 5) 5).drew
  have hbz := HB.out.1.size
  have hgl : W2.heap.size < (W2.alloc (.cells (bytesRow (D ++ P) (grownCap W2 332 0 5)) 5 ((bytesRow (D ++ P) (grownCap W2 332 0 5)).size, (bytesRow (D ++ P) (grownCap W2 332 0 5)).size + 1))).drew.heap.size := by
    show W2.heap.size < (W2.alloc _).heap.size
    rw [size_alloc]
    omega
  have hbb := (HB.out.1.alloc HB.out.1.size (.cells (bytesRow (D ++ P) (grownCap W2 332 0 5)) 5 ((bytesRow (D ++ P) (grownCap W2 332 0 5)).size, (bytesRow (D ++ P) (grownCap W2 332 0 5)).size + 1))).drew
  have hbt := (HB.out.2.alloc (.cells (bytesRow (D ++ P) (grownCap W2 332 0 5)) 5 ((bytesRow (D ++ P) (grownCap W2 332 0 5)).size, (bytesRow (D ++ P) (grownCap W2 332 0 5)).size + 1))).drew
  generalize (W2.alloc (.cells (bytesRow (D ++ P) (grownCap W2 332 0 5)) 5 ((bytesRow (D ++ P) (grownCap W2 332 0 5)).size, (bytesRow (D ++ P) (grownCap W2 332 0 5)).size + 1))).drew = V at *
  generalize grownCap W2 332 0 5 = cap at *
  have HG : Hid (w.heap.size ≤ W2.heap.size) := hbz
  clear hbz HB hconv
  generalize W2.heap.size = G at *
  obtain ⟨L, hL⟩ : ∃ L, L = (D ++ P).data.toList := ⟨_, rfl⟩
  rw [← hL] at hB0
  have hLl : L.length = 332 := by rw [hL, Array.length_toList]; exact hDP
  obtain ⟨m, hm⟩ : ∃ m : UInt8, m = UInt8.ofNat (1 + mm) := ⟨_, rfl⟩
  have hmn : (1 : Int) + (mm : Int) = (m.toNat : Int) := by
    rw [hm, UInt8.toNat_ofNat']
    omega
  have HL := Hid.mk (And.intro hL hm)
  clear hL hm hk ha1
  go_wp2_with fail
  go_loopw [15] (fun i wr => ∃ j : Nat, j ≤ 1 + nn ∧ i = .int .i64 j ∧ HasBytes wr G (pat L k m j) ∧ Below w.heap.size w wr ∧ Tab wr ∧ G < wr.heap.size) (fun i _ => 1 + nn - (intOf i).toNat)
  case atStart => exact ⟨0, Nat.zero_le _, rfl, hB0, hbb, hbt, hgl⟩
  case round =>
    clear hB0 hbb hbt hgl
    obtain ⟨j, hj, rfl, hB, hb, htb, hgl⟩ := hrel
    by_cases hjn : (j : Int) < 1 + (nn : Int)
    · obtain ⟨kj, hkj⟩ : ∃ kj : Nat, kj = k + j := ⟨_, rfl⟩
      have hkI : (k : Int) + (j : Int) = (kj : Int) := by omega
      have hk9 : (kj : Int) < 332 := by omega
      obtain ⟨c1, f1⟩ := hB kj (by rw [pat_length]; omega)
      generalize hv : (pat L k m j).getD kj 0 = v at c1
      have HQ := Hid.mk (And.intro hB (And.intro hb (And.intro htb (And.intro hgl (And.intro hv hkj)))))
      clear hB hb htb hgl hv hkj
      go_wp2_with fail
      obtain ⟨hB, hb, htb, hgl, hv, hkj⟩ := HQ.out
      have hg0 : G ≠ 0 := by
        have := HG.out
        have := HT.out.1
        omega
      refine ⟨⟨j + 1, by omega, by go_num, ?_, hb.setCell HG.out _, htb.other hg0 _, by simpa [World.setCell] using hgl⟩, by simp [intOf]; omega⟩
      rw [xor8, hkj, ← hv, hkj]
      exact hB.stored (k + j) (by rw [pat_length]; omega) _
    · have hjj : j = 1 + nn := by omega
      have hT3 := torn_page (1 + kk) S 0 (1 + oo) ww HM.out (by omega) U hu k j m (by omega) (by omega) (by omega) (by
        intro e
        rw [e] at hmn
        have : ((0 : UInt8).toNat : Int) = 0 := rfl
        omega) (pat L k m j) (by rw [HL.out.1, toList_append, HD.out.1, HD.out.2])
      obtain ⟨l1, l2, l3⟩ := hT3
      have cv1 := fun (W' : World) (h : HasBytes W' G (pat L k m j)) => h.front 300 cap (by omega)
      have cv2 := fun (W' : World) (h : HasBytes W' G (pat L k m j)) => h.rest 300 32 (cap - 300) (by omega)
      have lk := fun w hT => look_t (ofL ((pat L k m j).take 300)) (ofL ((pat L k m j).drop 300)) (by rw [ofL_size, List.length_take]; omega) (by rw [ofL_size, List.length_drop]; omega) l2 l3 w hT
      unfold lookV tagV at lk
      have HQ := Hid.mk (And.intro hB (And.intro hb (And.intro htb hgl)))
      have x1 := cv1 wr.drew hB
      have x2 := cv2 wr.drew hB
      have x3 := fun o => cv1 (wr.alloc o).drew (hB.alloc hgl o).drew
      have x4 := fun o => cv2 (wr.alloc o).drew (hB.alloc hgl o).drew
      have hc3 : (300 : Int) ≤ (cap : Int) := by omega
      clear l1 l2 l3 cv1 cv2 hB hb htb hgl hmn hmm hnn hDP hLl
      generalize ofL ((pat L k m j).take 300) = A1 at *
      generalize ofL ((pat L k m j).drop 300) = A2 at *
      go_upto_region 13 with fail
      go_region_with (first | (go_at_call 13; refine (lk _ (by first | exact HQ.out.2.2.1 | exact HQ.out.2.2.1.drew | exact (HQ.out.2.2.1.alloc _).drew)).mono ?_; rintro e w9 ⟨rfl, b9⟩; have hz8 := TB.fresh w9 0 0 0 0 0; have p0 := hz8.frozen 0; have p1 := hz8.frozen 1; have p2 := hz8.frozen 2; have p3 := hz8.frozen 3; have p4 := hz8.frozen 4; obtain ⟨r0, r1, r2, r3, r4⟩ := hz8.five; clear hz8; (try (have hz9 : TB w9 wr.heap.size 0 0 0 0 0 := tb_kept b9; have y0 := hz9.frozen 0; have y1 := hz9.frozen 1; have y2 := hz9.frozen 2; have y3 := hz9.frozen 3; have y4 := hz9.frozen 4; obtain ⟨z0, z1, z2, z3, z4⟩ := hz9.five; clear hz9))))
      all_goals
        go_wp2_with fail
        go_ret
        refine ⟨rfl, ?_⟩
        first
        | exact (below3 HQ.out.2.1.drew b9).alloc (below3 HQ.out.2.1.drew b9).size _
        | (have hb9 := below3 (HQ.out.2.1.alloc HQ.out.2.1.size _).drew b9
           have hw := HQ.out.2.1.size
           first
           | exact ((((hb9.setCell hw _).setCell hw _).setCell hw _).setCell hw _).setCell hw _
           | exact hb9)
end Go.Proofs.YtaagnlgaadgpdaaDoor
