/-
  What a page is: the walk of the answer's Look, where it frames the page anew. No condition.
-/
import Derived.Test.YtaphpdmfjnhlaaaGreatDoorARLk
import Derived.Test.YtaphpdmfjnhlaaaGreatDoorARFr
namespace Go.Proofs.YtaphpdmfjnhlaaaGreatDoor.Pg
open Go Go.RowKit
set_option maxRecDepth 100000
theorem rls_keep {w : World} {s5 : ByteArray} {e5 : Int} {K S I O W : Int} {wx w2 : World} (h : wx.cell? ⟨w.heap.size + 1 + 1, 0, none⟩ = some (.int .i64 K) /\ wx.cell? ⟨w.heap.size + 1 + 1, 1, none⟩ = some (.int .u64 S) /\ wx.cell? ⟨w.heap.size + 1 + 1, 2, none⟩ = some (.int .i64 I) /\ wx.cell? ⟨w.heap.size + 1 + 1, 3, none⟩ = some (.int .i64 O) /\ wx.cell? ⟨w.heap.size + 1 + 1, 4, none⟩ = some (.int .i64 W) /\ RlS w s5 e5 K S I O W wx) (b : Below wx.heap.size wx w2) : w2.cell? ⟨w.heap.size + 1 + 1, 0, none⟩ = some (.int .i64 K) /\ w2.cell? ⟨w.heap.size + 1 + 1, 1, none⟩ = some (.int .u64 S) /\ w2.cell? ⟨w.heap.size + 1 + 1, 2, none⟩ = some (.int .i64 I) /\ w2.cell? ⟨w.heap.size + 1 + 1, 3, none⟩ = some (.int .i64 O) /\ w2.cell? ⟨w.heap.size + 1 + 1, 4, none⟩ = some (.int .i64 W) /\ RlS w s5 e5 K S I O W w2 := by
 have h2 := h.2.2.2.2.2.call b
 have h5 := h2.2.2.1.five
 exact ⟨h5.1, h5.2.1, h5.2.2.1, h5.2.2.2.1, h5.2.2.2.2, h2⟩
set_option maxHeartbeats 4000000 in
theorem rlook_t3 (d s : ByteArray) (zd : d.size <= 65535) (hall : allF (d ++ s) = false) (h32 : s.size = 32) {K S I O W L : Nat} (h6 : Six s K S I O W L) (hL : L <= d.size) (hmay : mayB K I O W) (hne : ¬ padB (d.extract 0 L) d.size = d) (w : World) : Calls Tryz.prog 22 #[.string d, .string s] w fun e w' => e = .returned (lookV 2) /\ Below w.heap.size w w' := by
 obtain ⟨b1, b2, b3, b4, b5, b6⟩ := h6.bounds
 obtain ⟨s1, e1, s2, e2, s3, e3, s4, e4, s5, e5, s6, e6, q1, q2, q3, q4, q5, q6⟩ := h6.out
 clear h6
 have x1 := wrap_i64 K (by omega)
 have x3 := wrap_i64 I (by omega)
 have x4 := wrap_i64 O (by omega)
 have x5 := wrap_i64 W (by omega)
 have x6 := wrap_i64 L (by omega)
 have h33 : (s.size : Int) = 32 := by omega
 clear h32
 have hL2 : (L : Int) <= (d.size : Int) := by omega
 have hMs : (d.extract 0 L).size <= d.size := by rw [ByteArray.size_extract]; omega
 have hnb := bytes_beq_false _ _ hne
 clear hne
 have fo := fun w => refFrame_any K S I O W (by omega) b2 (by omega) (by omega) (by omega) (d.extract 0 L) d.size hMs zd w
 have hc := chk_iff.2 hmay
 clear hmay
 have b5i : (W : Int) <= 9223372036854775807 := by omega
 unfold tagV at fo
 generalize hM : d.extract 0 L = M at *
 generalize padB M d.size = D at *
 generalize spareB K S I O W M d.size = P at *
 generalize hA : d ++ s = A at *
 have hAz : A.size = d.size + s.size := by rw [<- hA, ByteArray.size_append]
 have HF := Hid.mk hall
 clear hall
 have hz0 : d.size + s.size <= 1100000 := by omega
 go_enter Tryz.func22, Tryz.ntmps22
 go_wp2_with fail
 have HA := Hid.mk hA
 clear hA
 go_loop [7, 9] (fun c i => ∃ (k : Nat) (b : Bool), k <= A.size /\ i = .int .i64 k /\ c = .bool b /\ Hid (b = preF A k)) (fun _ i => A.size - (intOf i).toNat)
 case atStart => exact ⟨0, true, Nat.zero_le _, rfl, rfl, Hid.mk rfl⟩
 case round =>
  obtain ⟨k, b, hk, rfl, rfl, hb⟩ := hrel
  by_cases hks : k < A.size
  ·have hst := preF_succ A k hks
   rw [<- hb.out] at hst
   have HS := Hid.mk hst
   clear hst hb
   cases b with
   | false =>
    go_wp2_with fail
    exact ⟨⟨k + 1, false, by omega, by go_num, rfl, Hid.mk HS.out.symm⟩, by simp [intOf]; omega⟩
   | true =>
    by_cases hx : A[k] = 255
    ·have hx2 : ((A[k].toNat : Int)) = 255 := by rw [hx]; rfl
     have HX := Hid.mk hx
     clear hx
     go_wp2_with fail
     exact ⟨⟨k + 1, true, by omega, by go_num, rfl, Hid.mk (by rw [HS.out, HX.out]; rfl)⟩, by simp [intOf]; omega⟩
    ·have hx2 : ¬ ((A[k].toNat : Int)) = 255 := by
      intro e
      apply hx
      apply UInt8.toNat_inj.1
      show A[k].toNat = 255
      omega
     have HX := Hid.mk hx
     clear hx
     go_wp2_with fail
     exact ⟨⟨k + 1, false, by omega, by go_num, congrArg Value.bool (beq_eq_false_iff_ne.2 hx2), Hid.mk (by rw [HS.out, Bool.true_and]; exact (beq_eq_false_iff_ne.2 HX.out).symm)⟩, by simp [intOf]; omega⟩
  ·have hk2 : k = A.size := by omega
   have hbb := hb.out
   rw [hk2, preF_all, HF.out] at hbb
   clear hk2 hb
   subst hbb
   go_upto_region 13 with fail
   have HQ := Hid.mk (rls_start w s)
   generalize (((w.alloc (.cells #[.int .i64 0, .int .u64 0, .int .i64 0, .int .i64 0, .int .i64 0] 68)).alloc (.cells #[.string s, .int .i64 0] 146)).alloc (.cells #[.int .i64 0, .int .u64 0, .int .i64 0, .int .i64 0, .int .i64 0] 68)) = V0 at *
   have a0 := HQ.out.2.1.rest
   have a1 := HQ.out.2.1.err
   have fa0 := HQ.out.2.1.frozen 0
   have fa1 := HQ.out.2.1.frozen 1
   obtain ⟨c0, c1, c2, c3, c4⟩ := HQ.out.2.2.1.five
   have fc0 := HQ.out.2.2.1.frozen 0
   have fc1 := HQ.out.2.2.1.frozen 1
   have fc2 := HQ.out.2.2.1.frozen 2
   have fc3 := HQ.out.2.2.1.frozen 3
   have fc4 := HQ.out.2.2.1.frozen 4
   go_upto_region 14 with (first | (go_at_call 67; refine (atFixed_any _ _ _ _).mono ?_; rintro x W1 ⟨rfl, b1⟩; rw [q1]; replace HQ := Hid.mk (HQ.out.call b1); clear b1; clear a0 a1 fa0 fa1 c0 c1 c2 c3 c4 fc0 fc1 fc2 fc3 fc4; have a0 := HQ.out.2.1.rest; have a1 := HQ.out.2.1.err; have fa0 := HQ.out.2.1.frozen 0; have fa1 := HQ.out.2.1.frozen 1; obtain ⟨c0, c1, c2, c3, c4⟩ := HQ.out.2.2.1.five; have fc0 := HQ.out.2.2.1.frozen 0; have fc1 := HQ.out.2.2.1.frozen 1; have fc2 := HQ.out.2.2.1.frozen 2; have fc3 := HQ.out.2.2.1.frozen 3; have fc4 := HQ.out.2.2.1.frozen 4))
   clear a0 a1 fa0 fa1 c0 c1 c2 c3 c4 fc0 fc1 fc2 fc3 fc4
   replace HQ := Hid.mk (HQ.out.read s1 e1)
   generalize ((W1.setCell ⟨w.heap.size + 1, 0, none⟩ (.string s1)).setCell ⟨w.heap.size + 1, 1, none⟩ (.int .i64 e1)) = V1 at *
   have a0 := HQ.out.2.1.rest
   have a1 := HQ.out.2.1.err
   have fa0 := HQ.out.2.1.frozen 0
   have fa1 := HQ.out.2.1.frozen 1
   obtain ⟨c0, c1, c2, c3, c4⟩ := HQ.out.2.2.1.five
   have fc0 := HQ.out.2.2.1.frozen 0
   have fc1 := HQ.out.2.2.1.frozen 1
   have fc2 := HQ.out.2.2.1.frozen 2
   have fc3 := HQ.out.2.2.1.frozen 3
   have fc4 := HQ.out.2.2.1.frozen 4
   go_upto_region 15 with (first | (go_at_call 67; refine (atFixed_any _ _ _ _).mono ?_; rintro x W2 ⟨rfl, b1⟩; rw [q2]; replace HQ := Hid.mk (HQ.out.call b1); clear b1; clear a0 a1 fa0 fa1 c0 c1 c2 c3 c4 fc0 fc1 fc2 fc3 fc4; have a0 := HQ.out.2.1.rest; have a1 := HQ.out.2.1.err; have fa0 := HQ.out.2.1.frozen 0; have fa1 := HQ.out.2.1.frozen 1; obtain ⟨c0, c1, c2, c3, c4⟩ := HQ.out.2.2.1.five; have fc0 := HQ.out.2.2.1.frozen 0; have fc1 := HQ.out.2.2.1.frozen 1; have fc2 := HQ.out.2.2.1.frozen 2; have fc3 := HQ.out.2.2.1.frozen 3; have fc4 := HQ.out.2.2.1.frozen 4))
   clear a0 a1 fa0 fa1 c0 c1 c2 c3 c4 fc0 fc1 fc2 fc3 fc4
   replace HQ := Hid.mk (HQ.out.read s2 e2)
   replace HQ := Hid.mk (HQ.out.set 1 _ (HQ.out.2.2.1.set1 S))
   generalize (((W2.setCell ⟨w.heap.size + 1, 0, none⟩ (.string s2)).setCell ⟨w.heap.size + 1, 1, none⟩ (.int .i64 e2)).setCell ⟨w.heap.size + 1 + 1, 1, none⟩ (.int .u64 S)) = V2 at *
   have a0 := HQ.out.2.1.rest
   have a1 := HQ.out.2.1.err
   have fa0 := HQ.out.2.1.frozen 0
   have fa1 := HQ.out.2.1.frozen 1
   obtain ⟨c0, c1, c2, c3, c4⟩ := HQ.out.2.2.1.five
   have fc0 := HQ.out.2.2.1.frozen 0
   have fc1 := HQ.out.2.2.1.frozen 1
   have fc2 := HQ.out.2.2.1.frozen 2
   have fc3 := HQ.out.2.2.1.frozen 3
   have fc4 := HQ.out.2.2.1.frozen 4
   go_upto_region 16 with (first | (go_at_call 67; refine (atFixed_any _ _ _ _).mono ?_; rintro x W3 ⟨rfl, b1⟩; rw [q3]; replace HQ := Hid.mk (HQ.out.call b1); clear b1; clear a0 a1 fa0 fa1 c0 c1 c2 c3 c4 fc0 fc1 fc2 fc3 fc4; have a0 := HQ.out.2.1.rest; have a1 := HQ.out.2.1.err; have fa0 := HQ.out.2.1.frozen 0; have fa1 := HQ.out.2.1.frozen 1; obtain ⟨c0, c1, c2, c3, c4⟩ := HQ.out.2.2.1.five; have fc0 := HQ.out.2.2.1.frozen 0; have fc1 := HQ.out.2.2.1.frozen 1; have fc2 := HQ.out.2.2.1.frozen 2; have fc3 := HQ.out.2.2.1.frozen 3; have fc4 := HQ.out.2.2.1.frozen 4))
   clear a0 a1 fa0 fa1 c0 c1 c2 c3 c4 fc0 fc1 fc2 fc3 fc4
   replace HQ := Hid.mk (HQ.out.read s3 e3)
   generalize ((W3.setCell ⟨w.heap.size + 1, 0, none⟩ (.string s3)).setCell ⟨w.heap.size + 1, 1, none⟩ (.int .i64 e3)) = V3 at *
   have a0 := HQ.out.2.1.rest
   have a1 := HQ.out.2.1.err
   have fa0 := HQ.out.2.1.frozen 0
   have fa1 := HQ.out.2.1.frozen 1
   obtain ⟨c0, c1, c2, c3, c4⟩ := HQ.out.2.2.1.five
   have fc0 := HQ.out.2.2.1.frozen 0
   have fc1 := HQ.out.2.2.1.frozen 1
   have fc2 := HQ.out.2.2.1.frozen 2
   have fc3 := HQ.out.2.2.1.frozen 3
   have fc4 := HQ.out.2.2.1.frozen 4
   go_upto_region 17 with (first | (go_at_call 67; refine (atFixed_any _ _ _ _).mono ?_; rintro x W4 ⟨rfl, b1⟩; rw [q4]; replace HQ := Hid.mk (HQ.out.call b1); clear b1; clear a0 a1 fa0 fa1 c0 c1 c2 c3 c4 fc0 fc1 fc2 fc3 fc4; have a0 := HQ.out.2.1.rest; have a1 := HQ.out.2.1.err; have fa0 := HQ.out.2.1.frozen 0; have fa1 := HQ.out.2.1.frozen 1; obtain ⟨c0, c1, c2, c3, c4⟩ := HQ.out.2.2.1.five; have fc0 := HQ.out.2.2.1.frozen 0; have fc1 := HQ.out.2.2.1.frozen 1; have fc2 := HQ.out.2.2.1.frozen 2; have fc3 := HQ.out.2.2.1.frozen 3; have fc4 := HQ.out.2.2.1.frozen 4))
   clear a0 a1 fa0 fa1 c0 c1 c2 c3 c4 fc0 fc1 fc2 fc3 fc4
   replace HQ := Hid.mk (HQ.out.read s4 e4)
   generalize ((W4.setCell ⟨w.heap.size + 1, 0, none⟩ (.string s4)).setCell ⟨w.heap.size + 1, 1, none⟩ (.int .i64 e4)) = V4 at *
   have a0 := HQ.out.2.1.rest
   have a1 := HQ.out.2.1.err
   have fa0 := HQ.out.2.1.frozen 0
   have fa1 := HQ.out.2.1.frozen 1
   obtain ⟨c0, c1, c2, c3, c4⟩ := HQ.out.2.2.1.five
   have fc0 := HQ.out.2.2.1.frozen 0
   have fc1 := HQ.out.2.2.1.frozen 1
   have fc2 := HQ.out.2.2.1.frozen 2
   have fc3 := HQ.out.2.2.1.frozen 3
   have fc4 := HQ.out.2.2.1.frozen 4
   go_upto_region 18 with (first | (go_at_call 67; refine (atFixed_any _ _ _ _).mono ?_; rintro x W5 ⟨rfl, b1⟩; rw [q5]; replace HQ := Hid.mk (HQ.out.call b1); clear b1; clear a0 a1 fa0 fa1 c0 c1 c2 c3 c4 fc0 fc1 fc2 fc3 fc4; have a0 := HQ.out.2.1.rest; have a1 := HQ.out.2.1.err; have fa0 := HQ.out.2.1.frozen 0; have fa1 := HQ.out.2.1.frozen 1; obtain ⟨c0, c1, c2, c3, c4⟩ := HQ.out.2.2.1.five; have fc0 := HQ.out.2.2.1.frozen 0; have fc1 := HQ.out.2.2.1.frozen 1; have fc2 := HQ.out.2.2.1.frozen 2; have fc3 := HQ.out.2.2.1.frozen 3; have fc4 := HQ.out.2.2.1.frozen 4))
   clear a0 a1 fa0 fa1 c0 c1 c2 c3 c4 fc0 fc1 fc2 fc3 fc4
   replace HQ := Hid.mk (HQ.out.read s5 e5)
   generalize ((W5.setCell ⟨w.heap.size + 1, 0, none⟩ (.string s5)).setCell ⟨w.heap.size + 1, 1, none⟩ (.int .i64 e5)) = V5 at *
   have a0 := HQ.out.2.1.rest
   have a1 := HQ.out.2.1.err
   have fa0 := HQ.out.2.1.frozen 0
   have fa1 := HQ.out.2.1.frozen 1
   obtain ⟨c0, c1, c2, c3, c4⟩ := HQ.out.2.2.1.five
   have fc0 := HQ.out.2.2.1.frozen 0
   have fc1 := HQ.out.2.2.1.frozen 1
   have fc2 := HQ.out.2.2.1.frozen 2
   have fc3 := HQ.out.2.2.1.frozen 3
   have fc4 := HQ.out.2.2.1.frozen 4
   go_upto_region 19 with (first | (go_at_call 67; refine (atFixed_any _ _ _ _).mono ?_; rintro x W6 ⟨rfl, b1⟩; rw [q6]; replace HQ := Hid.mk (HQ.out.call b1); clear b1; clear a0 a1 fa0 fa1 c0 c1 c2 c3 c4 fc0 fc1 fc2 fc3 fc4; have a0 := HQ.out.2.1.rest; have a1 := HQ.out.2.1.err; have fa0 := HQ.out.2.1.frozen 0; have fa1 := HQ.out.2.1.frozen 1; obtain ⟨c0, c1, c2, c3, c4⟩ := HQ.out.2.2.1.five; have fc0 := HQ.out.2.2.1.frozen 0; have fc1 := HQ.out.2.2.1.frozen 1; have fc2 := HQ.out.2.2.1.frozen 2; have fc3 := HQ.out.2.2.1.frozen 3; have fc4 := HQ.out.2.2.1.frozen 4))
   clear a0 a1 fa0 fa1 c0 c1 c2 c3 c4 fc0 fc1 fc2 fc3 fc4
   replace HQ := Hid.mk (HQ.out.alloc (.cells #[.string s6, .int .i64 e6] 146))
   generalize (W6.alloc (.cells #[.string s6, .int .i64 e6] 146)) = V6 at *
   generalize W6.heap.size = G6 at *
   have a0 := HQ.out.2.1.rest
   have a1 := HQ.out.2.1.err
   have fa0 := HQ.out.2.1.frozen 0
   have fa1 := HQ.out.2.1.frozen 1
   obtain ⟨c0, c1, c2, c3, c4⟩ := HQ.out.2.2.1.five
   have fc0 := HQ.out.2.2.1.frozen 0
   have fc1 := HQ.out.2.2.1.frozen 1
   have fc2 := HQ.out.2.2.1.frozen 2
   have fc3 := HQ.out.2.2.1.frozen 3
   have fc4 := HQ.out.2.2.1.frozen 4
   go_upto_region 20 with fail
   clear a0 a1 fa0 fa1 c0 c1 c2 c3 c4 fc0 fc1 fc2 fc3 fc4
   replace HQ := Hid.mk ((((HQ.out.set 0 _ (HQ.out.2.2.1.set0 K)).set 2 _ ((HQ.out.2.2.1.set0 K).set2 I)).set 3 _ (((HQ.out.2.2.1.set0 K).set2 I).set3 O)).set 4 _ ((((HQ.out.2.2.1.set0 K).set2 I).set3 O).set4 W))
   generalize ((((V6.setCell ⟨w.heap.size + 1 + 1, 0, none⟩ (.int .i64 K)).setCell ⟨w.heap.size + 1 + 1, 2, none⟩ (.int .i64 I)).setCell ⟨w.heap.size + 1 + 1, 3, none⟩ (.int .i64 O)).setCell ⟨w.heap.size + 1 + 1, 4, none⟩ (.int .i64 W)) = V7 at *
   have a0 := HQ.out.2.1.rest
   have a1 := HQ.out.2.1.err
   have fa0 := HQ.out.2.1.frozen 0
   have fa1 := HQ.out.2.1.frozen 1
   obtain ⟨c0, c1, c2, c3, c4⟩ := HQ.out.2.2.1.five
   have fc0 := HQ.out.2.2.1.frozen 0
   have fc1 := HQ.out.2.2.1.frozen 1
   have fc2 := HQ.out.2.2.1.frozen 2
   have fc3 := HQ.out.2.2.1.frozen 3
   have fc4 := HQ.out.2.2.1.frozen 4
   obtain ⟨d0, d1, d2, d3, d4⟩ := HQ.out.1.five
   have f0 := HQ.out.1.frozen 0
   have f1 := HQ.out.1.frozen 1
   have f2 := HQ.out.1.frozen 2
   have f3 := HQ.out.1.frozen 3
   have f4 := HQ.out.1.frozen 4
   go_upto_region 22 with (first | (go_at_call 68; refine (refCheck_any _ _ _ _ _ b5i _).mono ?_; rintro e X1 ⟨rfl, y1⟩; rw [hc]; replace HQ := Hid.mk (HQ.out.call y1); clear y1))
   clear d0 d1 d2 d3 d4 f0 f1 f2 f3 f4 a0 a1 fa0 fa1 c0 c1 c2 c3 c4 fc0 fc1 fc2 fc3 fc4
   obtain ⟨c0, c1, c2, c3, c4⟩ := HQ.out.2.2.1.five
   have hS1 : Hid (X1.drew.cell? ⟨w.heap.size + 1 + 1, 0, none⟩ = some (.int .i64 K) /\ X1.drew.cell? ⟨w.heap.size + 1 + 1, 1, none⟩ = some (.int .u64 S) /\ X1.drew.cell? ⟨w.heap.size + 1 + 1, 2, none⟩ = some (.int .i64 I) /\ X1.drew.cell? ⟨w.heap.size + 1 + 1, 3, none⟩ = some (.int .i64 O) /\ X1.drew.cell? ⟨w.heap.size + 1 + 1, 4, none⟩ = some (.int .i64 W) /\ RlS w s5 e5 K S I O W X1.drew) := ⟨c0, c1, c2, c3, c4, HQ.out.1.drew, HQ.out.2.1, HQ.out.2.2.1.drew, HQ.out.2.2.2.drew⟩
   clear q1 q2 q3 q4 q5 q6 x1 x3 x4 x5 h33 HF HA hks hk hc b1 b2 b3 b4 b5 b5i
   go_region_held3 (fun w' => w'.cell? ⟨w.heap.size + 1 + 1, 0, none⟩ = some (.int .i64 K) /\ w'.cell? ⟨w.heap.size + 1 + 1, 1, none⟩ = some (.int .u64 S) /\ w'.cell? ⟨w.heap.size + 1 + 1, 2, none⟩ = some (.int .i64 I) /\ w'.cell? ⟨w.heap.size + 1 + 1, 3, none⟩ = some (.int .i64 O) /\ w'.cell? ⟨w.heap.size + 1 + 1, 4, none⟩ = some (.int .i64 W) /\ RlS w s5 e5 K S I O W w') (first | assumption | exact hS1.out | exact rls_keep (by assumption) (by assumption) | fail)
    (first | (go_at_call 20; refine (fo _).mono ?_; rintro x W9 ⟨rfl, y9⟩))
   have HX : Hid (W9.cell? ⟨w.heap.size + 1 + 1, 0, none⟩ = some (.int .i64 K) /\ W9.cell? ⟨w.heap.size + 1 + 1, 1, none⟩ = some (.int .u64 S) /\ W9.cell? ⟨w.heap.size + 1 + 1, 2, none⟩ = some (.int .i64 I) /\ W9.cell? ⟨w.heap.size + 1 + 1, 3, none⟩ = some (.int .i64 O) /\ W9.cell? ⟨w.heap.size + 1 + 1, 4, none⟩ = some (.int .i64 W) /\ RlS w s5 e5 K S I O W W9) := Hid.mk (by assumption)
   replace HQ := Hid.mk HX.out.2.2.2.2.2
   clear HX hS1 c0 c1 c2 c3 c4 fo
   obtain ⟨c0, c1, c2, c3, c4⟩ := HQ.out.2.2.1.five
   obtain ⟨d0, d1, d2, d3, d4⟩ := HQ.out.1.five
   have f0 := HQ.out.1.frozen 0
   have f1 := HQ.out.1.frozen 1
   have f2 := HQ.out.1.frozen 2
   have f3 := HQ.out.1.frozen 3
   have f4 := HQ.out.1.frozen 4
   go_wp2_with fail
   have hr := tb_whole HQ.out.1 HQ.out.2.2.2 (Nat.le_refl _) 0 0 0 0 0
   exact bodyPost_ret (tb_result3 rfl rfl hr.1) rfl ⟨rfl, hr.2⟩
set_option maxHeartbeats 4000000 in
theorem rlook_t4 (d s : ByteArray) (zd : d.size <= 65535) (hall : allF (d ++ s) = false) (h32 : s.size = 32) {K S I O W L : Nat} (h6 : Six s K S I O W L) (hL : L <= d.size) (hmay : mayB K I O W) (heq : padB (d.extract 0 L) d.size = d) (hne : ¬ spareB K S I O W (d.extract 0 L) d.size = s) (w : World) : Calls Tryz.prog 22 #[.string d, .string s] w fun e w' => e = .returned (lookV 2) /\ Below w.heap.size w w' := by
 obtain ⟨b1, b2, b3, b4, b5, b6⟩ := h6.bounds
 obtain ⟨s1, e1, s2, e2, s3, e3, s4, e4, s5, e5, s6, e6, q1, q2, q3, q4, q5, q6⟩ := h6.out
 clear h6
 have x1 := wrap_i64 K (by omega)
 have x3 := wrap_i64 I (by omega)
 have x4 := wrap_i64 O (by omega)
 have x5 := wrap_i64 W (by omega)
 have x6 := wrap_i64 L (by omega)
 have h33 : (s.size : Int) = 32 := by omega
 clear h32
 have hL2 : (L : Int) <= (d.size : Int) := by omega
 have hMs : (d.extract 0 L).size <= d.size := by rw [ByteArray.size_extract]; omega
 have hnb := bytes_beq_false _ _ hne
 clear hne
 have fo := fun w => refFrame_any K S I O W (by omega) b2 (by omega) (by omega) (by omega) (d.extract 0 L) d.size hMs zd w
 have hc := chk_iff.2 hmay
 clear hmay
 have b5i : (W : Int) <= 9223372036854775807 := by omega
 unfold tagV at fo
 generalize hM : d.extract 0 L = M at *
 rw [heq] at fo
 clear heq
 generalize spareB K S I O W M d.size = P at *
 generalize hA : d ++ s = A at *
 have hAz : A.size = d.size + s.size := by rw [<- hA, ByteArray.size_append]
 have HF := Hid.mk hall
 clear hall
 have hz0 : d.size + s.size <= 1100000 := by omega
 go_enter Tryz.func22, Tryz.ntmps22
 go_wp2_with fail
 have HA := Hid.mk hA
 clear hA
 go_loop [7, 9] (fun c i => ∃ (k : Nat) (b : Bool), k <= A.size /\ i = .int .i64 k /\ c = .bool b /\ Hid (b = preF A k)) (fun _ i => A.size - (intOf i).toNat)
 case atStart => exact ⟨0, true, Nat.zero_le _, rfl, rfl, Hid.mk rfl⟩
 case round =>
  obtain ⟨k, b, hk, rfl, rfl, hb⟩ := hrel
  by_cases hks : k < A.size
  ·have hst := preF_succ A k hks
   rw [<- hb.out] at hst
   have HS := Hid.mk hst
   clear hst hb
   cases b with
   | false =>
    go_wp2_with fail
    exact ⟨⟨k + 1, false, by omega, by go_num, rfl, Hid.mk HS.out.symm⟩, by simp [intOf]; omega⟩
   | true =>
    by_cases hx : A[k] = 255
    ·have hx2 : ((A[k].toNat : Int)) = 255 := by rw [hx]; rfl
     have HX := Hid.mk hx
     clear hx
     go_wp2_with fail
     exact ⟨⟨k + 1, true, by omega, by go_num, rfl, Hid.mk (by rw [HS.out, HX.out]; rfl)⟩, by simp [intOf]; omega⟩
    ·have hx2 : ¬ ((A[k].toNat : Int)) = 255 := by
      intro e
      apply hx
      apply UInt8.toNat_inj.1
      show A[k].toNat = 255
      omega
     have HX := Hid.mk hx
     clear hx
     go_wp2_with fail
     exact ⟨⟨k + 1, false, by omega, by go_num, congrArg Value.bool (beq_eq_false_iff_ne.2 hx2), Hid.mk (by rw [HS.out, Bool.true_and]; exact (beq_eq_false_iff_ne.2 HX.out).symm)⟩, by simp [intOf]; omega⟩
  ·have hk2 : k = A.size := by omega
   have hbb := hb.out
   rw [hk2, preF_all, HF.out] at hbb
   clear hk2 hb
   subst hbb
   go_upto_region 13 with fail
   have HQ := Hid.mk (rls_start w s)
   generalize (((w.alloc (.cells #[.int .i64 0, .int .u64 0, .int .i64 0, .int .i64 0, .int .i64 0] 68)).alloc (.cells #[.string s, .int .i64 0] 146)).alloc (.cells #[.int .i64 0, .int .u64 0, .int .i64 0, .int .i64 0, .int .i64 0] 68)) = V0 at *
   have a0 := HQ.out.2.1.rest
   have a1 := HQ.out.2.1.err
   have fa0 := HQ.out.2.1.frozen 0
   have fa1 := HQ.out.2.1.frozen 1
   obtain ⟨c0, c1, c2, c3, c4⟩ := HQ.out.2.2.1.five
   have fc0 := HQ.out.2.2.1.frozen 0
   have fc1 := HQ.out.2.2.1.frozen 1
   have fc2 := HQ.out.2.2.1.frozen 2
   have fc3 := HQ.out.2.2.1.frozen 3
   have fc4 := HQ.out.2.2.1.frozen 4
   go_upto_region 14 with (first | (go_at_call 67; refine (atFixed_any _ _ _ _).mono ?_; rintro x W1 ⟨rfl, b1⟩; rw [q1]; replace HQ := Hid.mk (HQ.out.call b1); clear b1; clear a0 a1 fa0 fa1 c0 c1 c2 c3 c4 fc0 fc1 fc2 fc3 fc4; have a0 := HQ.out.2.1.rest; have a1 := HQ.out.2.1.err; have fa0 := HQ.out.2.1.frozen 0; have fa1 := HQ.out.2.1.frozen 1; obtain ⟨c0, c1, c2, c3, c4⟩ := HQ.out.2.2.1.five; have fc0 := HQ.out.2.2.1.frozen 0; have fc1 := HQ.out.2.2.1.frozen 1; have fc2 := HQ.out.2.2.1.frozen 2; have fc3 := HQ.out.2.2.1.frozen 3; have fc4 := HQ.out.2.2.1.frozen 4))
   clear a0 a1 fa0 fa1 c0 c1 c2 c3 c4 fc0 fc1 fc2 fc3 fc4
   replace HQ := Hid.mk (HQ.out.read s1 e1)
   generalize ((W1.setCell ⟨w.heap.size + 1, 0, none⟩ (.string s1)).setCell ⟨w.heap.size + 1, 1, none⟩ (.int .i64 e1)) = V1 at *
   have a0 := HQ.out.2.1.rest
   have a1 := HQ.out.2.1.err
   have fa0 := HQ.out.2.1.frozen 0
   have fa1 := HQ.out.2.1.frozen 1
   obtain ⟨c0, c1, c2, c3, c4⟩ := HQ.out.2.2.1.five
   have fc0 := HQ.out.2.2.1.frozen 0
   have fc1 := HQ.out.2.2.1.frozen 1
   have fc2 := HQ.out.2.2.1.frozen 2
   have fc3 := HQ.out.2.2.1.frozen 3
   have fc4 := HQ.out.2.2.1.frozen 4
   go_upto_region 15 with (first | (go_at_call 67; refine (atFixed_any _ _ _ _).mono ?_; rintro x W2 ⟨rfl, b1⟩; rw [q2]; replace HQ := Hid.mk (HQ.out.call b1); clear b1; clear a0 a1 fa0 fa1 c0 c1 c2 c3 c4 fc0 fc1 fc2 fc3 fc4; have a0 := HQ.out.2.1.rest; have a1 := HQ.out.2.1.err; have fa0 := HQ.out.2.1.frozen 0; have fa1 := HQ.out.2.1.frozen 1; obtain ⟨c0, c1, c2, c3, c4⟩ := HQ.out.2.2.1.five; have fc0 := HQ.out.2.2.1.frozen 0; have fc1 := HQ.out.2.2.1.frozen 1; have fc2 := HQ.out.2.2.1.frozen 2; have fc3 := HQ.out.2.2.1.frozen 3; have fc4 := HQ.out.2.2.1.frozen 4))
   clear a0 a1 fa0 fa1 c0 c1 c2 c3 c4 fc0 fc1 fc2 fc3 fc4
   replace HQ := Hid.mk (HQ.out.read s2 e2)
   replace HQ := Hid.mk (HQ.out.set 1 _ (HQ.out.2.2.1.set1 S))
   generalize (((W2.setCell ⟨w.heap.size + 1, 0, none⟩ (.string s2)).setCell ⟨w.heap.size + 1, 1, none⟩ (.int .i64 e2)).setCell ⟨w.heap.size + 1 + 1, 1, none⟩ (.int .u64 S)) = V2 at *
   have a0 := HQ.out.2.1.rest
   have a1 := HQ.out.2.1.err
   have fa0 := HQ.out.2.1.frozen 0
   have fa1 := HQ.out.2.1.frozen 1
   obtain ⟨c0, c1, c2, c3, c4⟩ := HQ.out.2.2.1.five
   have fc0 := HQ.out.2.2.1.frozen 0
   have fc1 := HQ.out.2.2.1.frozen 1
   have fc2 := HQ.out.2.2.1.frozen 2
   have fc3 := HQ.out.2.2.1.frozen 3
   have fc4 := HQ.out.2.2.1.frozen 4
   go_upto_region 16 with (first | (go_at_call 67; refine (atFixed_any _ _ _ _).mono ?_; rintro x W3 ⟨rfl, b1⟩; rw [q3]; replace HQ := Hid.mk (HQ.out.call b1); clear b1; clear a0 a1 fa0 fa1 c0 c1 c2 c3 c4 fc0 fc1 fc2 fc3 fc4; have a0 := HQ.out.2.1.rest; have a1 := HQ.out.2.1.err; have fa0 := HQ.out.2.1.frozen 0; have fa1 := HQ.out.2.1.frozen 1; obtain ⟨c0, c1, c2, c3, c4⟩ := HQ.out.2.2.1.five; have fc0 := HQ.out.2.2.1.frozen 0; have fc1 := HQ.out.2.2.1.frozen 1; have fc2 := HQ.out.2.2.1.frozen 2; have fc3 := HQ.out.2.2.1.frozen 3; have fc4 := HQ.out.2.2.1.frozen 4))
   clear a0 a1 fa0 fa1 c0 c1 c2 c3 c4 fc0 fc1 fc2 fc3 fc4
   replace HQ := Hid.mk (HQ.out.read s3 e3)
   generalize ((W3.setCell ⟨w.heap.size + 1, 0, none⟩ (.string s3)).setCell ⟨w.heap.size + 1, 1, none⟩ (.int .i64 e3)) = V3 at *
   have a0 := HQ.out.2.1.rest
   have a1 := HQ.out.2.1.err
   have fa0 := HQ.out.2.1.frozen 0
   have fa1 := HQ.out.2.1.frozen 1
   obtain ⟨c0, c1, c2, c3, c4⟩ := HQ.out.2.2.1.five
   have fc0 := HQ.out.2.2.1.frozen 0
   have fc1 := HQ.out.2.2.1.frozen 1
   have fc2 := HQ.out.2.2.1.frozen 2
   have fc3 := HQ.out.2.2.1.frozen 3
   have fc4 := HQ.out.2.2.1.frozen 4
   go_upto_region 17 with (first | (go_at_call 67; refine (atFixed_any _ _ _ _).mono ?_; rintro x W4 ⟨rfl, b1⟩; rw [q4]; replace HQ := Hid.mk (HQ.out.call b1); clear b1; clear a0 a1 fa0 fa1 c0 c1 c2 c3 c4 fc0 fc1 fc2 fc3 fc4; have a0 := HQ.out.2.1.rest; have a1 := HQ.out.2.1.err; have fa0 := HQ.out.2.1.frozen 0; have fa1 := HQ.out.2.1.frozen 1; obtain ⟨c0, c1, c2, c3, c4⟩ := HQ.out.2.2.1.five; have fc0 := HQ.out.2.2.1.frozen 0; have fc1 := HQ.out.2.2.1.frozen 1; have fc2 := HQ.out.2.2.1.frozen 2; have fc3 := HQ.out.2.2.1.frozen 3; have fc4 := HQ.out.2.2.1.frozen 4))
   clear a0 a1 fa0 fa1 c0 c1 c2 c3 c4 fc0 fc1 fc2 fc3 fc4
   replace HQ := Hid.mk (HQ.out.read s4 e4)
   generalize ((W4.setCell ⟨w.heap.size + 1, 0, none⟩ (.string s4)).setCell ⟨w.heap.size + 1, 1, none⟩ (.int .i64 e4)) = V4 at *
   have a0 := HQ.out.2.1.rest
   have a1 := HQ.out.2.1.err
   have fa0 := HQ.out.2.1.frozen 0
   have fa1 := HQ.out.2.1.frozen 1
   obtain ⟨c0, c1, c2, c3, c4⟩ := HQ.out.2.2.1.five
   have fc0 := HQ.out.2.2.1.frozen 0
   have fc1 := HQ.out.2.2.1.frozen 1
   have fc2 := HQ.out.2.2.1.frozen 2
   have fc3 := HQ.out.2.2.1.frozen 3
   have fc4 := HQ.out.2.2.1.frozen 4
   go_upto_region 18 with (first | (go_at_call 67; refine (atFixed_any _ _ _ _).mono ?_; rintro x W5 ⟨rfl, b1⟩; rw [q5]; replace HQ := Hid.mk (HQ.out.call b1); clear b1; clear a0 a1 fa0 fa1 c0 c1 c2 c3 c4 fc0 fc1 fc2 fc3 fc4; have a0 := HQ.out.2.1.rest; have a1 := HQ.out.2.1.err; have fa0 := HQ.out.2.1.frozen 0; have fa1 := HQ.out.2.1.frozen 1; obtain ⟨c0, c1, c2, c3, c4⟩ := HQ.out.2.2.1.five; have fc0 := HQ.out.2.2.1.frozen 0; have fc1 := HQ.out.2.2.1.frozen 1; have fc2 := HQ.out.2.2.1.frozen 2; have fc3 := HQ.out.2.2.1.frozen 3; have fc4 := HQ.out.2.2.1.frozen 4))
   clear a0 a1 fa0 fa1 c0 c1 c2 c3 c4 fc0 fc1 fc2 fc3 fc4
   replace HQ := Hid.mk (HQ.out.read s5 e5)
   generalize ((W5.setCell ⟨w.heap.size + 1, 0, none⟩ (.string s5)).setCell ⟨w.heap.size + 1, 1, none⟩ (.int .i64 e5)) = V5 at *
   have a0 := HQ.out.2.1.rest
   have a1 := HQ.out.2.1.err
   have fa0 := HQ.out.2.1.frozen 0
   have fa1 := HQ.out.2.1.frozen 1
   obtain ⟨c0, c1, c2, c3, c4⟩ := HQ.out.2.2.1.five
   have fc0 := HQ.out.2.2.1.frozen 0
   have fc1 := HQ.out.2.2.1.frozen 1
   have fc2 := HQ.out.2.2.1.frozen 2
   have fc3 := HQ.out.2.2.1.frozen 3
   have fc4 := HQ.out.2.2.1.frozen 4
   go_upto_region 19 with (first | (go_at_call 67; refine (atFixed_any _ _ _ _).mono ?_; rintro x W6 ⟨rfl, b1⟩; rw [q6]; replace HQ := Hid.mk (HQ.out.call b1); clear b1; clear a0 a1 fa0 fa1 c0 c1 c2 c3 c4 fc0 fc1 fc2 fc3 fc4; have a0 := HQ.out.2.1.rest; have a1 := HQ.out.2.1.err; have fa0 := HQ.out.2.1.frozen 0; have fa1 := HQ.out.2.1.frozen 1; obtain ⟨c0, c1, c2, c3, c4⟩ := HQ.out.2.2.1.five; have fc0 := HQ.out.2.2.1.frozen 0; have fc1 := HQ.out.2.2.1.frozen 1; have fc2 := HQ.out.2.2.1.frozen 2; have fc3 := HQ.out.2.2.1.frozen 3; have fc4 := HQ.out.2.2.1.frozen 4))
   clear a0 a1 fa0 fa1 c0 c1 c2 c3 c4 fc0 fc1 fc2 fc3 fc4
   replace HQ := Hid.mk (HQ.out.alloc (.cells #[.string s6, .int .i64 e6] 146))
   generalize (W6.alloc (.cells #[.string s6, .int .i64 e6] 146)) = V6 at *
   generalize W6.heap.size = G6 at *
   have a0 := HQ.out.2.1.rest
   have a1 := HQ.out.2.1.err
   have fa0 := HQ.out.2.1.frozen 0
   have fa1 := HQ.out.2.1.frozen 1
   obtain ⟨c0, c1, c2, c3, c4⟩ := HQ.out.2.2.1.five
   have fc0 := HQ.out.2.2.1.frozen 0
   have fc1 := HQ.out.2.2.1.frozen 1
   have fc2 := HQ.out.2.2.1.frozen 2
   have fc3 := HQ.out.2.2.1.frozen 3
   have fc4 := HQ.out.2.2.1.frozen 4
   go_upto_region 20 with fail
   clear a0 a1 fa0 fa1 c0 c1 c2 c3 c4 fc0 fc1 fc2 fc3 fc4
   replace HQ := Hid.mk ((((HQ.out.set 0 _ (HQ.out.2.2.1.set0 K)).set 2 _ ((HQ.out.2.2.1.set0 K).set2 I)).set 3 _ (((HQ.out.2.2.1.set0 K).set2 I).set3 O)).set 4 _ ((((HQ.out.2.2.1.set0 K).set2 I).set3 O).set4 W))
   generalize ((((V6.setCell ⟨w.heap.size + 1 + 1, 0, none⟩ (.int .i64 K)).setCell ⟨w.heap.size + 1 + 1, 2, none⟩ (.int .i64 I)).setCell ⟨w.heap.size + 1 + 1, 3, none⟩ (.int .i64 O)).setCell ⟨w.heap.size + 1 + 1, 4, none⟩ (.int .i64 W)) = V7 at *
   have a0 := HQ.out.2.1.rest
   have a1 := HQ.out.2.1.err
   have fa0 := HQ.out.2.1.frozen 0
   have fa1 := HQ.out.2.1.frozen 1
   obtain ⟨c0, c1, c2, c3, c4⟩ := HQ.out.2.2.1.five
   have fc0 := HQ.out.2.2.1.frozen 0
   have fc1 := HQ.out.2.2.1.frozen 1
   have fc2 := HQ.out.2.2.1.frozen 2
   have fc3 := HQ.out.2.2.1.frozen 3
   have fc4 := HQ.out.2.2.1.frozen 4
   obtain ⟨d0, d1, d2, d3, d4⟩ := HQ.out.1.five
   have f0 := HQ.out.1.frozen 0
   have f1 := HQ.out.1.frozen 1
   have f2 := HQ.out.1.frozen 2
   have f3 := HQ.out.1.frozen 3
   have f4 := HQ.out.1.frozen 4
   go_upto_region 22 with (first | (go_at_call 68; refine (refCheck_any _ _ _ _ _ b5i _).mono ?_; rintro e X1 ⟨rfl, y1⟩; rw [hc]; replace HQ := Hid.mk (HQ.out.call y1); clear y1))
   clear d0 d1 d2 d3 d4 f0 f1 f2 f3 f4 a0 a1 fa0 fa1 c0 c1 c2 c3 c4 fc0 fc1 fc2 fc3 fc4
   obtain ⟨c0, c1, c2, c3, c4⟩ := HQ.out.2.2.1.five
   have hS1 : Hid (X1.drew.cell? ⟨w.heap.size + 1 + 1, 0, none⟩ = some (.int .i64 K) /\ X1.drew.cell? ⟨w.heap.size + 1 + 1, 1, none⟩ = some (.int .u64 S) /\ X1.drew.cell? ⟨w.heap.size + 1 + 1, 2, none⟩ = some (.int .i64 I) /\ X1.drew.cell? ⟨w.heap.size + 1 + 1, 3, none⟩ = some (.int .i64 O) /\ X1.drew.cell? ⟨w.heap.size + 1 + 1, 4, none⟩ = some (.int .i64 W) /\ RlS w s5 e5 K S I O W X1.drew) := ⟨c0, c1, c2, c3, c4, HQ.out.1.drew, HQ.out.2.1, HQ.out.2.2.1.drew, HQ.out.2.2.2.drew⟩
   clear q1 q2 q3 q4 q5 q6 x1 x3 x4 x5 h33 HF HA hks hk hc b1 b2 b3 b4 b5 b5i
   go_region_held3 (fun w' => w'.cell? ⟨w.heap.size + 1 + 1, 0, none⟩ = some (.int .i64 K) /\ w'.cell? ⟨w.heap.size + 1 + 1, 1, none⟩ = some (.int .u64 S) /\ w'.cell? ⟨w.heap.size + 1 + 1, 2, none⟩ = some (.int .i64 I) /\ w'.cell? ⟨w.heap.size + 1 + 1, 3, none⟩ = some (.int .i64 O) /\ w'.cell? ⟨w.heap.size + 1 + 1, 4, none⟩ = some (.int .i64 W) /\ RlS w s5 e5 K S I O W w') (first | assumption | exact hS1.out | exact rls_keep (by assumption) (by assumption) | fail)
    (first | (go_at_call 20; refine (fo _).mono ?_; rintro x W9 ⟨rfl, y9⟩))
   have HX : Hid (W9.cell? ⟨w.heap.size + 1 + 1, 0, none⟩ = some (.int .i64 K) /\ W9.cell? ⟨w.heap.size + 1 + 1, 1, none⟩ = some (.int .u64 S) /\ W9.cell? ⟨w.heap.size + 1 + 1, 2, none⟩ = some (.int .i64 I) /\ W9.cell? ⟨w.heap.size + 1 + 1, 3, none⟩ = some (.int .i64 O) /\ W9.cell? ⟨w.heap.size + 1 + 1, 4, none⟩ = some (.int .i64 W) /\ RlS w s5 e5 K S I O W W9) := Hid.mk (by assumption)
   replace HQ := Hid.mk HX.out.2.2.2.2.2
   clear HX hS1 c0 c1 c2 c3 c4 fo
   obtain ⟨c0, c1, c2, c3, c4⟩ := HQ.out.2.2.1.five
   obtain ⟨d0, d1, d2, d3, d4⟩ := HQ.out.1.five
   have f0 := HQ.out.1.frozen 0
   have f1 := HQ.out.1.frozen 1
   have f2 := HQ.out.1.frozen 2
   have f3 := HQ.out.1.frozen 3
   have f4 := HQ.out.1.frozen 4
   go_wp2_with fail
   have hr := tb_whole HQ.out.1 HQ.out.2.2.2 (Nat.le_refl _) 0 0 0 0 0
   exact bodyPost_ret (tb_result3 rfl rfl hr.1) rfl ⟨rfl, hr.2⟩
set_option maxHeartbeats 4000000 in
theorem rlook_v (d s : ByteArray) (zd : d.size <= 65535) (hall : allF (d ++ s) = false) (h32 : s.size = 32) {K S I O W L : Nat} (h6 : Six s K S I O W L) (hL : L <= d.size) (hmay : mayB K I O W) (heq : padB (d.extract 0 L) d.size = d) (heq2 : spareB K S I O W (d.extract 0 L) d.size = s) (w : World) : Calls Tryz.prog 22 #[.string d, .string s] w fun e w' => e = .returned (.tuple #[.int .i64 1, tagV K S I O W, .string (d.extract 0 L)]) /\ Below w.heap.size w w' := by
 obtain ⟨b1, b2, b3, b4, b5, b6⟩ := h6.bounds
 obtain ⟨s1, e1, s2, e2, s3, e3, s4, e4, s5, e5, s6, e6, q1, q2, q3, q4, q5, q6⟩ := h6.out
 clear h6
 have x1 := wrap_i64 K (by omega)
 have x3 := wrap_i64 I (by omega)
 have x4 := wrap_i64 O (by omega)
 have x5 := wrap_i64 W (by omega)
 have x6 := wrap_i64 L (by omega)
 have h33 : (s.size : Int) = 32 := by omega
 clear h32
 have hL2 : (L : Int) <= (d.size : Int) := by omega
 have hMs : (d.extract 0 L).size <= d.size := by rw [ByteArray.size_extract]; omega
 have fo := fun w => refFrame_any K S I O W (by omega) b2 (by omega) (by omega) (by omega) (d.extract 0 L) d.size hMs zd w
 have hc := chk_iff.2 hmay
 clear hmay
 have b5i : (W : Int) <= 9223372036854775807 := by omega
 unfold tagV at fo
 generalize hM : d.extract 0 L = M at *
 rw [heq, heq2] at fo
 clear heq heq2
 generalize hA : d ++ s = A at *
 have hAz : A.size = d.size + s.size := by rw [<- hA, ByteArray.size_append]
 have HF := Hid.mk hall
 clear hall
 have hz0 : d.size + s.size <= 1100000 := by omega
 go_enter Tryz.func22, Tryz.ntmps22
 go_wp2_with fail
 have HA := Hid.mk hA
 clear hA
 go_loop [7, 9] (fun c i => ∃ (k : Nat) (b : Bool), k <= A.size /\ i = .int .i64 k /\ c = .bool b /\ Hid (b = preF A k)) (fun _ i => A.size - (intOf i).toNat)
 case atStart => exact ⟨0, true, Nat.zero_le _, rfl, rfl, Hid.mk rfl⟩
 case round =>
  obtain ⟨k, b, hk, rfl, rfl, hb⟩ := hrel
  by_cases hks : k < A.size
  ·have hst := preF_succ A k hks
   rw [<- hb.out] at hst
   have HS := Hid.mk hst
   clear hst hb
   cases b with
   | false =>
    go_wp2_with fail
    exact ⟨⟨k + 1, false, by omega, by go_num, rfl, Hid.mk HS.out.symm⟩, by simp [intOf]; omega⟩
   | true =>
    by_cases hx : A[k] = 255
    ·have hx2 : ((A[k].toNat : Int)) = 255 := by rw [hx]; rfl
     have HX := Hid.mk hx
     clear hx
     go_wp2_with fail
     exact ⟨⟨k + 1, true, by omega, by go_num, rfl, Hid.mk (by rw [HS.out, HX.out]; rfl)⟩, by simp [intOf]; omega⟩
    ·have hx2 : ¬ ((A[k].toNat : Int)) = 255 := by
      intro e
      apply hx
      apply UInt8.toNat_inj.1
      show A[k].toNat = 255
      omega
     have HX := Hid.mk hx
     clear hx
     go_wp2_with fail
     exact ⟨⟨k + 1, false, by omega, by go_num, congrArg Value.bool (beq_eq_false_iff_ne.2 hx2), Hid.mk (by rw [HS.out, Bool.true_and]; exact (beq_eq_false_iff_ne.2 HX.out).symm)⟩, by simp [intOf]; omega⟩
  ·have hk2 : k = A.size := by omega
   have hbb := hb.out
   rw [hk2, preF_all, HF.out] at hbb
   clear hk2 hb
   subst hbb
   go_upto_region 13 with fail
   have HQ := Hid.mk (rls_start w s)
   generalize (((w.alloc (.cells #[.int .i64 0, .int .u64 0, .int .i64 0, .int .i64 0, .int .i64 0] 68)).alloc (.cells #[.string s, .int .i64 0] 146)).alloc (.cells #[.int .i64 0, .int .u64 0, .int .i64 0, .int .i64 0, .int .i64 0] 68)) = V0 at *
   have a0 := HQ.out.2.1.rest
   have a1 := HQ.out.2.1.err
   have fa0 := HQ.out.2.1.frozen 0
   have fa1 := HQ.out.2.1.frozen 1
   obtain ⟨c0, c1, c2, c3, c4⟩ := HQ.out.2.2.1.five
   have fc0 := HQ.out.2.2.1.frozen 0
   have fc1 := HQ.out.2.2.1.frozen 1
   have fc2 := HQ.out.2.2.1.frozen 2
   have fc3 := HQ.out.2.2.1.frozen 3
   have fc4 := HQ.out.2.2.1.frozen 4
   go_upto_region 14 with (first | (go_at_call 67; refine (atFixed_any _ _ _ _).mono ?_; rintro x W1 ⟨rfl, b1⟩; rw [q1]; replace HQ := Hid.mk (HQ.out.call b1); clear b1; clear a0 a1 fa0 fa1 c0 c1 c2 c3 c4 fc0 fc1 fc2 fc3 fc4; have a0 := HQ.out.2.1.rest; have a1 := HQ.out.2.1.err; have fa0 := HQ.out.2.1.frozen 0; have fa1 := HQ.out.2.1.frozen 1; obtain ⟨c0, c1, c2, c3, c4⟩ := HQ.out.2.2.1.five; have fc0 := HQ.out.2.2.1.frozen 0; have fc1 := HQ.out.2.2.1.frozen 1; have fc2 := HQ.out.2.2.1.frozen 2; have fc3 := HQ.out.2.2.1.frozen 3; have fc4 := HQ.out.2.2.1.frozen 4))
   clear a0 a1 fa0 fa1 c0 c1 c2 c3 c4 fc0 fc1 fc2 fc3 fc4
   replace HQ := Hid.mk (HQ.out.read s1 e1)
   generalize ((W1.setCell ⟨w.heap.size + 1, 0, none⟩ (.string s1)).setCell ⟨w.heap.size + 1, 1, none⟩ (.int .i64 e1)) = V1 at *
   have a0 := HQ.out.2.1.rest
   have a1 := HQ.out.2.1.err
   have fa0 := HQ.out.2.1.frozen 0
   have fa1 := HQ.out.2.1.frozen 1
   obtain ⟨c0, c1, c2, c3, c4⟩ := HQ.out.2.2.1.five
   have fc0 := HQ.out.2.2.1.frozen 0
   have fc1 := HQ.out.2.2.1.frozen 1
   have fc2 := HQ.out.2.2.1.frozen 2
   have fc3 := HQ.out.2.2.1.frozen 3
   have fc4 := HQ.out.2.2.1.frozen 4
   go_upto_region 15 with (first | (go_at_call 67; refine (atFixed_any _ _ _ _).mono ?_; rintro x W2 ⟨rfl, b1⟩; rw [q2]; replace HQ := Hid.mk (HQ.out.call b1); clear b1; clear a0 a1 fa0 fa1 c0 c1 c2 c3 c4 fc0 fc1 fc2 fc3 fc4; have a0 := HQ.out.2.1.rest; have a1 := HQ.out.2.1.err; have fa0 := HQ.out.2.1.frozen 0; have fa1 := HQ.out.2.1.frozen 1; obtain ⟨c0, c1, c2, c3, c4⟩ := HQ.out.2.2.1.five; have fc0 := HQ.out.2.2.1.frozen 0; have fc1 := HQ.out.2.2.1.frozen 1; have fc2 := HQ.out.2.2.1.frozen 2; have fc3 := HQ.out.2.2.1.frozen 3; have fc4 := HQ.out.2.2.1.frozen 4))
   clear a0 a1 fa0 fa1 c0 c1 c2 c3 c4 fc0 fc1 fc2 fc3 fc4
   replace HQ := Hid.mk (HQ.out.read s2 e2)
   replace HQ := Hid.mk (HQ.out.set 1 _ (HQ.out.2.2.1.set1 S))
   generalize (((W2.setCell ⟨w.heap.size + 1, 0, none⟩ (.string s2)).setCell ⟨w.heap.size + 1, 1, none⟩ (.int .i64 e2)).setCell ⟨w.heap.size + 1 + 1, 1, none⟩ (.int .u64 S)) = V2 at *
   have a0 := HQ.out.2.1.rest
   have a1 := HQ.out.2.1.err
   have fa0 := HQ.out.2.1.frozen 0
   have fa1 := HQ.out.2.1.frozen 1
   obtain ⟨c0, c1, c2, c3, c4⟩ := HQ.out.2.2.1.five
   have fc0 := HQ.out.2.2.1.frozen 0
   have fc1 := HQ.out.2.2.1.frozen 1
   have fc2 := HQ.out.2.2.1.frozen 2
   have fc3 := HQ.out.2.2.1.frozen 3
   have fc4 := HQ.out.2.2.1.frozen 4
   go_upto_region 16 with (first | (go_at_call 67; refine (atFixed_any _ _ _ _).mono ?_; rintro x W3 ⟨rfl, b1⟩; rw [q3]; replace HQ := Hid.mk (HQ.out.call b1); clear b1; clear a0 a1 fa0 fa1 c0 c1 c2 c3 c4 fc0 fc1 fc2 fc3 fc4; have a0 := HQ.out.2.1.rest; have a1 := HQ.out.2.1.err; have fa0 := HQ.out.2.1.frozen 0; have fa1 := HQ.out.2.1.frozen 1; obtain ⟨c0, c1, c2, c3, c4⟩ := HQ.out.2.2.1.five; have fc0 := HQ.out.2.2.1.frozen 0; have fc1 := HQ.out.2.2.1.frozen 1; have fc2 := HQ.out.2.2.1.frozen 2; have fc3 := HQ.out.2.2.1.frozen 3; have fc4 := HQ.out.2.2.1.frozen 4))
   clear a0 a1 fa0 fa1 c0 c1 c2 c3 c4 fc0 fc1 fc2 fc3 fc4
   replace HQ := Hid.mk (HQ.out.read s3 e3)
   generalize ((W3.setCell ⟨w.heap.size + 1, 0, none⟩ (.string s3)).setCell ⟨w.heap.size + 1, 1, none⟩ (.int .i64 e3)) = V3 at *
   have a0 := HQ.out.2.1.rest
   have a1 := HQ.out.2.1.err
   have fa0 := HQ.out.2.1.frozen 0
   have fa1 := HQ.out.2.1.frozen 1
   obtain ⟨c0, c1, c2, c3, c4⟩ := HQ.out.2.2.1.five
   have fc0 := HQ.out.2.2.1.frozen 0
   have fc1 := HQ.out.2.2.1.frozen 1
   have fc2 := HQ.out.2.2.1.frozen 2
   have fc3 := HQ.out.2.2.1.frozen 3
   have fc4 := HQ.out.2.2.1.frozen 4
   go_upto_region 17 with (first | (go_at_call 67; refine (atFixed_any _ _ _ _).mono ?_; rintro x W4 ⟨rfl, b1⟩; rw [q4]; replace HQ := Hid.mk (HQ.out.call b1); clear b1; clear a0 a1 fa0 fa1 c0 c1 c2 c3 c4 fc0 fc1 fc2 fc3 fc4; have a0 := HQ.out.2.1.rest; have a1 := HQ.out.2.1.err; have fa0 := HQ.out.2.1.frozen 0; have fa1 := HQ.out.2.1.frozen 1; obtain ⟨c0, c1, c2, c3, c4⟩ := HQ.out.2.2.1.five; have fc0 := HQ.out.2.2.1.frozen 0; have fc1 := HQ.out.2.2.1.frozen 1; have fc2 := HQ.out.2.2.1.frozen 2; have fc3 := HQ.out.2.2.1.frozen 3; have fc4 := HQ.out.2.2.1.frozen 4))
   clear a0 a1 fa0 fa1 c0 c1 c2 c3 c4 fc0 fc1 fc2 fc3 fc4
   replace HQ := Hid.mk (HQ.out.read s4 e4)
   generalize ((W4.setCell ⟨w.heap.size + 1, 0, none⟩ (.string s4)).setCell ⟨w.heap.size + 1, 1, none⟩ (.int .i64 e4)) = V4 at *
   have a0 := HQ.out.2.1.rest
   have a1 := HQ.out.2.1.err
   have fa0 := HQ.out.2.1.frozen 0
   have fa1 := HQ.out.2.1.frozen 1
   obtain ⟨c0, c1, c2, c3, c4⟩ := HQ.out.2.2.1.five
   have fc0 := HQ.out.2.2.1.frozen 0
   have fc1 := HQ.out.2.2.1.frozen 1
   have fc2 := HQ.out.2.2.1.frozen 2
   have fc3 := HQ.out.2.2.1.frozen 3
   have fc4 := HQ.out.2.2.1.frozen 4
   go_upto_region 18 with (first | (go_at_call 67; refine (atFixed_any _ _ _ _).mono ?_; rintro x W5 ⟨rfl, b1⟩; rw [q5]; replace HQ := Hid.mk (HQ.out.call b1); clear b1; clear a0 a1 fa0 fa1 c0 c1 c2 c3 c4 fc0 fc1 fc2 fc3 fc4; have a0 := HQ.out.2.1.rest; have a1 := HQ.out.2.1.err; have fa0 := HQ.out.2.1.frozen 0; have fa1 := HQ.out.2.1.frozen 1; obtain ⟨c0, c1, c2, c3, c4⟩ := HQ.out.2.2.1.five; have fc0 := HQ.out.2.2.1.frozen 0; have fc1 := HQ.out.2.2.1.frozen 1; have fc2 := HQ.out.2.2.1.frozen 2; have fc3 := HQ.out.2.2.1.frozen 3; have fc4 := HQ.out.2.2.1.frozen 4))
   clear a0 a1 fa0 fa1 c0 c1 c2 c3 c4 fc0 fc1 fc2 fc3 fc4
   replace HQ := Hid.mk (HQ.out.read s5 e5)
   generalize ((W5.setCell ⟨w.heap.size + 1, 0, none⟩ (.string s5)).setCell ⟨w.heap.size + 1, 1, none⟩ (.int .i64 e5)) = V5 at *
   have a0 := HQ.out.2.1.rest
   have a1 := HQ.out.2.1.err
   have fa0 := HQ.out.2.1.frozen 0
   have fa1 := HQ.out.2.1.frozen 1
   obtain ⟨c0, c1, c2, c3, c4⟩ := HQ.out.2.2.1.five
   have fc0 := HQ.out.2.2.1.frozen 0
   have fc1 := HQ.out.2.2.1.frozen 1
   have fc2 := HQ.out.2.2.1.frozen 2
   have fc3 := HQ.out.2.2.1.frozen 3
   have fc4 := HQ.out.2.2.1.frozen 4
   go_upto_region 19 with (first | (go_at_call 67; refine (atFixed_any _ _ _ _).mono ?_; rintro x W6 ⟨rfl, b1⟩; rw [q6]; replace HQ := Hid.mk (HQ.out.call b1); clear b1; clear a0 a1 fa0 fa1 c0 c1 c2 c3 c4 fc0 fc1 fc2 fc3 fc4; have a0 := HQ.out.2.1.rest; have a1 := HQ.out.2.1.err; have fa0 := HQ.out.2.1.frozen 0; have fa1 := HQ.out.2.1.frozen 1; obtain ⟨c0, c1, c2, c3, c4⟩ := HQ.out.2.2.1.five; have fc0 := HQ.out.2.2.1.frozen 0; have fc1 := HQ.out.2.2.1.frozen 1; have fc2 := HQ.out.2.2.1.frozen 2; have fc3 := HQ.out.2.2.1.frozen 3; have fc4 := HQ.out.2.2.1.frozen 4))
   clear a0 a1 fa0 fa1 c0 c1 c2 c3 c4 fc0 fc1 fc2 fc3 fc4
   replace HQ := Hid.mk (HQ.out.alloc (.cells #[.string s6, .int .i64 e6] 146))
   generalize (W6.alloc (.cells #[.string s6, .int .i64 e6] 146)) = V6 at *
   generalize W6.heap.size = G6 at *
   have a0 := HQ.out.2.1.rest
   have a1 := HQ.out.2.1.err
   have fa0 := HQ.out.2.1.frozen 0
   have fa1 := HQ.out.2.1.frozen 1
   obtain ⟨c0, c1, c2, c3, c4⟩ := HQ.out.2.2.1.five
   have fc0 := HQ.out.2.2.1.frozen 0
   have fc1 := HQ.out.2.2.1.frozen 1
   have fc2 := HQ.out.2.2.1.frozen 2
   have fc3 := HQ.out.2.2.1.frozen 3
   have fc4 := HQ.out.2.2.1.frozen 4
   go_upto_region 20 with fail
   clear a0 a1 fa0 fa1 c0 c1 c2 c3 c4 fc0 fc1 fc2 fc3 fc4
   replace HQ := Hid.mk ((((HQ.out.set 0 _ (HQ.out.2.2.1.set0 K)).set 2 _ ((HQ.out.2.2.1.set0 K).set2 I)).set 3 _ (((HQ.out.2.2.1.set0 K).set2 I).set3 O)).set 4 _ ((((HQ.out.2.2.1.set0 K).set2 I).set3 O).set4 W))
   generalize ((((V6.setCell ⟨w.heap.size + 1 + 1, 0, none⟩ (.int .i64 K)).setCell ⟨w.heap.size + 1 + 1, 2, none⟩ (.int .i64 I)).setCell ⟨w.heap.size + 1 + 1, 3, none⟩ (.int .i64 O)).setCell ⟨w.heap.size + 1 + 1, 4, none⟩ (.int .i64 W)) = V7 at *
   have a0 := HQ.out.2.1.rest
   have a1 := HQ.out.2.1.err
   have fa0 := HQ.out.2.1.frozen 0
   have fa1 := HQ.out.2.1.frozen 1
   obtain ⟨c0, c1, c2, c3, c4⟩ := HQ.out.2.2.1.five
   have fc0 := HQ.out.2.2.1.frozen 0
   have fc1 := HQ.out.2.2.1.frozen 1
   have fc2 := HQ.out.2.2.1.frozen 2
   have fc3 := HQ.out.2.2.1.frozen 3
   have fc4 := HQ.out.2.2.1.frozen 4
   obtain ⟨d0, d1, d2, d3, d4⟩ := HQ.out.1.five
   have f0 := HQ.out.1.frozen 0
   have f1 := HQ.out.1.frozen 1
   have f2 := HQ.out.1.frozen 2
   have f3 := HQ.out.1.frozen 3
   have f4 := HQ.out.1.frozen 4
   go_upto_region 22 with (first | (go_at_call 68; refine (refCheck_any _ _ _ _ _ b5i _).mono ?_; rintro e X1 ⟨rfl, y1⟩; rw [hc]; replace HQ := Hid.mk (HQ.out.call y1); clear y1))
   clear d0 d1 d2 d3 d4 f0 f1 f2 f3 f4 a0 a1 fa0 fa1 c0 c1 c2 c3 c4 fc0 fc1 fc2 fc3 fc4
   obtain ⟨c0, c1, c2, c3, c4⟩ := HQ.out.2.2.1.five
   have hS1 : Hid (X1.drew.cell? ⟨w.heap.size + 1 + 1, 0, none⟩ = some (.int .i64 K) /\ X1.drew.cell? ⟨w.heap.size + 1 + 1, 1, none⟩ = some (.int .u64 S) /\ X1.drew.cell? ⟨w.heap.size + 1 + 1, 2, none⟩ = some (.int .i64 I) /\ X1.drew.cell? ⟨w.heap.size + 1 + 1, 3, none⟩ = some (.int .i64 O) /\ X1.drew.cell? ⟨w.heap.size + 1 + 1, 4, none⟩ = some (.int .i64 W) /\ RlS w s5 e5 K S I O W X1.drew) := ⟨c0, c1, c2, c3, c4, HQ.out.1.drew, HQ.out.2.1, HQ.out.2.2.1.drew, HQ.out.2.2.2.drew⟩
   clear q1 q2 q3 q4 q5 q6 x1 x3 x4 x5 h33 HF HA hks hk hc b1 b2 b3 b4 b5 b5i
   go_region_held3 (fun w' => w'.cell? ⟨w.heap.size + 1 + 1, 0, none⟩ = some (.int .i64 K) /\ w'.cell? ⟨w.heap.size + 1 + 1, 1, none⟩ = some (.int .u64 S) /\ w'.cell? ⟨w.heap.size + 1 + 1, 2, none⟩ = some (.int .i64 I) /\ w'.cell? ⟨w.heap.size + 1 + 1, 3, none⟩ = some (.int .i64 O) /\ w'.cell? ⟨w.heap.size + 1 + 1, 4, none⟩ = some (.int .i64 W) /\ RlS w s5 e5 K S I O W w') (first | assumption | exact hS1.out | exact rls_keep (by assumption) (by assumption) | fail)
    (first | (go_at_call 20; refine (fo _).mono ?_; rintro x W9 ⟨rfl, y9⟩))
   have HX : Hid (W9.cell? ⟨w.heap.size + 1 + 1, 0, none⟩ = some (.int .i64 K) /\ W9.cell? ⟨w.heap.size + 1 + 1, 1, none⟩ = some (.int .u64 S) /\ W9.cell? ⟨w.heap.size + 1 + 1, 2, none⟩ = some (.int .i64 I) /\ W9.cell? ⟨w.heap.size + 1 + 1, 3, none⟩ = some (.int .i64 O) /\ W9.cell? ⟨w.heap.size + 1 + 1, 4, none⟩ = some (.int .i64 W) /\ RlS w s5 e5 K S I O W W9) := Hid.mk (by assumption)
   replace HQ := Hid.mk HX.out.2.2.2.2.2
   clear HX hS1 c0 c1 c2 c3 c4 fo
   obtain ⟨c0, c1, c2, c3, c4⟩ := HQ.out.2.2.1.five
   obtain ⟨d0, d1, d2, d3, d4⟩ := HQ.out.1.five
   have f0 := HQ.out.1.frozen 0
   have f1 := HQ.out.1.frozen 1
   have f2 := HQ.out.1.frozen 2
   have f3 := HQ.out.1.frozen 3
   have f4 := HQ.out.1.frozen 4
   go_wp2_with fail
   go_region
   have hr := tb_whole HQ.out.1 HQ.out.2.2.2 (Nat.le_refl _) K S I O W
   have HR := Hid.mk (And.intro hr.1.drew hr.2.drew)
   clear hr c0 c1 c2 c3 c4 d0 d1 d2 d3 d4 f0 f1 f2 f3 f4 HQ
   generalize (((((W9.setCell ⟨w.heap.size, 0, none⟩ (.int .i64 K)).setCell ⟨w.heap.size, 1, none⟩ (.int .u64 S)).setCell ⟨w.heap.size, 2, none⟩ (.int .i64 I)).setCell ⟨w.heap.size, 3, none⟩ (.int .i64 O)).setCell ⟨w.heap.size, 4, none⟩ (.int .i64 W)).drew = V at *
   go_wp2_with fail
   exact bodyPost_ret (tb_result3 rfl rfl HR.out.1) rfl ⟨rfl, HR.out.2⟩
end Go.Proofs.YtaphpdmfjnhlaaaGreatDoor.Pg
