/-
  What a page is: the walk of the answer's Look. No condition.
-/
import Derived.Test.YtaphpdmfjnhlaaaGreatDoorAK2
import Derived.Test.YtaphpdmfjnhlaaaGreatDoorARAt
namespace Go.Proofs.YtaphpdmfjnhlaaaGreatDoor.Pg
open Go Go.RowKit
set_option maxRecDepth 100000
def preF (A : ByteArray) (k : Nat) : Bool := (A.data.toList.take k).all (fun b => b == 255)
theorem preF_all (A : ByteArray) : preF A A.size = allF A := by
 unfold preF allF
 rw [List.take_of_length_le (by rw [Array.length_toList]; exact Nat.le_refl _)]
theorem preF_succ (A : ByteArray) (k : Nat) (h : k < A.size) : preF A (k + 1) = (preF A k && (A[k] == 255)) := by
 unfold preF
 rw [take_next A k h, List.all_append]
 simp
def RlS (w : World) (s : ByteArray) (e : Int) (K S I O W : Int) (wx : World) : Prop :=
 TB wx w.heap.size 0 0 0 0 0 /\ Ab wx (w.heap.size + 1) s e /\ TB wx (w.heap.size + 1 + 1) K S I O W /\ Below w.heap.size w wx
theorem RlS.call {w : World} {s : ByteArray} {e : Int} {K S I O W : Int} {wx w2 : World} (h : RlS w s e K S I O W wx) (b : Below wx.heap.size wx w2) : RlS w s e K S I O W w2 := ⟨h.1.call b, h.2.1.call b, h.2.2.1.call b, below3 h.2.2.2 b⟩
theorem RlS.alloc {w : World} {s : ByteArray} {e : Int} {K S I O W : Int} {wx : World} (h : RlS w s e K S I O W wx) (o : Obj) : RlS w s e K S I O W (wx.alloc o) := h.call (below_one wx o)
theorem Ab.other {w : World} {g : Nat} {s : ByteArray} {e : Int} (h : Ab w g s e) {a : Addr} (ha : a.block ≠ g) (v : Value) : Ab (w.setCell a v) g s e := (heap_setCell_other w a g v (fun e => ha e.symm)).trans h
theorem RlS.read {w : World} {s : ByteArray} {e : Int} {K S I O W : Int} {wx : World} (h : RlS w s e K S I O W wx) (s' : ByteArray) (e' : Int) : RlS w s' e' K S I O W ((wx.setCell ⟨w.heap.size + 1, 0, none⟩ (.string s')).setCell ⟨w.heap.size + 1, 1, none⟩ (.int .i64 e')) := by
 refine ⟨(h.1.other ?_ _).other ?_ _, h.2.1.set s' e', (h.2.2.1.other ?_ _).other ?_ _, (h.2.2.2.setCell ?_ _).setCell ?_ _⟩
 all_goals (show _ ; first | omega | (simp only [ne_eq]; omega))
theorem RlS.set {w : World} {s : ByteArray} {e : Int} {K S I O W K' S' I' O' W' : Int} {wx : World} (h : RlS w s e K S I O W wx) (j : Nat) (v : Value) (ht : TB (wx.setCell ⟨w.heap.size + 1 + 1, j, none⟩ v) (w.heap.size + 1 + 1) K' S' I' O' W') : RlS w s e K' S' I' O' W' (wx.setCell ⟨w.heap.size + 1 + 1, j, none⟩ v) := by
 refine ⟨h.1.other ?_ _, h.2.1.other ?_ _, ht, h.2.2.2.setCell ?_ _⟩
 all_goals (show _ ; first | omega | (simp only [ne_eq]; omega))
theorem rls_start (w : World) (s : ByteArray) : RlS w s 0 0 0 0 0 0 (((w.alloc (.cells #[.int .i64 0, .int .u64 0, .int .i64 0, .int .i64 0, .int .i64 0] 68)).alloc (.cells #[.string s, .int .i64 0] 146)).alloc (.cells #[.int .i64 0, .int .u64 0, .int .i64 0, .int .i64 0, .int .i64 0] 68)) := by
 have h1 := Ab.fresh (w.alloc (.cells #[.int .i64 0, .int .u64 0, .int .i64 0, .int .i64 0, .int .i64 0] 68)) s 0
 have h2 := TB.fresh ((w.alloc (.cells #[.int .i64 0, .int .u64 0, .int .i64 0, .int .i64 0, .int .i64 0] 68)).alloc (.cells #[.string s, .int .i64 0] 146)) 0 0 0 0 0
 rw [size_alloc] at h1
 rw [size_alloc, size_alloc] at h2
 exact ⟨((TB.fresh w 0 0 0 0 0).alloc _).alloc _, h1.alloc _, h2, (below_two w _ _).alloc (by rw [size_alloc, size_alloc]; omega) _⟩
set_option maxHeartbeats 2000000 in
theorem rlook_erased (d s : ByteArray) (zd : d.size <= 65535) (zs : s.size <= 1000000) (hall : allF (d ++ s) = true) (w : World) : Calls Tryz.prog 22 #[.string d, .string s] w fun e w' => e = .returned (lookV 0) /\ Below w.heap.size w w' := by
 have HR := Hid.mk (TB.fresh w 0 0 0 0 0)
 generalize hA : d ++ s = A at *
 have hAz : A.size = d.size + s.size := by rw [<- hA, ByteArray.size_append]
 have HF := Hid.mk hall
 clear hall
 have hz0 : d.size + s.size <= 1100000 := by omega
 go_enter Tryz.func22, Tryz.ntmps22
 go_wp2_with fail
 have HA := Hid.mk hA
 clear hA
 go_loop [7, 9] (fun c i => ∃ (k : Nat) (b : Bool), k <= A.size /\ i = .int .i64 k /\ c = .bool b /\ Hid (b = preF A k)) (fun _ i => A.size - (intOf i).toNat)
 case atStart => exact ⟨0, true, Nat.zero_le _, rfl, rfl, Hid.mk rfl⟩
 case round =>
  obtain ⟨k, b, hk, rfl, rfl, hb⟩ := hrel
  by_cases hks : k < A.size
  ·have hst := preF_succ A k hks
   rw [<- hb.out] at hst
   have HS := Hid.mk hst
   clear hst hb
   cases b with
   | false =>
    go_wp2_with fail
    exact ⟨⟨k + 1, false, by omega, by go_num, rfl, Hid.mk HS.out.symm⟩, by simp [intOf]; omega⟩
   | true =>
    by_cases hx : A[k] = 255
    ·have hx2 : ((A[k].toNat : Int)) = 255 := by rw [hx]; rfl
     have HX := Hid.mk hx
     clear hx
     go_wp2_with fail
     exact ⟨⟨k + 1, true, by omega, by go_num, rfl, Hid.mk (by rw [HS.out, HX.out]; rfl)⟩, by simp [intOf]; omega⟩
    ·have hx2 : ¬ ((A[k].toNat : Int)) = 255 := by
      intro e
      apply hx
      apply UInt8.toNat_inj.1
      show A[k].toNat = 255
      omega
     have HX := Hid.mk hx
     clear hx
     go_wp2_with fail
     exact ⟨⟨k + 1, false, by omega, by go_num, congrArg Value.bool (beq_eq_false_iff_ne.2 hx2), Hid.mk (by rw [HS.out, Bool.true_and]; exact (beq_eq_false_iff_ne.2 HX.out).symm)⟩, by simp [intOf]; omega⟩
  ·have hk2 : k = A.size := by omega
   have hbb := hb.out
   rw [hk2, preF_all, HF.out] at hbb
   clear hk2 hb
   subst hbb
   go_wp2_with fail
   exact bodyPost_ret (tb_result3 rfl rfl HR.out) rfl ⟨rfl, below_one _ _⟩
set_option maxHeartbeats 2000000 in
theorem rlook_t0 (d s : ByteArray) (zd : d.size <= 65535) (zs : s.size <= 1000000) (hall : allF (d ++ s) = false) (h32 : ¬ s.size = 32) (w : World) : Calls Tryz.prog 22 #[.string d, .string s] w fun e w' => e = .returned (lookV 2) /\ Below w.heap.size w w' := by
 have HR := Hid.mk (TB.fresh w 0 0 0 0 0)
 have h33 : ¬ (s.size : Int) = 32 := by omega
 clear h32
 generalize hA : d ++ s = A at *
 have hAz : A.size = d.size + s.size := by rw [<- hA, ByteArray.size_append]
 have HF := Hid.mk hall
 clear hall
 have hz0 : d.size + s.size <= 1100000 := by omega
 go_enter Tryz.func22, Tryz.ntmps22
 go_wp2_with fail
 have HA := Hid.mk hA
 clear hA
 go_loop [7, 9] (fun c i => ∃ (k : Nat) (b : Bool), k <= A.size /\ i = .int .i64 k /\ c = .bool b /\ Hid (b = preF A k)) (fun _ i => A.size - (intOf i).toNat)
 case atStart => exact ⟨0, true, Nat.zero_le _, rfl, rfl, Hid.mk rfl⟩
 case round =>
  obtain ⟨k, b, hk, rfl, rfl, hb⟩ := hrel
  by_cases hks : k < A.size
  ·have hst := preF_succ A k hks
   rw [<- hb.out] at hst
   have HS := Hid.mk hst
   clear hst hb
   cases b with
   | false =>
    go_wp2_with fail
    exact ⟨⟨k + 1, false, by omega, by go_num, rfl, Hid.mk HS.out.symm⟩, by simp [intOf]; omega⟩
   | true =>
    by_cases hx : A[k] = 255
    ·have hx2 : ((A[k].toNat : Int)) = 255 := by rw [hx]; rfl
     have HX := Hid.mk hx
     clear hx
     go_wp2_with fail
     exact ⟨⟨k + 1, true, by omega, by go_num, rfl, Hid.mk (by rw [HS.out, HX.out]; rfl)⟩, by simp [intOf]; omega⟩
    ·have hx2 : ¬ ((A[k].toNat : Int)) = 255 := by
      intro e
      apply hx
      apply UInt8.toNat_inj.1
      show A[k].toNat = 255
      omega
     have HX := Hid.mk hx
     clear hx
     go_wp2_with fail
     exact ⟨⟨k + 1, false, by omega, by go_num, congrArg Value.bool (beq_eq_false_iff_ne.2 hx2), Hid.mk (by rw [HS.out, Bool.true_and]; exact (beq_eq_false_iff_ne.2 HX.out).symm)⟩, by simp [intOf]; omega⟩
  ·have hk2 : k = A.size := by omega
   have hbb := hb.out
   rw [hk2, preF_all, HF.out] at hbb
   clear hk2 hb
   subst hbb
   go_wp2_with fail
   exact bodyPost_ret (tb_result3 rfl rfl HR.out) rfl ⟨rfl, below_one _ _⟩
set_option maxHeartbeats 4000000 in
theorem rlook_t1 (d s : ByteArray) (zd : d.size <= 65535) (hall : allF (d ++ s) = false) (h32 : s.size = 32) {K S I O W L : Nat} (h6 : Six s K S I O W L) (hL : d.size < L) (w : World) : Calls Tryz.prog 22 #[.string d, .string s] w fun e w' => e = .returned (lookV 2) /\ Below w.heap.size w w' := by
 obtain ⟨b1, b2, b3, b4, b5, b6⟩ := h6.bounds
 obtain ⟨s1, e1, s2, e2, s3, e3, s4, e4, s5, e5, s6, e6, q1, q2, q3, q4, q5, q6⟩ := h6.out
 clear h6
 have x1 := wrap_i64 K (by omega)
 have x3 := wrap_i64 I (by omega)
 have x4 := wrap_i64 O (by omega)
 have x5 := wrap_i64 W (by omega)
 have x6 := wrap_i64 L (by omega)
 have h33 : (s.size : Int) = 32 := by omega
 clear h32
 have hL2 : (d.size : Int) < (L : Int) := by omega
 generalize hA : d ++ s = A at *
 have hAz : A.size = d.size + s.size := by rw [<- hA, ByteArray.size_append]
 have HF := Hid.mk hall
 clear hall
 have hz0 : d.size + s.size <= 1100000 := by omega
 go_enter Tryz.func22, Tryz.ntmps22
 go_wp2_with fail
 have HA := Hid.mk hA
 clear hA
 go_loop [7, 9] (fun c i => ∃ (k : Nat) (b : Bool), k <= A.size /\ i = .int .i64 k /\ c = .bool b /\ Hid (b = preF A k)) (fun _ i => A.size - (intOf i).toNat)
 case atStart => exact ⟨0, true, Nat.zero_le _, rfl, rfl, Hid.mk rfl⟩
 case round =>
  obtain ⟨k, b, hk, rfl, rfl, hb⟩ := hrel
  by_cases hks : k < A.size
  ·have hst := preF_succ A k hks
   rw [<- hb.out] at hst
   have HS := Hid.mk hst
   clear hst hb
   cases b with
   | false =>
    go_wp2_with fail
    exact ⟨⟨k + 1, false, by omega, by go_num, rfl, Hid.mk HS.out.symm⟩, by simp [intOf]; omega⟩
   | true =>
    by_cases hx : A[k] = 255
    ·have hx2 : ((A[k].toNat : Int)) = 255 := by rw [hx]; rfl
     have HX := Hid.mk hx
     clear hx
     go_wp2_with fail
     exact ⟨⟨k + 1, true, by omega, by go_num, rfl, Hid.mk (by rw [HS.out, HX.out]; rfl)⟩, by simp [intOf]; omega⟩
    ·have hx2 : ¬ ((A[k].toNat : Int)) = 255 := by
      intro e
      apply hx
      apply UInt8.toNat_inj.1
      show A[k].toNat = 255
      omega
     have HX := Hid.mk hx
     clear hx
     go_wp2_with fail
     exact ⟨⟨k + 1, false, by omega, by go_num, congrArg Value.bool (beq_eq_false_iff_ne.2 hx2), Hid.mk (by rw [HS.out, Bool.true_and]; exact (beq_eq_false_iff_ne.2 HX.out).symm)⟩, by simp [intOf]; omega⟩
  ·have hk2 : k = A.size := by omega
   have hbb := hb.out
   rw [hk2, preF_all, HF.out] at hbb
   clear hk2 hb
   subst hbb
   go_upto_region 13 with fail
   have HQ := Hid.mk (rls_start w s)
   generalize (((w.alloc (.cells #[.int .i64 0, .int .u64 0, .int .i64 0, .int .i64 0, .int .i64 0] 68)).alloc (.cells #[.string s, .int .i64 0] 146)).alloc (.cells #[.int .i64 0, .int .u64 0, .int .i64 0, .int .i64 0, .int .i64 0] 68)) = V0 at *
   have a0 := HQ.out.2.1.rest
   have a1 := HQ.out.2.1.err
   have fa0 := HQ.out.2.1.frozen 0
   have fa1 := HQ.out.2.1.frozen 1
   obtain ⟨c0, c1, c2, c3, c4⟩ := HQ.out.2.2.1.five
   have fc0 := HQ.out.2.2.1.frozen 0
   have fc1 := HQ.out.2.2.1.frozen 1
   have fc2 := HQ.out.2.2.1.frozen 2
   have fc3 := HQ.out.2.2.1.frozen 3
   have fc4 := HQ.out.2.2.1.frozen 4
   go_upto_region 14 with (first | (go_at_call 67; refine (atFixed_any _ _ _ _).mono ?_; rintro x W1 ⟨rfl, b1⟩; rw [q1]; replace HQ := Hid.mk (HQ.out.call b1); clear b1; clear a0 a1 fa0 fa1 c0 c1 c2 c3 c4 fc0 fc1 fc2 fc3 fc4; have a0 := HQ.out.2.1.rest; have a1 := HQ.out.2.1.err; have fa0 := HQ.out.2.1.frozen 0; have fa1 := HQ.out.2.1.frozen 1; obtain ⟨c0, c1, c2, c3, c4⟩ := HQ.out.2.2.1.five; have fc0 := HQ.out.2.2.1.frozen 0; have fc1 := HQ.out.2.2.1.frozen 1; have fc2 := HQ.out.2.2.1.frozen 2; have fc3 := HQ.out.2.2.1.frozen 3; have fc4 := HQ.out.2.2.1.frozen 4))
   clear a0 a1 fa0 fa1 c0 c1 c2 c3 c4 fc0 fc1 fc2 fc3 fc4
   replace HQ := Hid.mk (HQ.out.read s1 e1)
   generalize ((W1.setCell ⟨w.heap.size + 1, 0, none⟩ (.string s1)).setCell ⟨w.heap.size + 1, 1, none⟩ (.int .i64 e1)) = V1 at *
   have a0 := HQ.out.2.1.rest
   have a1 := HQ.out.2.1.err
   have fa0 := HQ.out.2.1.frozen 0
   have fa1 := HQ.out.2.1.frozen 1
   obtain ⟨c0, c1, c2, c3, c4⟩ := HQ.out.2.2.1.five
   have fc0 := HQ.out.2.2.1.frozen 0
   have fc1 := HQ.out.2.2.1.frozen 1
   have fc2 := HQ.out.2.2.1.frozen 2
   have fc3 := HQ.out.2.2.1.frozen 3
   have fc4 := HQ.out.2.2.1.frozen 4
   go_upto_region 15 with (first | (go_at_call 67; refine (atFixed_any _ _ _ _).mono ?_; rintro x W2 ⟨rfl, b1⟩; rw [q2]; replace HQ := Hid.mk (HQ.out.call b1); clear b1; clear a0 a1 fa0 fa1 c0 c1 c2 c3 c4 fc0 fc1 fc2 fc3 fc4; have a0 := HQ.out.2.1.rest; have a1 := HQ.out.2.1.err; have fa0 := HQ.out.2.1.frozen 0; have fa1 := HQ.out.2.1.frozen 1; obtain ⟨c0, c1, c2, c3, c4⟩ := HQ.out.2.2.1.five; have fc0 := HQ.out.2.2.1.frozen 0; have fc1 := HQ.out.2.2.1.frozen 1; have fc2 := HQ.out.2.2.1.frozen 2; have fc3 := HQ.out.2.2.1.frozen 3; have fc4 := HQ.out.2.2.1.frozen 4))
   clear a0 a1 fa0 fa1 c0 c1 c2 c3 c4 fc0 fc1 fc2 fc3 fc4
   replace HQ := Hid.mk (HQ.out.read s2 e2)
   replace HQ := Hid.mk (HQ.out.set 1 _ (HQ.out.2.2.1.set1 S))
   generalize (((W2.setCell ⟨w.heap.size + 1, 0, none⟩ (.string s2)).setCell ⟨w.heap.size + 1, 1, none⟩ (.int .i64 e2)).setCell ⟨w.heap.size + 1 + 1, 1, none⟩ (.int .u64 S)) = V2 at *
   have a0 := HQ.out.2.1.rest
   have a1 := HQ.out.2.1.err
   have fa0 := HQ.out.2.1.frozen 0
   have fa1 := HQ.out.2.1.frozen 1
   obtain ⟨c0, c1, c2, c3, c4⟩ := HQ.out.2.2.1.five
   have fc0 := HQ.out.2.2.1.frozen 0
   have fc1 := HQ.out.2.2.1.frozen 1
   have fc2 := HQ.out.2.2.1.frozen 2
   have fc3 := HQ.out.2.2.1.frozen 3
   have fc4 := HQ.out.2.2.1.frozen 4
   go_upto_region 16 with (first | (go_at_call 67; refine (atFixed_any _ _ _ _).mono ?_; rintro x W3 ⟨rfl, b1⟩; rw [q3]; replace HQ := Hid.mk (HQ.out.call b1); clear b1; clear a0 a1 fa0 fa1 c0 c1 c2 c3 c4 fc0 fc1 fc2 fc3 fc4; have a0 := HQ.out.2.1.rest; have a1 := HQ.out.2.1.err; have fa0 := HQ.out.2.1.frozen 0; have fa1 := HQ.out.2.1.frozen 1; obtain ⟨c0, c1, c2, c3, c4⟩ := HQ.out.2.2.1.five; have fc0 := HQ.out.2.2.1.frozen 0; have fc1 := HQ.out.2.2.1.frozen 1; have fc2 := HQ.out.2.2.1.frozen 2; have fc3 := HQ.out.2.2.1.frozen 3; have fc4 := HQ.out.2.2.1.frozen 4))
   clear a0 a1 fa0 fa1 c0 c1 c2 c3 c4 fc0 fc1 fc2 fc3 fc4
   replace HQ := Hid.mk (HQ.out.read s3 e3)
   generalize ((W3.setCell ⟨w.heap.size + 1, 0, none⟩ (.string s3)).setCell ⟨w.heap.size + 1, 1, none⟩ (.int .i64 e3)) = V3 at *
   have a0 := HQ.out.2.1.rest
   have a1 := HQ.out.2.1.err
   have fa0 := HQ.out.2.1.frozen 0
   have fa1 := HQ.out.2.1.frozen 1
   obtain ⟨c0, c1, c2, c3, c4⟩ := HQ.out.2.2.1.five
   have fc0 := HQ.out.2.2.1.frozen 0
   have fc1 := HQ.out.2.2.1.frozen 1
   have fc2 := HQ.out.2.2.1.frozen 2
   have fc3 := HQ.out.2.2.1.frozen 3
   have fc4 := HQ.out.2.2.1.frozen 4
   go_upto_region 17 with (first | (go_at_call 67; refine (atFixed_any _ _ _ _).mono ?_; rintro x W4 ⟨rfl, b1⟩; rw [q4]; replace HQ := Hid.mk (HQ.out.call b1); clear b1; clear a0 a1 fa0 fa1 c0 c1 c2 c3 c4 fc0 fc1 fc2 fc3 fc4; have a0 := HQ.out.2.1.rest; have a1 := HQ.out.2.1.err; have fa0 := HQ.out.2.1.frozen 0; have fa1 := HQ.out.2.1.frozen 1; obtain ⟨c0, c1, c2, c3, c4⟩ := HQ.out.2.2.1.five; have fc0 := HQ.out.2.2.1.frozen 0; have fc1 := HQ.out.2.2.1.frozen 1; have fc2 := HQ.out.2.2.1.frozen 2; have fc3 := HQ.out.2.2.1.frozen 3; have fc4 := HQ.out.2.2.1.frozen 4))
   clear a0 a1 fa0 fa1 c0 c1 c2 c3 c4 fc0 fc1 fc2 fc3 fc4
   replace HQ := Hid.mk (HQ.out.read s4 e4)
   generalize ((W4.setCell ⟨w.heap.size + 1, 0, none⟩ (.string s4)).setCell ⟨w.heap.size + 1, 1, none⟩ (.int .i64 e4)) = V4 at *
   have a0 := HQ.out.2.1.rest
   have a1 := HQ.out.2.1.err
   have fa0 := HQ.out.2.1.frozen 0
   have fa1 := HQ.out.2.1.frozen 1
   obtain ⟨c0, c1, c2, c3, c4⟩ := HQ.out.2.2.1.five
   have fc0 := HQ.out.2.2.1.frozen 0
   have fc1 := HQ.out.2.2.1.frozen 1
   have fc2 := HQ.out.2.2.1.frozen 2
   have fc3 := HQ.out.2.2.1.frozen 3
   have fc4 := HQ.out.2.2.1.frozen 4
   go_upto_region 18 with (first | (go_at_call 67; refine (atFixed_any _ _ _ _).mono ?_; rintro x W5 ⟨rfl, b1⟩; rw [q5]; replace HQ := Hid.mk (HQ.out.call b1); clear b1; clear a0 a1 fa0 fa1 c0 c1 c2 c3 c4 fc0 fc1 fc2 fc3 fc4; have a0 := HQ.out.2.1.rest; have a1 := HQ.out.2.1.err; have fa0 := HQ.out.2.1.frozen 0; have fa1 := HQ.out.2.1.frozen 1; obtain ⟨c0, c1, c2, c3, c4⟩ := HQ.out.2.2.1.five; have fc0 := HQ.out.2.2.1.frozen 0; have fc1 := HQ.out.2.2.1.frozen 1; have fc2 := HQ.out.2.2.1.frozen 2; have fc3 := HQ.out.2.2.1.frozen 3; have fc4 := HQ.out.2.2.1.frozen 4))
   clear a0 a1 fa0 fa1 c0 c1 c2 c3 c4 fc0 fc1 fc2 fc3 fc4
   replace HQ := Hid.mk (HQ.out.read s5 e5)
   generalize ((W5.setCell ⟨w.heap.size + 1, 0, none⟩ (.string s5)).setCell ⟨w.heap.size + 1, 1, none⟩ (.int .i64 e5)) = V5 at *
   have a0 := HQ.out.2.1.rest
   have a1 := HQ.out.2.1.err
   have fa0 := HQ.out.2.1.frozen 0
   have fa1 := HQ.out.2.1.frozen 1
   obtain ⟨c0, c1, c2, c3, c4⟩ := HQ.out.2.2.1.five
   have fc0 := HQ.out.2.2.1.frozen 0
   have fc1 := HQ.out.2.2.1.frozen 1
   have fc2 := HQ.out.2.2.1.frozen 2
   have fc3 := HQ.out.2.2.1.frozen 3
   have fc4 := HQ.out.2.2.1.frozen 4
   go_upto_region 19 with (first | (go_at_call 67; refine (atFixed_any _ _ _ _).mono ?_; rintro x W6 ⟨rfl, b1⟩; rw [q6]; replace HQ := Hid.mk (HQ.out.call b1); clear b1; clear a0 a1 fa0 fa1 c0 c1 c2 c3 c4 fc0 fc1 fc2 fc3 fc4; have a0 := HQ.out.2.1.rest; have a1 := HQ.out.2.1.err; have fa0 := HQ.out.2.1.frozen 0; have fa1 := HQ.out.2.1.frozen 1; obtain ⟨c0, c1, c2, c3, c4⟩ := HQ.out.2.2.1.five; have fc0 := HQ.out.2.2.1.frozen 0; have fc1 := HQ.out.2.2.1.frozen 1; have fc2 := HQ.out.2.2.1.frozen 2; have fc3 := HQ.out.2.2.1.frozen 3; have fc4 := HQ.out.2.2.1.frozen 4))
   clear a0 a1 fa0 fa1 c0 c1 c2 c3 c4 fc0 fc1 fc2 fc3 fc4
   replace HQ := Hid.mk (HQ.out.alloc (.cells #[.string s6, .int .i64 e6] 146))
   generalize (W6.alloc (.cells #[.string s6, .int .i64 e6] 146)) = V6 at *
   generalize W6.heap.size = G6 at *
   have a0 := HQ.out.2.1.rest
   have a1 := HQ.out.2.1.err
   have fa0 := HQ.out.2.1.frozen 0
   have fa1 := HQ.out.2.1.frozen 1
   obtain ⟨c0, c1, c2, c3, c4⟩ := HQ.out.2.2.1.five
   have fc0 := HQ.out.2.2.1.frozen 0
   have fc1 := HQ.out.2.2.1.frozen 1
   have fc2 := HQ.out.2.2.1.frozen 2
   have fc3 := HQ.out.2.2.1.frozen 3
   have fc4 := HQ.out.2.2.1.frozen 4
   go_upto_region 20 with fail
   clear a0 a1 fa0 fa1 c0 c1 c2 c3 c4 fc0 fc1 fc2 fc3 fc4
   replace HQ := Hid.mk ((((HQ.out.set 0 _ (HQ.out.2.2.1.set0 K)).set 2 _ ((HQ.out.2.2.1.set0 K).set2 I)).set 3 _ (((HQ.out.2.2.1.set0 K).set2 I).set3 O)).set 4 _ ((((HQ.out.2.2.1.set0 K).set2 I).set3 O).set4 W))
   generalize ((((V6.setCell ⟨w.heap.size + 1 + 1, 0, none⟩ (.int .i64 K)).setCell ⟨w.heap.size + 1 + 1, 2, none⟩ (.int .i64 I)).setCell ⟨w.heap.size + 1 + 1, 3, none⟩ (.int .i64 O)).setCell ⟨w.heap.size + 1 + 1, 4, none⟩ (.int .i64 W)) = V7 at *
   have a0 := HQ.out.2.1.rest
   have a1 := HQ.out.2.1.err
   have fa0 := HQ.out.2.1.frozen 0
   have fa1 := HQ.out.2.1.frozen 1
   obtain ⟨c0, c1, c2, c3, c4⟩ := HQ.out.2.2.1.five
   have fc0 := HQ.out.2.2.1.frozen 0
   have fc1 := HQ.out.2.2.1.frozen 1
   have fc2 := HQ.out.2.2.1.frozen 2
   have fc3 := HQ.out.2.2.1.frozen 3
   have fc4 := HQ.out.2.2.1.frozen 4
   obtain ⟨d0, d1, d2, d3, d4⟩ := HQ.out.1.five
   have f0 := HQ.out.1.frozen 0
   have f1 := HQ.out.1.frozen 1
   have f2 := HQ.out.1.frozen 2
   have f3 := HQ.out.1.frozen 3
   have f4 := HQ.out.1.frozen 4
   go_wp2_with fail
   have hr := tb_whole HQ.out.1 HQ.out.2.2.2 (Nat.le_refl _) 0 0 0 0 0
   exact bodyPost_ret (tb_result3 rfl rfl hr.1) rfl ⟨rfl, hr.2⟩
set_option maxHeartbeats 4000000 in
theorem rlook_t2 (d s : ByteArray) (zd : d.size <= 65535) (hall : allF (d ++ s) = false) (h32 : s.size = 32) {K S I O W L : Nat} (h6 : Six s K S I O W L) (hL : L <= d.size) (hbad : ¬ mayB K I O W) (w : World) : Calls Tryz.prog 22 #[.string d, .string s] w fun e w' => e = .returned (lookV 2) /\ Below w.heap.size w w' := by
 obtain ⟨b1, b2, b3, b4, b5, b6⟩ := h6.bounds
 obtain ⟨s1, e1, s2, e2, s3, e3, s4, e4, s5, e5, s6, e6, q1, q2, q3, q4, q5, q6⟩ := h6.out
 clear h6
 have x1 := wrap_i64 K (by omega)
 have x3 := wrap_i64 I (by omega)
 have x4 := wrap_i64 O (by omega)
 have x5 := wrap_i64 W (by omega)
 have x6 := wrap_i64 L (by omega)
 have h33 : (s.size : Int) = 32 := by omega
 clear h32
 have hL2 : (L : Int) <= (d.size : Int) := by omega
 have hc : chk K I O W = false := by
  cases h : chk K I O W with
  | false => rfl
  | true => exact absurd (chk_iff.1 h) hbad
 clear hbad
 have b5i : (W : Int) <= 9223372036854775807 := by omega
 generalize hA : d ++ s = A at *
 have hAz : A.size = d.size + s.size := by rw [<- hA, ByteArray.size_append]
 have HF := Hid.mk hall
 clear hall
 have hz0 : d.size + s.size <= 1100000 := by omega
 go_enter Tryz.func22, Tryz.ntmps22
 go_wp2_with fail
 have HA := Hid.mk hA
 clear hA
 go_loop [7, 9] (fun c i => ∃ (k : Nat) (b : Bool), k <= A.size /\ i = .int .i64 k /\ c = .bool b /\ Hid (b = preF A k)) (fun _ i => A.size - (intOf i).toNat)
 case atStart => exact ⟨0, true, Nat.zero_le _, rfl, rfl, Hid.mk rfl⟩
 case round =>
  obtain ⟨k, b, hk, rfl, rfl, hb⟩ := hrel
  by_cases hks : k < A.size
  ·have hst := preF_succ A k hks
   rw [<- hb.out] at hst
   have HS := Hid.mk hst
   clear hst hb
   cases b with
   | false =>
    go_wp2_with fail
    exact ⟨⟨k + 1, false, by omega, by go_num, rfl, Hid.mk HS.out.symm⟩, by simp [intOf]; omega⟩
   | true =>
    by_cases hx : A[k] = 255
    ·have hx2 : ((A[k].toNat : Int)) = 255 := by rw [hx]; rfl
     have HX := Hid.mk hx
     clear hx
     go_wp2_with fail
     exact ⟨⟨k + 1, true, by omega, by go_num, rfl, Hid.mk (by rw [HS.out, HX.out]; rfl)⟩, by simp [intOf]; omega⟩
    ·have hx2 : ¬ ((A[k].toNat : Int)) = 255 := by
      intro e
      apply hx
      apply UInt8.toNat_inj.1
      show A[k].toNat = 255
      omega
     have HX := Hid.mk hx
     clear hx
     go_wp2_with fail
     exact ⟨⟨k + 1, false, by omega, by go_num, congrArg Value.bool (beq_eq_false_iff_ne.2 hx2), Hid.mk (by rw [HS.out, Bool.true_and]; exact (beq_eq_false_iff_ne.2 HX.out).symm)⟩, by simp [intOf]; omega⟩
  ·have hk2 : k = A.size := by omega
   have hbb := hb.out
   rw [hk2, preF_all, HF.out] at hbb
   clear hk2 hb
   subst hbb
   go_upto_region 13 with fail
   have HQ := Hid.mk (rls_start w s)
   generalize (((w.alloc (.cells #[.int .i64 0, .int .u64 0, .int .i64 0, .int .i64 0, .int .i64 0] 68)).alloc (.cells #[.string s, .int .i64 0] 146)).alloc (.cells #[.int .i64 0, .int .u64 0, .int .i64 0, .int .i64 0, .int .i64 0] 68)) = V0 at *
   have a0 := HQ.out.2.1.rest
   have a1 := HQ.out.2.1.err
   have fa0 := HQ.out.2.1.frozen 0
   have fa1 := HQ.out.2.1.frozen 1
   obtain ⟨c0, c1, c2, c3, c4⟩ := HQ.out.2.2.1.five
   have fc0 := HQ.out.2.2.1.frozen 0
   have fc1 := HQ.out.2.2.1.frozen 1
   have fc2 := HQ.out.2.2.1.frozen 2
   have fc3 := HQ.out.2.2.1.frozen 3
   have fc4 := HQ.out.2.2.1.frozen 4
   go_upto_region 14 with (first | (go_at_call 67; refine (atFixed_any _ _ _ _).mono ?_; rintro x W1 ⟨rfl, b1⟩; rw [q1]; replace HQ := Hid.mk (HQ.out.call b1); clear b1; clear a0 a1 fa0 fa1 c0 c1 c2 c3 c4 fc0 fc1 fc2 fc3 fc4; have a0 := HQ.out.2.1.rest; have a1 := HQ.out.2.1.err; have fa0 := HQ.out.2.1.frozen 0; have fa1 := HQ.out.2.1.frozen 1; obtain ⟨c0, c1, c2, c3, c4⟩ := HQ.out.2.2.1.five; have fc0 := HQ.out.2.2.1.frozen 0; have fc1 := HQ.out.2.2.1.frozen 1; have fc2 := HQ.out.2.2.1.frozen 2; have fc3 := HQ.out.2.2.1.frozen 3; have fc4 := HQ.out.2.2.1.frozen 4))
   clear a0 a1 fa0 fa1 c0 c1 c2 c3 c4 fc0 fc1 fc2 fc3 fc4
   replace HQ := Hid.mk (HQ.out.read s1 e1)
   generalize ((W1.setCell ⟨w.heap.size + 1, 0, none⟩ (.string s1)).setCell ⟨w.heap.size + 1, 1, none⟩ (.int .i64 e1)) = V1 at *
   have a0 := HQ.out.2.1.rest
   have a1 := HQ.out.2.1.err
   have fa0 := HQ.out.2.1.frozen 0
   have fa1 := HQ.out.2.1.frozen 1
   obtain ⟨c0, c1, c2, c3, c4⟩ := HQ.out.2.2.1.five
   have fc0 := HQ.out.2.2.1.frozen 0
   have fc1 := HQ.out.2.2.1.frozen 1
   have fc2 := HQ.out.2.2.1.frozen 2
   have fc3 := HQ.out.2.2.1.frozen 3
   have fc4 := HQ.out.2.2.1.frozen 4
   go_upto_region 15 with (first | (go_at_call 67; refine (atFixed_any _ _ _ _).mono ?_; rintro x W2 ⟨rfl, b1⟩; rw [q2]; replace HQ := Hid.mk (HQ.out.call b1); clear b1; clear a0 a1 fa0 fa1 c0 c1 c2 c3 c4 fc0 fc1 fc2 fc3 fc4; have a0 := HQ.out.2.1.rest; have a1 := HQ.out.2.1.err; have fa0 := HQ.out.2.1.frozen 0; have fa1 := HQ.out.2.1.frozen 1; obtain ⟨c0, c1, c2, c3, c4⟩ := HQ.out.2.2.1.five; have fc0 := HQ.out.2.2.1.frozen 0; have fc1 := HQ.out.2.2.1.frozen 1; have fc2 := HQ.out.2.2.1.frozen 2; have fc3 := HQ.out.2.2.1.frozen 3; have fc4 := HQ.out.2.2.1.frozen 4))
   clear a0 a1 fa0 fa1 c0 c1 c2 c3 c4 fc0 fc1 fc2 fc3 fc4
   replace HQ := Hid.mk (HQ.out.read s2 e2)
   replace HQ := Hid.mk (HQ.out.set 1 _ (HQ.out.2.2.1.set1 S))
   generalize (((W2.setCell ⟨w.heap.size + 1, 0, none⟩ (.string s2)).setCell ⟨w.heap.size + 1, 1, none⟩ (.int .i64 e2)).setCell ⟨w.heap.size + 1 + 1, 1, none⟩ (.int .u64 S)) = V2 at *
   have a0 := HQ.out.2.1.rest
   have a1 := HQ.out.2.1.err
   have fa0 := HQ.out.2.1.frozen 0
   have fa1 := HQ.out.2.1.frozen 1
   obtain ⟨c0, c1, c2, c3, c4⟩ := HQ.out.2.2.1.five
   have fc0 := HQ.out.2.2.1.frozen 0
   have fc1 := HQ.out.2.2.1.frozen 1
   have fc2 := HQ.out.2.2.1.frozen 2
   have fc3 := HQ.out.2.2.1.frozen 3
   have fc4 := HQ.out.2.2.1.frozen 4
   go_upto_region 16 with (first | (go_at_call 67; refine (atFixed_any _ _ _ _).mono ?_; rintro x W3 ⟨rfl, b1⟩; rw [q3]; replace HQ := Hid.mk (HQ.out.call b1); clear b1; clear a0 a1 fa0 fa1 c0 c1 c2 c3 c4 fc0 fc1 fc2 fc3 fc4; have a0 := HQ.out.2.1.rest; have a1 := HQ.out.2.1.err; have fa0 := HQ.out.2.1.frozen 0; have fa1 := HQ.out.2.1.frozen 1; obtain ⟨c0, c1, c2, c3, c4⟩ := HQ.out.2.2.1.five; have fc0 := HQ.out.2.2.1.frozen 0; have fc1 := HQ.out.2.2.1.frozen 1; have fc2 := HQ.out.2.2.1.frozen 2; have fc3 := HQ.out.2.2.1.frozen 3; have fc4 := HQ.out.2.2.1.frozen 4))
   clear a0 a1 fa0 fa1 c0 c1 c2 c3 c4 fc0 fc1 fc2 fc3 fc4
   replace HQ := Hid.mk (HQ.out.read s3 e3)
   generalize ((W3.setCell ⟨w.heap.size + 1, 0, none⟩ (.string s3)).setCell ⟨w.heap.size + 1, 1, none⟩ (.int .i64 e3)) = V3 at *
   have a0 := HQ.out.2.1.rest
   have a1 := HQ.out.2.1.err
   have fa0 := HQ.out.2.1.frozen 0
   have fa1 := HQ.out.2.1.frozen 1
   obtain ⟨c0, c1, c2, c3, c4⟩ := HQ.out.2.2.1.five
   have fc0 := HQ.out.2.2.1.frozen 0
   have fc1 := HQ.out.2.2.1.frozen 1
   have fc2 := HQ.out.2.2.1.frozen 2
   have fc3 := HQ.out.2.2.1.frozen 3
   have fc4 := HQ.out.2.2.1.frozen 4
   go_upto_region 17 with (first | (go_at_call 67; refine (atFixed_any _ _ _ _).mono ?_; rintro x W4 ⟨rfl, b1⟩; rw [q4]; replace HQ := Hid.mk (HQ.out.call b1); clear b1; clear a0 a1 fa0 fa1 c0 c1 c2 c3 c4 fc0 fc1 fc2 fc3 fc4; have a0 := HQ.out.2.1.rest; have a1 := HQ.out.2.1.err; have fa0 := HQ.out.2.1.frozen 0; have fa1 := HQ.out.2.1.frozen 1; obtain ⟨c0, c1, c2, c3, c4⟩ := HQ.out.2.2.1.five; have fc0 := HQ.out.2.2.1.frozen 0; have fc1 := HQ.out.2.2.1.frozen 1; have fc2 := HQ.out.2.2.1.frozen 2; have fc3 := HQ.out.2.2.1.frozen 3; have fc4 := HQ.out.2.2.1.frozen 4))
   clear a0 a1 fa0 fa1 c0 c1 c2 c3 c4 fc0 fc1 fc2 fc3 fc4
   replace HQ := Hid.mk (HQ.out.read s4 e4)
   generalize ((W4.setCell ⟨w.heap.size + 1, 0, none⟩ (.string s4)).setCell ⟨w.heap.size + 1, 1, none⟩ (.int .i64 e4)) = V4 at *
   have a0 := HQ.out.2.1.rest
   have a1 := HQ.out.2.1.err
   have fa0 := HQ.out.2.1.frozen 0
   have fa1 := HQ.out.2.1.frozen 1
   obtain ⟨c0, c1, c2, c3, c4⟩ := HQ.out.2.2.1.five
   have fc0 := HQ.out.2.2.1.frozen 0
   have fc1 := HQ.out.2.2.1.frozen 1
   have fc2 := HQ.out.2.2.1.frozen 2
   have fc3 := HQ.out.2.2.1.frozen 3
   have fc4 := HQ.out.2.2.1.frozen 4
   go_upto_region 18 with (first | (go_at_call 67; refine (atFixed_any _ _ _ _).mono ?_; rintro x W5 ⟨rfl, b1⟩; rw [q5]; replace HQ := Hid.mk (HQ.out.call b1); clear b1; clear a0 a1 fa0 fa1 c0 c1 c2 c3 c4 fc0 fc1 fc2 fc3 fc4; have a0 := HQ.out.2.1.rest; have a1 := HQ.out.2.1.err; have fa0 := HQ.out.2.1.frozen 0; have fa1 := HQ.out.2.1.frozen 1; obtain ⟨c0, c1, c2, c3, c4⟩ := HQ.out.2.2.1.five; have fc0 := HQ.out.2.2.1.frozen 0; have fc1 := HQ.out.2.2.1.frozen 1; have fc2 := HQ.out.2.2.1.frozen 2; have fc3 := HQ.out.2.2.1.frozen 3; have fc4 := HQ.out.2.2.1.frozen 4))
   clear a0 a1 fa0 fa1 c0 c1 c2 c3 c4 fc0 fc1 fc2 fc3 fc4
   replace HQ := Hid.mk (HQ.out.read s5 e5)
   generalize ((W5.setCell ⟨w.heap.size + 1, 0, none⟩ (.string s5)).setCell ⟨w.heap.size + 1, 1, none⟩ (.int .i64 e5)) = V5 at *
   have a0 := HQ.out.2.1.rest
   have a1 := HQ.out.2.1.err
   have fa0 := HQ.out.2.1.frozen 0
   have fa1 := HQ.out.2.1.frozen 1
   obtain ⟨c0, c1, c2, c3, c4⟩ := HQ.out.2.2.1.five
   have fc0 := HQ.out.2.2.1.frozen 0
   have fc1 := HQ.out.2.2.1.frozen 1
   have fc2 := HQ.out.2.2.1.frozen 2
   have fc3 := HQ.out.2.2.1.frozen 3
   have fc4 := HQ.out.2.2.1.frozen 4
   go_upto_region 19 with (first | (go_at_call 67; refine (atFixed_any _ _ _ _).mono ?_; rintro x W6 ⟨rfl, b1⟩; rw [q6]; replace HQ := Hid.mk (HQ.out.call b1); clear b1; clear a0 a1 fa0 fa1 c0 c1 c2 c3 c4 fc0 fc1 fc2 fc3 fc4; have a0 := HQ.out.2.1.rest; have a1 := HQ.out.2.1.err; have fa0 := HQ.out.2.1.frozen 0; have fa1 := HQ.out.2.1.frozen 1; obtain ⟨c0, c1, c2, c3, c4⟩ := HQ.out.2.2.1.five; have fc0 := HQ.out.2.2.1.frozen 0; have fc1 := HQ.out.2.2.1.frozen 1; have fc2 := HQ.out.2.2.1.frozen 2; have fc3 := HQ.out.2.2.1.frozen 3; have fc4 := HQ.out.2.2.1.frozen 4))
   clear a0 a1 fa0 fa1 c0 c1 c2 c3 c4 fc0 fc1 fc2 fc3 fc4
   replace HQ := Hid.mk (HQ.out.alloc (.cells #[.string s6, .int .i64 e6] 146))
   generalize (W6.alloc (.cells #[.string s6, .int .i64 e6] 146)) = V6 at *
   generalize W6.heap.size = G6 at *
   have a0 := HQ.out.2.1.rest
   have a1 := HQ.out.2.1.err
   have fa0 := HQ.out.2.1.frozen 0
   have fa1 := HQ.out.2.1.frozen 1
   obtain ⟨c0, c1, c2, c3, c4⟩ := HQ.out.2.2.1.five
   have fc0 := HQ.out.2.2.1.frozen 0
   have fc1 := HQ.out.2.2.1.frozen 1
   have fc2 := HQ.out.2.2.1.frozen 2
   have fc3 := HQ.out.2.2.1.frozen 3
   have fc4 := HQ.out.2.2.1.frozen 4
   go_upto_region 20 with fail
   clear a0 a1 fa0 fa1 c0 c1 c2 c3 c4 fc0 fc1 fc2 fc3 fc4
   replace HQ := Hid.mk ((((HQ.out.set 0 _ (HQ.out.2.2.1.set0 K)).set 2 _ ((HQ.out.2.2.1.set0 K).set2 I)).set 3 _ (((HQ.out.2.2.1.set0 K).set2 I).set3 O)).set 4 _ ((((HQ.out.2.2.1.set0 K).set2 I).set3 O).set4 W))
   generalize ((((V6.setCell ⟨w.heap.size + 1 + 1, 0, none⟩ (.int .i64 K)).setCell ⟨w.heap.size + 1 + 1, 2, none⟩ (.int .i64 I)).setCell ⟨w.heap.size + 1 + 1, 3, none⟩ (.int .i64 O)).setCell ⟨w.heap.size + 1 + 1, 4, none⟩ (.int .i64 W)) = V7 at *
   have a0 := HQ.out.2.1.rest
   have a1 := HQ.out.2.1.err
   have fa0 := HQ.out.2.1.frozen 0
   have fa1 := HQ.out.2.1.frozen 1
   obtain ⟨c0, c1, c2, c3, c4⟩ := HQ.out.2.2.1.five
   have fc0 := HQ.out.2.2.1.frozen 0
   have fc1 := HQ.out.2.2.1.frozen 1
   have fc2 := HQ.out.2.2.1.frozen 2
   have fc3 := HQ.out.2.2.1.frozen 3
   have fc4 := HQ.out.2.2.1.frozen 4
   obtain ⟨d0, d1, d2, d3, d4⟩ := HQ.out.1.five
   have f0 := HQ.out.1.frozen 0
   have f1 := HQ.out.1.frozen 1
   have f2 := HQ.out.1.frozen 2
   have f3 := HQ.out.1.frozen 3
   have f4 := HQ.out.1.frozen 4
   go_wp2_with (first | (go_at_call 68; refine (refCheck_any _ _ _ _ _ b5i _).mono ?_; rintro e X1 ⟨rfl, y1⟩; rw [hc]; replace HQ := Hid.mk (HQ.out.call y1); clear y1 d0 d1 d2 d3 d4 f0 f1 f2 f3 f4; obtain ⟨d0, d1, d2, d3, d4⟩ := HQ.out.1.five; have f0 := HQ.out.1.frozen 0; have f1 := HQ.out.1.frozen 1; have f2 := HQ.out.1.frozen 2; have f3 := HQ.out.1.frozen 3; have f4 := HQ.out.1.frozen 4))
   have hr := tb_whole HQ.out.1 HQ.out.2.2.2 (Nat.le_refl _) 0 0 0 0 0
   exact bodyPost_ret (tb_result3 rfl rfl hr.1) rfl ⟨rfl, hr.2⟩
end Go.Proofs.YtaphpdmfjnhlaaaGreatDoor.Pg
