/-
  What a page would say: the walk of said. No condition.
-/
import Derived.Test.YtbcnocbdifbocaaDoorSaid
namespace Go.Proofs.YtbcnocbdifbocaaDoor.Pg
open Go Go.RowKit

/-- what six numbers off a reader are -/
structure Six (s : ByteArray) (K S I O W L : Nat) : Prop where
  out : ∃ s1 e1 s2 e2 s3 e3 s4 e4 s5 e5 s6 e6, rF s 0 1 = (s1, e1, K) ∧ rF s1 e1 8 = (s2, e2, S) ∧ rF s2 e2 2 = (s3, e3, I) ∧ rF s3 e3 2 = (s4, e4, O) ∧ rF s4 e4 4 = (s5, e5, W) ∧ rF s5 e5 2 = (s6, e6, L)
theorem Six.bounds {s : ByteArray} {K S I O W L : Nat} (h : Six s K S I O W L) : K < 256 ∧ S < 18446744073709551616 ∧ I < 65536 ∧ O < 65536 ∧ W < 4294967296 ∧ L < 65536 := by
  obtain ⟨s1, e1, s2, e2, s3, e3, s4, e4, s5, e5, s6, e6, q1, q2, q3, q4, q5, q6⟩ := h.out
  have b1 := rF_bound s 0 1
  have b2 := rF_bound s1 e1 8
  have b3 := rF_bound s2 e2 2
  have b4 := rF_bound s3 e3 2
  have b5 := rF_bound s4 e4 4
  have b6 := rF_bound s5 e5 2
  rw [q1] at b1
  rw [q2] at b2
  rw [q3] at b3
  rw [q4] at b4
  rw [q5] at b5
  rw [q6] at b6
  exact ⟨b1, b2, b3, b4, b5, b6⟩
theorem six_some (s : ByteArray) : ∃ K S I O W L, Six s K S I O W L :=
  ⟨_, _, _, _, _, _, ⟨_, _, _, _, _, _, _, _, _, _, _, _, rfl, rfl, rfl, rfl, rfl, rfl⟩⟩
theorem wrap_i64 (n : Nat) (h : n < 9223372036854775808) : IntKind.i64.wrap (n : Int) = (n : Int) := by simp [IntKind.wrap, IntKind.bits, IntKind.signed]; omega
theorem sd_start (w : World) (s : ByteArray) {w1 : World} (r : Rd w1 (w.alloc (.cells #[.int .i64 0, .int .u64 0, .int .i64 0, .int .i64 0, .int .i64 0] 52)).heap.size s 0)
    (b : Below (w.alloc (.cells #[.int .i64 0, .int .u64 0, .int .i64 0, .int .i64 0, .int .i64 0] 52)).heap.size (w.alloc (.cells #[.int .i64 0, .int .u64 0, .int .i64 0, .int .i64 0, .int .i64 0] 52)) w1) :
    Sd w w.heap.size (w.heap.size + 1) w1.heap.size s 0 0 0 0 0 0 (w1.alloc (.cells #[.int .i64 0, .int .u64 0, .int .i64 0, .int .i64 0, .int .i64 0] 52)) := by
  rw [size_alloc] at r
  have hl := r.lt
  have h0 := ((TB.fresh w 0 0 0 0 0).call b).alloc (.cells #[.int .i64 0, .int .u64 0, .int .i64 0, .int .i64 0, .int .i64 0] 52)
  have hb := below3 (below_one w _) b
  exact ⟨r.alloc _, TB.fresh w1 0 0 0 0 0, h0, hb.alloc hb.size _, Nat.le_refl _, by omega, hb.size, by omega, by omega, by omega⟩
set_option maxHeartbeats 4000000 in
theorem said_any (d s : ByteArray) (hd : d.size ≤ 1000000) {K S I O W L : Nat} (h : Six s K S I O W L) (w : World) :
    Calls Tryd.prog 69 #[.string d, .string s] w fun e w' => e = .returned (.tuple #[tagV K S I O W, .string (d.extract 0 (min L d.size))]) ∧ Below w.heap.size w w' := by
  obtain ⟨b1, b2, b3, b4, b5, b6⟩ := h.bounds
  obtain ⟨s1, e1, s2, e2, s3, e3, s4, e4, s5, e5, s6, e6, q1, q2, q3, q4, q5, q6⟩ := h.out
  clear h
  have x1 := wrap_i64 K (by omega)
  have x3 := wrap_i64 I (by omega)
  have x4 := wrap_i64 O (by omega)
  have x5 := wrap_i64 W (by omega)
  have x6 := wrap_i64 L (by omega)
  generalize hM : d.extract 0 (min L d.size) = M
  have HM := Hid.mk hM
  clear hM
  go_enter Tryd.func69, Tryd.ntmps69
  go_upto_region 3 with (first | (go_at_call 74; refine (new_any _ _).mono ?_; rintro e w1 ⟨rfl, r1, c1⟩; have HQ := Hid.mk (sd_start w s r1 c1); clear r1 c1))
  generalize (w1.alloc (.cells #[.int .i64 0, .int .u64 0, .int .i64 0, .int .i64 0, .int .i64 0] 52)) = W0 at *
  generalize w1.heap.size = G at *
  go_upto_region 4 with (first | (go_at_call 75; refine (fixedF_any HQ.out.1 _).mono ?_; rintro x W1 ⟨rfl, r, gr⟩; rw [q1] at r ⊢; replace HQ := Hid.mk (HQ.out.fixed r gr); clear r gr; obtain ⟨c0, c1, c2, c3, c4⟩ := HQ.out.2.1.five; have f0 := HQ.out.2.1.frozen 0))
  replace HQ := Hid.mk (HQ.out.set 0 _ (HQ.out.2.1.set0 K))
  clear c0 c1 c2 c3 c4 f0
  generalize (W1.setCell ⟨G, 0, none⟩ (.int .i64 K)) = V1 at *
  go_upto_region 5 with (first | (go_at_call 75; refine (fixedF_any HQ.out.1 _).mono ?_; rintro x W2 ⟨rfl, r, gr⟩; rw [q2] at r ⊢; replace HQ := Hid.mk (HQ.out.fixed r gr); clear r gr; obtain ⟨c0, c1, c2, c3, c4⟩ := HQ.out.2.1.five; have f0 := HQ.out.2.1.frozen 1))
  replace HQ := Hid.mk (HQ.out.set 1 _ (HQ.out.2.1.set1 S))
  clear c0 c1 c2 c3 c4 f0
  generalize (W2.setCell ⟨G, 1, none⟩ (.int .u64 S)) = V2 at *
  go_upto_region 6 with (first | (go_at_call 75; refine (fixedF_any HQ.out.1 _).mono ?_; rintro x W3 ⟨rfl, r, gr⟩; rw [q3] at r ⊢; replace HQ := Hid.mk (HQ.out.fixed r gr); clear r gr; obtain ⟨c0, c1, c2, c3, c4⟩ := HQ.out.2.1.five; have f0 := HQ.out.2.1.frozen 2))
  replace HQ := Hid.mk (HQ.out.set 2 _ (HQ.out.2.1.set2 I))
  clear c0 c1 c2 c3 c4 f0
  generalize (W3.setCell ⟨G, 2, none⟩ (.int .i64 I)) = V3 at *
  go_upto_region 7 with (first | (go_at_call 75; refine (fixedF_any HQ.out.1 _).mono ?_; rintro x W4 ⟨rfl, r, gr⟩; rw [q4] at r ⊢; replace HQ := Hid.mk (HQ.out.fixed r gr); clear r gr; obtain ⟨c0, c1, c2, c3, c4⟩ := HQ.out.2.1.five; have f0 := HQ.out.2.1.frozen 3))
  replace HQ := Hid.mk (HQ.out.set 3 _ (HQ.out.2.1.set3 O))
  clear c0 c1 c2 c3 c4 f0
  generalize (W4.setCell ⟨G, 3, none⟩ (.int .i64 O)) = V4 at *
  go_upto_region 8 with (first | (go_at_call 75; refine (fixedF_any HQ.out.1 _).mono ?_; rintro x W5 ⟨rfl, r, gr⟩; rw [q5] at r ⊢; replace HQ := Hid.mk (HQ.out.fixed r gr); clear r gr; obtain ⟨c0, c1, c2, c3, c4⟩ := HQ.out.2.1.five; have f0 := HQ.out.2.1.frozen 4))
  replace HQ := Hid.mk (HQ.out.set 4 _ (HQ.out.2.1.set4 W))
  clear c0 c1 c2 c3 c4 f0
  generalize (W5.setCell ⟨G, 4, none⟩ (.int .i64 W)) = V5 at *
  go_upto_region 9 with (first | (go_at_call 75; refine (fixedF_any HQ.out.1 _).mono ?_; rintro x W6 ⟨rfl, r, gr⟩; rw [q6] at r ⊢; replace HQ := Hid.mk (HQ.out.fixed r gr); clear r gr))
  obtain ⟨c0, c1, c2, c3, c4⟩ := HQ.out.2.1.five
  obtain ⟨d0, d1, d2, d3, d4⟩ := HQ.out.2.2.1.five
  have f0 := HQ.out.2.2.1.frozen 0
  have f1 := HQ.out.2.2.1.frozen 1
  have f2 := HQ.out.2.2.1.frozen 2
  have f3 := HQ.out.2.2.1.frozen 3
  have f4 := HQ.out.2.2.1.frozen 4
  clear q1 q2 q3 q4 q5 q6 x1 x3 x4 x5 x6
  have eM : (min (L : Int) (d.size : Int)).toNat = min L d.size := by omega
  have hM := HM.out
  clear HM
  go_region
  have hr := tb_whole HQ.out.2.2.1 HQ.out.2.2.2.1 (Nat.le_refl _) K S I O W
  have HR := Hid.mk (And.intro hr.1.drew hr.2.drew)
  clear hr c0 c1 c2 c3 c4 d0 d1 d2 d3 d4 f0 f1 f2 f3 f4 HQ eM
  generalize (((((W6.setCell ⟨w.heap.size, 0, none⟩ (.int .i64 K)).setCell ⟨w.heap.size, 1, none⟩ (.int .u64 S)).setCell ⟨w.heap.size, 2, none⟩ (.int .i64 I)).setCell ⟨w.heap.size, 3, none⟩ (.int .i64 O)).setCell ⟨w.heap.size, 4, none⟩ (.int .i64 W)).drew = V at *
  go_wp2_with fail
  exact bodyPost_ret (tb_result rfl rfl HR.out.1) rfl ⟨rfl, HR.out.2⟩
end Go.Proofs.YtbcnocbdifbocaaDoor.Pg
