/-
  What a page would say: the walks of erased and said. No condition. What a page would say: the walk of said. No condition.
-/
import Derived.Test.YtbhggcleijjofaaDoorFld
import Derived.Laws.ResultCell
import Derived.Laws.NewBlocks
namespace Go.Proofs.YtbhggcleijjofaaDoor.Pg
open Go Go.RowKit

/-- are all bytes 255? -/
def allF (s : ByteArray) : Bool := s.data.toList.all (fun b => b == 255)
theorem allF_true (s : ByteArray) (h : ∀ j, (hj : j < s.size) → s[j] = 255) : allF s = true := by
  unfold allF
  rw [List.all_eq_true]
  intro b hb
  obtain ⟨j, hj, rfl⟩ := List.mem_iff_getElem.1 hb
  rw [Array.length_toList] at hj
  have h1 := h j hj
  have h2 : s.data.toList[j] = s[j] := by
    rw [Array.getElem_toList]
    rfl
  rw [h2, h1]
  rfl
theorem allF_false (s : ByteArray) (j : Nat) (hj : j < s.size) (h : s[j] ≠ 255) : allF s = false := by
  unfold allF
  rw [List.all_eq_false]
  refine ⟨s[j], ?_, by simpa using h⟩
  have h2 : s.data.toList[j]'(by rw [Array.length_toList]; exact hj) = s[j] := by
    rw [Array.getElem_toList]
    rfl
  rw [← h2]
  exact List.getElem_mem _
theorem u8_255 (b : UInt8) : ((b.toNat : Int) != 255) = (b != 255) := by
  by_cases h : b = 255
  · subst h
    rfl
  · have h1 : ¬ (b.toNat : Int) = 255 := by
      intro e
      apply h
      apply UInt8.toNat_inj.1
      show b.toNat = 255
      omega
    rw [bne_iff_ne.2 h, bne_iff_ne.2 h1]
theorem erased_any (s : ByteArray) (hs : s.size ≤ 1000000) (w : World) : Calls Tryd.prog 51 #[.string s] w fun e w' => e = .returned (.bool (allF s)) ∧ w' = w := by
  generalize hA : allF s = A
  have HA := Hid.mk hA
  clear hA
  go_enter Tryd.func51, Tryd.ntmps51
  go_wp2_with fail
  go_loop [6] (fun i => ∃ k : Nat, k ≤ s.size ∧ i = .int .i64 k ∧ Hid (∀ j, j < k → (hj : j < s.size) → s[j] = 255)) (fun i => s.size - (intOf i).toNat)
  case atStart => exact ⟨0, Nat.zero_le _, rfl, Hid.mk (fun j h => absurd h (Nat.not_lt_zero _))⟩
  case round =>
    obtain ⟨k, hk, rfl, hall⟩ := hrel
    by_cases hks : k < s.size
    · by_cases hb : s[k] = 255
      · have hb2 : ((s[k].toNat : Int)) = 255 := by rw [hb]; rfl
        have HB := Hid.mk hb
        clear hb
        go_wp2_with fail
        refine ⟨⟨k + 1, by omega, by go_num, Hid.mk ?_⟩, by simp [intOf]; omega⟩
        intro j hj hjs
        by_cases e : j = k
        · subst e
          exact HB.out
        · exact hall.out j (by omega) hjs
      · have hb2 : ¬ ((s[k].toNat : Int)) = 255 := by
          intro e
          apply hb
          apply UInt8.toNat_inj.1
          show s[k].toNat = 255
          omega
        have hf := allF_false s k hks hb
        rw [HA.out] at hf
        subst hf
        clear hb
        go_wp2_with fail
        go_ret
        exact ⟨rfl, rfl⟩
    · have ht := allF_true s (fun j hj => hall.out j (by omega) hj)
      rw [HA.out] at ht
      subst ht
      go_wp2_with fail
      go_ret
      exact ⟨rfl, rfl⟩

/-- block g is a tag -/
def TB (w : World) (g : Nat) (K S I O W : Int) : Prop := w.heap[g]? = some (.cells #[.int .i64 K, .int .u64 S, .int .i64 I, .int .i64 O, .int .i64 W] 43 (0, 0))
theorem TB.lt {w : World} {g : Nat} {K S I O W : Int} (h : TB w g K S I O W) : g < w.heap.size := (Array.getElem?_eq_some_iff.1 h).1
theorem TB.five {w : World} {g : Nat} {K S I O W : Int} (h : TB w g K S I O W) : Tg5 w g K S I O W := by
  refine ⟨?_, ?_, ?_, ?_, ?_⟩
  all_goals (rw [cell_of_row w g _ _ 43 _ h]; rfl)
theorem TB.frozen {w : World} {g : Nat} {K S I O W : Int} (h : TB w g K S I O W) (j : Nat) : w.frozen? ⟨g, j, none⟩ = false := frozen_of_row w g j _ 43 h
theorem TB.call {w w' : World} {g : Nat} {K S I O W : Int} (h : TB w g K S I O W) (b : Below w.heap.size w w') : TB w' g K S I O W := (b.block g h.lt).trans h
theorem TB.drew {w : World} {g : Nat} {K S I O W : Int} (h : TB w g K S I O W) : TB w.drew g K S I O W := h
theorem TB.alloc {w : World} {g : Nat} {K S I O W : Int} (h : TB w g K S I O W) (o : Obj) : TB (w.alloc o) g K S I O W := (Below.heap_alloc w o g h.lt).trans h
theorem TB.kept {w w' : World} {g g0 : Nat} {K S I O W : Int} (h : TB w g K S I O W) (b : w.grownBy w' (some g0)) (hne : g ≠ g0) : TB w' g K S I O W := (b.block g h.lt (by simpa using hne)).trans h
theorem TB.fresh (w : World) (K S I O W : Int) : TB (w.alloc (.cells #[.int .i64 K, .int .u64 S, .int .i64 I, .int .i64 O, .int .i64 W] 43)) w.heap.size K S I O W := heap_alloc_new w _
theorem TB.other {w : World} {g : Nat} {K S I O W : Int} (h : TB w g K S I O W) {a : Addr} (ha : a.block ≠ g) (v : Value) : TB (w.setCell a v) g K S I O W := (heap_setCell_other w a g v (fun e => ha e.symm)).trans h
theorem TB.set0 {w : World} {g : Nat} {K S I O W : Int} (h : TB w g K S I O W) (x : Int) : TB (w.setCell ⟨g, 0, none⟩ (.int .i64 x)) g x S I O W := heap_setCell_same w g 0 _ 43 _ h
theorem TB.set1 {w : World} {g : Nat} {K S I O W : Int} (h : TB w g K S I O W) (x : Int) : TB (w.setCell ⟨g, 1, none⟩ (.int .u64 x)) g K x I O W := heap_setCell_same w g 1 _ 43 _ h
theorem TB.set2 {w : World} {g : Nat} {K S I O W : Int} (h : TB w g K S I O W) (x : Int) : TB (w.setCell ⟨g, 2, none⟩ (.int .i64 x)) g K S x O W := heap_setCell_same w g 2 _ 43 _ h
theorem TB.set3 {w : World} {g : Nat} {K S I O W : Int} (h : TB w g K S I O W) (x : Int) : TB (w.setCell ⟨g, 3, none⟩ (.int .i64 x)) g K S I x W := heap_setCell_same w g 3 _ 43 _ h
theorem TB.set4 {w : World} {g : Nat} {K S I O W : Int} (h : TB w g K S I O W) (x : Int) : TB (w.setCell ⟨g, 4, none⟩ (.int .i64 x)) g K S I O x := heap_setCell_same w g 4 _ 43 _ h
theorem tb_load {w : World} {g : Nat} {K S I O W : Int} (h : TB w g K S I O W) : (loadVar 43 ⟨g, 0, none⟩).run Tryd.prog w = .ok (tagV K S I O W) w := by
  obtain ⟨c0, c1, c2, c3, c4⟩ := h.five
  clear h
  unfold tagV
  go_simp
theorem tb_result {fn : Func} {p u : Tmp} (h : fn.results = #[.cell p 43, .tmp u]) {tmps : Array Value} {w : World} {g : Nat} {K S I O W : Int} (hp : tmps.getD p undef = .pointer (some ⟨g, 0, none⟩)) (ha : TB w g K S I O W) :
    (results fn tmps).run Tryd.prog w = .ok (.tuple #[tagV K S I O W, tmps.getD u undef]) w := by
  rw [results_cell_tmp h, hp]
  simp only [asAddr, Sem.run_pure, Result.andThen, tb_load ha]
/-- a whole tag into its block -/
theorem tb_whole {B g : Nat} {w wx : World} {K0 S0 I0 O0 W0 : Int} (h : TB wx g K0 S0 I0 O0 W0) (b : Below B w wx) (hg : B ≤ g) (K S I O W : Int) :
    TB (((((wx.setCell ⟨g, 0, none⟩ (.int .i64 K)).setCell ⟨g, 1, none⟩ (.int .u64 S)).setCell ⟨g, 2, none⟩ (.int .i64 I)).setCell ⟨g, 3, none⟩ (.int .i64 O)).setCell ⟨g, 4, none⟩ (.int .i64 W)) g K S I O W ∧
    Below B w (((((wx.setCell ⟨g, 0, none⟩ (.int .i64 K)).setCell ⟨g, 1, none⟩ (.int .u64 S)).setCell ⟨g, 2, none⟩ (.int .i64 I)).setCell ⟨g, 3, none⟩ (.int .i64 O)).setCell ⟨g, 4, none⟩ (.int .i64 W)) :=
  ⟨((((h.set0 K).set1 S).set2 I).set3 O).set4 W, ((((b.setCell hg _).setCell hg _).setCell hg _).setCell hg _).setCell hg _⟩
/-- what said holds on its way -/
def Sd (w : World) (g0 g1 g2 : Nat) (s : ByteArray) (e : Int) (K S I O W : Int) (wx : World) : Prop :=
  Rd wx g1 s e ∧ TB wx g2 K S I O W ∧ TB wx g0 0 0 0 0 0 ∧ Below w.heap.size w wx ∧ (w.heap.size ≤ g0 ∧ w.heap.size ≤ g1 ∧ w.heap.size ≤ g2 ∧ g0 ≠ g1 ∧ g0 ≠ g2 ∧ g1 ≠ g2)
theorem Sd.fixed {w : World} {g0 g1 g2 : Nat} {s s' : ByteArray} {e e' : Int} {K S I O W : Int} {wx w' : World} (h : Sd w g0 g1 g2 s e K S I O W wx) (r : Rd w' g1 s' e') (b : wx.grownBy w' (some g1)) : Sd w g0 g1 g2 s' e' K S I O W w' :=
  ⟨r, h.2.1.kept b (fun e => h.2.2.2.2.2.2.2.2.2 e.symm), h.2.2.1.kept b h.2.2.2.2.2.2.2.1, below_grown h.2.2.2.1 b h.2.2.2.1.size h.2.2.2.2.2.1, h.2.2.2.2⟩
theorem Rd.other {w : World} {g : Nat} {s : ByteArray} {e : Int} (h : Rd w g s e) {a : Addr} (ha : a.block ≠ g) (v : Value) : Rd (w.setCell a v) g s e := (heap_setCell_other w a g v (fun e => ha e.symm)).trans h
theorem Sd.set {w : World} {g0 g1 g2 : Nat} {s : ByteArray} {e : Int} {K S I O W K' S' I' O' W' : Int} {wx : World} (h : Sd w g0 g1 g2 s e K S I O W wx) (j : Nat) (v : Value) (ht : TB (wx.setCell ⟨g2, j, none⟩ v) g2 K' S' I' O' W') : Sd w g0 g1 g2 s e K' S' I' O' W' (wx.setCell ⟨g2, j, none⟩ v) :=
  ⟨h.1.other (fun e => h.2.2.2.2.2.2.2.2.2 e.symm) v, ht, h.2.2.1.other (fun e => h.2.2.2.2.2.2.2.2.1 e.symm) v, h.2.2.2.1.setCell h.2.2.2.2.2.2.1 v, h.2.2.2.2⟩
theorem rF_bound (s : ByteArray) (e n : Int) : (rF s e n).2.2 < 256 ^ (wid n).toNat := by
  refine Nat.lt_of_lt_of_le (leL_lt _) (Nat.pow_le_pow_right (by omega) ?_)
  rw [Array.length_toList]
  show (rB s e (wid n)).2.2.size ≤ _
  unfold rB
  split
  · exact Nat.zero_le _
  · split
    · exact Nat.zero_le _
    · rw [ByteArray.size_extract]
      omega
/-- what six numbers off a reader are -/
structure Six (s : ByteArray) (K S I O W L : Nat) : Prop where
  out : ∃ s1 e1 s2 e2 s3 e3 s4 e4 s5 e5 s6 e6, rF s 0 1 = (s1, e1, K) ∧ rF s1 e1 8 = (s2, e2, S) ∧ rF s2 e2 2 = (s3, e3, I) ∧ rF s3 e3 2 = (s4, e4, O) ∧ rF s4 e4 4 = (s5, e5, W) ∧ rF s5 e5 2 = (s6, e6, L)
theorem Six.bounds {s : ByteArray} {K S I O W L : Nat} (h : Six s K S I O W L) : K < 256 ∧ S < 18446744073709551616 ∧ I < 65536 ∧ O < 65536 ∧ W < 4294967296 ∧ L < 65536 := by
  obtain ⟨s1, e1, s2, e2, s3, e3, s4, e4, s5, e5, s6, e6, q1, q2, q3, q4, q5, q6⟩ := h.out
  have b1 := rF_bound s 0 1
  have b2 := rF_bound s1 e1 8
  have b3 := rF_bound s2 e2 2
  have b4 := rF_bound s3 e3 2
  have b5 := rF_bound s4 e4 4
  have b6 := rF_bound s5 e5 2
  rw [q1] at b1
  rw [q2] at b2
  rw [q3] at b3
  rw [q4] at b4
  rw [q5] at b5
  rw [q6] at b6
  exact ⟨b1, b2, b3, b4, b5, b6⟩
theorem six_some (s : ByteArray) : ∃ K S I O W L, Six s K S I O W L :=
  ⟨_, _, _, _, _, _, ⟨_, _, _, _, _, _, _, _, _, _, _, _, rfl, rfl, rfl, rfl, rfl, rfl⟩⟩
theorem wrap_i64 (n : Nat) (h : n < 9223372036854775808) : IntKind.i64.wrap (n : Int) = (n : Int) := by simp [IntKind.wrap, IntKind.bits, IntKind.signed]; omega
theorem sd_start (w : World) (s : ByteArray) {w1 : World} (r : Rd w1 (w.alloc (.cells #[.int .i64 0, .int .u64 0, .int .i64 0, .int .i64 0, .int .i64 0] 43)).heap.size s 0)
    (b : Below (w.alloc (.cells #[.int .i64 0, .int .u64 0, .int .i64 0, .int .i64 0, .int .i64 0] 43)).heap.size (w.alloc (.cells #[.int .i64 0, .int .u64 0, .int .i64 0, .int .i64 0, .int .i64 0] 43)) w1) :
    Sd w w.heap.size (w.heap.size + 1) w1.heap.size s 0 0 0 0 0 0 (w1.alloc (.cells #[.int .i64 0, .int .u64 0, .int .i64 0, .int .i64 0, .int .i64 0] 43)) := by
  rw [size_alloc] at r
  have hl := r.lt
  have h0 := ((TB.fresh w 0 0 0 0 0).call b).alloc (.cells #[.int .i64 0, .int .u64 0, .int .i64 0, .int .i64 0, .int .i64 0] 43)
  have hb := below3 (below_one w _) b
  exact ⟨r.alloc _, TB.fresh w1 0 0 0 0 0, h0, hb.alloc hb.size _, Nat.le_refl _, by omega, hb.size, by omega, by omega, by omega⟩
set_option maxHeartbeats 4000000 in
theorem said_any (d s : ByteArray) (hd : d.size ≤ 1000000) {K S I O W L : Nat} (h : Six s K S I O W L) (w : World) :
    Calls Tryd.prog 52 #[.string d, .string s] w fun e w' => e = .returned (.tuple #[tagV K S I O W, .string (d.extract 0 (min L d.size))]) ∧ Below w.heap.size w w' := by
  obtain ⟨b1, b2, b3, b4, b5, b6⟩ := h.bounds
  obtain ⟨s1, e1, s2, e2, s3, e3, s4, e4, s5, e5, s6, e6, q1, q2, q3, q4, q5, q6⟩ := h.out
  clear h
  have x1 := wrap_i64 K (by omega)
  have x3 := wrap_i64 I (by omega)
  have x4 := wrap_i64 O (by omega)
  have x5 := wrap_i64 W (by omega)
  have x6 := wrap_i64 L (by omega)
  generalize hM : d.extract 0 (min L d.size) = M
  have HM := Hid.mk hM
  clear hM
  go_enter Tryd.func52, Tryd.ntmps52
  go_upto_region 3 with (first | (go_at_call 73; refine (new_any _ _).mono ?_; rintro e w1 ⟨rfl, r1, c1⟩; have HQ := Hid.mk (sd_start w s r1 c1); clear r1 c1))
  generalize (w1.alloc (.cells #[.int .i64 0, .int .u64 0, .int .i64 0, .int .i64 0, .int .i64 0] 43)) = W0 at *
  generalize w1.heap.size = G at *
  go_upto_region 4 with (first | (go_at_call 74; refine (fixedF_any HQ.out.1 _).mono ?_; rintro x W1 ⟨rfl, r, gr⟩; rw [q1] at r ⊢; replace HQ := Hid.mk (HQ.out.fixed r gr); clear r gr; obtain ⟨c0, c1, c2, c3, c4⟩ := HQ.out.2.1.five; have f0 := HQ.out.2.1.frozen 0))
  replace HQ := Hid.mk (HQ.out.set 0 _ (HQ.out.2.1.set0 K))
  clear c0 c1 c2 c3 c4 f0
  generalize (W1.setCell ⟨G, 0, none⟩ (.int .i64 K)) = V1 at *
  go_upto_region 5 with (first | (go_at_call 74; refine (fixedF_any HQ.out.1 _).mono ?_; rintro x W2 ⟨rfl, r, gr⟩; rw [q2] at r ⊢; replace HQ := Hid.mk (HQ.out.fixed r gr); clear r gr; obtain ⟨c0, c1, c2, c3, c4⟩ := HQ.out.2.1.five; have f0 := HQ.out.2.1.frozen 1))
  replace HQ := Hid.mk (HQ.out.set 1 _ (HQ.out.2.1.set1 S))
  clear c0 c1 c2 c3 c4 f0
  generalize (W2.setCell ⟨G, 1, none⟩ (.int .u64 S)) = V2 at *
  go_upto_region 6 with (first | (go_at_call 74; refine (fixedF_any HQ.out.1 _).mono ?_; rintro x W3 ⟨rfl, r, gr⟩; rw [q3] at r ⊢; replace HQ := Hid.mk (HQ.out.fixed r gr); clear r gr; obtain ⟨c0, c1, c2, c3, c4⟩ := HQ.out.2.1.five; have f0 := HQ.out.2.1.frozen 2))
  replace HQ := Hid.mk (HQ.out.set 2 _ (HQ.out.2.1.set2 I))
  clear c0 c1 c2 c3 c4 f0
  generalize (W3.setCell ⟨G, 2, none⟩ (.int .i64 I)) = V3 at *
  go_upto_region 7 with (first | (go_at_call 74; refine (fixedF_any HQ.out.1 _).mono ?_; rintro x W4 ⟨rfl, r, gr⟩; rw [q4] at r ⊢; replace HQ := Hid.mk (HQ.out.fixed r gr); clear r gr; obtain ⟨c0, c1, c2, c3, c4⟩ := HQ.out.2.1.five; have f0 := HQ.out.2.1.frozen 3))
  replace HQ := Hid.mk (HQ.out.set 3 _ (HQ.out.2.1.set3 O))
  clear c0 c1 c2 c3 c4 f0
  generalize (W4.setCell ⟨G, 3, none⟩ (.int .i64 O)) = V4 at *
  go_upto_region 8 with (first | (go_at_call 74; refine (fixedF_any HQ.out.1 _).mono ?_; rintro x W5 ⟨rfl, r, gr⟩; rw [q5] at r ⊢; replace HQ := Hid.mk (HQ.out.fixed r gr); clear r gr; obtain ⟨c0, c1, c2, c3, c4⟩ := HQ.out.2.1.five; have f0 := HQ.out.2.1.frozen 4))
  replace HQ := Hid.mk (HQ.out.set 4 _ (HQ.out.2.1.set4 W))
  clear c0 c1 c2 c3 c4 f0
  generalize (W5.setCell ⟨G, 4, none⟩ (.int .i64 W)) = V5 at *
  go_upto_region 9 with (first | (go_at_call 74; refine (fixedF_any HQ.out.1 _).mono ?_; rintro x W6 ⟨rfl, r, gr⟩; rw [q6] at r ⊢; replace HQ := Hid.mk (HQ.out.fixed r gr); clear r gr))
  obtain ⟨c0, c1, c2, c3, c4⟩ := HQ.out.2.1.five
  obtain ⟨d0, d1, d2, d3, d4⟩ := HQ.out.2.2.1.five
  have f0 := HQ.out.2.2.1.frozen 0
  have f1 := HQ.out.2.2.1.frozen 1
  have f2 := HQ.out.2.2.1.frozen 2
  have f3 := HQ.out.2.2.1.frozen 3
  have f4 := HQ.out.2.2.1.frozen 4
  clear q1 q2 q3 q4 q5 q6 x1 x3 x4 x5 x6
  have eM : (min (L : Int) (d.size : Int)).toNat = min L d.size := by omega
  have hM := HM.out
  clear HM
  go_region
  have hr := tb_whole HQ.out.2.2.1 HQ.out.2.2.2.1 (Nat.le_refl _) K S I O W
  have HR := Hid.mk (And.intro hr.1.drew hr.2.drew)
  clear hr c0 c1 c2 c3 c4 d0 d1 d2 d3 d4 f0 f1 f2 f3 f4 HQ eM
  generalize (((((W6.setCell ⟨w.heap.size, 0, none⟩ (.int .i64 K)).setCell ⟨w.heap.size, 1, none⟩ (.int .u64 S)).setCell ⟨w.heap.size, 2, none⟩ (.int .i64 I)).setCell ⟨w.heap.size, 3, none⟩ (.int .i64 O)).setCell ⟨w.heap.size, 4, none⟩ (.int .i64 W)).drew = V at *
  go_wp2_with fail
  exact bodyPost_ret (tb_result rfl rfl HR.out.1) rfl ⟨rfl, HR.out.2⟩
end Go.Proofs.YtbhggcleijjofaaDoor.Pg
