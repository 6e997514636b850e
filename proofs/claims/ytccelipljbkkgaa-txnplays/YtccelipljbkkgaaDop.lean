/-
  The answer's Do and Apply, whole. No condition.
-/
import Derived.Test.YtccelipljbkkgaaDoA
import Derived.Test.YtccelipljbkkgaaDoE
import Derived.Test.YtccelipljbkkgaaMay
namespace Go.Proofs.Ytccelipljbkkgaa
open Go Go.RowKit Go.Maps

theorem do_any {w : World} {B v0 v1 v2 v3 m} (h : RAt w B v0 v1 v2 v3 m) (hB : B ≤ w.heap.size) (hn : Lens m) {K S P A T N : Int} (hK : 1 ≤ K ∧ K ≤ 9) :
    Calls Try.prog 30 #[.agg #[v0, v1, v2, v3], rv K S P A T N] w (DoR w B v0 v1 v2 v3 (doR m K S P A T N)) := by

  have hk : K = 1 ∨ K = 2 ∨ K = 3 ∨ K = 4 ∨ K = 5 ∨ K = 6 ∨ K = 7 ∨ K = 8 ∨ K = 9 := by omega
  have fs := fnd_spec S m.sp 0
  simp only [Nat.zero_add] at fs
  unfold doR
  rcases hk with rfl | rfl | rfl | rfl | rfl | rfl | rfl | rfl | rfl
  · simp only [Int.reduceEq, if_false, if_true]
    rcases fs with ⟨h1, _⟩ | ⟨j, h1, h2, h3⟩
    · rw [h1, if_pos (by omega)]; exact do1_none h hB hn h1
    · rw [h2, if_neg (by omega), Int.toNat_natCast]
      by_cases hp : P < 0 ∨ (m.sp.getD j (0, 0, false)).2.1 ≤ P
      · rw [if_pos hp]; exact do1_page h hB hn h2 h1 (hx := rfl) hp
      · rw [if_neg hp]; exact do1_put h hB hn h2 h1 (hx := rfl) (by omega) (Int.not_le.1 (fun x => hp (.inr x)))
  · simp only [Int.reduceEq, if_false, if_true]
    rcases fs with ⟨h1, _⟩ | ⟨j, h1, h2, h3⟩
    · rw [h1, if_pos (by omega)]; exact do2_none h hB hn h1
    · rw [h2, if_neg (by omega)]
      cases hg : gL S P m.lv with
      | none => rw [if_pos rfl]; exact do2_not h hB hn h2 h1 (hx := rfl) hg
      | some pl => rw [if_neg (by simp)]; exact do2_trim h hB hn h2 h1 (hx := rfl) hg
  · simp only [if_true]
    by_cases hA : cL A m.lv = 0
    · rw [if_pos (.inl hA)]; exact do3_a h hB hn hA
    · by_cases hT : 0 < cL T m.lv
      · rw [if_pos (.inr hT)]; exact do3_b h hB hn (by omega) hT
      · rw [if_neg (by omega)]; exact do3_c h hB hn (by omega) (by omega)
  · simp only [Int.reduceEq, if_false, if_true]
    rcases fs with ⟨h1, _⟩ | ⟨j, h1, h2, h3⟩
    · rw [if_neg (by omega)]; exact do4_make h hB hn h1
    · rw [if_pos (by omega)]; exact do4_some h hB hn (by omega)
  · simp only [Int.reduceEq, if_false, if_true]
    rcases fs with ⟨h1, _⟩ | ⟨j, h1, h2, h3⟩
    · rw [h1, if_pos (by omega)]; exact do5_none h hB hn h1
    · rw [h2, if_neg (by omega)]; exact do5_drop h hB hn h2 h1 (hx := rfl)
  · simp only [Int.reduceEq, if_false, if_true]
    rcases fs with ⟨h1, _⟩ | ⟨j, h1, h2, h3⟩
    · rw [h1, if_pos (by omega)]; exact do6_none h hB hn h1
    · rw [h2, if_neg (by omega), Int.toNat_natCast]
      by_cases hT : 0 ≤ fndGo T m.sp 0
      · rw [if_pos hT]; exact do6_taken h hB hn h2 h1 (hx := rfl) hT
      · rw [if_neg hT]
        have ft := fnd_spec T m.sp 0
        simp only [Nat.zero_add] at ft
        rcases ft with ⟨t1, _⟩ | ⟨j', t1, t2, t3⟩
        · exact do6_copy h hB hn h2 h1 (hx := rfl) t1
        · omega
  · simp only [Int.reduceEq, if_false]
    rcases fs with ⟨h1, _⟩ | ⟨j, h1, h2, h3⟩
    · rw [h1, if_pos (by omega)]; exact do7_none h hB hn h1
    · rw [h2, if_neg (by omega), Int.toNat_natCast]; exact do7_seal h hB hn h2 h1 (hx := rfl)
  · simp only [Int.reduceEq, if_false, if_true]; exact do8_bad h hB hn
  · simp only [Int.reduceEq, if_false, if_true]; exact do9_worn h hB hn rfl
/-- what the answer's Apply makes of its state, and the error -/
def apR' (m : Rs) (K S P A T N : Int) : Rs × Int := if mayB K S P A T N = false then (m, 1) else doR m K S P A T N
set_option maxRecDepth 20000 in
set_option maxHeartbeats 2000000 in
theorem rapply_any {w : World} {B v0 v1 v2 v3 m} (h : RAt w B v0 v1 v2 v3 m) (hB : B ≤ w.heap.size) (hn : Lens m) (K S P A T N : Int) :
    Calls Try.prog 8 #[.agg #[v0, v1, v2, v3], rv K S P A T N] w (DoR w B v0 v1 v2 v3 (apR' m K S P A T N)) := by
  obtain ⟨a0, n0, c0, rfl⟩ := h.sp.isSl
  obtain ⟨a1, n1, c1, rfl⟩ := h.lv.isSl
  obtain ⟨a2, n2, c2, rfl⟩ := h.bad.isSl
  obtain ⟨a3, n3, c3, rfl⟩ := h.worn.isSl
  have D0 := DoS.start h hB K S P A T N
  have hck := fun W => refCheckB_any K S P A T N W
  have hdo : ∀ W, DoS w B w.heap.size (.slice a0 n0 c0) (.slice a1 n1 c1) (.slice a2 n2 c2) (.slice a3 n3 c3) m [K, S, P, A, T, N] W → mayB K S P A T N = true → Calls Try.prog 30 #[.agg #[.slice a0 n0 c0, .slice a1 n1 c1, .slice a2 n2 c2, .slice a3 n3 c3], rv K S P A T N] W (DoR W B (.slice a0 n0 c0) (.slice a1 n1 c1) (.slice a2 n2 c2) (.slice a3 n3 c3) (doR m K S P A T N)) := fun W d hm => do_any d.at' (Nat.le_trans d.hB d.bel.size) hn (by have := mayB_iff.1 hm; unfold mayR at this; omega)
  unfold apR'
  unfold rv at *
  have HC := Hid.mk (And.intro hck hdo)
  clear hck hdo
  cases hm : mayB K S P A T N with
  | false =>
    rw [if_pos rfl]
    have hcf := HC.out.1
    rw [hm] at hcf
    replace hcf := Hid.mk hcf
    clear hm HC
    go_enter Try.func8, Try.ntmps8
    go_upto_region 1 with fail
    generalize (((w.alloc (.cells #[.slice a0 n0 c0, .slice a1 n1 c1, .slice a2 n2 c2, .slice a3 n3 c3] 31)).alloc (.cells #[.int .i64 K, .int .i64 S, .int .i64 P, .int .i64 A, .int .i64 T, .int .i64 N] 35)).alloc (.cells #[.slice none 0 0, .slice none 0 0, .slice none 0 0, .slice none 0 0] 31)) = W0 at *
    generalize w.heap.size = G at D0 ⊢
    obtain ⟨r0, r1, r2, r3, r4, r5⟩ := D0.rec'.six
    replace D0 := Hid.mk D0
    go_upto_region 2 with (first | (go_at_call 29; refine (hcf.out _).mono ?_; rintro e w1 ⟨rfl, b1⟩))
    have D2 := D0.out.call b1
    clear r0 r1 r2 r3 r4 r5 b1
    obtain ⟨k0, k1, k2, k3⟩ := D2.box.cells
    obtain ⟨z0, z1, z2, z3⟩ := D2.res.cells
    have y0 := D2.res.fz 0
    have y1 := D2.res.fz 1
    have y2 := D2.res.fz 2
    have y3 := D2.res.fz 3
    replace D2 := Hid.mk D2
    go_wp2_with fail
    have q := D2.out.same
    exact bodyPost_ret (st_result2 rfl rfl q.1) rfl ⟨_, _, _, _, rfl, q.2⟩
  | true =>
    rw [if_neg (by simp)]
    have hcf := HC.out.1
    rw [hm] at hcf
    replace hcf := Hid.mk hcf
    have hdf : Hid (∀ W, DoS w B w.heap.size (.slice a0 n0 c0) (.slice a1 n1 c1) (.slice a2 n2 c2) (.slice a3 n3 c3) m [K, S, P, A, T, N] W → Calls Try.prog 30 #[.agg #[.slice a0 n0 c0, .slice a1 n1 c1, .slice a2 n2 c2, .slice a3 n3 c3], .agg #[.int .i64 K, .int .i64 S, .int .i64 P, .int .i64 A, .int .i64 T, .int .i64 N]] W (DoR W B (.slice a0 n0 c0) (.slice a1 n1 c1) (.slice a2 n2 c2) (.slice a3 n3 c3) (doR m K S P A T N))) := fun W d => HC.out.2 W d hm
    clear hm HC
    generalize doR m K S P A T N = RR at *
    go_enter Try.func8, Try.ntmps8
    go_upto_region 1 with fail
    generalize (((w.alloc (.cells #[.slice a0 n0 c0, .slice a1 n1 c1, .slice a2 n2 c2, .slice a3 n3 c3] 31)).alloc (.cells #[.int .i64 K, .int .i64 S, .int .i64 P, .int .i64 A, .int .i64 T, .int .i64 N] 35)).alloc (.cells #[.slice none 0 0, .slice none 0 0, .slice none 0 0, .slice none 0 0] 31)) = W0 at *
    generalize hG : w.heap.size = G at *
    replace hG := Hid.mk hG
    obtain ⟨r0, r1, r2, r3, r4, r5⟩ := D0.rec'.six
    replace D0 := Hid.mk D0
    go_upto_region 3 with (first | (go_at_call 29; refine (hcf.out _).mono ?_; rintro e w1 ⟨rfl, b1⟩))
    have D2 := D0.out.call b1
    have cd := hdf.out w1 D2
    clear r0 r1 r2 r3 r4 r5 b1
    obtain ⟨k0, k1, k2, k3⟩ := D2.box.cells
    obtain ⟨r0, r1, r2, r3, r4, r5⟩ := D2.rec'.six
    replace D2 := Hid.mk D2
    replace cd := Hid.mk cd
    go_wp2_with (first | (go_at_call 30; refine cd.out.mono ?_; rintro e w5 ⟨u0, u1, u2, u3, rfl, R5, b5, o0, o1, o2, o3⟩; obtain ⟨s0, t0, s0', rfl⟩ := R5.sp.isSl; obtain ⟨s1, t1, s1', rfl⟩ := R5.lv.isSl; obtain ⟨s2, t2, s2', rfl⟩ := R5.bad.isSl; obtain ⟨s3, t3, s3', rfl⟩ := R5.worn.isSl; have X5 := D2.out.res.call b5; obtain ⟨z0, z1, z2, z3⟩ := X5.cells; have y0 := X5.fz 0; have y1 := X5.fz 1; have y2 := X5.fz 2; have y3 := X5.fz 3; have E5 := Hid.mk (And.intro R5 (And.intro b5 (And.intro o0 (And.intro o1 (And.intro o2 o3))))); clear X5 R5 b5 o0 o1 o2 o3))
    have q := D2.out.fin E5.out.2.1 E5.out.1 E5.out.2.2.1 E5.out.2.2.2.1 E5.out.2.2.2.2.1 E5.out.2.2.2.2.2
    exact bodyPost_ret (st_result2 rfl rfl q.1) rfl ⟨_, _, _, _, rfl, q.2⟩
end Go.Proofs.Ytccelipljbkkgaa
