/-
  The walk of TxnPlays. No condition.
-/
import Derived.Test.YtccelipljbkkgaaTyb
import Derived.Test.YtccelipljbkkgaaSee
import Derived.Deep.CutBlock
namespace Go.Proofs.Ytccelipljbkkgaa
open Go Go.RowKit Go.Maps

theorem below_tr {w w1 wr : World} (a : Below w.heap.size w w1) (h : w.heap.size ≤ w1.heap.size) (b : Below w1.heap.size w1 wr) : Below w.heap.size w wr := a.trans (b.mono h)
set_option maxRecDepth 20000 in
set_option maxHeartbeats 8000000 in
theorem txnPlays_walk (a : Option Addr) (n cap : Nat) (f : Nat → R6) (b : Option Addr) (m capb : Nat) (c : Nat → Cg) (pc : Int) (w : World) (hf : RecsF w a n f) (hc : ChgF w b m c) : Calls Try.prog 3 #[.slice a n cap, .slice b m capb, .int .i64 pc] w fun e w' => e = .returned (.bool true) ∧ Below w.heap.size w w' := by
  have HX := Hid.mk hf
  have HC := Hid.mk hc
  clear hf hc
  go_enter Try.func3, Try.ntmps3
  go_upto_region 2 with (first | (go_at_call 6; refine (newZ (B := w.heap.size) (w0 := w) (Z := []) (Below.refl _ w) (Nat.le_refl _) (fun _ h => by cases h)).mono ?_; rintro e w1 ⟨rfl, hz1, b1⟩))
  have S0 := Hid.mk (QdS.start hz1)
  clear hz1 b1
  generalize w1.alloc (.cells #[.slice none 0 0, .slice none 0 0, .slice none 0 0, .slice none 0 0] 31) = W1 at *
  generalize w1.heap.size = g5 at *
  generalize w.heap.size + 4 = P at *
  go_upto_block 0 with fail
  go_cut [9] from 21 to 45 (fun _ wx => ∃ (k : Nat) (v0 v1 v2 v3 : Value), QdS w P g5 (runA f k) (runA f k) v0 v1 v2 v3 wx)
  case first =>
    go_wp2_with fail
    go_loopw [9] (fun i wr => ∃ (k : Nat) (v0 v1 v2 v3 : Value), k ≤ 30 ∧ k ≤ n ∧ i = .int .i64 k ∧ QdS w P g5 (runA f k) (runA f k) v0 v1 v2 v3 wr) (fun i _ => 30 - (intOf i).toNat)
    case atStart => exact ⟨0, _, _, _, _, by omega, Nat.zero_le _, rfl, S0.out⟩
    case round =>
      clear S0
      obtain ⟨k, v0, v1, v2, v3, hk60, hklen, rfl, hs⟩ := hrel
      by_cases hgo : k < n ∧ k < 30
      · obtain ⟨h1, h2⟩ := hgo
        have hinv := hs.inv
        have hrun : runA f (k + 1) = (apR (runA f k) (f k)).1 := rfl
        have hrec : Hid (∀ W, Below w.heap.size w W → ∃ g o, a = some ⟨g, o, none⟩ ∧ g < W.heap.size ∧ (f k).at W g (o + k * 6) ∧ (f k).wf) := fun W b => HX.out.below b k h1
        generalize hr : f k = r at *
        obtain ⟨g, o, rfl, hgl, ⟨q0, q1, q2, q3, q4, q5⟩, _⟩ := hrec.out wr hs.hold.hold.below
        obtain ⟨K, S, Pg, A, T, Nn⟩ := r
        simp only at q0 q1 q2 q3 q4 q5
        obtain ⟨a0, m0, c0, rfl⟩ := hs.at'.sp.isSl
        obtain ⟨a1, m1, c1, rfl⟩ := hs.at'.lv.isSl
        obtain ⟨a2, m2, c2, rfl⟩ := hs.at'.bad.isSl
        obtain ⟨a3, m3, c3, rfl⟩ := hs.at'.worn.isSl
        have hap := applyZ hs.hold (K, S, Pg, A, T, Nn)
        unfold rv at hap
        simp only at hap
        have HS := Hid.mk (And.intro hs (And.intro hap (And.intro hrun hinv)))
        clear hs hap hrun hinv hr
        have h2i : (k : Int) < 30 := by omega
        go_upto_region 6 with (first | (go_at_call 7; refine HS.out.2.1.mono ?_; rintro e w1 ⟨rfl, hz1, hs1, bz1⟩))
        have p1 := HS.out.1.own hz1 hs1
        have C10 : Calls Try.prog 8 #[.agg #[.slice a0 m0 c0, .slice a1 m1 c1, .slice a2 m2 c2, .slice a3 m3 c3], .agg #[.int .i64 K, .int .i64 S, .int .i64 Pg, .int .i64 A, .int .i64 T, .int .i64 Nn]] w1.drew (DoR w1.drew w.heap.size (.slice a0 m0 c0) (.slice a1 m1 c1) (.slice a2 m2 c2) (.slice a3 m3 c3) (rs (apR (runA f k) (K, S, Pg, A, T, Nn)).1, (apR (runA f k) (K, S, Pg, A, T, Nn)).2)) := by
          have q := rapply_any (p1.call (Below.refl _ w1).drew).at' (p1.call (Below.refl _ w1).drew).hold.hold.below.size (lens_rs HS.out.2.2.2) K S Pg A T Nn
          rw [ap_same HS.out.2.2.2] at q
          exact q
        clear q0 q1 q2 q3 q4 q5
        obtain ⟨g', o', eq', hgl', ⟨q0, q1, q2, q3, q4, q5⟩, _⟩ := hrec.out w1 p1.hold.hold.below
        cases eq'
        simp only at q0 q1 q2 q3 q4 q5
        obtain ⟨z0, z1, z2, z3⟩ := p1.box.cells
        have hi' : InvA (apR (runA f k) (K, S, Pg, A, T, Nn)).1 := p1.hold.hold.inv
        have hrun := HS.out.2.2.1
        generalize (apR (runA f k) (K, S, Pg, A, T, Nn)).1 = t' at *
        generalize (apR (runA f k) (K, S, Pg, A, T, Nn)).2 = E at *
        have HK := Hid.mk (And.intro p1 (And.intro C10 (And.intro hi' hrun)))
        clear HS p1 C10 hi' hrun hz1 hs1 bz1 hgl hgl'
        go_region_with (go_at_call 8; refine HK.out.2.1.mono ?_; rintro e w5 ⟨u0, u1, u2, u3, rfl, R5, b5, o0, o1, o2, o3⟩; obtain ⟨s0, t0, s0', rfl⟩ := R5.sp.isSl; obtain ⟨s1, t1, s1', rfl⟩ := R5.lv.isSl; obtain ⟨s2, t2, s2', rfl⟩ := R5.bad.isSl; obtain ⟨s3, t3, s3', rfl⟩ := R5.worn.isSl; have X5 := (HK.out.1.call (below3 (Below.refl _ w1).drew b5)).box; obtain ⟨z0', z1', z2', z3'⟩ := X5.cells; have y0 := X5.fz 0; have y1 := X5.fz 1; have y2 := X5.fz 2; have y3 := X5.fz 3; have HR := Hid.mk (HK.out.1.ans HK.out.2.2.1 b5 R5 o0 o1 o2 o3); clear X5 R5 b5 o0 o1 o2 o3)
        all_goals
          have HR2 := HR.out
          unfold set4 at HR2
          clear HR z0 z1 z2 z3 z0' z1' z2' z3' y0 y1 y2 y3 q0 q1 q2 q3 q4 q5
          generalize (((w5.setCell ⟨g5, 0, none⟩ (.slice s0 t0 s0')).setCell ⟨g5, 1, none⟩ (.slice s1 t1 s1')).setCell ⟨g5, 2, none⟩ (.slice s2 t2 s2')).setCell ⟨g5, 3, none⟩ (.slice s3 t3 s3') = W6 at *
          rw [← HK.out.2.2.2] at HR2
          replace HR2 := Hid.mk HR2
          go_wp2_with fail
          exact ⟨⟨k + 1, _, _, _, _, by omega, by omega, by go_num, HR2.out⟩, by simp [intOf]; omega⟩
      · have hex : ¬ ((k : Int) < (n : Int)) ∨ ((k : Int) < (n : Int) ∧ ¬ ((k : Int) < 30)) := by omega
        have HS := Hid.mk hs
        clear hs hgo
        rcases hex with hex | ⟨hex0, hex⟩
        all_goals
          go_wp2_with fail
          go_meet
          exact ⟨k, v0, v1, v2, v3, HS.out⟩
  case rest =>
    clear S0
    obtain ⟨k1, m0, m1, m2, m3, hq⟩ := hcut
    have hP0 := Pls.run f k1
    generalize runA f k1 = t at *
    clear HX
    go_upto_region 8 with fail
    generalize wrap64 (1 + bits BinOp.and IntKind.i64 pc 15) = pl at *
    generalize wrap64 (2 + bits BinOp.and IntKind.i64 (wrap64 (2 * pc)) 31) = ks at *
    have hb7 := below_al wc (.cells #[.int .i64 pl, .int .i64 ks, .int .i64 0, .int .i64 0] 39)
    have hr7 : RmB (wc.alloc (.cells #[.int .i64 pl, .int .i64 ks, .int .i64 0, .int .i64 0] 39)) wc.heap.size pl ks 0 0 := heap_alloc_new _ _
    have h7 := hq.call hb7
    generalize wc.alloc (.cells #[.int .i64 pl, .int .i64 ks, .int .i64 0, .int .i64 0] 39) = w7 at *
    generalize wc.heap.size = gr at *
    clear hq hb7
    have hB7 : w.heap.size ≤ w7.heap.size := h7.hold.hold.below.size
    have C9 : ∀ W, Below w7.heap.size w7 W → Calls Try.prog 9 #[.pointer (some ⟨P, 0, none⟩), .agg #[.int .i64 pl, .int .i64 ks, .int .i64 0, .int .i64 0], .int .i64 64] W fun e w' => ∃ g s2, e = .returned (.pointer (some ⟨g, 0, none⟩)) ∧ TxH W.heap.size g (.slice none 0 0) ⟨t, pl, ks, 0, 0, 64, 512, []⟩ s2 w' ∧ Below W.heap.size W w' := fun W b => by
      obtain ⟨s, hp, hw, he, _⟩ := h7.hold
      have q := new_tx (hw.call b) (by rw [he]; exact fun a ha => cnt_pls hP0 ha) pl ks 0 0 64
      rw [hp, he] at q
      exact q
    obtain ⟨o0, o1, o2, o3⟩ := hr7.cells
    obtain ⟨b0, e0, d0, rfl⟩ := h7.at'.sp.isSl
    obtain ⟨b1, d1, rfl⟩ := h7.at'.lv.form
    obtain ⟨b2, e2, d2, rfl⟩ := h7.at'.bad.isSl
    obtain ⟨b3, e3, d3, rfl⟩ := h7.at'.worn.isSl
    have hpn : ((rs t).lv.map rL).length = pagesN t.sp := by rw [List.length_map]; exact lvA_len _
    rw [hpn] at h7
    clear hpn
    have C17 : ∀ W, Below w7.heap.size w7 W → Calls Try.prog 17 #[.pointer (some ⟨P, 0, none⟩)] W fun e w' => e = .returned (.int .i64 (pagesN t.sp : Int)) ∧ Below W.heap.size W w' := fun W b => hold_keys (h7.hold.hold.call b)
    have C17' := Hid.mk C17
    clear C17
    have hK7 : Hid (∀ W, Below w7.heap.size w7 W → W.cell? ⟨g5, 1, none⟩ = some (.slice b1 (pagesN t.sp) d1)) := fun W b => (h7.call b).box.cells.2.1
    generalize pagesN t.sp = pn at *
    obtain ⟨z0, z1, z2, z3⟩ := h7.box.cells
    have hg5 := h7.box.lt
    have hgr := (Array.getElem?_eq_some_iff.1 hr7).1
    have H7 := Hid.mk (And.intro h7 (And.intro hr7 (And.intro hB7 hP0)))
    replace C9 := Hid.mk C9
    clear h7 hr7 hB7 hP0
    go_cut [11, 12] from 54 to 59 (fun vt vp wx => ∃ g gp s5, vt = .pointer (some ⟨g, 0, none⟩) ∧ vp = .pointer (some ⟨gp, 0, none⟩) ∧ TyS w7 w.heap.size gp g ⟨t, pl, ks, 0, 0, 64, 512, []⟩ ⟨t, [], 0⟩ [] (.slice none 0 0) s5 (.slice b0 e0 d0) (.slice b1 pn d1) (.slice b2 e2 d2) (.slice b3 e3 d3) (.slice none 0 0) wx)
    case first =>
      go_region_with (go_at_call 9; first
        | (refine (C9.out _ (Below.refl _ w7).drew).mono ?_; rintro e w5 ⟨g, s5, rfl, T5, b5⟩; have B5 : Below w7.heap.size w7 w5 := below3 (Below.refl _ w7).drew b5; obtain ⟨z0', z1', z2', z3'⟩ := (H7.out.1.call B5).box.cells; have hg5' := (H7.out.1.call B5).box.lt; have H5 := Hid.mk (TyS.startA H7.out.1 H7.out.2.2.2 T5 B5); clear T5 b5 B5)
        | (refine (C9.out _ (below_al w7 _).drew).mono ?_; rintro e w5 ⟨g, s5, rfl, T5, b5⟩; have B5 : Below w7.heap.size w7 w5 := below3 (below_al w7 _).drew b5; obtain ⟨z0', z1', z2', z3'⟩ := (H7.out.1.call B5).box.cells; have hg5' := (H7.out.1.call B5).box.lt; have X5 : Box6 w5 w7.heap.size (.slice none 0 0) (.slice none 0 0) (.slice none 0 0) (.slice none 0 0) (.slice none 0 0) 0 := (b5.block w7.heap.size (by show _ < (w7.alloc _).heap.size; rw [size_alloc]; omega)).trans (heap_alloc_new w7 _); obtain ⟨y0, y1, y2, y3, y4, y5⟩ := X5.cells; have f0 := X5.fz 0; have f1 := X5.fz 1; have f2 := X5.fz 2; have f3 := X5.fz 3; have f4 := X5.fz 4; have f5 := X5.fz 5; have hgp5 := X5.lt; have H5 := Hid.mk (TyS.startB H7.out.1 H7.out.2.2.2 T5 B5 X5); clear T5 b5 B5 X5))
      all_goals
        have H6 := H5.out
        try unfold set6 at H6
        replace H6 := Hid.mk H6
        clear H5
        go_wp2_with fail
        go_meet
        exact ⟨_, _, _, rfl, rfl, H6.out⟩
    case rest =>
      obtain ⟨g, gp, s5, rfl, rfl, hs0⟩ := hcut
      clear C9 o0 o1 o2 o3 z0 z1 z2 z3 hg5 hgr
      have hB0 : w.heap.size ≤ w7.heap.size := H7.out.2.2.1
      have hb7 : Below w.heap.size w w7 := H7.out.1.hold.hold.below
      have hrm : ∀ W, Below w7.heap.size w7 W → RmB W gr pl ks 0 0 := fun W b => H7.out.2.1.call b
      have HA := Hid.mk awake_any
      have HS0 := Hid.mk hs0
      have HB0 := Hid.mk hB0
      have HB7 := Hid.mk hb7
      have HRM := Hid.mk hrm
      clear hs0 hB0 hb7 hrm
      go_upto_region 13 with (first | (go_at_call 10; refine (HA.out _).mono ?_; rintro e w8 ⟨rfl, b8⟩))
      have HS1 := Hid.mk (HS0.out.call b8)
      clear HS0 HA b8
      generalize w7 = w1 at *
      go_loopw [13, 14] (fun d i wr => ∃ (k : Nat) (X : TX) (Q : PP) (ix : List Nat) (v : Value) (s : St) (v0 v1 v2 v3 vt : Value), k ≤ 30 ∧ k ≤ m ∧ d = .int .i64 X.cs.length ∧ i = .int .i64 k ∧ TyS w1 w.heap.size gp g X Q ix v s v0 v1 v2 v3 vt wr ∧ X.pl = pl ∧ X.ks = ks) (fun _ i _ => 30 - (intOf i).toNat)
      case atStart => exact ⟨0, _, _, _, _, _, _, _, _, _, _, by omega, Nat.zero_le _, rfl, rfl, HS1.out, rfl, rfl⟩
      case round =>
        clear HS1
        obtain ⟨k, X, Q, ix, v, s, v0, v1, v2, v3, vt, hk30, hkm, rfl, rfl, hs, hpl, hks⟩ := hrel
        obtain ⟨a0, n0, c0, rfl⟩ := hs.pa.st.sp.isSl
        obtain ⟨a1, n1, c1, rfl⟩ := hs.pa.st.lv.isSl
        obtain ⟨a2, n2, c2, rfl⟩ := hs.pa.st.bad.isSl
        obtain ⟨a3, n3, c3, rfl⟩ := hs.pa.st.worn.isSl
        obtain ⟨a4, n4, c4, rfl⟩ := hs.pa.tx.isSl
        by_cases hgo : k < m ∧ k < 30
        · obtain ⟨hgm, hg30⟩ := hgo
          have hg30i : (k : Int) < 30 := by omega
          have hB0 := HB0.out
          have hrm := HRM.out
          obtain ⟨ga, oa, rfl, hgl, ⟨⟨q0, q1, q2, q3, q4, q5⟩, q6⟩, hwf⟩ := (HC.out.below (below_tr HB7.out HB0.out hs.bel)) k hgm
          generalize c k = cc at *
          obtain ⟨⟨r0, r1, r2, r3, r4, r5⟩, str⟩ := cc
          simp only at q0 q1 q2 q3 q4 q5 q6
          by_cases hr0 : r0 = 1
          · subst hr0
            have hst := stepL_spec X ⟨(1, r1, r2, r3, r4, r5), str⟩
            have hsp : stepL X ⟨(1, r1, r2, r3, r4, r5), str⟩ = putX X r1 r2 str := by unfold stepL; exact if_pos rfl
            rw [hsp] at hst
            have hsq : (putX X r1 r2 str).2 = (putP Q pl ks r1 r2 str).2 ∧ ∃ ix2, Sim (putX X r1 r2 str).1 (putP Q pl ks r1 r2 str).1 ix2 := by
              have q := hs.sim.put r1 r2 str
              rw [hpl, hks] at q
              exact q
            have C11 : ∀ W, Below wr.heap.size wr W → Calls Try.prog 11 #[.agg #[.slice a0 n0 c0, .slice a1 n1 c1, .slice a2 n2 c2, .slice a3 n3 c3, .slice a4 n4 c4, .int .i64 Q.n], .int .i64 r1, .int .i64 r2, .string str, .agg #[.int .i64 pl, .int .i64 ks, .int .i64 0, .int .i64 0], .int .i64 64] W (P6D w.heap.size (putP Q pl ks r1 r2 str) W) := fun W b => put_pl (hs.pa.call b) (hs.sim.inv hs.tx.inv) (Nat.le_trans hB0 (below3 hs.bel b).size) (by have := hs.sim.tx8; omega) (by rw [hs.sim.n]; exact hs.sim.n8) pl ks 0 0 r1 r2 str (hs.sim.invL hs.tx r1 r2)
            have C12 : ∀ W, TxH w1.heap.size g v X s W → w1.heap.size ≤ W.heap.size → Calls Try.prog 12 #[.pointer (some ⟨g, 0, none⟩), .int .i64 r1, .int .i64 r2, .string str] W (TxD w1.heap.size g v (putX X r1 r2 str) W) := fun W t b => put_any t b hwf.2.1 (by rw [hs.sim.fi]; omega) hs.sim.n8 str
            have hqn : Q.n = X.cs.length := hs.sim.n
            generalize putX X r1 r2 str = R at *
            generalize putP Q pl ks r1 r2 str = RQ at *
            obtain ⟨X2, E⟩ := R
            obtain ⟨Q2, E2⟩ := RQ
            simp only at hst hsq
            obtain ⟨rfl, ix2, S2⟩ := hsq
            have H0 := Hid.mk hs
            have HCC := Hid.mk (And.intro C11 (And.intro C12 (And.intro hst (And.intro S2 (And.intro hpl hks)))))
            have HR := Hid.mk (hrm wr hs.bel)
            obtain ⟨k0, k1, k2, k3, k4, k5⟩ := hs.box.cells
            have hgl2 := hs.box.lt
            have hB1 : Below wr.heap.size wr ((wr.alloc (.cells #[.int .i64 1, .int .i64 r1, .int .i64 r2, .int .i64 r3, .int .i64 r4, .int .i64 r5, .string str] 49)).alloc (.cells #[.slice a0 n0 c0, .slice a1 n1 c1, .slice a2 n2 c2, .slice a3 n3 c3, .slice a4 n4 c4, .int .i64 Q.n] 46)) := (below_al wr _).alloc (by rw [size_alloc]; omega) _
            have hbx : BxC ((wr.alloc (.cells #[.int .i64 1, .int .i64 r1, .int .i64 r2, .int .i64 r3, .int .i64 r4, .int .i64 r5, .string str] 49)).alloc (.cells #[.slice a0 n0 c0, .slice a1 n1 c1, .slice a2 n2 c2, .slice a3 n3 c3, .slice a4 n4 c4, .int .i64 Q.n] 46)) wr.heap.size 1 r1 r2 r3 r4 r5 str := (Below.heap_alloc _ _ wr.heap.size (by rw [size_alloc]; omega)).trans (heap_alloc_new wr _)
            have hqb : Box6 ((wr.alloc (.cells #[.int .i64 1, .int .i64 r1, .int .i64 r2, .int .i64 r3, .int .i64 r4, .int .i64 r5, .string str] 49)).alloc (.cells #[.slice a0 n0 c0, .slice a1 n1 c1, .slice a2 n2 c2, .slice a3 n3 c3, .slice a4 n4 c4, .int .i64 Q.n] 46)) (wr.heap.size + 1) (.slice a0 n0 c0) (.slice a1 n1 c1) (.slice a2 n2 c2) (.slice a3 n3 c3) (.slice a4 n4 c4) Q.n := by
              have q := heap_alloc_new (wr.alloc (.cells #[.int .i64 1, .int .i64 r1, .int .i64 r2, .int .i64 r3, .int .i64 r4, .int .i64 r5, .string str] 49)) (.cells #[.slice a0 n0 c0, .slice a1 n1 c1, .slice a2 n2 c2, .slice a3 n3 c3, .slice a4 n4 c4, .int .i64 Q.n] 46)
              rw [size_alloc] at q
              exact q
            have HW := Hid.mk (And.intro hB1 (And.intro hbx hqb))
            clear hB1 hbx hqb hs C11 C12 hst S2 hsp hpl hks
            replace hqn := Hid.mk hqn
            generalize hQn : Q.n = nq at *
            replace hQn := Hid.mk hQn
            go_upto_region 18 with fail
            clear q0 q1 q2 q3 q4 q5 q6 k0 k1 k2 k3 k4 k5 hgl2
            generalize (wr.alloc (.cells #[.int .i64 1, .int .i64 r1, .int .i64 r2, .int .i64 r3, .int .i64 r4, .int .i64 r5, .string str] 49)).alloc (.cells #[.slice a0 n0 c0, .slice a1 n1 c1, .slice a2 n2 c2, .slice a3 n3 c3, .slice a4 n4 c4, .int .i64 nq] 46) = W2 at *
            have hs2 := H0.out.call HW.out.1
            have hpb := hs2.box
            rw [hQn.out] at hpb
            obtain ⟨x0, x1, x2, x3, x4, x5, x6⟩ := HW.out.2.1.cells
            obtain ⟨k0, k1, k2, k3, k4, k5⟩ := hpb.cells
            obtain ⟨z0, z1, z2, z3, z4, z5⟩ := HW.out.2.2.cells
            have f0 := HW.out.2.2.fz 0
            have f1 := HW.out.2.2.fz 1
            have f2 := HW.out.2.2.fz 2
            have f3 := HW.out.2.2.fz 3
            have f4 := HW.out.2.2.fz 4
            have f5 := HW.out.2.2.fz 5
            obtain ⟨o0, o1, o2, o3⟩ := (HR.out.call HW.out.1).cells
            have hgq := HW.out.2.2.lt
            have HS2 := Hid.mk hs2
            clear hs2 hpb
            generalize hGX : wr.heap.size = gx at *
            replace hGX := Hid.mk hGX
            go_upto_region 20 with (first | (go_at_call 11; refine (HCC.out.1 _ HW.out.1).mono ?_; rintro e w4 ⟨u0, u1, u2, u3, ut, rfl, R4, T4, b4⟩; obtain ⟨s0, t0, y0, rfl⟩ := R4.sp.isSl; obtain ⟨s1, t1, y1, rfl⟩ := R4.lv.isSl; obtain ⟨s2, t2, y2, rfl⟩ := R4.bad.isSl; obtain ⟨s3, t3, y3, rfl⟩ := R4.worn.isSl; obtain ⟨s4, t4, y4, rfl⟩ := T4.isSl; have qb4 := HW.out.2.2.call b4; obtain ⟨z0', z1', z2', z3', z4', z5'⟩ := qb4.cells; have g0 := qb4.fz 0; have g1 := qb4.fz 1; have g2 := qb4.fz 2; have g3 := qb4.fz 3; have g4 := qb4.fz 4; have g5' := qb4.fz 5; have H4 := Hid.mk (And.intro R4 (And.intro T4 b4)); clear qb4 R4 T4 b4))
            have M5 := H0.out.mid (gq := gx + 1) (by have := hGX.out; omega) (by have q := HW.out.1; rw [← hGX.out] at q; exact q) HW.out.2.2 H4.out.1 H4.out.2.1 H4.out.2.2
            have bx5 : BxC (set6 w4 (gx + 1) (.slice s0 t0 y0) (.slice s1 t1 y1) (.slice s2 t2 y2) (.slice s3 t3 y3) (.slice s4 t4 y4) Q2.n) gx 1 r1 r2 r3 r4 r5 str := ((set6_kp w4 (gx + 1) (.slice s0 t0 y0) (.slice s1 t1 y1) (.slice s2 t2 y2) (.slice s3 t3 y3) (.slice s4 t4 y4) Q2.n).2.2.2.2 gx (by omega) (by omega)).trans (HW.out.2.1.call H4.out.2.2)
            rw [hQn.out] at M5
            clear x0 x1 x2 x3 x4 x5 x6 k0 k1 k2 k3 k4 k5 z0 z1 z2 z3 z4 z5 f0 f1 f2 f3 f4 f5 o0 o1 o2 o3 z0' z1' z2' z3' z4' z5' g0 g1 g2 g3 g4 g5' hgq
            unfold set6 at M5 bx5
            generalize (((((w4.setCell ⟨gx + 1, 0, none⟩ (.slice s0 t0 y0)).setCell ⟨gx + 1, 1, none⟩ (.slice s1 t1 y1)).setCell ⟨gx + 1, 2, none⟩ (.slice s2 t2 y2)).setCell ⟨gx + 1, 3, none⟩ (.slice s3 t3 y3)).setCell ⟨gx + 1, 4, none⟩ (.slice s4 t4 y4)).setCell ⟨gx + 1, 5, none⟩ (.int .i64 Q2.n) = w5 at *
            obtain ⟨x0, x1, x2, x3, x4, x5, x6⟩ := bx5.cells
            have D5 := HCC.out.2.1 _ M5.tx M5.bel.size
            have H5 := Hid.mk (And.intro M5 D5)
            clear M5 D5 bx5
            go_upto_region 23 with (first | (go_at_call 12; refine H5.out.2.mono ?_; rintro e w6 ⟨rfl, v6, s6, T6, d6⟩))
            have M6 := H5.out.1.did T6 d6
            clear x0 x1 x2 x3 x4 x5 x6 T6 d6
            obtain ⟨k0, k1, k2, k3, k4, k5⟩ := M6.pb.cells
            obtain ⟨z0, z1, z2, z3, z4, z5⟩ := M6.qb.cells
            have f0 := M6.pb.fz 0
            have f1 := M6.pb.fz 1
            have f2 := M6.pb.fz 2
            have f3 := M6.pb.fz 3
            have f4 := M6.pb.fz 4
            have f5 := M6.pb.fz 5
            have hgp := M6.pb.lt
            have S7 := M6.fin HCC.out.2.2.2.1
            unfold set6 at S7
            have H6 := Hid.mk S7
            clear S7 M6
            go_upto_region 24 with fail
            have S7 := H6.out
            clear H6 k0 k1 k2 k3 k4 k5 z0 z1 z2 z3 z4 z5 f0 f1 f2 f3 f4 f5 hgp
            generalize (((((w6.setCell ⟨gp, 0, none⟩ (.slice s0 t0 y0)).setCell ⟨gp, 1, none⟩ (.slice s1 t1 y1)).setCell ⟨gp, 2, none⟩ (.slice s2 t2 y2)).setCell ⟨gp, 3, none⟩ (.slice s3 t3 y3)).setCell ⟨gp, 4, none⟩ (.slice s4 t4 y4)).setCell ⟨gp, 5, none⟩ (.int .i64 Q2.n) = w7 at *
            have hX2 : X2.pl = pl ∧ X2.ks = ks := ⟨HCC.out.2.2.1.1.pl.trans HCC.out.2.2.2.2.1, HCC.out.2.2.1.1.ks.trans HCC.out.2.2.2.2.2⟩
            have C15 := changes_tx S7.tx S7.sim.n8
            have C16 : ∀ W, Below w7.heap.size w7 W → Calls Try.prog 16 #[.pointer (some ⟨g, 0, none⟩), .agg #[.slice s0 t0 y0, .slice s1 t1 y1, .slice s2 t2 y2, .slice s3 t3 y3, .slice s4 t4 y4, .int .i64 Q2.n]] W fun e w' => e = .returned (.bool true) ∧ Below W.heap.size W w' := fun W b => seen_any (S7.call b).tx (S7.call b).pa S7.sim Q2.n
            obtain ⟨k0, k1, k2, k3, k4, k5⟩ := S7.box.cells
            have hgp := S7.box.lt
            have hxl8 := S7.sim.n8
            have hst := HCC.out.2.2.1.2
            rcases hst with ⟨hE, hcs, h8⟩ | ⟨hE, hXX⟩
            · subst hE
              have hln : X2.cs.length = X.cs.length + 1 := by rw [hcs, List.length_append]; rfl
              rw [hln] at C15
              have H7 := Hid.mk (And.intro S7 (And.intro C15 (And.intro C16 (And.intro hX2 hln))))
              have hd8 : X.cs.length ≤ 8 := by omega
              clear S7 C15 C16 hX2 hcs HCC H0 HS2 HW H4 H5 HR
              replace hln := Hid.mk hln
              generalize X.cs.length = dn at *
              go_wp2_with (first | (go_at_call 15; refine H7.out.2.1.mono ?_; rintro e w8 ⟨a8, c8, rfl, o8, b8⟩; have p8 := (H7.out.1.call b8).box; obtain ⟨k0', k1', k2', k3', k4', k5'⟩ := p8.cells; have hgp8 := p8.lt; replace p8 := Hid.mk p8) | (go_at_call 16; refine (H7.out.2.2.1 _ b8).mono ?_; rintro e w9 ⟨rfl, b9⟩))
              refine ⟨⟨k + 1, X2, Q2, ix2, v6, s6, _, _, _, _, _, by omega, by omega, ?_, by go_num, H7.out.1.call (below3 b8 b9), H7.out.2.2.2.1.1, H7.out.2.2.2.1.2⟩, by simp [intOf]; omega⟩
              rw [hln.out]
              go_num
            · have hEb : (E == 0) = false := by simpa using hE
              have hln : X2.cs.length = X.cs.length := by rw [hXX]
              rw [hln] at C15
              have H7 := Hid.mk (And.intro S7 (And.intro C15 (And.intro C16 (And.intro hX2 hln))))
              have hd8 : X.cs.length ≤ 8 := by omega
              clear S7 C15 C16 hX2 hXX hE HCC H0 HS2 HW H4 H5 HR
              replace hln := Hid.mk hln
              generalize X.cs.length = dn at *
              go_wp2_with (first | (go_at_call 15; refine H7.out.2.1.mono ?_; rintro e w8 ⟨a8, c8, rfl, o8, b8⟩; have p8 := (H7.out.1.call b8).box; obtain ⟨k0', k1', k2', k3', k4', k5'⟩ := p8.cells; have hgp8 := p8.lt; replace p8 := Hid.mk p8) | (go_at_call 16; refine (H7.out.2.2.1 _ b8).mono ?_; rintro e w9 ⟨rfl, b9⟩))
              refine ⟨⟨k + 1, X2, Q2, ix2, v6, s6, _, _, _, _, _, by omega, by omega, ?_, by go_num, H7.out.1.call (below3 b8 b9), H7.out.2.2.2.1.1, H7.out.2.2.2.1.2⟩, by simp [intOf]; omega⟩
              rw [hln.out]
          · have hrb : (r0 == 1) = false := by simpa using hr0
            have hst := stepL_spec X ⟨(r0, r1, r2, r3, r4, r5), str⟩
            have hsp : stepL X ⟨(r0, r1, r2, r3, r4, r5), str⟩ = doX X r0 r1 r2 r3 r4 r5 := by unfold stepL; exact if_neg hr0
            rw [hsp] at hst
            have hsq : (doX X r0 r1 r2 r3 r4 r5).2 = (doP Q pl ks r0 r1 r2 r3 r4 r5).2 ∧ ∃ ix2, Sim (doX X r0 r1 r2 r3 r4 r5).1 (doP Q pl ks r0 r1 r2 r3 r4 r5).1 ix2 := by
              have q := hs.sim.do' r0 r1 r2 r3 r4 r5
              rw [hpl, hks] at q
              exact q
            have C11 : ∀ W, Below wr.heap.size wr W → Calls Try.prog 13 #[.agg #[.slice a0 n0 c0, .slice a1 n1 c1, .slice a2 n2 c2, .slice a3 n3 c3, .slice a4 n4 c4, .int .i64 Q.n], rv r0 r1 r2 r3 r4 r5, .agg #[.int .i64 pl, .int .i64 ks, .int .i64 0, .int .i64 0]] W (P6D w.heap.size (doP Q pl ks r0 r1 r2 r3 r4 r5) W) := fun W b => do_pl (hs.pa.call b) (hs.sim.inv hs.tx.inv) (Nat.le_trans hB0 (below3 hs.bel b).size) (by rw [hs.sim.n]; exact hs.sim.n8) pl ks 0 0 r0 r1 r2 r3 r4 r5 (hs.sim.invD hs.tx r0 r1 r2 r3 r4 r5)
            have C12 : ∀ W, TxH w1.heap.size g v X s W → w1.heap.size ≤ W.heap.size → Calls Try.prog 14 #[.pointer (some ⟨g, 0, none⟩), rv r0 r1 r2 r3 r4 r5] W (TxD w1.heap.size g v (doX X r0 r1 r2 r3 r4 r5) W) := fun W t b => do_tx t b hwf.2.1
            unfold rv at C11 C12
            have hqn : Q.n = X.cs.length := hs.sim.n
            generalize doX X r0 r1 r2 r3 r4 r5 = R at *
            generalize doP Q pl ks r0 r1 r2 r3 r4 r5 = RQ at *
            obtain ⟨X2, E⟩ := R
            obtain ⟨Q2, E2⟩ := RQ
            simp only at hst hsq
            obtain ⟨rfl, ix2, S2⟩ := hsq
            have H0 := Hid.mk hs
            have HCC := Hid.mk (And.intro C11 (And.intro C12 (And.intro hst (And.intro S2 (And.intro hpl hks)))))
            have HR := Hid.mk (hrm wr hs.bel)
            obtain ⟨k0, k1, k2, k3, k4, k5⟩ := hs.box.cells
            have hgl2 := hs.box.lt
            have hB1 : Below wr.heap.size wr ((wr.alloc (.cells #[.int .i64 r0, .int .i64 r1, .int .i64 r2, .int .i64 r3, .int .i64 r4, .int .i64 r5, .string str] 49)).alloc (.cells #[.slice a0 n0 c0, .slice a1 n1 c1, .slice a2 n2 c2, .slice a3 n3 c3, .slice a4 n4 c4, .int .i64 Q.n] 46)) := (below_al wr _).alloc (by rw [size_alloc]; omega) _
            have hbx : BxC ((wr.alloc (.cells #[.int .i64 r0, .int .i64 r1, .int .i64 r2, .int .i64 r3, .int .i64 r4, .int .i64 r5, .string str] 49)).alloc (.cells #[.slice a0 n0 c0, .slice a1 n1 c1, .slice a2 n2 c2, .slice a3 n3 c3, .slice a4 n4 c4, .int .i64 Q.n] 46)) wr.heap.size r0 r1 r2 r3 r4 r5 str := (Below.heap_alloc _ _ wr.heap.size (by rw [size_alloc]; omega)).trans (heap_alloc_new wr _)
            have hqb : Box6 ((wr.alloc (.cells #[.int .i64 r0, .int .i64 r1, .int .i64 r2, .int .i64 r3, .int .i64 r4, .int .i64 r5, .string str] 49)).alloc (.cells #[.slice a0 n0 c0, .slice a1 n1 c1, .slice a2 n2 c2, .slice a3 n3 c3, .slice a4 n4 c4, .int .i64 Q.n] 46)) (wr.heap.size + 1) (.slice a0 n0 c0) (.slice a1 n1 c1) (.slice a2 n2 c2) (.slice a3 n3 c3) (.slice a4 n4 c4) Q.n := by
              have q := heap_alloc_new (wr.alloc (.cells #[.int .i64 r0, .int .i64 r1, .int .i64 r2, .int .i64 r3, .int .i64 r4, .int .i64 r5, .string str] 49)) (.cells #[.slice a0 n0 c0, .slice a1 n1 c1, .slice a2 n2 c2, .slice a3 n3 c3, .slice a4 n4 c4, .int .i64 Q.n] 46)
              rw [size_alloc] at q
              exact q
            have HW := Hid.mk (And.intro hB1 (And.intro hbx hqb))
            clear hB1 hbx hqb hs C11 C12 hst S2 hsp hpl hks
            replace hqn := Hid.mk hqn
            generalize hQn : Q.n = nq at *
            replace hQn := Hid.mk hQn
            go_upto_region 18 with fail
            clear q0 q1 q2 q3 q4 q5 q6 k0 k1 k2 k3 k4 k5 hgl2
            generalize (wr.alloc (.cells #[.int .i64 r0, .int .i64 r1, .int .i64 r2, .int .i64 r3, .int .i64 r4, .int .i64 r5, .string str] 49)).alloc (.cells #[.slice a0 n0 c0, .slice a1 n1 c1, .slice a2 n2 c2, .slice a3 n3 c3, .slice a4 n4 c4, .int .i64 nq] 46) = W2 at *
            have hs2 := H0.out.call HW.out.1
            have hpb := hs2.box
            rw [hQn.out] at hpb
            obtain ⟨x0, x1, x2, x3, x4, x5, x6⟩ := HW.out.2.1.cells
            obtain ⟨k0, k1, k2, k3, k4, k5⟩ := hpb.cells
            obtain ⟨z0, z1, z2, z3, z4, z5⟩ := HW.out.2.2.cells
            have f0 := HW.out.2.2.fz 0
            have f1 := HW.out.2.2.fz 1
            have f2 := HW.out.2.2.fz 2
            have f3 := HW.out.2.2.fz 3
            have f4 := HW.out.2.2.fz 4
            have f5 := HW.out.2.2.fz 5
            obtain ⟨o0, o1, o2, o3⟩ := (HR.out.call HW.out.1).cells
            have hgq := HW.out.2.2.lt
            have HS2 := Hid.mk hs2
            clear hs2 hpb
            generalize hGX : wr.heap.size = gx at *
            replace hGX := Hid.mk hGX
            go_upto_region 22 with (first | (go_at_call 13; refine (HCC.out.1 _ HW.out.1).mono ?_; rintro e w4 ⟨u0, u1, u2, u3, ut, rfl, R4, T4, b4⟩; obtain ⟨s0, t0, y0, rfl⟩ := R4.sp.isSl; obtain ⟨s1, t1, y1, rfl⟩ := R4.lv.isSl; obtain ⟨s2, t2, y2, rfl⟩ := R4.bad.isSl; obtain ⟨s3, t3, y3, rfl⟩ := R4.worn.isSl; obtain ⟨s4, t4, y4, rfl⟩ := T4.isSl; have qb4 := HW.out.2.2.call b4; obtain ⟨z0', z1', z2', z3', z4', z5'⟩ := qb4.cells; have g0 := qb4.fz 0; have g1 := qb4.fz 1; have g2 := qb4.fz 2; have g3 := qb4.fz 3; have g4 := qb4.fz 4; have g5' := qb4.fz 5; have H4 := Hid.mk (And.intro R4 (And.intro T4 b4)); clear qb4 R4 T4 b4))
            have M5 := H0.out.mid (gq := gx + 1) (by have := hGX.out; omega) (by have q := HW.out.1; rw [← hGX.out] at q; exact q) HW.out.2.2 H4.out.1 H4.out.2.1 H4.out.2.2
            have bx5 : BxC (set6 w4 (gx + 1) (.slice s0 t0 y0) (.slice s1 t1 y1) (.slice s2 t2 y2) (.slice s3 t3 y3) (.slice s4 t4 y4) Q2.n) gx r0 r1 r2 r3 r4 r5 str := ((set6_kp w4 (gx + 1) (.slice s0 t0 y0) (.slice s1 t1 y1) (.slice s2 t2 y2) (.slice s3 t3 y3) (.slice s4 t4 y4) Q2.n).2.2.2.2 gx (by omega) (by omega)).trans (HW.out.2.1.call H4.out.2.2)
            rw [hQn.out] at M5
            clear x0 x1 x2 x3 x4 x5 x6 k0 k1 k2 k3 k4 k5 z0 z1 z2 z3 z4 z5 f0 f1 f2 f3 f4 f5 o0 o1 o2 o3 z0' z1' z2' z3' z4' z5' g0 g1 g2 g3 g4 g5' hgq
            unfold set6 at M5 bx5
            generalize (((((w4.setCell ⟨gx + 1, 0, none⟩ (.slice s0 t0 y0)).setCell ⟨gx + 1, 1, none⟩ (.slice s1 t1 y1)).setCell ⟨gx + 1, 2, none⟩ (.slice s2 t2 y2)).setCell ⟨gx + 1, 3, none⟩ (.slice s3 t3 y3)).setCell ⟨gx + 1, 4, none⟩ (.slice s4 t4 y4)).setCell ⟨gx + 1, 5, none⟩ (.int .i64 Q2.n) = w5 at *
            obtain ⟨x0, x1, x2, x3, x4, x5, x6⟩ := bx5.cells
            have D5 := HCC.out.2.1 _ M5.tx M5.bel.size
            have H5 := Hid.mk (And.intro M5 D5)
            clear M5 D5 bx5
            go_upto_region 23 with (first | (go_at_call 14; refine H5.out.2.mono ?_; rintro e w6 ⟨rfl, v6, s6, T6, d6⟩))
            have M6 := H5.out.1.did T6 d6
            clear x0 x1 x2 x3 x4 x5 x6 T6 d6
            obtain ⟨k0, k1, k2, k3, k4, k5⟩ := M6.pb.cells
            obtain ⟨z0, z1, z2, z3, z4, z5⟩ := M6.qb.cells
            have f0 := M6.pb.fz 0
            have f1 := M6.pb.fz 1
            have f2 := M6.pb.fz 2
            have f3 := M6.pb.fz 3
            have f4 := M6.pb.fz 4
            have f5 := M6.pb.fz 5
            have hgp := M6.pb.lt
            have S7 := M6.fin HCC.out.2.2.2.1
            unfold set6 at S7
            have H6 := Hid.mk S7
            clear S7 M6
            go_upto_region 24 with fail
            have S7 := H6.out
            clear H6 k0 k1 k2 k3 k4 k5 z0 z1 z2 z3 z4 z5 f0 f1 f2 f3 f4 f5 hgp
            generalize (((((w6.setCell ⟨gp, 0, none⟩ (.slice s0 t0 y0)).setCell ⟨gp, 1, none⟩ (.slice s1 t1 y1)).setCell ⟨gp, 2, none⟩ (.slice s2 t2 y2)).setCell ⟨gp, 3, none⟩ (.slice s3 t3 y3)).setCell ⟨gp, 4, none⟩ (.slice s4 t4 y4)).setCell ⟨gp, 5, none⟩ (.int .i64 Q2.n) = w7 at *
            have hX2 : X2.pl = pl ∧ X2.ks = ks := ⟨HCC.out.2.2.1.1.pl.trans HCC.out.2.2.2.2.1, HCC.out.2.2.1.1.ks.trans HCC.out.2.2.2.2.2⟩
            have C15 := changes_tx S7.tx S7.sim.n8
            have C16 : ∀ W, Below w7.heap.size w7 W → Calls Try.prog 16 #[.pointer (some ⟨g, 0, none⟩), .agg #[.slice s0 t0 y0, .slice s1 t1 y1, .slice s2 t2 y2, .slice s3 t3 y3, .slice s4 t4 y4, .int .i64 Q2.n]] W fun e w' => e = .returned (.bool true) ∧ Below W.heap.size W w' := fun W b => seen_any (S7.call b).tx (S7.call b).pa S7.sim Q2.n
            obtain ⟨k0, k1, k2, k3, k4, k5⟩ := S7.box.cells
            have hgp := S7.box.lt
            have hxl8 := S7.sim.n8
            have hst := HCC.out.2.2.1.2
            rcases hst with ⟨hE, hcs, h8⟩ | ⟨hE, hXX⟩
            · subst hE
              have hln : X2.cs.length = X.cs.length + 1 := by rw [hcs, List.length_append]; rfl
              rw [hln] at C15
              have H7 := Hid.mk (And.intro S7 (And.intro C15 (And.intro C16 (And.intro hX2 hln))))
              have hd8 : X.cs.length ≤ 8 := by omega
              clear S7 C15 C16 hX2 hcs HCC H0 HS2 HW H4 H5 HR
              replace hln := Hid.mk hln
              generalize X.cs.length = dn at *
              go_wp2_with (first | (go_at_call 15; refine H7.out.2.1.mono ?_; rintro e w8 ⟨a8, c8, rfl, o8, b8⟩; have p8 := (H7.out.1.call b8).box; obtain ⟨k0', k1', k2', k3', k4', k5'⟩ := p8.cells; have hgp8 := p8.lt; replace p8 := Hid.mk p8) | (go_at_call 16; refine (H7.out.2.2.1 _ b8).mono ?_; rintro e w9 ⟨rfl, b9⟩))
              refine ⟨⟨k + 1, X2, Q2, ix2, v6, s6, _, _, _, _, _, by omega, by omega, ?_, by go_num, H7.out.1.call (below3 b8 b9), H7.out.2.2.2.1.1, H7.out.2.2.2.1.2⟩, by simp [intOf]; omega⟩
              rw [hln.out]
              go_num
            · have hEb : (E == 0) = false := by simpa using hE
              have hln : X2.cs.length = X.cs.length := by rw [hXX]
              rw [hln] at C15
              have H7 := Hid.mk (And.intro S7 (And.intro C15 (And.intro C16 (And.intro hX2 hln))))
              have hd8 : X.cs.length ≤ 8 := by omega
              clear S7 C15 C16 hX2 hXX hE HCC H0 HS2 HW H4 H5 HR
              replace hln := Hid.mk hln
              generalize X.cs.length = dn at *
              go_wp2_with (first | (go_at_call 15; refine H7.out.2.1.mono ?_; rintro e w8 ⟨a8, c8, rfl, o8, b8⟩; have p8 := (H7.out.1.call b8).box; obtain ⟨k0', k1', k2', k3', k4', k5'⟩ := p8.cells; have hgp8 := p8.lt; replace p8 := Hid.mk p8) | (go_at_call 16; refine (H7.out.2.2.1 _ b8).mono ?_; rintro e w9 ⟨rfl, b9⟩))
              refine ⟨⟨k + 1, X2, Q2, ix2, v6, s6, _, _, _, _, _, by omega, by omega, ?_, by go_num, H7.out.1.call (below3 b8 b9), H7.out.2.2.2.1.1, H7.out.2.2.2.1.2⟩, by simp [intOf]; omega⟩
              rw [hln.out]
        · have hex : ¬ ((k : Int) < (m : Int)) ∨ ((k : Int) < (m : Int) ∧ ¬ ((k : Int) < 30)) := by omega
          have HBW := Hid.mk hs.bel
          clear hs hpl hks
          have kS : Hid (∀ w', Below w1.heap.size w1 w' → Below w1.heap.size w1 w' ∧ w'.cell? ⟨g5, 1, none⟩ = some (.slice b1 pn d1)) := fun w' q => ⟨q, hK7.out w' q⟩
          rcases hex with hex | ⟨hex0, hex⟩
          all_goals
            go_upto_region 28 with fail
            go_region_held3 (fun w' => Below w1.heap.size w1 w' ∧ w'.cell? ⟨g5, 1, none⟩ = some (.slice b1 pn d1))
              (first | assumption | exact kS.out _ HBW.out | exact kS.out _ HBW.out.drew | exact kS.out _ (below3 (And.left (by assumption)) (by assumption)) | fail)
              (first | (go_at_call 17; refine (C17'.out _ (And.left (by assumption))).mono ?_; rintro e w5 ⟨rfl, b5⟩))
            have hb9 : Hid (Below w1.heap.size w1 w5) := And.left (by assumption)
            clear b5
            go_wp2_with fail
            go_ret
            exact ⟨rfl, below_tr HB7.out HB0.out hb9.out⟩
end Go.Proofs.Ytccelipljbkkgaa
