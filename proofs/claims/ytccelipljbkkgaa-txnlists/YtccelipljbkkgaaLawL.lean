/-
  The walk of TxnLists. No condition.
-/
import Derived.Test.YtccelipljbkkgaaLsa
namespace Go.Proofs.Ytccelipljbkkgaa
open Go Go.RowKit Go.Maps

def lX0 : TX := ⟨noAb, 9, 18, 0, 0, 64, 512, []⟩
theorem BxC.call {w w' : World} {gc r0 r1 r2 r3 r4 r5 str} (h : BxC w gc r0 r1 r2 r3 r4 r5 str) (b : Below w.heap.size w w') : BxC w' gc r0 r1 r2 r3 r4 r5 str := (b.block gc (Array.getElem?_eq_some_iff.1 h).1).trans h
theorem BxC.cells {w : World} {gc r0 r1 r2 r3 r4 r5 str} (h : BxC w gc r0 r1 r2 r3 r4 r5 str) : w.cell? ⟨gc, 0, none⟩ = some (.int .i64 r0) ∧ w.cell? ⟨gc, 1, none⟩ = some (.int .i64 r1) ∧ w.cell? ⟨gc, 2, none⟩ = some (.int .i64 r2) ∧ w.cell? ⟨gc, 3, none⟩ = some (.int .i64 r3) ∧ w.cell? ⟨gc, 4, none⟩ = some (.int .i64 r4) ∧ w.cell? ⟨gc, 5, none⟩ = some (.int .i64 r5) ∧ w.cell? ⟨gc, 6, none⟩ = some (.string str) := by
  refine ⟨?_, ?_, ?_, ?_, ?_, ?_, ?_⟩ <;> rw [cell_of_row w gc _ _ 49 _ h] <;> rfl
theorem BxC.fz {w : World} {gc r0 r1 r2 r3 r4 r5 str} (h : BxC w gc r0 r1 r2 r3 r4 r5 str) (j : Nat) : w.frozen? ⟨gc, j, none⟩ = false := frozen_of_row w gc j _ 49 h
set_option maxRecDepth 20000 in
set_option maxHeartbeats 4000000 in
theorem txnLists_walk (a : Option Addr) (n cap : Nat) (f : Nat → Cg) (w : World) (hf : ChgF w a n f) : Calls Try.prog 4 #[.slice a n cap] w fun e w' => e = .returned (.bool true) ∧ Below w.heap.size w w' := by
  have H0 := Hid.mk (newW_any w)
  have HF := Hid.mk hf
  clear hf
  go_enter Try.func4, Try.ntmps4
  have q9 : ∀ w1, Whole w1 (newSt w.heap.size) → Calls Try.prog 9 #[.pointer (some ⟨w.heap.size + 4, 0, none⟩), .agg #[.int .i64 9, .int .i64 18, .int .i64 0, .int .i64 0], .int .i64 64] w1 fun e w' => ∃ g s2, e = .returned (.pointer (some ⟨g, 0, none⟩)) ∧ TxH w1.heap.size g (.slice none 0 0) lX0 s2 w' ∧ Below w1.heap.size w1 w' := fun w1 h1 => new_tx h1 (fun a _ => rfl) 9 18 0 0 64
  replace q9 := Hid.mk q9
  go_upto_region 3 with (first
    | (go_at_call 6; refine H0.out.mono ?_; rintro e w1 ⟨rfl, h1, b1⟩)
    | (go_at_call 9; refine (q9.out _ h1).mono ?_; rintro e w2 ⟨g, s2, rfl, h2, b2⟩))
  have L0 : LsS w g lX0 (.slice (some ⟨w2.heap.size, 0, none⟩) 0 0) (w2.alloc (.cells #[] 49)) (.slice none 0 0) s2 := by
    have B2 : Below w.heap.size w w2 := below3 b1 b2
    exact ⟨(h2.lower b1.size).alloc _, Ow.made w2 B2.size 49 7, fun b _ e => (by cases e), B2.alloc B2.size _, rfl, by decide⟩
  replace L0 := Hid.mk L0
  clear h1 b1 h2 b2 q9 H0
  generalize w2.alloc (.cells #[] 49) = W0 at *
  generalize w2.heap.size = gw at *
  go_loopw [4, 5] (fun vw i wr => ∃ k : Nat, k ≤ n ∧ k ≤ 30 ∧ i = .int .i64 k ∧ (∃ va vn vc, vw = .slice va vn vc) ∧ ∃ v s, LsS w g (runL lX0 f k) vw wr v s) (fun _ i _ => n - (intOf i).toNat)
  case atStart => exact ⟨0, Nat.zero_le _, Nat.zero_le _, rfl, ⟨_, _, _, rfl⟩, _, _, L0.out⟩
  case round =>
    clear L0
    obtain ⟨k, hk, hk30, rfl, ⟨va, vn, vc, rfl⟩, v, s, hs⟩ := hrel
    by_cases hkn : k < n
    · by_cases hk3 : k < 30
      · have hrun : runL lX0 f (k + 1) = (stepL (runL lX0 f k) (f k)).1 := rfl
        obtain ⟨ga, oa, rfl, hgl, ⟨⟨q0, q1, q2, q3, q4, q5⟩, q6⟩, hwf⟩ := (HF.out.below hs.bel) k hkn
        generalize runL lX0 f k = X at *
        generalize f k = c at *
        obtain ⟨⟨r0, r1, r2, r3, r4, r5⟩, str⟩ := c
        simp only at q0 q1 q2 q3 q4 q5 q6
        have hn6 : ((X.cs.map cgR : Rws)).length < 1000000 := by rw [List.length_map]; have := hs.n8; omega
        by_cases hr0 : r0 = 1
        · subst hr0
          have L1 := hs.call (below_al wr (.cells #[.int .i64 1, .int .i64 r1, .int .i64 r2, .int .i64 0, .int .i64 0, .int .i64 0, .string str] 49))
          have bx : BxC (wr.alloc (.cells #[.int .i64 1, .int .i64 r1, .int .i64 r2, .int .i64 0, .int .i64 0, .int .i64 0, .string str] 49)) wr.heap.size 1 r1 r2 0 0 0 str := heap_alloc_new _ _
          have hgx : ∀ b, v.ownBlock = some b → b < wr.heap.size := fun b hb => (hs.tx.ow.lt b hb).2
          have hst := stepL_spec X ⟨(1, r1, r2, r3, r4, r5), str⟩
          have hsp : stepL X ⟨(1, r1, r2, r3, r4, r5), str⟩ = putX X r1 r2 str := by unfold stepL; exact if_pos rfl
          have hnr : nrm ⟨(1, r1, r2, r3, r4, r5), str⟩ = ⟨(1, r1, r2, 0, 0, 0), str⟩ := by unfold nrm; exact if_pos rfl
          rw [hsp] at hst hrun
          rw [hnr] at hst
          have hp := put_any L1.tx L1.bel.size (S := r1) (P := r2) hwf.2.1 ⟨by rw [L1.fi]; omega, by rw [L1.fi]; omega⟩ L1.n8 str
          generalize putX X r1 r2 str = R at *
          obtain ⟨X', E⟩ := R
          simp only at hst hrun
          try unfold rv at hp
          have HS := Hid.mk (And.intro hs (And.intro L1 (And.intro hst hrun)))
          have HG := Hid.mk hgx
          clear hs L1 hsp hnr hrun hgx 
          go_upto_region 8 with fail
          clear q0 q1 q2 q3 q4 q5 q6 hgl hwf
          have hgw : wr.heap.size < (wr.alloc (.cells #[.int .i64 1, .int .i64 r1, .int .i64 r2, .int .i64 0, .int .i64 0, .int .i64 0, .string str] 49)).heap.size := by rw [size_alloc]; omega
          replace hgw := Hid.mk hgw
          generalize wr.alloc (.cells #[.int .i64 1, .int .i64 r1, .int .i64 r2, .int .i64 0, .int .i64 0, .int .i64 0, .string str] 49) = W1 at *
          generalize hGX : wr.heap.size = gx at *
          obtain ⟨q0, q1, q2, q3, q4, q5, q6⟩ := bx.cells
          have HP := Hid.mk (And.intro hp (And.intro bx hGX))
          clear hp bx hGX
          have kB : Hid (∀ w3 v3, Tch W1 w3 g v v3 → BxC w3 gx 1 r1 r2 0 0 0 str) := fun w3 v3 d => (d.block gx hgw.out (fun e => by
            have h1 := HP.out.2.1
            have h2 := HS.out.2.1.tx.box
            unfold BxC at h1
            rw [e, h2] at h1
            simp at h1) (fun e => Nat.lt_irrefl _ (HG.out gx e))).trans HP.out.2.1
          rcases hst.2 with ⟨hE, hcs, h8⟩ | ⟨hE, hXX⟩
          · subst hE
            clear hst
            go_wp2_with (first
              | (go_at_call 12; refine HP.out.1.mono ?_; rintro e w3 ⟨rfl, v3, s3, T3, d3⟩; have bx3 := kB.out w3 v3 d3; obtain ⟨y0, y1, y2, y3, y4, y5, y6⟩ := bx3.cells; obtain ⟨o3, ap3, bel3⟩ := HS.out.2.1.did d3; have hb3 := bel3.size; replace o3 := Hid.mk o3; replace ap3 := Hid.mk ap3; replace bel3 := Hid.mk bel3; replace bx3 := Hid.mk bx3)
              | (at_builtin; refine wp_app ei49 rfl _ _ rfl o3.out hb3 #[.int .i64 1, .int .i64 r1, .int .i64 r2, .int .i64 0, .int .i64 0, .int .i64 0, .string str] rfl rfl rfl (cg_one _ _ _ _ _ _ _) hn6 ?_; intro v4 w4 o4 g4 p4))
            obtain ⟨a4, c4, e4⟩ := o4.form
            refine ⟨⟨k + 1, by omega, by omega, by go_num, ⟨a4, _, c4, e4⟩, v3, s3, ?_⟩, by simp [intOf]; omega⟩
            rw [HS.out.2.2.2]
            exact HS.out.2.1.more T3 d3 hcs HS.out.2.2.1.1.fi h8 o4 g4 p4
          · have hEb : (E == 0) = false := by simpa using hE
            clear hst hE
            go_wp2_with (first
              | (go_at_call 12; refine HP.out.1.mono ?_; rintro e w3 ⟨rfl, v3, s3, T3, d3⟩))
            subst hXX
            refine ⟨⟨k + 1, by omega, by omega, by go_num, ⟨_, _, _, rfl⟩, v3, s3, ?_⟩, by simp [intOf]; omega⟩
            rw [HS.out.2.2.2]
            exact HS.out.2.1.keep T3 d3
        · have hrb : (r0 == 1) = false := by simpa using hr0
          have L1 := hs.call (below_al wr (.cells #[.int .i64 r0, .int .i64 r1, .int .i64 r2, .int .i64 r3, .int .i64 r4, .int .i64 r5, (.string ⟨#[]⟩)] 49))
          have bx : BxC (wr.alloc (.cells #[.int .i64 r0, .int .i64 r1, .int .i64 r2, .int .i64 r3, .int .i64 r4, .int .i64 r5, (.string ⟨#[]⟩)] 49)) wr.heap.size r0 r1 r2 r3 r4 r5 ⟨#[]⟩ := heap_alloc_new _ _
          have hgx : ∀ b, v.ownBlock = some b → b < wr.heap.size := fun b hb => (hs.tx.ow.lt b hb).2
          have hst := stepL_spec X ⟨(r0, r1, r2, r3, r4, r5), str⟩
          have hsp : stepL X ⟨(r0, r1, r2, r3, r4, r5), str⟩ = doX X r0 r1 r2 r3 r4 r5 := by unfold stepL; exact if_neg hr0
          have hnr : nrm ⟨(r0, r1, r2, r3, r4, r5), str⟩ = ⟨(r0, r1, r2, r3, r4, r5), ByteArray.empty⟩ := by unfold nrm; exact if_neg hr0
          rw [hsp] at hst hrun
          rw [hnr] at hst
          have hp := do_tx L1.tx L1.bel.size (K := r0) (S := r1) (P := r2) (A := r3) (T := r4) (N := r5) hwf.2.1
          generalize doX X r0 r1 r2 r3 r4 r5 = R at *
          obtain ⟨X', E⟩ := R
          simp only at hst hrun
          try unfold rv at hp
          have HS := Hid.mk (And.intro hs (And.intro L1 (And.intro hst hrun)))
          have HG := Hid.mk hgx
          clear hs L1 hsp hnr hrun hgx hr0
          go_upto_region 11 with fail
          clear q0 q1 q2 q3 q4 q5 q6 hgl hwf
          have hgw : wr.heap.size < (wr.alloc (.cells #[.int .i64 r0, .int .i64 r1, .int .i64 r2, .int .i64 r3, .int .i64 r4, .int .i64 r5, (.string ⟨#[]⟩)] 49)).heap.size := by rw [size_alloc]; omega
          replace hgw := Hid.mk hgw
          generalize wr.alloc (.cells #[.int .i64 r0, .int .i64 r1, .int .i64 r2, .int .i64 r3, .int .i64 r4, .int .i64 r5, (.string ⟨#[]⟩)] 49) = W1 at *
          generalize hGX : wr.heap.size = gx at *
          obtain ⟨q0, q1, q2, q3, q4, q5, q6⟩ := bx.cells
          have HP := Hid.mk (And.intro hp (And.intro bx hGX))
          clear hp bx hGX
          have kB : Hid (∀ w3 v3, Tch W1 w3 g v v3 → BxC w3 gx r0 r1 r2 r3 r4 r5 ⟨#[]⟩) := fun w3 v3 d => (d.block gx hgw.out (fun e => by
            have h1 := HP.out.2.1
            have h2 := HS.out.2.1.tx.box
            unfold BxC at h1
            rw [e, h2] at h1
            simp at h1) (fun e => Nat.lt_irrefl _ (HG.out gx e))).trans HP.out.2.1
          rcases hst.2 with ⟨hE, hcs, h8⟩ | ⟨hE, hXX⟩
          · subst hE
            clear hst
            go_wp2_with (first
              | (go_at_call 14; refine HP.out.1.mono ?_; rintro e w3 ⟨rfl, v3, s3, T3, d3⟩; have bx3 := kB.out w3 v3 d3; obtain ⟨y0, y1, y2, y3, y4, y5, y6⟩ := bx3.cells; obtain ⟨o3, ap3, bel3⟩ := HS.out.2.1.did d3; have hb3 := bel3.size; replace o3 := Hid.mk o3; replace ap3 := Hid.mk ap3; replace bel3 := Hid.mk bel3; replace bx3 := Hid.mk bx3)
              | (at_builtin; refine wp_app ei49 rfl _ _ rfl o3.out hb3 #[.int .i64 r0, .int .i64 r1, .int .i64 r2, .int .i64 r3, .int .i64 r4, .int .i64 r5, (.string ⟨#[]⟩)] rfl rfl rfl (cg_one _ _ _ _ _ _ _) hn6 ?_; intro v4 w4 o4 g4 p4))
            obtain ⟨a4, c4, e4⟩ := o4.form
            refine ⟨⟨k + 1, by omega, by omega, by go_num, ⟨a4, _, c4, e4⟩, v3, s3, ?_⟩, by simp [intOf]; omega⟩
            rw [HS.out.2.2.2]
            exact HS.out.2.1.more T3 d3 hcs HS.out.2.2.1.1.fi h8 o4 g4 p4
          · have hEb : (E == 0) = false := by simpa using hE
            clear hst hE
            go_wp2_with (first
              | (go_at_call 14; refine HP.out.1.mono ?_; rintro e w3 ⟨rfl, v3, s3, T3, d3⟩))
            subst hXX
            refine ⟨⟨k + 1, by omega, by omega, by go_num, ⟨_, _, _, rfl⟩, v3, s3, ?_⟩, by simp [intOf]; omega⟩
            rw [HS.out.2.2.2]
            exact HS.out.2.1.keep T3 d3
      · have hk2 : k = 30 := by omega
        subst hk2
        have hCh := changes_tx hs.tx hs.n8
        have hn8 := hs.n8
        have how := hs.wa
        have hvn : vn = (runL lX0 f 30).cs.length := by
          obtain ⟨a1, c1, e1⟩ := how.form
          rw [List.length_map] at e1
          cases e1
          rfl
        generalize runL lX0 f 30 = X at *
        subst hvn
        have HS := Hid.mk (And.intro hs how)
        have HC := Hid.mk hCh
        have HA := Hid.mk awake_any
        generalize hcs : X.cs = cs at *
        replace hcs := Hid.mk hcs
        clear hs how hCh
        go_upto_region 17 with (first
          | (go_at_call 15; refine HC.out.mono ?_; rintro e w5 ⟨a5, c5, rfl, o5, b5⟩)
          | (go_at_call 10; refine (HA.out _).mono ?_; rintro e w6 ⟨rfl, b6⟩))
        have how := HS.out.2.call (below3 b5 b6)
        have ho5 := o5.call b6
        have HB := Hid.mk (below3 HS.out.1.bel (below3 b5 b6))
        have HO := Hid.mk (And.intro how ho5)
        clear how ho5 o5 b5 b6 HS HC HA
        go_loopw [8] (fun i wr => (∃ j : Nat, j ≤ cs.length ∧ i = .int .i64 j) ∧ ∃ m, wr = w6.drewN m) (fun i _ => cs.length - (intOf i).toNat)
        case atStart => exact ⟨⟨0, Nat.zero_le _, rfl⟩, 0, rfl⟩
        case round =>
          obtain ⟨⟨j, hj, rfl⟩, m, rfl⟩ := hrel
          by_cases hjl : j < cs.length
          · obtain ⟨g1, rfl, _, hl1, k1⟩ := HO.out.1.at (j := j) (by rw [List.length_map]; exact hjl)
            obtain ⟨g2, rfl, _, hl2, k2⟩ := HO.out.2.at (j := j) (by rw [List.length_map]; exact hjl)
            have er : (cs.map cgR).getD j [] = cgR (cs.getD j ⟨(0, 0, 0, 0, 0, 0), ByteArray.empty⟩) := by simp [List.getD_eq_getElem?_getD, hjl]
            rw [er] at k1 k2
            generalize cs.getD j ⟨(0, 0, 0, 0, 0, 0), ByteArray.empty⟩ = c at *
            obtain ⟨⟨r0, r1, r2, r3, r4, r5⟩, str⟩ := c
            have x0 := k1 0 (by omega)
            have x1 := k1 1 (by omega)
            have x2 := k1 2 (by omega)
            have x3 := k1 3 (by omega)
            have x4 := k1 4 (by omega)
            have x5 := k1 5 (by omega)
            have x6 := k1 6 (by omega)
            have y0 := k2 0 (by omega)
            have y1 := k2 1 (by omega)
            have y2 := k2 2 (by omega)
            have y3 := k2 3 (by omega)
            have y4 := k2 4 (by omega)
            have y5 := k2 5 (by omega)
            have y6 := k2 6 (by omega)
            simp only [cgR, List.getElem?_cons_zero, List.getElem?_cons_succ, Nat.add_zero] at x0 x1 x2 x3 x4 x5 x6 y0 y1 y2 y3 y4 y5 y6
            clear k1 k2 er HO hcs HB
            go_upto_region 19 with fail
            go_region
            all_goals
              go_wp2_with fail
              exact ⟨⟨⟨j + 1, by omega, by go_num⟩, _, rfl⟩, by simp [intOf]; omega⟩
          · have hj2 : j = cs.length := by omega
            subst hj2
            clear HO
            go_wp2_with fail
            go_ret
            exact ⟨rfl, below_drewN HB.out⟩
    · have hk2 : k = n := by omega
      subst hk2
      have hCh := changes_tx hs.tx hs.n8
      have hn8 := hs.n8
      have how := hs.wa
      have hvn : vn = (runL lX0 f k).cs.length := by
        obtain ⟨a1, c1, e1⟩ := how.form
        rw [List.length_map] at e1
        cases e1
        rfl
      generalize runL lX0 f k = X at *
      subst hvn
      have HS := Hid.mk (And.intro hs how)
      have HC := Hid.mk hCh
      have HA := Hid.mk awake_any
      generalize hcs : X.cs = cs at *
      replace hcs := Hid.mk hcs
      clear hs how hCh
      go_upto_region 17 with (first
        | (go_at_call 15; refine HC.out.mono ?_; rintro e w5 ⟨a5, c5, rfl, o5, b5⟩)
        | (go_at_call 10; refine (HA.out _).mono ?_; rintro e w6 ⟨rfl, b6⟩))
      have how := HS.out.2.call (below3 b5 b6)
      have ho5 := o5.call b6
      have HB := Hid.mk (below3 HS.out.1.bel (below3 b5 b6))
      have HO := Hid.mk (And.intro how ho5)
      clear how ho5 o5 b5 b6 HS HC HA
      go_loopw [8] (fun i wr => (∃ j : Nat, j ≤ cs.length ∧ i = .int .i64 j) ∧ ∃ m, wr = w6.drewN m) (fun i _ => cs.length - (intOf i).toNat)
      case atStart => exact ⟨⟨0, Nat.zero_le _, rfl⟩, 0, rfl⟩
      case round =>
        obtain ⟨⟨j, hj, rfl⟩, m, rfl⟩ := hrel
        by_cases hjl : j < cs.length
        · obtain ⟨g1, rfl, _, hl1, k1⟩ := HO.out.1.at (j := j) (by rw [List.length_map]; exact hjl)
          obtain ⟨g2, rfl, _, hl2, k2⟩ := HO.out.2.at (j := j) (by rw [List.length_map]; exact hjl)
          have er : (cs.map cgR).getD j [] = cgR (cs.getD j ⟨(0, 0, 0, 0, 0, 0), ByteArray.empty⟩) := by simp [List.getD_eq_getElem?_getD, hjl]
          rw [er] at k1 k2
          generalize cs.getD j ⟨(0, 0, 0, 0, 0, 0), ByteArray.empty⟩ = c at *
          obtain ⟨⟨r0, r1, r2, r3, r4, r5⟩, str⟩ := c
          have x0 := k1 0 (by omega)
          have x1 := k1 1 (by omega)
          have x2 := k1 2 (by omega)
          have x3 := k1 3 (by omega)
          have x4 := k1 4 (by omega)
          have x5 := k1 5 (by omega)
          have x6 := k1 6 (by omega)
          have y0 := k2 0 (by omega)
          have y1 := k2 1 (by omega)
          have y2 := k2 2 (by omega)
          have y3 := k2 3 (by omega)
          have y4 := k2 4 (by omega)
          have y5 := k2 5 (by omega)
          have y6 := k2 6 (by omega)
          simp only [cgR, List.getElem?_cons_zero, List.getElem?_cons_succ, Nat.add_zero] at x0 x1 x2 x3 x4 x5 x6 y0 y1 y2 y3 y4 y5 y6
          clear k1 k2 er HO hcs HB
          go_upto_region 19 with fail
          go_region
          all_goals
            go_wp2_with fail
            exact ⟨⟨⟨j + 1, by omega, by go_num⟩, _, rfl⟩, by simp [intOf]; omega⟩
        · have hj2 : j = cs.length := by omega
          subst hj2
          clear HO
          go_wp2_with fail
          go_ret
          exact ⟨rfl, below_drewN HB.out⟩
end Go.Proofs.Ytccelipljbkkgaa
