/-
  A page of the model, written: the walk of program where power fails, and all of it. No condition.
-/
import Derived.Test.YtkfkepjegdaadaaMp4
namespace Go.Proofs.Ytkfkepjegdaadaa
open Go Go.RowKit

theorem Md.cutRng {w : World} {S X C} (h : Md w S X C) {i k x : Int} (hc : C.cuts i = some (k, x)) : 0 ≤ x ∧ x < 256 := by
  rw [h.ecut] at hc
  unfold cutsOf at hc
  rw [Option.map_eq_some_iff] at hc
  obtain ⟨a, ha, hb⟩ := hc
  have := h.rng a (List.mem_of_find?_eq_some ha)
  rw [hb] at this
  exact this
set_option maxRecDepth 100000 in
set_option maxHeartbeats 2000000 in
theorem progm_cut {w : World} {S X C} (h : Md w S X C) (hS : ∀ i, S i → i < w.heap.size) (b p : Nat) (hb : b < C.B) (hp : p < C.P) (s : ByteArray) (hs : s.size = C.Z + 32) (hd9 : C.did < 999) (hu : usedB C b p = false) (k0 x0 : Int) (hc : C.cuts (C.did + 1) = some (k0, x0)) : Calls Try.prog 32 #[.agg (mdA X C), .int .i64 b, .int .i64 p, .string s] w fun e w' =>
    ∃ X', e = .returned (.tuple #[.agg (mdA X' (putPg { C with did := C.did + 1, off := true } b p (kp C.Z (tornP C.Z s k0 x0)))), .int .i64 51]) ∧ Md w' S X' (putPg { C with did := C.did + 1, off := true } b p (kp C.Z (tornP C.Z s k0 x0))) ∧ Below w.heap.size w w' ∧ Xn w X X' := by
  have HSZ := Hid.mk hs
  have HX0 := Hid.mk (h.cutRng hc)
  have hgeo := h.geo
  obtain ⟨bp, hbp, hbi, hbl, hb5⟩ := bp_of C b hb ⟨hgeo.2.1, hgeo.2.2.2.1⟩
  have hbl1 : (bp : Int) + C.P ≤ ((C.B * C.P : Nat) : Int) := by omega
  have hb51 : (bp : Int) + C.P ≤ 512 := by omega
  have HM := Hid.mk h
  have HBP := Hid.mk hbp
  have hb1 : (b : Int) < C.B := by omega
  clear h hbp
  go_enter Try.func32, Try.ntmps32
  go_upto_region 2 with fail
  have hM0 := Mw.start HM.out
  generalize (w.alloc (.cells (mdA X C) 39)).alloc (.cells #[.int .i64 0, .int .i64 0, .int .i64 0, .slice none 0 0, .slice none 0 0, .slice none 0 0, .slice none 0 0, .slice none 0 0, .slice none 0 0, .slice none 0 0, .int .i64 0, .bool false] 39) = W0 at *
  obtain ⟨p0, p1, p2, p3, p4, p5, p6, p7, p8, p9, p10, p11⟩ := hM0.own.cells
  have hpg := hM0.md.pg
  have HM0 := Hid.mk hM0
  clear hM0
  go_loopw [10] (fun i wr => ∃ k : Nat, k ≤ C.P ∧ p ≤ k ∧ i = .int .i64 k ∧ wr = W0 ∧ ∀ q, p ≤ q → q < k → C.pg b q = ⟨#[]⟩) (fun i _ => C.P - (intOf i).toNat)
  case atStart => exact ⟨p, by omega, Nat.le_refl _, rfl, rfl, fun q h1 h2 => by omega⟩
  case round =>
    obtain ⟨k, hk, hpk, rfl, rfl, hall⟩ := hrel
    have HA := Hid.mk hall
    clear hall
    by_cases hkP : k < C.P
    · have hk1 : (k : Int) < C.P := by omega
      have ci := hpg (bp + k) (by omega)
      have e1 : (bp + k) / C.P = b ∧ (bp + k) % C.P = k := (page_at hkP).1 (by rw [HBP.out])
      rw [e1.1, e1.2] at ci
      by_cases he : C.pg b k = ⟨#[]⟩
      · rw [he] at ci
        clear e1 hpg
        go_wp2_with fail
        refine ⟨⟨k + 1, by omega, by omega, by go_num, by first | rfl | trivial, fun q h1 h2 => ?_⟩, by simp [intOf]; omega⟩
        by_cases hqi : q = k
        · rw [hqi]
          exact he
        · exact HA.out q h1 (by omega)
      · have hne := notEmpty he
        exact absurd (usedB_false hu k hpk hkP) he
    · have hk1 : ¬ (k : Int) < C.P := by omega
      clear hpg
      obtain ⟨C1, hC1⟩ : ∃ C1 : Ch, C1 = { C with did := C.did + 1, off := true } := ⟨_, rfl⟩
      have hact : actV X C = .tuple #[.agg (mdA X C1), .agg #[.int .i64 (C.did + 1), .int .i64 k0, .int .u8 x0], .bool true, .bool (C.fails (C.did + 1))] := by
        unfold actV actC cutF
        rw [hc, hC1]
        simp only [Option.isSome_some, Bool.or_true]
        rfl
      have hmd1 : Md wr S X C1 := by rw [hC1]; exact (HM0.out.md.did1 hd9).off1 true
      have hCs : C1.B = C.B ∧ C1.P = C.P ∧ C1.Z = C.Z := by rw [hC1]; exact ⟨rfl, rfl, rfl⟩
      generalize hFF : C.fails (C.did + 1) = F at *
      have HC1 := Hid.mk (And.intro hC1 (And.intro hact (And.intro hCs hFF)))
      have HM1 := Hid.mk hmd1
      clear hC1 hact hCs hmd1 hFF
      go_upto_region 7 with (go_at_call 31; refine (act_any HM0.out.md).mono ?_; rintro e w1 ⟨rfl, b1⟩; rw [HC1.out.2.1]; unfold mdA)
      have hM1 := HM0.out.call b1
      have hN := heap_alloc_new w1 (.cells #[.int .i64 C1.B, .int .i64 C1.P, .int .i64 C1.Z, .slice X.ca X.cl.length X.cc, .slice X.fa X.fl.length X.fc, .slice X.ba X.bn X.bc, .slice (some ⟨X.gp, 0, none⟩) (C1.B * C1.P) X.cp, .slice (some ⟨X.gw, 0, none⟩) C1.B X.cw, .slice (some ⟨X.gd, 0, none⟩) C1.B X.cd, .slice (some ⟨X.gm, 0, none⟩) C1.B X.cm, .int .i64 C1.did, .bool C1.off] 39)
      have hK := heap_alloc_new (w1.alloc (.cells #[.int .i64 C1.B, .int .i64 C1.P, .int .i64 C1.Z, .slice X.ca X.cl.length X.cc, .slice X.fa X.fl.length X.fc, .slice X.ba X.bn X.bc, .slice (some ⟨X.gp, 0, none⟩) (C1.B * C1.P) X.cp, .slice (some ⟨X.gw, 0, none⟩) C1.B X.cw, .slice (some ⟨X.gd, 0, none⟩) C1.B X.cd, .slice (some ⟨X.gm, 0, none⟩) C1.B X.cm, .int .i64 C1.did, .bool C1.off] 39)) (.cells #[.int .i64 (C.did + 1), .int .i64 k0, .int .u8 x0] 57)
      rw [size_alloc] at hK
      have hbN := below_two w1 (.cells #[.int .i64 C1.B, .int .i64 C1.P, .int .i64 C1.Z, .slice X.ca X.cl.length X.cc, .slice X.fa X.fl.length X.fc, .slice X.ba X.bn X.bc, .slice (some ⟨X.gp, 0, none⟩) (C1.B * C1.P) X.cp, .slice (some ⟨X.gw, 0, none⟩) C1.B X.cw, .slice (some ⟨X.gd, 0, none⟩) C1.B X.cd, .slice (some ⟨X.gm, 0, none⟩) C1.B X.cm, .int .i64 C1.did, .bool C1.off] 39) (.cells #[.int .i64 (C.did + 1), .int .i64 k0, .int .u8 x0] 57)
      have hN2 : MdAt ((w1.alloc (.cells #[.int .i64 C1.B, .int .i64 C1.P, .int .i64 C1.Z, .slice X.ca X.cl.length X.cc, .slice X.fa X.fl.length X.fc, .slice X.ba X.bn X.bc, .slice (some ⟨X.gp, 0, none⟩) (C1.B * C1.P) X.cp, .slice (some ⟨X.gw, 0, none⟩) C1.B X.cw, .slice (some ⟨X.gd, 0, none⟩) C1.B X.cd, .slice (some ⟨X.gm, 0, none⟩) C1.B X.cm, .int .i64 C1.did, .bool C1.off] 39)).alloc (.cells #[.int .i64 (C.did + 1), .int .i64 k0, .int .u8 x0] 57)) w1.heap.size X C1 := (Below.heap_alloc _ _ _ (by rw [size_alloc]; omega)).trans hN
      have hM2 := hM1.call hbN
      have hmd2 := (HM1.out.call b1).call hbN
      have hlw := hM1.lt
      generalize (w1.alloc (.cells #[.int .i64 C1.B, .int .i64 C1.P, .int .i64 C1.Z, .slice X.ca X.cl.length X.cc, .slice X.fa X.fl.length X.fc, .slice X.ba X.bn X.bc, .slice (some ⟨X.gp, 0, none⟩) (C1.B * C1.P) X.cp, .slice (some ⟨X.gw, 0, none⟩) C1.B X.cw, .slice (some ⟨X.gd, 0, none⟩) C1.B X.cd, .slice (some ⟨X.gm, 0, none⟩) C1.B X.cm, .int .i64 C1.did, .bool C1.off] 39)).alloc (.cells #[.int .i64 (C.did + 1), .int .i64 k0, .int .u8 x0] 57) = W at *
      have HH2 := Hid.mk (And.intro hM2 (And.intro hN2 (And.intro hmd2 hK)))
      have lN : w1.heap.size < W.heap.size := hN2.lt
      obtain ⟨n0, n1, n2, n3, n4, n5, n6, n7, n8, n9, n10, n11⟩ := hN2.cells
      obtain ⟨_, m1, _⟩ := hM2.own.cells
      obtain ⟨j0, j1, j2, _⟩ := z57_cells hK
      have hdd := hmd2.dead b (by rw [HC1.out.2.2.1.1]; exact hb)
      generalize w1.heap.size = N at *
      have hS2 : ∀ i, S i → i < W.heap.size := fun i hi => Nat.lt_of_lt_of_le (hS i hi) hM2.below.size
      have hb2 : (b : Int) < C1.B := by rw [HC1.out.2.2.1.1]; exact hb1
      have HS2 := Hid.mk hS2
      clear hM1 hN hK hbN hN2 hM2 hmd2 b1 hS2 p0 p1 p2 p3 p4 p5 p6 p7 p8 p9 p10 p11
      clear hs hdd
      have hBw : Below w.heap.size w W := HH2.out.1.below
      go_upto_region 8 with fail
      obtain ⟨R0, hR0⟩ : ∃ R0, R0 = tornP C.Z s k0 x0 := ⟨_, rfl⟩
      have htx : ∀ W, Calls Try.prog 42 #[.agg #[.int .i64 (C.did + 1), .int .i64 k0, .int .u8 x0], .string s] W fun e w' => e = .returned (.string R0) ∧ Below W.heap.size W w' := fun W => by
        rw [hR0]
        exact torn_aux (C.did + 1) k0 x0 HX0.out C.Z ⟨by omega, by omega⟩ s HSZ.out W
      have HTx := Hid.mk htx
      have HR0 := Hid.mk hR0
      clear htx hR0
      obtain ⟨C4, hC4⟩ : ∃ C4 : Ch, C4 = putPg C1 b p (kp C.Z R0) := ⟨_, rfl⟩
      have hlay : ∀ w5, Md w5 S X C1 → (∀ i, S i → i < w5.heap.size) → Calls Try.prog 41 #[.agg (mdA X C1), .int .i64 (IntKind.i64.wrap (IntKind.i64.wrap bp + p)), .string R0] w5 fun e w' => ∃ X', e = .returned (.agg (mdA X' C4)) ∧ Md w' S X' C4 ∧ Below w5.heap.size w5 w' ∧ Xn w5 X X' := fun w5 h1 h2 => by
        have h3 := lay_bp h1 h2 (b := b) (p := p) (bp := bp) (by rw [HC1.out.2.2.1.1]; exact hb) (by rw [HC1.out.2.2.1.2.1]; exact hp) (by rw [HC1.out.2.2.1.2.1]; exact HBP.out) R0
        rw [HC1.out.2.2.1.2.2, ← hC4] at h3
        rw [wrap2 bp p (by omega)]
        exact h3
      have HL := Hid.mk hlay
      have HC4 := Hid.mk hC4
      clear hlay hC4
      have hi0 : 0 ≤ C.did + 1 := by have := HM.out.didr; omega
      generalize hI0 : C.did + 1 = I0 at *
      have HI := Hid.mk hI0
      clear hI0
      go_region_with (first | (go_at_call 42; refine (HTx.out _).mono ?_; rintro e w5 ⟨rfl, b5⟩; have hw5 := HH2.out.1.drew.call b5; have hn5 := MdAt.call (w := W.drew) HH2.out.2.1 b5; have hm5 := HH2.out.2.2.1.drew.call b5; obtain ⟨n0, n1, n2, n3, n4, n5, n6, n7, n8, n9, n10, n11⟩ := hn5.cells; obtain ⟨_, m1, _⟩ := hw5.own.cells; have H5 := Hid.mk (And.intro hw5 (And.intro hm5 b5)); clear hw5 hm5 hn5 b5) | (go_at_call 41; refine (HL.out _ H5.out.2.1 (fun i hi => Nat.lt_of_lt_of_le (hS i hi) H5.out.1.below.size)).mono ?_; rintro e w7 ⟨X2, rfl, md7, b7, x7⟩; unfold mdA; have hw7 := H5.out.1.call b7; obtain ⟨q0, q1, q2, q3, q4, q5, q6, q7, q8, q9, q10, q11, qf⟩ := z39_cells hw7.res; have HE := Hid.mk (And.intro hw7 (And.intro md7 (And.intro b7 x7))); clear hw7 md7 b7 x7))
      all_goals
        go_wp2_with fail
        have xB : Xn W X X2 := (Xn.refl W X).trans HE.out.2.2.2 H5.out.2.2.size
        have P1 := putMd HE.out.1.res X2 C4
        have hb7 := P1.below HE.out.1.below (by omega)
        have hm7 := P1.mdX HE.out.2.1 HM.out xB (by omega) (by omega)
        have HG := Hid.mk (And.intro P1.here (And.intro hb7 hm7))
        clear P1 hb7 hm7
        have eW : ((((((((((((w7.setCell ⟨w.heap.size + 1, 0, none⟩ (.int .i64 C4.B)).setCell ⟨w.heap.size + 1, 1, none⟩ (.int .i64 C4.P)).setCell ⟨w.heap.size + 1, 2, none⟩ (.int .i64 C4.Z)).setCell ⟨w.heap.size + 1, 3, none⟩ (.slice X2.ca X2.cl.length X2.cc)).setCell ⟨w.heap.size + 1, 4, none⟩ (.slice X2.fa X2.fl.length X2.fc)).setCell ⟨w.heap.size + 1, 5, none⟩ (.slice X2.ba X2.bn X2.bc)).setCell ⟨w.heap.size + 1, 6, none⟩ (.slice (some ⟨X2.gp, 0, none⟩) (C4.B * C4.P) X2.cp)).setCell ⟨w.heap.size + 1, 7, none⟩ (.slice (some ⟨X2.gw, 0, none⟩) C4.B X2.cw)).setCell ⟨w.heap.size + 1, 8, none⟩ (.slice (some ⟨X2.gd, 0, none⟩) C4.B X2.cd)).setCell ⟨w.heap.size + 1, 9, none⟩ (.slice (some ⟨X2.gm, 0, none⟩) C4.B X2.cm)).setCell ⟨w.heap.size + 1, 10, none⟩ (.int .i64 C4.did)).setCell ⟨w.heap.size + 1, 11, none⟩ (.bool C4.off)) = setMd w7 (w.heap.size + 1) X2 C4 := rfl
        rw [eW]
        clear eW
        generalize setMd w7 (w.heap.size + 1) X2 C4 = W9 at *
        have e2 : C4 = putPg { C with did := C.did + 1, off := true } b p (kp C.Z (tornP C.Z s k0 x0)) := by rw [HC4.out, HC1.out.1, HR0.out, HI.out]
        rw [← e2]
        exact bodyPost_ret (results_mt rfl rfl HG.out.1 rfl) rfl ⟨X2, rfl, HG.out.2.2, HG.out.2.1, xB.mono hBw.size⟩
/-- program, whole -/
theorem progm_any {w : World} {S X C} (h : Md w S X C) (hS : ∀ i, S i → i < w.heap.size) (b p : Nat) (hb : b < C.B) (hp : p < C.P) (s : ByteArray) (hs : s.size = C.Z + 32) (hd9 : C.did < 999) : Calls Try.prog 32 #[.agg (mdA X C), .int .i64 b, .int .i64 p, .string s] w fun e w' =>
    ∃ X', e = .returned (.tuple #[.agg (mdA X' (progM C b p s).1), .int .i64 (progM C b p s).2]) ∧ Md w' S X' (progM C b p s).1 ∧ Below w.heap.size w w' ∧ Xn w X X' := by
  unfold progM
  by_cases hu : usedB C b p = true
  · rw [if_pos hu]
    exact progm_used h hS b p hb hp s hs hu
  · rw [if_neg hu]
    rw [Bool.not_eq_true] at hu
    cases hc : C.cuts (C.did + 1) with
    | some x => exact progm_cut h hS b p hb hp s hs hd9 hu x.1 x.2 hc
    | none =>
      by_cases hf : (C.dead b || C.fails (C.did + 1)) = true
      · simp only
        rw [if_pos hf]
        exact progm_dead h hS b p hb hp s hs hd9 hu hc hf
      · simp only
        rw [if_neg hf]
        rw [Bool.not_eq_true] at hf
        exact progm_ok h hS b p hb hp s hs hd9 hu hc hf
end Go.Proofs.Ytkfkepjegdaadaa
