/-
  A page of the model, written: the walk of program where nothing fails. No condition.
-/
import Derived.Test.YtkfkepjegdaadaaMp2
namespace Go.Proofs.Ytkfkepjegdaadaa
open Go Go.RowKit

theorem Md.did1 {w : World} {S X C} (h : Md w S X C) (hd : C.did < 999) : Md w S X { C with did := C.did + 1 } :=
  { h with didr := by have := h.didr; show 0 ≤ C.did + 1 ∧ C.did + 1 < 1000; omega }
theorem Md.off1 {w : World} {S X C} (h : Md w S X C) (o : Bool) : Md w S X { C with off := o } := { h with }
set_option maxRecDepth 100000 in
set_option maxHeartbeats 2000000 in
theorem progm_ok {w : World} {S X C} (h : Md w S X C) (hS : ∀ i, S i → i < w.heap.size) (b p : Nat) (hb : b < C.B) (hp : p < C.P) (s : ByteArray) (_ : s.size = C.Z + 32) (hd9 : C.did < 999) (hu : usedB C b p = false) (hc : C.cuts (C.did + 1) = none) (hfa : (C.dead b || C.fails (C.did + 1)) = false) : Calls Try.prog 32 #[.agg (mdA X C), .int .i64 b, .int .i64 p, .string s] w fun e w' =>
    ∃ X', e = .returned (.tuple #[.agg (mdA X' (putPg { C with did := C.did + 1 } b p (kp C.Z s))), .int .i64 0]) ∧ Md w' S X' (putPg { C with did := C.did + 1 } b p (kp C.Z s)) ∧ Below w.heap.size w w' ∧ Xn w X X' := by
  have hgeo := h.geo
  obtain ⟨bp, hbp, hbi, hbl, hb5⟩ := bp_of C b hb ⟨hgeo.2.1, hgeo.2.2.2.1⟩
  have hbl1 : (bp : Int) + C.P ≤ ((C.B * C.P : Nat) : Int) := by omega
  have hb51 : (bp : Int) + C.P ≤ 512 := by omega
  have HM := Hid.mk h
  have HBP := Hid.mk hbp
  have hb1 : (b : Int) < C.B := by omega
  clear h hbp
  go_enter Try.func32, Try.ntmps32
  go_upto_region 2 with fail
  have hM0 := Mw.start HM.out
  generalize (w.alloc (.cells (mdA X C) 39)).alloc (.cells #[.int .i64 0, .int .i64 0, .int .i64 0, .slice none 0 0, .slice none 0 0, .slice none 0 0, .slice none 0 0, .slice none 0 0, .slice none 0 0, .slice none 0 0, .int .i64 0, .bool false] 39) = W0 at *
  obtain ⟨p0, p1, p2, p3, p4, p5, p6, p7, p8, p9, p10, p11⟩ := hM0.own.cells
  have hpg := hM0.md.pg
  have HM0 := Hid.mk hM0
  clear hM0
  go_loopw [10] (fun i wr => ∃ k : Nat, k ≤ C.P ∧ p ≤ k ∧ i = .int .i64 k ∧ wr = W0 ∧ ∀ q, p ≤ q → q < k → C.pg b q = ⟨#[]⟩) (fun i _ => C.P - (intOf i).toNat)
  case atStart => exact ⟨p, by omega, Nat.le_refl _, rfl, rfl, fun q h1 h2 => by omega⟩
  case round =>
    obtain ⟨k, hk, hpk, rfl, rfl, hall⟩ := hrel
    have HA := Hid.mk hall
    clear hall
    by_cases hkP : k < C.P
    · have hk1 : (k : Int) < C.P := by omega
      have ci := hpg (bp + k) (by omega)
      have e1 : (bp + k) / C.P = b ∧ (bp + k) % C.P = k := (page_at hkP).1 (by rw [HBP.out])
      rw [e1.1, e1.2] at ci
      by_cases he : C.pg b k = ⟨#[]⟩
      · rw [he] at ci
        clear e1 hpg
        go_wp2_with fail
        refine ⟨⟨k + 1, by omega, by omega, by go_num, by first | rfl | trivial, fun q h1 h2 => ?_⟩, by simp [intOf]; omega⟩
        by_cases hqi : q = k
        · rw [hqi]
          exact he
        · exact HA.out q h1 (by omega)
      · have hne := notEmpty he
        exact absurd (usedB_false hu k hpk hkP) he
    · have hk1 : ¬ (k : Int) < C.P := by omega
      clear hpg
      obtain ⟨C1, hC1⟩ : ∃ C1 : Ch, C1 = { C with did := C.did + 1 } := ⟨_, rfl⟩
      have hact : actV X C = .tuple #[.agg (mdA X C1), .agg #[.int .i64 0, .int .i64 0, .int .u8 0], .bool false, .bool (C.fails (C.did + 1))] := by
        unfold actV actC cutF
        rw [hc, hC1]
        simp only [Option.isSome_none, Bool.or_false]
        rfl
      have hmd1 : Md wr S X C1 := by rw [hC1]; exact HM0.out.md.did1 hd9
      have hCs : C1.B = C.B ∧ C1.P = C.P ∧ C1.Z = C.Z := by rw [hC1]; exact ⟨rfl, rfl, rfl⟩
      generalize hFF : C.fails (C.did + 1) = F at *
      have HC1 := Hid.mk (And.intro hC1 (And.intro hact (And.intro hCs hFF)))
      have HM1 := Hid.mk hmd1
      clear hC1 hact hCs hmd1 hFF
      go_upto_region 7 with (go_at_call 31; refine (act_any HM0.out.md).mono ?_; rintro e w1 ⟨rfl, b1⟩; rw [HC1.out.2.1]; unfold mdA)
      have hM1 := HM0.out.call b1
      have hN := heap_alloc_new w1 (.cells #[.int .i64 C1.B, .int .i64 C1.P, .int .i64 C1.Z, .slice X.ca X.cl.length X.cc, .slice X.fa X.fl.length X.fc, .slice X.ba X.bn X.bc, .slice (some ⟨X.gp, 0, none⟩) (C1.B * C1.P) X.cp, .slice (some ⟨X.gw, 0, none⟩) C1.B X.cw, .slice (some ⟨X.gd, 0, none⟩) C1.B X.cd, .slice (some ⟨X.gm, 0, none⟩) C1.B X.cm, .int .i64 C1.did, .bool C1.off] 39)
      have hK := heap_alloc_new (w1.alloc (.cells #[.int .i64 C1.B, .int .i64 C1.P, .int .i64 C1.Z, .slice X.ca X.cl.length X.cc, .slice X.fa X.fl.length X.fc, .slice X.ba X.bn X.bc, .slice (some ⟨X.gp, 0, none⟩) (C1.B * C1.P) X.cp, .slice (some ⟨X.gw, 0, none⟩) C1.B X.cw, .slice (some ⟨X.gd, 0, none⟩) C1.B X.cd, .slice (some ⟨X.gm, 0, none⟩) C1.B X.cm, .int .i64 C1.did, .bool C1.off] 39)) (.cells #[.int .i64 0, .int .i64 0, .int .u8 0] 57)
      rw [size_alloc] at hK
      have hbN := below_two w1 (.cells #[.int .i64 C1.B, .int .i64 C1.P, .int .i64 C1.Z, .slice X.ca X.cl.length X.cc, .slice X.fa X.fl.length X.fc, .slice X.ba X.bn X.bc, .slice (some ⟨X.gp, 0, none⟩) (C1.B * C1.P) X.cp, .slice (some ⟨X.gw, 0, none⟩) C1.B X.cw, .slice (some ⟨X.gd, 0, none⟩) C1.B X.cd, .slice (some ⟨X.gm, 0, none⟩) C1.B X.cm, .int .i64 C1.did, .bool C1.off] 39) (.cells #[.int .i64 0, .int .i64 0, .int .u8 0] 57)
      have hN2 : MdAt ((w1.alloc (.cells #[.int .i64 C1.B, .int .i64 C1.P, .int .i64 C1.Z, .slice X.ca X.cl.length X.cc, .slice X.fa X.fl.length X.fc, .slice X.ba X.bn X.bc, .slice (some ⟨X.gp, 0, none⟩) (C1.B * C1.P) X.cp, .slice (some ⟨X.gw, 0, none⟩) C1.B X.cw, .slice (some ⟨X.gd, 0, none⟩) C1.B X.cd, .slice (some ⟨X.gm, 0, none⟩) C1.B X.cm, .int .i64 C1.did, .bool C1.off] 39)).alloc (.cells #[.int .i64 0, .int .i64 0, .int .u8 0] 57)) w1.heap.size X C1 := (Below.heap_alloc _ _ _ (by rw [size_alloc]; omega)).trans hN
      have hM2 := hM1.call hbN
      have hmd2 := (HM1.out.call b1).call hbN
      have hlw := hM1.lt
      generalize (w1.alloc (.cells #[.int .i64 C1.B, .int .i64 C1.P, .int .i64 C1.Z, .slice X.ca X.cl.length X.cc, .slice X.fa X.fl.length X.fc, .slice X.ba X.bn X.bc, .slice (some ⟨X.gp, 0, none⟩) (C1.B * C1.P) X.cp, .slice (some ⟨X.gw, 0, none⟩) C1.B X.cw, .slice (some ⟨X.gd, 0, none⟩) C1.B X.cd, .slice (some ⟨X.gm, 0, none⟩) C1.B X.cm, .int .i64 C1.did, .bool C1.off] 39)).alloc (.cells #[.int .i64 0, .int .i64 0, .int .u8 0] 57) = W at *
      have HH2 := Hid.mk (And.intro hM2 (And.intro hN2 (And.intro hmd2 hK)))
      have lN : w1.heap.size < W.heap.size := hN2.lt
      obtain ⟨n0, n1, n2, n3, n4, n5, n6, n7, n8, n9, n10, n11⟩ := hN2.cells
      obtain ⟨_, m1, _⟩ := hM2.own.cells
      obtain ⟨k0, k1, k2, _⟩ := z57_cells hK
      have hdd := hmd2.dead b (by rw [HC1.out.2.2.1.1]; exact hb)
      generalize w1.heap.size = N at *
      have hS2 : ∀ i, S i → i < W.heap.size := fun i hi => Nat.lt_of_lt_of_le (hS i hi) hM2.below.size
      have hb2 : (b : Int) < C1.B := by rw [HC1.out.2.2.1.1]; exact hb1
      have HS2 := Hid.mk hS2
      clear hM1 hN hK hbN hN2 hM2 hmd2 b1 hS2 p0 p1 p2 p3 p4 p5 p6 p7 p8 p9 p10 p11
      have hfa1 : C1.dead b = false ∧ F = false := by
        rw [HC1.out.1]
        simpa using hfa
      rw [hfa1.1] at hdd
      have hF := hfa1.2
      clear hfa1
      subst hF
      obtain ⟨C2, hC2⟩ : ∃ C2 : Ch, C2 = putPg C1 b p (kp C1.Z s) := ⟨_, rfl⟩
      have hlay : Calls Try.prog 41 #[.agg (mdA X C1), .int .i64 ((bp : Int) + p), .string s] W fun e w' => ∃ X', e = .returned (.agg (mdA X' C2)) ∧ Md w' S X' C2 ∧ Below W.heap.size W w' ∧ Xn W X X' := by
        rw [hC2]
        exact lay_bp HH2.out.2.2.1 HS2.out (by rw [HC1.out.2.2.1.1]; exact hb) (by rw [HC1.out.2.2.1.2.1]; exact hp) (by rw [HC1.out.2.2.1.2.1]; exact HBP.out) s
      have HL := Hid.mk hlay
      have HC2 := Hid.mk hC2
      clear hlay hC2
      go_wp2_with (go_at_call 41; refine HL.out.mono ?_; rintro e w3 ⟨X2, rfl, md3, bL, xL⟩; unfold mdA; have hMf := HH2.out.1.call bL; obtain ⟨q0, q1, q2, q3, q4, q5, q6, q7, q8, q9, q10, q11, qf⟩ := z39_cells hMf.res; have HE := Hid.mk (And.intro hMf (And.intro md3 (And.intro bL xL))); clear hMf md3 bL xL)
      have P1 := putMd HE.out.1.res X2 C2
      have hb7 := P1.below HE.out.1.below (by omega)
      have hm7 := P1.mdX HE.out.2.1 HM.out (HE.out.2.2.2) (by omega) (by omega)
      have HG := Hid.mk (And.intro P1.here (And.intro hb7 hm7))
      clear P1 hb7 hm7
      have eW : ((((((((((((w3.setCell ⟨w.heap.size + 1, 0, none⟩ (.int .i64 C2.B)).setCell ⟨w.heap.size + 1, 1, none⟩ (.int .i64 C2.P)).setCell ⟨w.heap.size + 1, 2, none⟩ (.int .i64 C2.Z)).setCell ⟨w.heap.size + 1, 3, none⟩ (.slice X2.ca X2.cl.length X2.cc)).setCell ⟨w.heap.size + 1, 4, none⟩ (.slice X2.fa X2.fl.length X2.fc)).setCell ⟨w.heap.size + 1, 5, none⟩ (.slice X2.ba X2.bn X2.bc)).setCell ⟨w.heap.size + 1, 6, none⟩ (.slice (some ⟨X2.gp, 0, none⟩) (C2.B * C2.P) X2.cp)).setCell ⟨w.heap.size + 1, 7, none⟩ (.slice (some ⟨X2.gw, 0, none⟩) C2.B X2.cw)).setCell ⟨w.heap.size + 1, 8, none⟩ (.slice (some ⟨X2.gd, 0, none⟩) C2.B X2.cd)).setCell ⟨w.heap.size + 1, 9, none⟩ (.slice (some ⟨X2.gm, 0, none⟩) C2.B X2.cm)).setCell ⟨w.heap.size + 1, 10, none⟩ (.int .i64 C2.did)).setCell ⟨w.heap.size + 1, 11, none⟩ (.bool C2.off)) = setMd w3 (w.heap.size + 1) X2 C2 := rfl
      rw [eW]
      clear eW
      generalize setMd w3 (w.heap.size + 1) X2 C2 = W9 at *
      have e2 : C2 = putPg { C with did := C.did + 1 } b p (kp C.Z s) := by rw [HC2.out, HC1.out.1]
      rw [← e2]
      exact bodyPost_ret (results_mt rfl rfl HG.out.1 rfl) rfl ⟨X2, rfl, HG.out.2.2, HG.out.2.1, HE.out.2.2.2.mono HH2.out.1.below.size⟩
end Go.Proofs.Ytkfkepjegdaadaa
