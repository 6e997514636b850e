/-
  A page of the model, written: the walk of program where the block is dead, or fails. No condition.
-/
import Derived.Test.YtkfkepjegdaadaaMp3
import Derived.Deep.DeepCutAuto
namespace Go.Proofs.Ytkfkepjegdaadaa
open Go Go.RowKit

theorem Mw.set {w0 : World} {S X C} {w : World} (h : Mw w0 S X C w) (h0 : Md w0 S X C) {g k : Nat} (v : Value) (hg : w0.heap.size + 2 ≤ g) : Mw w0 S X C (w.setCell ⟨g, k, none⟩ v) := by
  have hb : Below w0.heap.size w0 (w.setCell ⟨g, k, none⟩ v) := h.below.setCell (by show w0.heap.size ≤ g; omega) _
  exact ⟨hb, (Below.heap_setCell w _ _ _ (by show w0.heap.size ≠ g; omega)).trans h.own, (Below.heap_setCell w _ _ _ (by show w0.heap.size + 1 ≠ g; omega)).trans h.res, h0.call hb⟩
theorem Mw.drew {w0 : World} {S X C} {w : World} (h : Mw w0 S X C w) : Mw w0 S X C w.drew := h.call (Below.refl _ w).drew
theorem Try.info4' : (Try.prog.info? 4).map (fun i => (i.zero, i.size, i.bytes)) = some (some (.bool false), 1, 1) := by kernel_rfl
theorem wrap2 (a b : Nat) (h : a + b ≤ 1000) : IntKind.i64.wrap (IntKind.i64.wrap (a : Int) + b) = (a : Int) + b := by
  rw [IntKind.wrap_i64, IntKind.wrap_i64]
  omega
/-- a model whose row of dead blocks is another -/
theorem Md.newDead {w : World} {S X C} (h : Md w S X C) {g cap b : Nat} (hg : g < w.heap.size) (hs : ¬ S g) (hc : ∀ i, i < C.B → w.cell? ⟨g, i, none⟩ = some (if i = b then .bool true else .bool (C.dead i))) :
    Md w S { X with gd := g, cd := cap } { C with dead := upd C.dead b true } :=
  ⟨h.cut, h.fail, h.ecut, h.efail, h.len, h.rng, h.pg, h.worn, fun i hi => by
    rw [hc i hi]
    unfold upd
    by_cases e : i = b
    · simp [e]
    · simp [e], h.mark, ⟨h.lt.1, h.lt.2.1, hg, h.lt.2.2.2⟩, ⟨h.out.1, h.out.2.1, hs, h.out.2.2.2⟩, h.geo, h.didr, h.wornr⟩
set_option maxRecDepth 100000 in
set_option maxHeartbeats 2000000 in
theorem progm_dead {w : World} {S X C} (h : Md w S X C) (hS : ∀ i, S i → i < w.heap.size) (b p : Nat) (hb : b < C.B) (hp : p < C.P) (s : ByteArray) (hs : s.size = C.Z + 32) (hd9 : C.did < 999) (hu : usedB C b p = false) (hc : C.cuts (C.did + 1) = none) (hfa : (C.dead b || C.fails (C.did + 1)) = true) : Calls Try.prog 32 #[.agg (mdA X C), .int .i64 b, .int .i64 p, .string s] w fun e w' =>
    ∃ X', e = .returned (.tuple #[.agg (mdA X' (putPg { C with did := C.did + 1, dead := upd C.dead b true } b p (rep (C.Z + 32) 0))), .int .i64 53]) ∧ Md w' S X' (putPg { C with did := C.did + 1, dead := upd C.dead b true } b p (rep (C.Z + 32) 0)) ∧ Below w.heap.size w w' ∧ Xn w X X' := by
  have HSZ := Hid.mk hs
  have hgeo := h.geo
  obtain ⟨bp, hbp, hbi, hbl, hb5⟩ := bp_of C b hb ⟨hgeo.2.1, hgeo.2.2.2.1⟩
  have hbl1 : (bp : Int) + C.P ≤ ((C.B * C.P : Nat) : Int) := by omega
  have hb51 : (bp : Int) + C.P ≤ 512 := by omega
  have HM := Hid.mk h
  have HBP := Hid.mk hbp
  have hb1 : (b : Int) < C.B := by omega
  clear h hbp
  go_enter Try.func32, Try.ntmps32
  go_upto_region 2 with fail
  have hM0 := Mw.start HM.out
  generalize (w.alloc (.cells (mdA X C) 39)).alloc (.cells #[.int .i64 0, .int .i64 0, .int .i64 0, .slice none 0 0, .slice none 0 0, .slice none 0 0, .slice none 0 0, .slice none 0 0, .slice none 0 0, .slice none 0 0, .int .i64 0, .bool false] 39) = W0 at *
  obtain ⟨p0, p1, p2, p3, p4, p5, p6, p7, p8, p9, p10, p11⟩ := hM0.own.cells
  have hpg := hM0.md.pg
  have HM0 := Hid.mk hM0
  clear hM0
  go_loopw [10] (fun i wr => ∃ k : Nat, k ≤ C.P ∧ p ≤ k ∧ i = .int .i64 k ∧ wr = W0 ∧ ∀ q, p ≤ q → q < k → C.pg b q = ⟨#[]⟩) (fun i _ => C.P - (intOf i).toNat)
  case atStart => exact ⟨p, by omega, Nat.le_refl _, rfl, rfl, fun q h1 h2 => by omega⟩
  case round =>
    obtain ⟨k, hk, hpk, rfl, rfl, hall⟩ := hrel
    have HA := Hid.mk hall
    clear hall
    by_cases hkP : k < C.P
    · have hk1 : (k : Int) < C.P := by omega
      have ci := hpg (bp + k) (by omega)
      have e1 : (bp + k) / C.P = b ∧ (bp + k) % C.P = k := (page_at hkP).1 (by rw [HBP.out])
      rw [e1.1, e1.2] at ci
      by_cases he : C.pg b k = ⟨#[]⟩
      · rw [he] at ci
        clear e1 hpg
        go_wp2_with fail
        refine ⟨⟨k + 1, by omega, by omega, by go_num, by first | rfl | trivial, fun q h1 h2 => ?_⟩, by simp [intOf]; omega⟩
        by_cases hqi : q = k
        · rw [hqi]
          exact he
        · exact HA.out q h1 (by omega)
      · have hne := notEmpty he
        exact absurd (usedB_false hu k hpk hkP) he
    · have hk1 : ¬ (k : Int) < C.P := by omega
      clear hpg
      obtain ⟨C1, hC1⟩ : ∃ C1 : Ch, C1 = { C with did := C.did + 1 } := ⟨_, rfl⟩
      have hact : actV X C = .tuple #[.agg (mdA X C1), .agg #[.int .i64 0, .int .i64 0, .int .u8 0], .bool false, .bool (C.fails (C.did + 1))] := by
        unfold actV actC cutF
        rw [hc, hC1]
        simp only [Option.isSome_none, Bool.or_false]
        rfl
      have hmd1 : Md wr S X C1 := by rw [hC1]; exact HM0.out.md.did1 hd9
      have hCs : C1.B = C.B ∧ C1.P = C.P ∧ C1.Z = C.Z := by rw [hC1]; exact ⟨rfl, rfl, rfl⟩
      generalize hFF : C.fails (C.did + 1) = F at *
      have HC1 := Hid.mk (And.intro hC1 (And.intro hact (And.intro hCs hFF)))
      have HM1 := Hid.mk hmd1
      clear hC1 hact hCs hmd1 hFF
      go_upto_region 7 with (go_at_call 31; refine (act_any HM0.out.md).mono ?_; rintro e w1 ⟨rfl, b1⟩; rw [HC1.out.2.1]; unfold mdA)
      have hM1 := HM0.out.call b1
      have hN := heap_alloc_new w1 (.cells #[.int .i64 C1.B, .int .i64 C1.P, .int .i64 C1.Z, .slice X.ca X.cl.length X.cc, .slice X.fa X.fl.length X.fc, .slice X.ba X.bn X.bc, .slice (some ⟨X.gp, 0, none⟩) (C1.B * C1.P) X.cp, .slice (some ⟨X.gw, 0, none⟩) C1.B X.cw, .slice (some ⟨X.gd, 0, none⟩) C1.B X.cd, .slice (some ⟨X.gm, 0, none⟩) C1.B X.cm, .int .i64 C1.did, .bool C1.off] 39)
      have hK := heap_alloc_new (w1.alloc (.cells #[.int .i64 C1.B, .int .i64 C1.P, .int .i64 C1.Z, .slice X.ca X.cl.length X.cc, .slice X.fa X.fl.length X.fc, .slice X.ba X.bn X.bc, .slice (some ⟨X.gp, 0, none⟩) (C1.B * C1.P) X.cp, .slice (some ⟨X.gw, 0, none⟩) C1.B X.cw, .slice (some ⟨X.gd, 0, none⟩) C1.B X.cd, .slice (some ⟨X.gm, 0, none⟩) C1.B X.cm, .int .i64 C1.did, .bool C1.off] 39)) (.cells #[.int .i64 0, .int .i64 0, .int .u8 0] 57)
      rw [size_alloc] at hK
      have hbN := below_two w1 (.cells #[.int .i64 C1.B, .int .i64 C1.P, .int .i64 C1.Z, .slice X.ca X.cl.length X.cc, .slice X.fa X.fl.length X.fc, .slice X.ba X.bn X.bc, .slice (some ⟨X.gp, 0, none⟩) (C1.B * C1.P) X.cp, .slice (some ⟨X.gw, 0, none⟩) C1.B X.cw, .slice (some ⟨X.gd, 0, none⟩) C1.B X.cd, .slice (some ⟨X.gm, 0, none⟩) C1.B X.cm, .int .i64 C1.did, .bool C1.off] 39) (.cells #[.int .i64 0, .int .i64 0, .int .u8 0] 57)
      have hN2 : MdAt ((w1.alloc (.cells #[.int .i64 C1.B, .int .i64 C1.P, .int .i64 C1.Z, .slice X.ca X.cl.length X.cc, .slice X.fa X.fl.length X.fc, .slice X.ba X.bn X.bc, .slice (some ⟨X.gp, 0, none⟩) (C1.B * C1.P) X.cp, .slice (some ⟨X.gw, 0, none⟩) C1.B X.cw, .slice (some ⟨X.gd, 0, none⟩) C1.B X.cd, .slice (some ⟨X.gm, 0, none⟩) C1.B X.cm, .int .i64 C1.did, .bool C1.off] 39)).alloc (.cells #[.int .i64 0, .int .i64 0, .int .u8 0] 57)) w1.heap.size X C1 := (Below.heap_alloc _ _ _ (by rw [size_alloc]; omega)).trans hN
      have hM2 := hM1.call hbN
      have hmd2 := (HM1.out.call b1).call hbN
      have hlw := hM1.lt
      generalize (w1.alloc (.cells #[.int .i64 C1.B, .int .i64 C1.P, .int .i64 C1.Z, .slice X.ca X.cl.length X.cc, .slice X.fa X.fl.length X.fc, .slice X.ba X.bn X.bc, .slice (some ⟨X.gp, 0, none⟩) (C1.B * C1.P) X.cp, .slice (some ⟨X.gw, 0, none⟩) C1.B X.cw, .slice (some ⟨X.gd, 0, none⟩) C1.B X.cd, .slice (some ⟨X.gm, 0, none⟩) C1.B X.cm, .int .i64 C1.did, .bool C1.off] 39)).alloc (.cells #[.int .i64 0, .int .i64 0, .int .u8 0] 57) = W at *
      have HH2 := Hid.mk (And.intro hM2 (And.intro hN2 (And.intro hmd2 hK)))
      have lN : w1.heap.size < W.heap.size := hN2.lt
      obtain ⟨n0, n1, n2, n3, n4, n5, n6, n7, n8, n9, n10, n11⟩ := hN2.cells
      obtain ⟨_, m1, _⟩ := hM2.own.cells
      obtain ⟨k0, k1, k2, _⟩ := z57_cells hK
      have hdd := hmd2.dead b (by rw [HC1.out.2.2.1.1]; exact hb)
      generalize w1.heap.size = N at *
      have hS2 : ∀ i, S i → i < W.heap.size := fun i hi => Nat.lt_of_lt_of_le (hS i hi) hM2.below.size
      have hb2 : (b : Int) < C1.B := by rw [HC1.out.2.2.1.1]; exact hb1
      have HS2 := Hid.mk hS2
      clear hM1 hN hK hbN hN2 hM2 hmd2 b1 hS2 p0 p1 p2 p3 p4 p5 p6 p7 p8 p9 p10 p11
      clear hs
      have hBw : Below w.heap.size w W := HH2.out.1.below
      obtain ⟨cap, hcap, W1, hrun, hb3, hs3, hc3, hf3⟩ := append0 (W.alloc (.cells #[] 4)) 37 4 (.bool false) 1 Try.underlying37 Try.info4' (by decide) W.heap.size X.gd C1.B X.cd (fun i => .bool (C1.dead i)) (fun j hj => (HH2.out.2.2.1.alloc _).dead j hj) (by rw [HC1.out.2.2.1.1]; omega) (by rw [HC1.out.2.2.1.1]; omega)
      rw [size_alloc] at hrun hs3 hc3 hf3
      have hb4 : Below W.heap.size W W1 := below3 ((Below.refl _ W).alloc (Nat.le_refl _) _) hb3
      have hL1 : Lr W (W.heap.size + 1) C1.B (fun i => .bool (C1.dead i)) W1 := ⟨hb4, hs3, by omega, hc3, hf3⟩
      have ci := hc3 b (by rw [HC1.out.2.2.1.1]; exact hb)
      have fi := hf3 b
      have HRun := Hid.mk hrun
      have HL1 := Hid.mk hL1
      have hL2 := hL1.set b (.bool true)
      have hN3 := HH2.out.2.1.call hL2.below
      have hM3 := HH2.out.1.call hL2.below
      have HL2 := Hid.mk (And.intro hL2 (And.intro hN3 hM3))
      clear hrun hL1 hL2 hN3 hM3 hb3 hb4 hs3 hc3 hf3
      have hfa2 : C1.dead b = true ∨ (C1.dead b = false ∧ F = true) := by
        rw [HC1.out.1]
        revert hfa
        show (C.dead b || F) = true → C.dead b = true ∨ (C.dead b = false ∧ F = true)
        cases C.dead b <;> simp
      go_upto_region 9 with fail
      go_cut [58] (fun v wx => v = .bool true ∧ W = wx)
      case first =>
        rcases hfa2 with h9 | ⟨h9, h8⟩
        · rw [h9] at hdd
          go_wp2_with fail
          go_meet
          exact ⟨rfl, rfl⟩
        · rw [h9] at hdd
          subst h8
          go_wp2_with fail
          go_meet
          exact ⟨rfl, rfl⟩
      case rest =>
        obtain ⟨rfl, rfl⟩ := hcut
        go_upto_region 11 with (first | (at_builtin; refine wpList_append0 rfl (.tmp 67) (.tmp 69) 37 rfl HRun.out rfl rfl ?_))
        go_upto_region 12 with fail
        generalize W1.setCell ⟨W.heap.size + 1, b, none⟩ (.bool true) = W2 at *
        clear ci fi HL1 HRun n0 n1 n2 n3 n4 n5 n6 n7 n8 n9 n10 n11 k0 k1 k2 hdd m1
        have n8 := HL2.out.2.1.cells.2.2.2.2.2.2.2.2.1
        have f8 := HL2.out.2.1.frozen 8
        have hne : W.heap.size + 1 ≠ N := by omega
        have hM6 : MdAt (W2.setCell ⟨N, 8, none⟩ (.slice (some ⟨W.heap.size + 1, 0, none⟩) C1.B cap)) N { X with gd := W.heap.size + 1, cd := cap } { C1 with dead := upd C1.dead b true } := heap_setCell_same W2 N 8 _ 39 _ HL2.out.2.1
        have hw6 := HL2.out.2.2.set HM.out (g := N) (k := 8) (.slice (some ⟨W.heap.size + 1, 0, none⟩) C1.B cap) (by omega)
        have hm6 : Md (W2.setCell ⟨N, 8, none⟩ (.slice (some ⟨W.heap.size + 1, 0, none⟩) C1.B cap)) S { X with gd := W.heap.size + 1, cd := cap } { C1 with dead := upd C1.dead b true } := by
          have h1 : Md (W2.setCell ⟨N, 8, none⟩ (.slice (some ⟨W.heap.size + 1, 0, none⟩) C1.B cap)) S X C1 := by
            have h2 := hw6.md.did1 hd9
            rw [← HC1.out.1] at h2
            exact h2
          refine h1.newDead (by rw [sc_size]; exact HL2.out.1.lt) (fun hs => by have := HS2.out _ hs; omega) (fun i hi => ?_)
          rw [World.cell?_setCell_other _ _ _ _ (by intro x; have := congrArg Addr.block x; simp only at this; omega), HL2.out.1.cell i hi]
        obtain ⟨X1, hX1⟩ : ∃ X1 : Mx, X1 = { X with gd := W.heap.size + 1, cd := cap } := ⟨_, rfl⟩
        obtain ⟨C3, hC3⟩ : ∃ C3 : Ch, C3 = { C1 with dead := upd C1.dead b true } := ⟨_, rfl⟩
        have hXn : Xn W X X1 := by
          rw [hX1]
          exact ⟨rfl, rfl, rfl, rfl, Or.inl rfl, Or.inl rfl, Or.inr (by show W.heap.size ≤ W.heap.size + 1; omega), Or.inl rfl⟩
        have hsW : W.heap.size ≤ (W2.setCell ⟨N, 8, none⟩ (.slice (some ⟨W.heap.size + 1, 0, none⟩) C1.B cap)).heap.size := by
          rw [sc_size]
          exact HL2.out.1.below.size
        rw [← hX1, ← hC3] at hM6 hm6
        have hCs : C3.B = C.B ∧ C3.P = C.P ∧ C3.Z = C.Z := by rw [hC3]; exact HC1.out.2.2.1
        have HC3 := Hid.mk (And.intro hC3 hCs)
        have HF := Hid.mk (And.intro hM6 (And.intro hw6 (And.intro hm6 hXn)))
        clear hM6 hw6 hm6 hX1 hXn hC3 hCs
        go_upto_region 13 with fail
        generalize W2.setCell ⟨N, 8, none⟩ (.slice (some ⟨W.heap.size + 1, 0, none⟩) C1.B cap) = W6 at *
        clear n8 f8
        obtain ⟨n0, n1, n2, n3, n4, n5, n6, n7, n8, n9, n10, n11⟩ := HF.out.1.cells
        obtain ⟨_, m1, _⟩ := HF.out.2.1.own.cells
        obtain ⟨R0, hR0⟩ : ∃ R0, R0 = rep (C.Z + 32) 0 := ⟨_, rfl⟩
        have htx : ∀ W, Calls Try.prog 18 #[.int .i64 s.size, .int .u8 0] W fun e w' => e = .returned (.string R0) ∧ Below W.heap.size W w' := fun W => by
          rw [hR0, HSZ.out]
          exact text_any (C.Z + 32) (by omega) 0 (by decide) W
        have HTx := Hid.mk htx
        have HR0 := Hid.mk hR0
        clear htx hR0
        obtain ⟨C4, hC4⟩ : ∃ C4 : Ch, C4 = putPg C3 b p R0 := ⟨_, rfl⟩
        have hlay : ∀ w5, Md w5 S X1 C3 → (∀ i, S i → i < w5.heap.size) → Calls Try.prog 41 #[.agg (mdA X1 C3), .int .i64 (IntKind.i64.wrap (IntKind.i64.wrap bp + p)), .string R0] w5 fun e w' => ∃ X', e = .returned (.agg (mdA X' C4)) ∧ Md w' S X' C4 ∧ Below w5.heap.size w5 w' ∧ Xn w5 X1 X' := fun w5 h1 h2 => by
          have h3 := lay_bp h1 h2 (b := b) (p := p) (bp := bp) (by rw [HC3.out.2.1]; exact hb) (by rw [HC3.out.2.2.1]; exact hp) (by rw [HC3.out.2.2.1]; exact HBP.out) R0
          rw [HC3.out.2.2.2, HR0.out, kp_zero, ← HR0.out, ← hC4] at h3
          rw [wrap2 bp p (by omega)]
          exact h3
        have HL := Hid.mk hlay
        have HC4 := Hid.mk hC4
        clear hlay hC4
        go_region_with (first | (go_at_call 18; refine (HTx.out _).mono ?_; rintro e w5 ⟨rfl, b5⟩; have hw5 := HF.out.2.1.drew.call b5; have hn5 := MdAt.call (w := W6.drew) HF.out.1 b5; have hm5 := HF.out.2.2.1.drew.call b5; obtain ⟨n0, n1, n2, n3, n4, n5, n6, n7, n8, n9, n10, n11⟩ := hn5.cells; obtain ⟨_, m1, _⟩ := hw5.own.cells; have H5 := Hid.mk (And.intro hw5 (And.intro hm5 b5)); clear hw5 hm5 hn5 b5) | (go_at_call 41; refine (HL.out _ H5.out.2.1 (fun i hi => Nat.lt_of_lt_of_le (hS i hi) H5.out.1.below.size)).mono ?_; rintro e w7 ⟨X2, rfl, md7, b7, x7⟩; unfold mdA; have hw7 := H5.out.1.call b7; obtain ⟨q0, q1, q2, q3, q4, q5, q6, q7, q8, q9, q10, q11, qf⟩ := z39_cells hw7.res; have HE := Hid.mk (And.intro hw7 (And.intro md7 (And.intro b7 x7))); clear hw7 md7 b7 x7))
        all_goals
          go_wp2_with fail
          have xB : Xn W X X2 := HF.out.2.2.2.trans HE.out.2.2.2 (Nat.le_trans hsW H5.out.2.2.size)
          have P1 := putMd HE.out.1.res X2 C4
          have hb7 := P1.below HE.out.1.below (by omega)
          have hm7 := P1.mdX HE.out.2.1 HM.out xB (by omega) (by omega)
          have HG := Hid.mk (And.intro P1.here (And.intro hb7 hm7))
          clear P1 hb7 hm7
          have eW : ((((((((((((w7.setCell ⟨w.heap.size + 1, 0, none⟩ (.int .i64 C4.B)).setCell ⟨w.heap.size + 1, 1, none⟩ (.int .i64 C4.P)).setCell ⟨w.heap.size + 1, 2, none⟩ (.int .i64 C4.Z)).setCell ⟨w.heap.size + 1, 3, none⟩ (.slice X2.ca X2.cl.length X2.cc)).setCell ⟨w.heap.size + 1, 4, none⟩ (.slice X2.fa X2.fl.length X2.fc)).setCell ⟨w.heap.size + 1, 5, none⟩ (.slice X2.ba X2.bn X2.bc)).setCell ⟨w.heap.size + 1, 6, none⟩ (.slice (some ⟨X2.gp, 0, none⟩) (C4.B * C4.P) X2.cp)).setCell ⟨w.heap.size + 1, 7, none⟩ (.slice (some ⟨X2.gw, 0, none⟩) C4.B X2.cw)).setCell ⟨w.heap.size + 1, 8, none⟩ (.slice (some ⟨X2.gd, 0, none⟩) C4.B X2.cd)).setCell ⟨w.heap.size + 1, 9, none⟩ (.slice (some ⟨X2.gm, 0, none⟩) C4.B X2.cm)).setCell ⟨w.heap.size + 1, 10, none⟩ (.int .i64 C4.did)).setCell ⟨w.heap.size + 1, 11, none⟩ (.bool C4.off)) = setMd w7 (w.heap.size + 1) X2 C4 := rfl
          rw [eW]
          clear eW
          generalize setMd w7 (w.heap.size + 1) X2 C4 = W9 at *
          have e2 : C4 = putPg { C with did := C.did + 1, dead := upd C.dead b true } b p (rep (C.Z + 32) 0) := by rw [HC4.out, HC3.out.1, HC1.out.1, HR0.out]
          rw [← e2]
          exact bodyPost_ret (results_mt rfl rfl HG.out.1 rfl) rfl ⟨X2, rfl, HG.out.2.2, HG.out.2.1, xB.mono hBw.size⟩
end Go.Proofs.Ytkfkepjegdaadaa
