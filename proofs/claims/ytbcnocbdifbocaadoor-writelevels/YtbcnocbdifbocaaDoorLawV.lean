/-
  The walk of WriteLevels. Condition: the table's cells hold what the text lays.
-/
import Derived.Test.YtbcnocbdifbocaaDoorLvl
import Derived.Test.YtbcnocbdifbocaaDoorLawF
namespace Go.Proofs.YtbcnocbdifbocaaDoor
open Go Go.RowKit
set_option maxRecDepth 100000

/-- what WriteLevels holds while it writes -/
structure LeS (w : World) (G b p z a0 : Nat) (L0 : Ly) (k : Nat) (wr : World) : Prop where
  ex : ∃ A X m, RunG w G b p z A X wr ∧ Lv X k m ∧ A.a = a0 ∧ A.L = L0
/-- two rows of counts -/
structure LvE (w : World) (ga gb B : Nat) (wn : List Int) (wr : World) : Prop where
  la : ∀ i, i < B → wr.cell? ⟨ga, i, none⟩ = some (.int .i64 (wn.getD i 0))
  lb : ∀ i, i < B → wr.cell? ⟨gb, i, none⟩ = some (.int .i64 (wn.getD i 0))
  below : Below w.heap.size w wr
theorem LvE.drewN {w : World} {ga gb B wn} {wr : World} (h : LvE w ga gb B wn wr) (n : Nat) : LvE w ga gb B wn (wr.drewN n) := ⟨h.la, h.lb, below_drewN h.below⟩
theorem LvE.drew {w : World} {ga gb B wn} {wr : World} (h : LvE w ga gb B wn wr) : LvE w ga gb B wn wr.drew := ⟨h.la, h.lb, h.below.drew⟩
theorem lve_of {w w4 w5 : World} {g gb b n vc B : Nat} {wo : Nat → Int} {wn : List Int} (h : w4.rowIs g 3 b (fun i => .int .i64 (wo i))) (hw : ∀ i, wo i = wn.getD i 0) (h5 : Ints w5 B (.slice (some ⟨gb, 0, none⟩) n vc) wn) (hl : wn.length = b) (bl : Below w.heap.size w w4) (b5 : Below w4.heap.size w4 w5) : LvE w g gb b wn w5 := by
  refine ⟨fun i hi => ?_, fun i hi => ?_, below3 bl b5⟩
  · rw [b5.cell (p := ⟨g, i, none⟩) h.lt, h.cell hi, hw]
  · obtain ⟨g', e, _, _, hc, _⟩ := h5.cell (j := i) (by omega)
    cases e
    exact hc
set_option maxHeartbeats 4000000 in
theorem writeLevels_any (B0 P0 Z0 n : Int) (w : World) (hT : Pg.Tab w) : Calls Tryd.prog 5 #[.agg #[.int .i64 B0, .int .i64 P0, .int .i64 Z0], .int .i64 n] w fun e w' => e = .returned (.bool true) ∧ Below w.heap.size w w' := by
  have B0' := (Below.refl w.heap.size w).alloc (Nat.le_refl _) (.cells #[.int .i64 B0, .int .i64 P0, .int .i64 Z0] 23)
  have hbg := Hid.mk (begun_none B0 P0 Z0 (w.alloc (.cells #[.int .i64 B0, .int .i64 P0, .int .i64 Z0] 23)) (hT.call B0').1)
  have HT := Hid.mk (And.intro B0' (hT.call B0'))
  obtain ⟨N, hN, hN2⟩ := low n 1023 (by omega)
  replace hN : bits .and .i64 n 1023 = (N : Int) := hN
  clear hT B0'
  go_enter Tryd.func5, Tryd.ntmps5
  go_upto_region 4 with (first
    | (go_at_call 9; refine hbg.out.mono ?_; rintro e w1 ⟨b, p, z, A0, rfl, h1⟩; have HR := Hid.mk (And.intro (Run.from HT.out.1 (Run.beg h1 HT.out.2)) h1.geo); clear h1)
    | (go_at_call 10; refine (awake_any _ HR.out.1.tab).mono ?_; rintro e w2 ⟨rfl, b2⟩; replace HR := Hid.mk (And.intro (HR.out.1.call b2) HR.out.2); clear b2))
  have hge := Hid.mk (geom_any HR.out.1.wtr.chip)
  have hg := HR.out.2
  replace hge : Hid (Calls Tryd.prog 11 #[.pointer (some ⟨A0.L.a, 0, none⟩)] w2 fun e w' => e = .returned (.agg #[.int .i64 b, .int .i64 p, .int .i64 z]) ∧ Below w2.heap.size w2 w') := hge
  go_upto_region 5 with (first
    | (go_at_call 11; refine hge.out.mono ?_; rintro e w3 ⟨rfl, b3⟩; have HG := Hid.mk (RunG.start (HR.out.1.call b3) b p z rfl rfl rfl); clear b3))
  generalize w3.heap.size = G at *
  generalize (w3.alloc (.cells #[.int .i64 b, .int .i64 p, .int .i64 z] 23)) = V at *
  have HX := Hid.mk (Lv.beg b p z (by omega))
  obtain ⟨a0, ha0⟩ : ∃ a0, a0 = A0.a := ⟨_, rfl⟩
  obtain ⟨L0, hL0⟩ : ∃ L0, L0 = A0.L := ⟨_, rfl⟩
  rw [← ha0, ← hL0]
  have HA0 := Hid.mk (And.intro ha0 hL0)
  clear hbg HT HR hge ha0 hL0
  go_wp2_with fail
  go_loopw [9] (fun i wr => ∃ k : Nat, i = .int .i64 k ∧ k ≤ N ∧ LeS w G b p z a0 L0 k wr) (fun i _ => N - (intOf i).toNat)
  case atStart => exact ⟨0, rfl, Nat.zero_le _, ⟨A0, _, 0, HG.out, HX.out, HA0.out.1.symm, HA0.out.2.symm⟩⟩
  case round =>
    clear HG HX
    obtain ⟨k, rfl, hk, ⟨A, X, m, RG, LV, ea, eL⟩⟩ := hrel
    have hP := RG.eP
    have hB := RG.eB
    by_cases hlt : k < N
    · have hlt1 : (k : Int) < (N : Int) := by omega
      have htg := Hid.mk (tag_any k (by omega))
      have hap := fun w' (R : RunG w G b p z A X w') => append_plain R.run.wtr R.run.tab LV.fin k (by omega) ⟨#[120]⟩ (by rw [R.eZ]; show 1 ≤ z; omega) (by have := LV.did; omega) (by rw [LV.bd]; simp) (LV.calm.cuts _) (LV.calm.fails _) 0
      rw [ea] at hap
      have HP := Hid.mk hap
      have HR := Hid.mk RG
      have HC := Hid.mk (And.intro LV (And.intro RG.run.wtr.lif.ok (And.intro ea (And.intro eL (And.intro hP hB)))))
      clear hap RG LV ea eL hP hB
      go_upto_region 9 with (first
        | (go_at_call 19; refine (htg.out _).mono ?_; rintro e w4 ⟨rfl, b4⟩; replace HR := Hid.mk (HR.out.call b4); clear b4)
        | (go_at_call 18; refine (HP.out _ HR.out).mono ?_; rintro e w5 ⟨pl, er, X5, A5, rfl, q5, g5, h5, n5⟩; have H5 := Hid.mk (And.intro (HR.out.next h5 n5 g5) (And.intro q5 (And.intro n5.a n5.L))); clear q5 g5 h5 n5))
      obtain ⟨LV, ok, ea, eL, hP, hB⟩ := HC.out
      obtain ⟨RG5, q5, na, nL⟩ := H5.out
      obtain ⟨b5, q, m5, rfl, rfl, LW, -⟩ := LV.wrote ok (by omega) q5
      have hb5 := LW.lt
      have hq5 := LW.qlt
      rw [RG5.eB] at hb5
      rw [RG5.eP] at hq5
      rw [hP] at *
      have hmr := Lf.mul_range (a := (b5 : Int)) (b := (p : Int)) (A := 32) (B := 16) (by omega) (by omega)
      obtain ⟨u, hu⟩ : ∃ u, (b5 : Int) * (p : Int) + (q : Int) = u := ⟨_, rfl⟩
      have hdq : u.tdiv (p : Int) = b5 := by
        rw [← hu, Int.tdiv_eq_ediv_of_nonneg (by omega), Int.add_comm, Int.add_mul_ediv_right _ _ (by omega), Int.ediv_eq_zero_of_lt (by omega) (by omega)]
        omega
      have hdr : u.tmod (p : Int) = q := by
        rw [← hu, Int.tmod_eq_emod_of_nonneg (by omega), Int.add_comm, Int.add_mul_emod_self_right, Int.emod_eq_of_lt (by omega) (by omega)]
      rw [hu] at *
      have hpn : ¬ p = 0 := by omega
      have hpp : (0 : Int) < (p : Int) := by omega
      have hwb : IntKind.i64.wrap (b5 : Int) = b5 := by rw [IntKind.wrap_i64]; omega
      have hws : IntKind.i64.wrap ((p : Int) - 1) = (p : Int) - 1 := by rw [IntKind.wrap_i64]; omega
      replace HR := Hid.mk RG5
      have HLW := Hid.mk LW
      have HE := Hid.mk (And.intro (na.trans ea) (nL.trans eL))
      have c1 := RG5.cells.2.1
      have hS0 : Hid (w5.drew.cell? ⟨G, 1, none⟩ = some (.int .i64 p)) := c1
      clear H5 HC LV ok ea eL q5 na nL RG5 LW htg HP hmr hu
      by_cases hq : q + 1 = p
      · have hqe : (q : Int) = (p : Int) - 1 := by omega
        have her := fun w' (R : RunG w G b p z A5 X5 w') => werase_any R.run.wtr b5 (by rw [R.eB]; exact hb5) (by have := HLW.out.did; omega) (fun i => by rw [HLW.out.worn]; have := HLW.out.most i; have := HLW.out.fin.cnt i; omega) (by have := HLW.out.most b5; have := HLW.out.fin.cnt b5; omega) (by rw [HLW.out.bd]; simp)
        obtain ⟨r1, r2, r3⟩ := HLW.out.erased (by rw [HR.out.eP]; exact hq) HR.out.run.wtr.lif.ok.len HR.out.run.wtr.wlen (by omega)
        rw [r1, r2, HE.out.1] at her
        have HER := Hid.mk her
        have HL3 := Hid.mk r3
        clear her r1 r2 r3 HLW
        go_upto_region 11 with fail
        refine wp_region_held_drew (S := fun w' => w'.cell? ⟨G, 1, none⟩ = some (.int .i64 p)) (by kernel_rfl) hS0.out (fun hHeld => ?_)
        refine wpAnyH_take (i := 0) (oi := { dst := some 47, op := Op.move (Operand.tmp 10), type := 3, pos := "law.go:150", after := #[], guard := none }) (v := ?vv0) rfl (by kernel_rfl) (by kernel_rfl) (by kernel_rfl) (fun _ _ _ h => h) (Or.inl ⟨by rfl, ?yy0⟩) hHeld ?rr0
        case yy0 => (intro w0 hSw; (try dsimp only at hSw); go_simp; try with_reducible rfl)
        try simp only [Act.put, List.setIfInBounds_toArray, List.set_cons_zero, List.set_cons_succ]
        refine wpAnyH_take (i := 1) (oi := { dst := some 48, op := Op.fieldAddr 23 (Operand.tmp 8) 1, type := 0, pos := "law.go:150", after := #[], guard := none }) (v := ?vv1) rfl (by kernel_rfl) (by kernel_rfl) (by kernel_rfl) (fun _ _ _ h => h) (Or.inl ⟨by rfl, ?yy1⟩) hHeld ?rr1
        case yy1 => (intro w0 hSw; (try dsimp only at hSw); go_simp; try with_reducible rfl)
        try simp only [Act.put, List.setIfInBounds_toArray, List.set_cons_zero, List.set_cons_succ]
        refine wpAnyH_take (i := 2) (oi := { dst := some 49, op := Op.load 3 (Operand.tmp 48), type := 3, pos := "law.go:150", after := #[{ on := 1, ground := Ground.data }], guard := none }) (v := ?vv2) rfl (by kernel_rfl) (by kernel_rfl) (by kernel_rfl) (fun _ _ _ h => h) (Or.inl ⟨by rfl, ?yy2⟩) hHeld ?rr2
        case yy2 => (intro w0 hSw; (try dsimp only at hSw); go_simp; try with_reducible rfl)
        try simp only [Act.put, List.setIfInBounds_toArray, List.set_cons_zero, List.set_cons_succ]
        refine wpAnyH_take (i := 3) (oi := { dst := some 50, op := Op.binOp BinOp.rem 3 (Operand.tmp 47) (Operand.tmp 49) 3, type := 3, pos := "law.go:150", after := #[{ on := 0, ground := Ground.data }, { on := 2, ground := Ground.data }], guard := none }) (v := ?vv3) rfl (by kernel_rfl) (by kernel_rfl) (by kernel_rfl) (fun _ _ _ h => h) (Or.inl ⟨by rfl, ?yy3⟩) hHeld ?rr3
        case yy3 => (intro w0 hSw; (try dsimp only at hSw); go_simp; try with_reducible rfl)
        try simp only [Act.put, List.setIfInBounds_toArray, List.set_cons_zero, List.set_cons_succ]
        refine wpAnyH_take (i := 4) (oi := { dst := some 51, op := Op.fieldAddr 23 (Operand.tmp 8) 1, type := 0, pos := "law.go:150", after := #[], guard := none }) (v := ?vv4) rfl (by kernel_rfl) (by kernel_rfl) (by kernel_rfl) (fun _ _ _ h => h) (Or.inl ⟨by rfl, ?yy4⟩) hHeld ?rr4
        case yy4 => (intro w0 hSw; (try dsimp only at hSw); go_simp; try with_reducible rfl)
        try simp only [Act.put, List.setIfInBounds_toArray, List.set_cons_zero, List.set_cons_succ]
        refine wpAnyH_take (i := 5) (oi := { dst := some 52, op := Op.load 3 (Operand.tmp 51), type := 3, pos := "law.go:150", after := #[{ on := 4, ground := Ground.data }], guard := none }) (v := ?vv5) rfl (by kernel_rfl) (by kernel_rfl) (by kernel_rfl) (fun _ _ _ h => h) (Or.inl ⟨by rfl, ?yy5⟩) hHeld ?rr5
        case yy5 => (intro w0 hSw; (try dsimp only at hSw); go_simp; try with_reducible rfl)
        try simp only [Act.put, List.setIfInBounds_toArray, List.set_cons_zero, List.set_cons_succ]
        refine wpAnyH_take (i := 6) (oi := { dst := some 53, op := Op.binOp BinOp.sub 3 (Operand.tmp 52) (Operand.const (Value.int IntKind.i64 1)) 3, type := 3, pos := "law.go:150", after := #[{ on := 5, ground := Ground.data }], guard := none }) (v := ?vv6) rfl (by kernel_rfl) (by kernel_rfl) (by kernel_rfl) (fun _ _ _ h => h) (Or.inl ⟨by rfl, ?yy6⟩) hHeld ?rr6
        case yy6 => (intro w0 hSw; (try dsimp only at hSw); go_simp; try with_reducible rfl)
        try simp only [Act.put, List.setIfInBounds_toArray, List.set_cons_zero, List.set_cons_succ]
        refine wpAnyH_take (i := 7) (oi := { dst := some 54, op := Op.binOp BinOp.eql 3 (Operand.tmp 50) (Operand.tmp 53) 3, type := 4, pos := "law.go:150", after := #[{ on := 3, ground := Ground.data }, { on := 6, ground := Ground.data }], guard := none }) (v := ?vv7) rfl (by kernel_rfl) (by kernel_rfl) (by kernel_rfl) (fun _ _ _ h => h) (Or.inl ⟨by rfl, ?yy7⟩) hHeld ?rr7
        case yy7 => (intro w0 hSw; (try dsimp only at hSw); go_simp; try with_reducible rfl)
        try simp only [Act.put, List.setIfInBounds_toArray, List.set_cons_zero, List.set_cons_succ]
        refine wpAnyH_take (i := 8) (oi := { dst := some 55, op := Op.move (Operand.tmp 54), type := 4, pos := "law.go:150", after := #[{ on := 7, ground := Ground.data }], guard := none }) (v := ?vv8) rfl (by kernel_rfl) (by kernel_rfl) (by kernel_rfl) (fun _ _ _ h => h) (Or.inl ⟨by rfl, ?yy8⟩) hHeld ?rr8
        case yy8 => (intro w0 hSw; (try dsimp only at hSw); go_simp; try with_reducible rfl)
        try simp only [Act.put, List.setIfInBounds_toArray, List.set_cons_zero, List.set_cons_succ]
        refine wpAnyH_take (i := 9) (oi := { dst := some 56, op := Op.move (Operand.tmp 6), type := 27, pos := "law.go:150", after := #[{ on := 8, ground := Ground.guard }], guard := some (8, true) }) (v := ?vv9) rfl (by kernel_rfl) (by kernel_rfl) (by kernel_rfl) (fun _ _ _ h => h) (Or.inl ⟨by rfl, ?yy9⟩) hHeld ?rr9
        case yy9 => (intro w0 hSw; (try dsimp only at hSw); go_simp; try with_reducible rfl)
        try simp only [Act.put, List.setIfInBounds_toArray, List.set_cons_zero, List.set_cons_succ]
        refine wpAnyH_take (i := 10) (oi := { dst := some 57, op := Op.move (Operand.tmp 10), type := 3, pos := "law.go:150", after := #[{ on := 8, ground := Ground.guard }], guard := some (8, true) }) (v := ?vv10) rfl (by kernel_rfl) (by kernel_rfl) (by kernel_rfl) (fun _ _ _ h => h) (Or.inl ⟨by rfl, ?yy10⟩) hHeld ?rr10
        case yy10 => (intro w0 hSw; (try dsimp only at hSw); go_simp; try with_reducible rfl)
        try simp only [Act.put, List.setIfInBounds_toArray, List.set_cons_zero, List.set_cons_succ]
        refine wpAnyH_take (i := 11) (oi := { dst := some 58, op := Op.fieldAddr 23 (Operand.tmp 8) 1, type := 0, pos := "law.go:150", after := #[{ on := 8, ground := Ground.guard }], guard := some (8, true) }) (v := ?vv11) rfl (by kernel_rfl) (by kernel_rfl) (by kernel_rfl) (fun _ _ _ h => h) (Or.inl ⟨by rfl, ?yy11⟩) hHeld ?rr11
        case yy11 => (intro w0 hSw; (try dsimp only at hSw); go_simp; try with_reducible rfl)
        try simp only [Act.put, List.setIfInBounds_toArray, List.set_cons_zero, List.set_cons_succ]
        refine wpAnyH_take (i := 12) (oi := { dst := some 59, op := Op.load 3 (Operand.tmp 58), type := 3, pos := "law.go:150", after := #[{ on := 11, ground := Ground.data }, { on := 8, ground := Ground.guard }], guard := some (8, true) }) (v := ?vv12) rfl (by kernel_rfl) (by kernel_rfl) (by kernel_rfl) (fun _ _ _ h => h) (Or.inl ⟨by rfl, ?yy12⟩) hHeld ?rr12
        case yy12 => (intro w0 hSw; (try dsimp only at hSw); go_simp; try with_reducible rfl)
        try simp only [Act.put, List.setIfInBounds_toArray, List.set_cons_zero, List.set_cons_succ]
        refine wpAnyH_take (i := 13) (oi := { dst := some 60, op := Op.binOp BinOp.quo 3 (Operand.tmp 57) (Operand.tmp 59) 3, type := 3, pos := "law.go:150", after := #[{ on := 10, ground := Ground.data }, { on := 12, ground := Ground.data }, { on := 8, ground := Ground.guard }], guard := some (8, true) }) (v := ?vv13) rfl (by kernel_rfl) (by kernel_rfl) (by kernel_rfl) (fun _ _ _ h => h) (Or.inl ⟨by rfl, ?yy13⟩) hHeld ?rr13
        case yy13 => (intro w0 hSw; (try dsimp only at hSw); go_simp; try with_reducible rfl)
        try simp only [Act.put, List.setIfInBounds_toArray, List.set_cons_zero, List.set_cons_succ]
        refine wpAnyH_ready (rs := [14]) (by kernel_rfl) (by simp) ?_
        refine AllReadyH.cons (o := { dst := some 61, op := Op.call { callee := Callee.value (Operand.func 15), args := #[Operand.tmp 56, Operand.tmp 60], argTypes := #[27, 3] }, type := 43, pos := "law.go:150", after := #[{ on := 9, ground := Ground.data }, { on := 13, ground := Ground.data }, { on := 8, ground := Ground.chain }, { on := 8, ground := Ground.guard }], guard := some (8, true) }) rfl (fun K hK => ?_) AllReadyH.nil
        go_simp
        go_at_call 15
        refine (HER.out _ HR.out.drew).mono ?_
        rintro e w6 ⟨rfl, A6, h6, n6⟩
        have H6 := Hid.mk (And.intro (HR.out.drew.next h6 n6 ⟨rfl, rfl, rfl⟩) (And.intro n6.a n6.L))
        clear h6 n6 hHeld
        refine hK.out _ _ H6.out.1.cells.2.1 (fun hHeld => ?_)
        clear hK K
        try simp only [Act.put, List.setIfInBounds_toArray, List.set_cons_zero, List.set_cons_succ]
        refine wpAnyH_take (i := 15) (oi := { dst := some 62, op := Op.binOp BinOp.neq 43 (Operand.tmp 61) (Operand.const (Value.int IntKind.i64 0)) 43, type := 4, pos := "law.go:150", after := #[{ on := 14, ground := Ground.data }, { on := 8, ground := Ground.guard }], guard := some (8, true) }) (v := ?vv15) rfl (by kernel_rfl) (by kernel_rfl) (by kernel_rfl) (fun _ _ _ h => h) (Or.inl ⟨by rfl, ?yy15⟩) hHeld ?rr15
        case yy15 => (intro w0 hSw; (try dsimp only at hSw); go_simp; try with_reducible rfl)
        try simp only [Act.put, List.setIfInBounds_toArray, List.set_cons_zero, List.set_cons_succ]
        refine wpAnyH_take (i := 16) (oi := { dst := some 63, op := Op.pick (Operand.tmp 55) (Operand.tmp 62) (Operand.const (Value.bool false)), type := 4, pos := "law.go:150", after := #[{ on := 8, ground := Ground.data }, { on := 15, ground := Ground.data }], guard := none }) (v := ?vv16) rfl (by kernel_rfl) (by kernel_rfl) (by kernel_rfl) (fun _ _ _ h => h) (Or.inl ⟨by rfl, ?yy16⟩) hHeld ?rr16
        case yy16 => (intro w0 hSw; (try dsimp only at hSw); go_simp; try with_reducible rfl)
        try simp only [Act.put, List.setIfInBounds_toArray, List.set_cons_zero, List.set_cons_succ]
        refine wpAnyH_done (by kernel_rfl) ?_ _
        go_wp2_with fail
        exact ⟨⟨k + 1, by go_num, by omega, ⟨A6, _, m5, H6.out.1, HL3.out, H6.out.2.1.trans HE.out.1, H6.out.2.2.trans HE.out.2⟩⟩, by simp [intOf]; omega⟩
      · have hqe : ¬ (q : Int) = (p : Int) - 1 := by omega
        have hqd : ((q : Int) == (p : Int) - 1) = false := by rw [beq_eq_false_iff_ne]; exact hqe
        have HL3 := Hid.mk (HLW.out.stays (by rw [HR.out.eP]; exact hq))
        clear HLW
        go_upto_region 11 with fail
        refine wp_region_held_drew (S := fun w' => w'.cell? ⟨G, 1, none⟩ = some (.int .i64 p)) (by kernel_rfl) hS0.out (fun hHeld => ?_)
        refine wpAnyH_take (i := 0) (oi := { dst := some 47, op := Op.move (Operand.tmp 10), type := 3, pos := "law.go:150", after := #[], guard := none }) (v := ?vvb0) rfl (by kernel_rfl) (by kernel_rfl) (by kernel_rfl) (fun _ _ _ h => h) (Or.inl ⟨by rfl, ?yyb0⟩) hHeld ?rrb0
        case yyb0 => (intro w0 hSw; (try dsimp only at hSw); go_simp; try with_reducible rfl)
        try simp only [Act.put, List.setIfInBounds_toArray, List.set_cons_zero, List.set_cons_succ]
        refine wpAnyH_take (i := 1) (oi := { dst := some 48, op := Op.fieldAddr 23 (Operand.tmp 8) 1, type := 0, pos := "law.go:150", after := #[], guard := none }) (v := ?vvb1) rfl (by kernel_rfl) (by kernel_rfl) (by kernel_rfl) (fun _ _ _ h => h) (Or.inl ⟨by rfl, ?yyb1⟩) hHeld ?rrb1
        case yyb1 => (intro w0 hSw; (try dsimp only at hSw); go_simp; try with_reducible rfl)
        try simp only [Act.put, List.setIfInBounds_toArray, List.set_cons_zero, List.set_cons_succ]
        refine wpAnyH_take (i := 2) (oi := { dst := some 49, op := Op.load 3 (Operand.tmp 48), type := 3, pos := "law.go:150", after := #[{ on := 1, ground := Ground.data }], guard := none }) (v := ?vvb2) rfl (by kernel_rfl) (by kernel_rfl) (by kernel_rfl) (fun _ _ _ h => h) (Or.inl ⟨by rfl, ?yyb2⟩) hHeld ?rrb2
        case yyb2 => (intro w0 hSw; (try dsimp only at hSw); go_simp; try with_reducible rfl)
        try simp only [Act.put, List.setIfInBounds_toArray, List.set_cons_zero, List.set_cons_succ]
        refine wpAnyH_take (i := 3) (oi := { dst := some 50, op := Op.binOp BinOp.rem 3 (Operand.tmp 47) (Operand.tmp 49) 3, type := 3, pos := "law.go:150", after := #[{ on := 0, ground := Ground.data }, { on := 2, ground := Ground.data }], guard := none }) (v := ?vvb3) rfl (by kernel_rfl) (by kernel_rfl) (by kernel_rfl) (fun _ _ _ h => h) (Or.inl ⟨by rfl, ?yyb3⟩) hHeld ?rrb3
        case yyb3 => (intro w0 hSw; (try dsimp only at hSw); go_simp; try with_reducible rfl)
        try simp only [Act.put, List.setIfInBounds_toArray, List.set_cons_zero, List.set_cons_succ]
        refine wpAnyH_take (i := 4) (oi := { dst := some 51, op := Op.fieldAddr 23 (Operand.tmp 8) 1, type := 0, pos := "law.go:150", after := #[], guard := none }) (v := ?vvb4) rfl (by kernel_rfl) (by kernel_rfl) (by kernel_rfl) (fun _ _ _ h => h) (Or.inl ⟨by rfl, ?yyb4⟩) hHeld ?rrb4
        case yyb4 => (intro w0 hSw; (try dsimp only at hSw); go_simp; try with_reducible rfl)
        try simp only [Act.put, List.setIfInBounds_toArray, List.set_cons_zero, List.set_cons_succ]
        refine wpAnyH_take (i := 5) (oi := { dst := some 52, op := Op.load 3 (Operand.tmp 51), type := 3, pos := "law.go:150", after := #[{ on := 4, ground := Ground.data }], guard := none }) (v := ?vvb5) rfl (by kernel_rfl) (by kernel_rfl) (by kernel_rfl) (fun _ _ _ h => h) (Or.inl ⟨by rfl, ?yyb5⟩) hHeld ?rrb5
        case yyb5 => (intro w0 hSw; (try dsimp only at hSw); go_simp; try with_reducible rfl)
        try simp only [Act.put, List.setIfInBounds_toArray, List.set_cons_zero, List.set_cons_succ]
        refine wpAnyH_take (i := 6) (oi := { dst := some 53, op := Op.binOp BinOp.sub 3 (Operand.tmp 52) (Operand.const (Value.int IntKind.i64 1)) 3, type := 3, pos := "law.go:150", after := #[{ on := 5, ground := Ground.data }], guard := none }) (v := ?vvb6) rfl (by kernel_rfl) (by kernel_rfl) (by kernel_rfl) (fun _ _ _ h => h) (Or.inl ⟨by rfl, ?yyb6⟩) hHeld ?rrb6
        case yyb6 => (intro w0 hSw; (try dsimp only at hSw); go_simp; try with_reducible rfl)
        try simp only [Act.put, List.setIfInBounds_toArray, List.set_cons_zero, List.set_cons_succ]
        refine wpAnyH_take (i := 7) (oi := { dst := some 54, op := Op.binOp BinOp.eql 3 (Operand.tmp 50) (Operand.tmp 53) 3, type := 4, pos := "law.go:150", after := #[{ on := 3, ground := Ground.data }, { on := 6, ground := Ground.data }], guard := none }) (v := ?vvb7) rfl (by kernel_rfl) (by kernel_rfl) (by kernel_rfl) (fun _ _ _ h => h) (Or.inl ⟨by rfl, ?yyb7⟩) hHeld ?rrb7
        case yyb7 => (intro w0 hSw; (try dsimp only at hSw); go_simp; try with_reducible rfl)
        try simp only [Act.put, List.setIfInBounds_toArray, List.set_cons_zero, List.set_cons_succ]
        refine wpAnyH_take (i := 8) (oi := { dst := some 55, op := Op.move (Operand.tmp 54), type := 4, pos := "law.go:150", after := #[{ on := 7, ground := Ground.data }], guard := none }) (v := ?vvb8) rfl (by kernel_rfl) (by kernel_rfl) (by kernel_rfl) (fun _ _ _ h => h) (Or.inl ⟨by rfl, ?yyb8⟩) hHeld ?rrb8
        case yyb8 => (intro w0 hSw; (try dsimp only at hSw); go_simp; try with_reducible rfl)
        try simp only [Act.put, List.setIfInBounds_toArray, List.set_cons_zero, List.set_cons_succ]
        refine wpAnyH_take (i := 9) (oi := { dst := some 56, op := Op.move (Operand.tmp 6), type := 27, pos := "law.go:150", after := #[{ on := 8, ground := Ground.guard }], guard := some (8, true) }) (v := undef) rfl (by kernel_rfl) (by kernel_rfl) (by kernel_rfl) (fun _ _ _ h => h) (Or.inr ⟨by rfl, rfl⟩) hHeld ?_
        try simp only [Act.put, List.setIfInBounds_toArray, List.set_cons_zero, List.set_cons_succ]
        refine wpAnyH_take (i := 10) (oi := { dst := some 57, op := Op.move (Operand.tmp 10), type := 3, pos := "law.go:150", after := #[{ on := 8, ground := Ground.guard }], guard := some (8, true) }) (v := undef) rfl (by kernel_rfl) (by kernel_rfl) (by kernel_rfl) (fun _ _ _ h => h) (Or.inr ⟨by rfl, rfl⟩) hHeld ?_
        try simp only [Act.put, List.setIfInBounds_toArray, List.set_cons_zero, List.set_cons_succ]
        refine wpAnyH_take (i := 11) (oi := { dst := some 58, op := Op.fieldAddr 23 (Operand.tmp 8) 1, type := 0, pos := "law.go:150", after := #[{ on := 8, ground := Ground.guard }], guard := some (8, true) }) (v := undef) rfl (by kernel_rfl) (by kernel_rfl) (by kernel_rfl) (fun _ _ _ h => h) (Or.inr ⟨by rfl, rfl⟩) hHeld ?_
        try simp only [Act.put, List.setIfInBounds_toArray, List.set_cons_zero, List.set_cons_succ]
        refine wpAnyH_take (i := 12) (oi := { dst := some 59, op := Op.load 3 (Operand.tmp 58), type := 3, pos := "law.go:150", after := #[{ on := 11, ground := Ground.data }, { on := 8, ground := Ground.guard }], guard := some (8, true) }) (v := undef) rfl (by kernel_rfl) (by kernel_rfl) (by kernel_rfl) (fun _ _ _ h => h) (Or.inr ⟨by rfl, rfl⟩) hHeld ?_
        try simp only [Act.put, List.setIfInBounds_toArray, List.set_cons_zero, List.set_cons_succ]
        refine wpAnyH_take (i := 13) (oi := { dst := some 60, op := Op.binOp BinOp.quo 3 (Operand.tmp 57) (Operand.tmp 59) 3, type := 3, pos := "law.go:150", after := #[{ on := 10, ground := Ground.data }, { on := 12, ground := Ground.data }, { on := 8, ground := Ground.guard }], guard := some (8, true) }) (v := undef) rfl (by kernel_rfl) (by kernel_rfl) (by kernel_rfl) (fun _ _ _ h => h) (Or.inr ⟨by rfl, rfl⟩) hHeld ?_
        try simp only [Act.put, List.setIfInBounds_toArray, List.set_cons_zero, List.set_cons_succ]
        refine wpAnyH_take (i := 14) (oi := { dst := some 61, op := Op.call { callee := Callee.value (Operand.func 15), args := #[Operand.tmp 56, Operand.tmp 60], argTypes := #[27, 3] }, type := 43, pos := "law.go:150", after := #[{ on := 9, ground := Ground.data }, { on := 13, ground := Ground.data }, { on := 8, ground := Ground.chain }, { on := 8, ground := Ground.guard }], guard := some (8, true) }) (v := undef) rfl (by kernel_rfl) (by kernel_rfl) (by kernel_rfl) (fun _ _ _ h => h) (Or.inr ⟨by rfl, rfl⟩) hHeld ?_
        try simp only [Act.put, List.setIfInBounds_toArray, List.set_cons_zero, List.set_cons_succ]
        refine wpAnyH_take (i := 15) (oi := { dst := some 62, op := Op.binOp BinOp.neq 43 (Operand.tmp 61) (Operand.const (Value.int IntKind.i64 0)) 43, type := 4, pos := "law.go:150", after := #[{ on := 14, ground := Ground.data }, { on := 8, ground := Ground.guard }], guard := some (8, true) }) (v := undef) rfl (by kernel_rfl) (by kernel_rfl) (by kernel_rfl) (fun _ _ _ h => h) (Or.inr ⟨by rfl, rfl⟩) hHeld ?_
        try simp only [Act.put, List.setIfInBounds_toArray, List.set_cons_zero, List.set_cons_succ]
        refine wpAnyH_take (i := 16) (oi := { dst := some 63, op := Op.pick (Operand.tmp 55) (Operand.tmp 62) (Operand.const (Value.bool false)), type := 4, pos := "law.go:150", after := #[{ on := 8, ground := Ground.data }, { on := 15, ground := Ground.data }], guard := none }) (v := ?vvb16) rfl (by kernel_rfl) (by kernel_rfl) (by kernel_rfl) (fun _ _ _ h => h) (Or.inl ⟨by rfl, ?yyb16⟩) hHeld ?rrb16
        case yyb16 => (intro w0 hSw; (try dsimp only at hSw); go_simp; try with_reducible rfl)
        try simp only [Act.put, List.setIfInBounds_toArray, List.set_cons_zero, List.set_cons_succ]
        refine wpAnyH_done (by kernel_rfl) ?_ _
        go_wp2_with fail
        exact ⟨⟨k + 1, by go_num, by omega, ⟨A5, _, m5, HR.out.drew, HL3.out, HE.out.1, HE.out.2⟩⟩, by simp [intOf]; omega⟩
    · have hlt1 : ¬ (k : Int) < (N : Int) := by omega
      have hcw := Hid.mk (worn_any RG.run.wtr.chip)
      rw [eL, hB] at hcw
      have hww := fun w' (R : Run w A X w') => wworn_any R.wtr
      rw [ea] at hww
      have HWW := Hid.mk hww
      have HR := Hid.mk RG.run
      have hlen := RG.run.wtr.wlen
      rw [hB] at hlen
      have hlv := fun i (hi : i < b) => LV.level i (by rw [hB]; exact hi)
      have HLV := Hid.mk (And.intro LV.worn (And.intro LV.most (And.intro LV.fin.cnt (And.intro hlen hlv))))
      clear hww RG LV ea eL hP hB hlen hlv
      go_upto_region 15 with (first
        | (go_at_call 24; refine hcw.out.mono ?_; rintro e w4 ⟨rfl, r4, b4⟩; have H4 := Hid.mk (And.intro r4 (HR.out.call b4)); clear r4 b4)
        | (go_at_call 25; refine (HWW.out _ H4.out.2).mono ?_; rintro e w5 ⟨v5, rfl, h5, b5⟩; obtain ⟨va, vc, rfl⟩ := h5.form; rw [HLV.out.2.2.2.1] at h5 ⊢; obtain ⟨gb, rfl, -⟩ := h5.cell (j := 0) (by rw [HLV.out.2.2.2.1]; omega); have H5 : Hid (LvE w wr.heap.size gb b X.wn w5) := lve_of H4.out.1 HLV.out.1 h5 HLV.out.2.2.2.1 H4.out.2.below b5; clear h5 b5))
      generalize wr.heap.size = ga at *
      clear hcw HWW HR H4
      go_wp2_with fail
      go_loopw [12, 13, 16] (fun lo hi i wr => ∃ (j : Nat) (x y : Int), j ≤ b ∧ i = .int .i64 j ∧ lo = .int .i64 x ∧ hi = .int .i64 y ∧ (j = 0 ∧ x = 1073741824 ∧ y = 0 ∨ 0 < j ∧ m ≤ x ∧ x ≤ m + 1 ∧ m ≤ y ∧ y ≤ m + 1) ∧ LvE w ga gb b X.wn wr) (fun _ _ i _ => b - (intOf i).toNat)
      case atStart => exact ⟨0, 1073741824, 0, Nat.zero_le _, rfl, rfl, rfl, .inl ⟨rfl, rfl, rfl⟩, H5.out⟩
      case round =>
        clear H5
        obtain ⟨j, x, y0, hj, rfl, rfl, rfl, hxy, hE⟩ := hrel
        by_cases hjb : j < b
        · have hjb1 : (j : Int) < (b : Int) := by omega
          have cA := hE.la j hjb
          have cB := hE.lb j hjb
          obtain ⟨l1, l2⟩ := HLV.out.2.2.2.2 j hjb
          have l3 := HLV.out.2.1 j
          have l4 := (HLV.out.2.2.1 j).1
          generalize X.wn.getD j 0 = y at *
          have HE := Hid.mk hE
          clear hE
          go_upto_region 18 with fail
          go_region
          go_upto_region 20 with fail
          have hS2 : Hid (wr.drew.drew.cell? ⟨ga, j, none⟩ = some (.int .i64 y)) := cA
          refine wp_region_held_drew (S := fun w' => w'.cell? ⟨ga, j, none⟩ = some (.int .i64 y)) (by kernel_rfl) hS2.out (fun hHeld => ?_)
          refine wpAnyH_take (i := 0) (oi := { dst := some 83, op := Op.move (Operand.tmp 12), type := 3, pos := "law.go:160", after := #[], guard := none }) (v := ?vvc0) rfl (by kernel_rfl) (by kernel_rfl) (by kernel_rfl) (fun _ _ _ h => h) (Or.inl ⟨by rfl, ?yyc0⟩) hHeld ?rrc0
          case yyc0 => (intro w0 hSw; (try dsimp only at hSw); go_simp; try with_reducible rfl)
          try simp only [Act.put, List.setIfInBounds_toArray, List.set_cons_zero, List.set_cons_succ]
          refine wpAnyH_take (i := 1) (oi := { dst := some 84, op := Op.move (Operand.tmp 14), type := 24, pos := "law.go:160", after := #[], guard := none }) (v := ?vvc1) rfl (by kernel_rfl) (by kernel_rfl) (by kernel_rfl) (fun _ _ _ h => h) (Or.inl ⟨by rfl, ?yyc1⟩) hHeld ?rrc1
          case yyc1 => (intro w0 hSw; (try dsimp only at hSw); go_simp; try with_reducible rfl)
          try simp only [Act.put, List.setIfInBounds_toArray, List.set_cons_zero, List.set_cons_succ]
          refine wpAnyH_take (i := 2) (oi := { dst := some 85, op := Op.move (Operand.tmp 16), type := 3, pos := "law.go:160", after := #[], guard := none }) (v := ?vvc2) rfl (by kernel_rfl) (by kernel_rfl) (by kernel_rfl) (fun _ _ _ h => h) (Or.inl ⟨by rfl, ?yyc2⟩) hHeld ?rrc2
          case yyc2 => (intro w0 hSw; (try dsimp only at hSw); go_simp; try with_reducible rfl)
          try simp only [Act.put, List.setIfInBounds_toArray, List.set_cons_zero, List.set_cons_succ]
          refine wpAnyH_take (i := 3) (oi := { dst := some 86, op := Op.indexAddr 24 (Operand.tmp 84) (Operand.tmp 85), type := 0, pos := "law.go:160", after := #[{ on := 1, ground := Ground.data }, { on := 2, ground := Ground.data }], guard := none }) (v := ?vvc3) rfl (by kernel_rfl) (by kernel_rfl) (by kernel_rfl) (fun _ _ _ h => h) (Or.inl ⟨by rfl, ?yyc3⟩) hHeld ?rrc3
          case yyc3 => (intro w0 hSw; (try dsimp only at hSw); go_simp; try with_reducible rfl)
          try simp only [Act.put, List.setIfInBounds_toArray, List.set_cons_zero, List.set_cons_succ]
          refine wpAnyH_take (i := 4) (oi := { dst := some 87, op := Op.load 3 (Operand.tmp 86), type := 3, pos := "law.go:160", after := #[{ on := 3, ground := Ground.data }], guard := none }) (v := ?vvc4) rfl (by kernel_rfl) (by kernel_rfl) (by kernel_rfl) (fun _ _ _ h => h) (Or.inl ⟨by rfl, ?yyc4⟩) hHeld ?rrc4
          case yyc4 => (intro w0 hSw; (try dsimp only at hSw); go_simp; try with_reducible rfl)
          try simp only [Act.put, List.setIfInBounds_toArray, List.set_cons_zero, List.set_cons_succ]
          refine wpAnyH_take (i := 5) (oi := { dst := some 88, op := Op.call { callee := Callee.builtin Builtin.min, args := #[Operand.tmp 83, Operand.tmp 87], argTypes := #[3, 3] }, type := 3, pos := "law.go:160", after := #[{ on := 0, ground := Ground.data }, { on := 4, ground := Ground.data }], guard := none }) (v := ?vvc5) rfl (by kernel_rfl) (by kernel_rfl) (by kernel_rfl) (fun _ _ _ h => h) (Or.inl ⟨by rfl, ?yyc5⟩) hHeld ?rrc5
          case yyc5 => (intro w0 hSw; (try dsimp only at hSw); go_simp; try with_reducible rfl)
          try simp only [Act.put, List.setIfInBounds_toArray, List.set_cons_zero, List.set_cons_succ]
          refine wpAnyH_take (i := 6) (oi := { dst := some 89, op := Op.move (Operand.tmp 13), type := 3, pos := "law.go:160", after := #[], guard := none }) (v := ?vvc6) rfl (by kernel_rfl) (by kernel_rfl) (by kernel_rfl) (fun _ _ _ h => h) (Or.inl ⟨by rfl, ?yyc6⟩) hHeld ?rrc6
          case yyc6 => (intro w0 hSw; (try dsimp only at hSw); go_simp; try with_reducible rfl)
          try simp only [Act.put, List.setIfInBounds_toArray, List.set_cons_zero, List.set_cons_succ]
          refine wpAnyH_take (i := 7) (oi := { dst := some 90, op := Op.move (Operand.tmp 14), type := 24, pos := "law.go:160", after := #[], guard := none }) (v := ?vvc7) rfl (by kernel_rfl) (by kernel_rfl) (by kernel_rfl) (fun _ _ _ h => h) (Or.inl ⟨by rfl, ?yyc7⟩) hHeld ?rrc7
          case yyc7 => (intro w0 hSw; (try dsimp only at hSw); go_simp; try with_reducible rfl)
          try simp only [Act.put, List.setIfInBounds_toArray, List.set_cons_zero, List.set_cons_succ]
          refine wpAnyH_take (i := 8) (oi := { dst := some 91, op := Op.move (Operand.tmp 16), type := 3, pos := "law.go:160", after := #[], guard := none }) (v := ?vvc8) rfl (by kernel_rfl) (by kernel_rfl) (by kernel_rfl) (fun _ _ _ h => h) (Or.inl ⟨by rfl, ?yyc8⟩) hHeld ?rrc8
          case yyc8 => (intro w0 hSw; (try dsimp only at hSw); go_simp; try with_reducible rfl)
          try simp only [Act.put, List.setIfInBounds_toArray, List.set_cons_zero, List.set_cons_succ]
          refine wpAnyH_take (i := 9) (oi := { dst := some 92, op := Op.indexAddr 24 (Operand.tmp 90) (Operand.tmp 91), type := 0, pos := "law.go:160", after := #[{ on := 7, ground := Ground.data }, { on := 8, ground := Ground.data }], guard := none }) (v := ?vvc9) rfl (by kernel_rfl) (by kernel_rfl) (by kernel_rfl) (fun _ _ _ h => h) (Or.inl ⟨by rfl, ?yyc9⟩) hHeld ?rrc9
          case yyc9 => (intro w0 hSw; (try dsimp only at hSw); go_simp; try with_reducible rfl)
          try simp only [Act.put, List.setIfInBounds_toArray, List.set_cons_zero, List.set_cons_succ]
          refine wpAnyH_take (i := 10) (oi := { dst := some 93, op := Op.load 3 (Operand.tmp 92), type := 3, pos := "law.go:160", after := #[{ on := 9, ground := Ground.data }], guard := none }) (v := ?vvc10) rfl (by kernel_rfl) (by kernel_rfl) (by kernel_rfl) (fun _ _ _ h => h) (Or.inl ⟨by rfl, ?yyc10⟩) hHeld ?rrc10
          case yyc10 => (intro w0 hSw; (try dsimp only at hSw); go_simp; try with_reducible rfl)
          try simp only [Act.put, List.setIfInBounds_toArray, List.set_cons_zero, List.set_cons_succ]
          refine wpAnyH_take (i := 11) (oi := { dst := some 94, op := Op.call { callee := Callee.builtin Builtin.max, args := #[Operand.tmp 89, Operand.tmp 93], argTypes := #[3, 3] }, type := 3, pos := "law.go:160", after := #[{ on := 6, ground := Ground.data }, { on := 10, ground := Ground.data }], guard := none }) (v := ?vvc11) rfl (by kernel_rfl) (by kernel_rfl) (by kernel_rfl) (fun _ _ _ h => h) (Or.inl ⟨by rfl, ?yyc11⟩) hHeld ?rrc11
          case yyc11 => (intro w0 hSw; (try dsimp only at hSw); go_simp; try with_reducible rfl)
          try simp only [Act.put, List.setIfInBounds_toArray, List.set_cons_zero, List.set_cons_succ]
          refine wpAnyH_take (i := 12) (oi := { dst := some 12, op := Op.assign (Operand.tmp 88), type := 3, pos := "law.go:160", after := #[{ on := 5, ground := Ground.data }, { on := 0, ground := Ground.phase }, { on := 1, ground := Ground.phase }, { on := 2, ground := Ground.phase }, { on := 3, ground := Ground.phase }, { on := 4, ground := Ground.phase }, { on := 5, ground := Ground.phase }, { on := 6, ground := Ground.textOnly Departure.lateStores }, { on := 7, ground := Ground.textOnly Departure.lateStores }, { on := 8, ground := Ground.textOnly Departure.lateStores }, { on := 9, ground := Ground.textOnly Departure.lateStores }, { on := 10, ground := Ground.textOnly Departure.lateStores }, { on := 11, ground := Ground.textOnly Departure.lateStoresUnsure }], guard := none }) (v := ?vvc12) rfl (by kernel_rfl) (by kernel_rfl) (by kernel_rfl) (fun _ _ _ h => h) (Or.inl ⟨by rfl, ?yyc12⟩) hHeld ?rrc12
          case yyc12 => (intro w0 hSw; (try dsimp only at hSw); go_simp; try with_reducible rfl)
          try simp only [Act.put, List.setIfInBounds_toArray, List.set_cons_zero, List.set_cons_succ]
          refine wpAnyH_take (i := 13) (oi := { dst := some 13, op := Op.assign (Operand.tmp 94), type := 3, pos := "law.go:160", after := #[{ on := 11, ground := Ground.data }, { on := 12, ground := Ground.chain }, { on := 0, ground := Ground.phase }, { on := 1, ground := Ground.phase }, { on := 2, ground := Ground.phase }, { on := 3, ground := Ground.phase }, { on := 4, ground := Ground.phase }, { on := 5, ground := Ground.phase }, { on := 6, ground := Ground.phase }, { on := 7, ground := Ground.phase }, { on := 8, ground := Ground.phase }, { on := 9, ground := Ground.phase }, { on := 10, ground := Ground.phase }, { on := 11, ground := Ground.phase }, { on := 12, ground := Ground.phase }], guard := none }) (v := ?vvc13) rfl (by kernel_rfl) (by kernel_rfl) (by kernel_rfl) (fun _ _ _ h => h) (Or.inl ⟨by rfl, ?yyc13⟩) hHeld ?rrc13
          case yyc13 => (intro w0 hSw; (try dsimp only at hSw); go_simp; try with_reducible rfl)
          try simp only [Act.put, List.setIfInBounds_toArray, List.set_cons_zero, List.set_cons_succ]
          refine wpAnyH_done (by kernel_rfl) ?_ _
          go_wp2_with fail
          refine ⟨⟨j + 1, min x y, max y0 y, by omega, by go_num, rfl, rfl, .inr ⟨by omega, ?_, ?_, ?_, ?_⟩, HE.out.drew.drew⟩, by simp [intOf]; omega⟩ <;> omega
        · have hjb1 : ¬ (j : Int) < (b : Int) := by omega
          have hw2 : IntKind.i64.wrap (y0 - x) = y0 - x := by rw [IntKind.wrap_i64]; have := HLV.out.2.1 0; have := (HLV.out.2.2.1 0).1; have := HLV.out.2.2.2.2 0 (by omega); omega
          have hle : y0 - x ≤ 1 := by omega
          have hH := Hid.mk hE.below
          clear hE
          go_wp2_with fail
          go_ret
          exact ⟨by first | rfl | simp [hle], hH.out⟩
end Go.Proofs.YtbcnocbdifbocaaDoor
