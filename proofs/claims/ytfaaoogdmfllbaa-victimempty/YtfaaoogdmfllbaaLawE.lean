/-
  The walk of the law VictimEmpty. No condition.
-/
import Derived.Test.YtfaaoogdmfllbaaEmp
import Derived.Deep.RegionHeld3
namespace Go.Proofs.Ytfaaoogdmfllbaa
open Go Go.RowKit Go.Maps

theorem keep2' {a w w' : World} {p p' : Addr} {v v' : Value} (hg : p.block < a.heap.size) (hg' : p'.block < a.heap.size) (h : (w.cell? p = some v ∧ w.cell? p' = some v') ∧ Below a.heap.size a w) (b : Below w.heap.size w w') : (w'.cell? p = some v ∧ w'.cell? p' = some v') ∧ Below a.heap.size a w' :=
  ⟨⟨(b.cell (p := p) (Nat.lt_of_lt_of_le hg h.2.size)).trans h.1.1, (b.cell (p := p') (Nat.lt_of_lt_of_le hg' h.2.size)).trans h.1.2⟩, below3 h.2 b⟩
theorem alloc2 {wr : World} {p p' : Addr} {v v' : Value} (hg : p.block < wr.heap.size) (hg' : p'.block < wr.heap.size) (h : wr.cell? p = some v) (h' : wr.cell? p' = some v') (o : Obj) : ((wr.alloc o).drew.cell? p = some v ∧ (wr.alloc o).drew.cell? p' = some v') ∧ Below wr.heap.size wr (wr.alloc o).drew := by
  have b := (Below.refl wr.heap.size wr).alloc (Nat.le_refl _) o
  exact ⟨⟨(b.cell (p := p) hg).trans h, (b.cell (p := p') hg').trans h'⟩, b.drew⟩
/-- behind a block of its own -/
theorem Fw.own {w v rs wr} (h : Fw w v rs wr) (i L P A : Int) : ∀ w2 : World, (wr.alloc (.cells #[.int .i64 i, .int .i64 L, .int .i64 P, .int .i64 A] 27)).drew = w2 → Fw w v rs w2 ∧ wr.heap.size < w2.heap.size ∧ (w2.cell? ⟨wr.heap.size, 0, none⟩ = some (.int .i64 i) ∧ w2.cell? ⟨wr.heap.size, 1, none⟩ = some (.int .i64 L) ∧ w2.cell? ⟨wr.heap.size, 2, none⟩ = some (.int .i64 P) ∧ w2.cell? ⟨wr.heap.size, 3, none⟩ = some (.int .i64 A)) ∧ (∀ w4, w2.grownBy w4 v.ownBlock → w4.cell? ⟨wr.heap.size, 1, none⟩ = some (.int .i64 L)) := by
  intro w2 e
  subst e
  have r := Row.fresh wr 27 .i64 [i, L, P, A]
  have c1 : (wr.alloc (.cells #[.int .i64 i, .int .i64 L, .int .i64 P, .int .i64 A] 27)).drew.cell? ⟨wr.heap.size, 1, none⟩ = some (.int .i64 L) := r.cell 1 (by simp)
  have hlt : wr.heap.size < (wr.alloc (.cells #[.int .i64 i, .int .i64 L, .int .i64 P, .int .i64 A] 27)).drew.heap.size := by show _ < (wr.alloc _).heap.size; rw [size_alloc]; omega
  refine ⟨h.call ((Below.refl _ wr).alloc (Nat.le_refl _) _).drew, hlt, ⟨r.cell 0 (by simp), c1, r.cell 2 (by simp), r.cell 3 (by simp)⟩, fun w4 g => ?_⟩
  rw [g.cell_far ⟨wr.heap.size, 1, none⟩ hlt (fun e => by have := (h.ow.lt wr.heap.size e.symm).2; omega)]
  exact c1
theorem emp_more {rs : List Q4} {k : Nat} (hk : rs.length = k) (q : Q4) : emp (fun i => (rs ++ [q]).getD i (0, 0, 0, 0)) (k + 1) = if emp (fun i => rs.getD i (0, 0, 0, 0)) k < 0 ∧ q.2.1 = 0 then (k : Int) else emp (fun i => rs.getD i (0, 0, 0, 0)) k := by
  rw [emp_succ, emp_congr (g := fun i => rs.getD i (0, 0, 0, 0)) k (fun i hi => by
    simp only [List.getD_eq_getElem?_getD]
    rw [List.getElem?_append_left (by omega)])]
  have e : (rs ++ [q]).getD k (0, 0, 0, 0) = q := by
    rw [List.getD_eq_getElem?_getD, List.getElem?_append_right (by omega), hk]
    simp
  simp only [e]
set_option maxRecDepth 20000 in
set_option maxHeartbeats 1000000 in
theorem victimEmpty_any (a : Option Addr) (len cap : Nat) (f : Nat → Q4) (w : World) (h : len ≤ cap ∧ (cap : Int) ≤ 9223372036854775807 ∧ Ss w a len f) : Calls Try.prog 4 #[.slice a len cap] w fun e w' => e = .returned (.bool true) ∧ Below w.heap.size w w' := by
  have H := Hid.mk h
  clear h
  have bA := Hid.mk ((Below.refl w.heap.size w).alloc (Nat.le_refl _) (.cells #[] 27))
  go_enter Try.func4, Try.ntmps4
  go_upto_region 2 with (go_at_call 6; refine (few_any (H.out.2.2.call bA.out) H.out.1 H.out.2.1).mono ?_; rintro e w1 ⟨n, rfl, hn40, hnl, rfl⟩)
  have r0 : Fw w (.slice (some ⟨w.heap.size, 0, none⟩) 0 0) [] (w.alloc (.cells #[] 27)) := ⟨Ow.made w (Nat.le_refl _) 27 4, fun _ h => (by cases h), bA.out⟩
  have HS := Hid.mk (H.out.2.2.less hnl)
  clear H hnl bA
  generalize (w.alloc (.cells #[] 27)) = W at *
  replace r0 := Hid.mk r0
  go_upto_region 3 with fail
  go_loopw [3, 4, 6] (fun v want i wr => ∃ (k : Nat) (rs : List Q4), k ≤ n ∧ rs.length = k ∧ i = .int .i64 k ∧ want = .int .i64 (emp (fun i => rs.getD i (0, 0, 0, 0)) k) ∧ Fw w v rs wr) (fun _ _ i _ => n - (intOf i).toNat)
  case atStart => exact ⟨0, [], Nat.zero_le _, rfl, rfl, rfl, r0.out⟩
  case round =>
    clear r0
    obtain ⟨k, rs, hk, hrk, rfl, rfl, hs⟩ := hrel
    by_cases hlt : k < n
    · have hlt1 : (k : Int) < n := by omega
      obtain ⟨g, o, rfl, hg, -, c1, -, c3⟩ := HS.out.call hs.below k hlt
      generalize (f k).2.1 = q1 at *
      generalize (f k).2.2.2 = q3 at *
      obtain ⟨L, hL, hL2⟩ := low q1 7 (by omega)
      obtain ⟨A, hA, hA2⟩ := low q3 65535 (by omega)
      simp only [Int.cast_ofNat_Int] at hL hA
      have HV := Hid.mk hs
      clear hs
      generalize hZ : emp (fun i => rs.getD i (0, 0, 0, 0)) k = Z at *
      replace hZ := Hid.mk hZ
      replace hrk := Hid.mk hrk
      go_upto_region 5 with fail
      go_region_held3 (fun w' => (w'.cell? ⟨g, o + k * 4 + 1, none⟩ = some (.int .i64 q1) ∧ w'.cell? ⟨g, o + k * 4 + 3, none⟩ = some (.int .i64 q3)) ∧ Below wr.heap.size wr w')
        (first | assumption | exact ⟨⟨c1, c3⟩, (Below.refl _ wr).drew⟩ | exact keep2' hg hg (by assumption) ((Below.refl _ _).alloc (Nat.le_refl _) _) | exact alloc2 hg hg c1 c3 _ | fail)
        (fail)
      generalize hW2 : (wr.alloc (.cells #[.int .i64 k, .int .i64 L, .int .i64 8, .int .i64 A] 27)).drew = W2 at *
      obtain ⟨H2, hR, ⟨d0, d1, d2, d3⟩, d4⟩ := HV.out.own k L 8 A _ hW2
      rename_i hH
      clear HV c1 c3 hg hW2 hH hL hA
      replace d4 := Hid.mk d4
      replace H2 := Hid.mk H2
      generalize wr.heap.size = R at *
      have hlen : rs.length < 1000 := by rw [hrk.out]; omega
      have hem := Hid.mk (emp_more hrk.out ((k : Int), (L : Int), (8 : Int), (A : Int)))
      rw [hZ.out] at hem
      have hq : Hid (Laid ((k : Int), (L : Int), (8 : Int), (A : Int))) := ⟨k, L, A, rfl, hL2, hA2⟩
      have hall := Hid.mk (fun v4 w4 (o4 : Ow w4 w.heap.size 27 4 v4 ((rs.map fun q => (c4 q).toList) ++ [(c4 ((k : Int), (L : Int), (8 : Int), (A : Int))).toList])) g4 => H2.out.more hq.out o4 g4)
      by_cases hz0 : Z < 0
      · have hz1 : decide (Z < 0) = true := decide_eq_true hz0
        by_cases hl0 : L = 0
        · have hl1 : ((L : Int) == 0) = true := by simp [hl0]
          have hfin := Hid.mk (hem.out.trans (if_pos ⟨hz0, by show (L : Int) = 0; omega⟩))
          clear hem hl0
          go_wp2_with (first | (at_builtin; refine wp_app ei27 rfl _ _ rfl H2.out.ow H2.out.below.size (c4 ((k : Int), (L : Int), (8 : Int), (A : Int))) rfl rfl rfl (c4_one _) (by rw [List.length_map]; omega) ?_; intro v4 w4 o4 g4 p4; have d5 := d4.out _ g4))
          exact ⟨⟨k + 1, rs ++ [((k : Int), (L : Int), (8 : Int), (A : Int))], by omega, by rw [List.length_append, hrk.out]; rfl, by go_num, by rw [hfin.out], hall.out _ _ o4 g4⟩, by simp [intOf]; omega⟩
        · have hl1 : ((L : Int) == 0) = false := by simp [hl0]
          have hfin := Hid.mk (hem.out.trans (if_neg (fun z => hl0 (by have := z.2; simp only at this; omega))))
          clear hem hl0
          go_wp2_with (first | (at_builtin; refine wp_app ei27 rfl _ _ rfl H2.out.ow H2.out.below.size (c4 ((k : Int), (L : Int), (8 : Int), (A : Int))) rfl rfl rfl (c4_one _) (by rw [List.length_map]; omega) ?_; intro v4 w4 o4 g4 p4; have d5 := d4.out _ g4))
          exact ⟨⟨k + 1, rs ++ [((k : Int), (L : Int), (8 : Int), (A : Int))], by omega, by rw [List.length_append, hrk.out]; rfl, by go_num, by rw [hfin.out], hall.out _ _ o4 g4⟩, by simp [intOf]; omega⟩
      · have hz1 : decide (Z < 0) = false := decide_eq_false hz0
        have hfin := Hid.mk (hem.out.trans (if_neg (fun z => hz0 z.1)))
        clear hem
        go_wp2_with (first | (at_builtin; refine wp_app ei27 rfl _ _ rfl H2.out.ow H2.out.below.size (c4 ((k : Int), (L : Int), (8 : Int), (A : Int))) rfl rfl rfl (c4_one _) (by rw [List.length_map]; omega) ?_; intro v4 w4 o4 g4 p4; have d5 := d4.out _ g4))
        exact ⟨⟨k + 1, rs ++ [((k : Int), (L : Int), (8 : Int), (A : Int))], by omega, by rw [List.length_append, hrk.out]; rfl, by go_num, by rw [hfin.out], hall.out _ _ o4 g4⟩, by simp [intOf]; omega⟩
    · have hlt1 : ¬ (k : Int) < n := by omega
      have hkn : k = n := by omega
      subst hkn
      obtain ⟨va, vc, rfl⟩ := hs.form
      rw [hrk] at hs ⊢
      have hss := hs.ss hrk.symm
      have hla : ∀ i, i < k → Laid (rs.getD i (0, 0, 0, 0)) := fun i hi => by
        have hi' : i < rs.length := by omega
        refine hs.rng _ ?_
        simp [List.getD_eq_getElem?_getD, hi']
      obtain ⟨h1, h2⟩ := bst_emp (fun i => rs.getD i (0, 0, 0, 0)) k hla
      have hC := fun w (h : Ss w va k fun i => rs.getD i (0, 0, 0, 0)) => choose_any (cap := vc) h (by omega)
      have hE := fun w (h : Ss w va k fun i => rs.getD i (0, 0, 0, 0)) => empty_any (cap := vc) h (by omega)
      have hr := bst_range (fun i => wq (rs.getD i (0, 0, 0, 0))) k
      generalize bst (fun i => wq (rs.getD i (0, 0, 0, 0))) k = ZB at *
      generalize emp (fun i => rs.getD i (0, 0, 0, 0)) k = ZE at *
      have HV := Hid.mk (And.intro hss (And.intro hs.below (And.intro hC hE)))
      clear hss hs hC hE hla
      have hn1 : ((k : Int) == 0) = decide (ZB < 0) := by
        by_cases h0 : k = 0
        · subst h0
          have : ZB < 0 := by omega
          simp [this]
        · have : ¬ ZB < 0 := by have := h2 (by omega); omega
          simp [this, h0]
      clear h2 hr hrk
      by_cases he : ZE < 0
      · have he1 : decide (ZE < 0) = true := decide_eq_true he
        clear h1 he
        go_wp2_with (first
          | (go_at_call 11; refine (HV.out.2.2.1 _ HV.out.1).mono ?_; rintro e w3 ⟨rfl, b3⟩; replace HV := Hid.mk (And.intro (HV.out.1.call b3) (And.intro (below3 HV.out.2.1 b3) HV.out.2.2)); clear b3)
          | (go_at_call 10; refine (awake_any _).mono ?_; rintro e w4 ⟨rfl, b3⟩; replace HV := Hid.mk (And.intro (HV.out.1.call b3) (And.intro (below3 HV.out.2.1 b3) HV.out.2.2)); clear b3)
          | (go_at_call 12; refine (HV.out.2.2.2 _ HV.out.1).mono ?_; rintro e w5 ⟨rfl, b3⟩; replace HV := Hid.mk (And.intro (HV.out.1.call b3) (And.intro (below3 HV.out.2.1 b3) HV.out.2.2)); clear b3))
        go_ret
        exact ⟨by simp, HV.out.2.1⟩
      · have he1 : decide (ZE < 0) = false := decide_eq_false he
        have := h1 (by omega)
        subst this
        clear h1 he
        go_wp2_with (first
          | (go_at_call 11; refine (HV.out.2.2.1 _ HV.out.1).mono ?_; rintro e w3 ⟨rfl, b3⟩; replace HV := Hid.mk (And.intro (HV.out.1.call b3) (And.intro (below3 HV.out.2.1 b3) HV.out.2.2)); clear b3)
          | (go_at_call 10; refine (awake_any _).mono ?_; rintro e w4 ⟨rfl, b3⟩; replace HV := Hid.mk (And.intro (HV.out.1.call b3) (And.intro (below3 HV.out.2.1 b3) HV.out.2.2)); clear b3)
          | (go_at_call 12; refine (HV.out.2.2.2 _ HV.out.1).mono ?_; rintro e w5 ⟨rfl, b3⟩; replace HV := Hid.mk (And.intro (HV.out.1.call b3) (And.intro (below3 HV.out.2.1 b3) HV.out.2.2)); clear b3))
        go_ret
        exact ⟨by simp, HV.out.2.1⟩
end Go.Proofs.Ytfaaoogdmfllbaa
