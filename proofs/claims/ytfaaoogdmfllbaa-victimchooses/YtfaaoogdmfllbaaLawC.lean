/-
  The walk of the law VictimChooses. No condition.
-/
import Derived.Test.YtfaaoogdmfllbaaAwk
import Derived.Deep.RegionHeld3
namespace Go.Proofs.Ytfaaoogdmfllbaa
open Go Go.RowKit

theorem keep3 {a w w' : World} {p p' p'' : Addr} {v v' v'' : Value} (hg : p.block < a.heap.size) (hg' : p'.block < a.heap.size) (hg'' : p''.block < a.heap.size) (h : (w.cell? p = some v ∧ w.cell? p' = some v' ∧ w.cell? p'' = some v'') ∧ Below a.heap.size a w) (b : Below w.heap.size w w') : (w'.cell? p = some v ∧ w'.cell? p' = some v' ∧ w'.cell? p'' = some v'') ∧ Below a.heap.size a w' :=
  ⟨⟨(b.cell (p := p) (Nat.lt_of_lt_of_le hg h.2.size)).trans h.1.1, (b.cell (p := p') (Nat.lt_of_lt_of_le hg' h.2.size)).trans h.1.2.1, (b.cell (p := p'') (Nat.lt_of_lt_of_le hg'' h.2.size)).trans h.1.2.2⟩, below3 h.2 b⟩
/-- what the law has of the first so many -/
def Bs (q : Nat → Option Nat) (j : Nat) (want best : Value) : Prop := want = .int .i64 (bst q j) ∧ ∃ b, best = .float .f64 b ∧ b < 18446744073709551616 ∧ (0 ≤ bst q j → q (bst q j).toNat = some b)
theorem Bs.pass {q : Nat → Option Nat} {j : Nat} {u v : Value} (h : Bs q j u v) (hq : q j = none) : Bs q (j + 1) u v := by
  unfold Bs at *
  rw [bst_none hq]
  exact h
set_option maxRecDepth 20000 in
set_option maxHeartbeats 1000000 in
theorem victimChooses_any (a : Option Addr) (len cap : Nat) (f : Nat → Q4) (w : World) (h : len ≤ cap ∧ (cap : Int) ≤ 9223372036854775807 ∧ Ss w a len f) : Calls Try.prog 3 #[.slice a len cap] w fun e w' => e = .returned (.bool true) ∧ Below w.heap.size w w' := by
  have H := Hid.mk h
  clear h
  go_enter Try.func3, Try.ntmps3
  go_upto_region 2 with (go_at_call 6; refine (few_any H.out.2.2 H.out.1 H.out.2.1).mono ?_; rintro e w1 ⟨n, rfl, hn40, hnl, rfl⟩)
  have HS := Hid.mk (H.out.2.2.less hnl)
  clear H hnl
  go_upto_region 3 with fail
  go_loopw [4, 5, 6] (fun want best i wr => ∃ j : Nat, j ≤ n ∧ i = .int .i64 j ∧ Bs (fun i => wq (f i)) j want best ∧ Below w1.heap.size w1 wr) (fun _ _ i _ => n - (intOf i).toNat)
  case atStart => exact ⟨0, Nat.zero_le _, rfl, ⟨rfl, 0, rfl, by decide, fun h => absurd h (show ¬ (0 : Int) ≤ -1 by decide)⟩, Below.refl _ _⟩
  case round =>
    obtain ⟨j, hj, rfl, hbs, hb⟩ := hrel
    have HB := Hid.mk hb
    clear hb
    have hr := bst_range (fun i => wq (f i)) j
    have hpass := Hid.mk (fun (hq : wq (f j) = none) => hbs.pass hq)
    obtain ⟨rfl, b, rfl, hb64, hbq⟩ := hbs
    by_cases hlt : j < n
    · have hlt1 : (j : Int) < n := by omega
      obtain ⟨g, o, rfl, hg, -, c1, c2, c3⟩ := HS.out.call HB.out j hlt
      have hW := Hid.mk (show ∀ r, Is (ofO (f j).2.1 (f j).2.2.1 (f j).2.2.2) r → ¬ (f j).2.2.1 ≤ (f j).2.1 → WIs (wq (f j)) r from fun r hr hn => by unfold wq; rw [if_neg hn]; exact hr.ok)
      have hN := Hid.mk (show (f j).2.2.1 ≤ (f j).2.1 → wq (f j) = none from fun hn => by unfold wq; rw [if_pos hn])
      have hone := Hid.mk (fun (v : Nat) (hq : wq (f j) = some v) => bst_one (q := fun i => wq (f i)) (k := j) hq)
      have hO := Hid.mk (of_any (f j).2.1 (f j).2.2.1 (f j).2.2.2)
      generalize hL : (f j).2.1 = L at *
      generalize hP : (f j).2.2.1 = P at *
      generalize hA : (f j).2.2.2 = A at *
      clear hL hP hA
      have HQ := Hid.mk (And.intro hbq hr)
      clear hbq hr
      generalize hZ : bst (fun i => wq (f i)) j = Z at *
      clear hZ
      go_upto_region 5 with fail
      go_region_held3 (fun w' => (w'.cell? ⟨g, o + j * 4 + 1, none⟩ = some (.int .i64 L) ∧ w'.cell? ⟨g, o + j * 4 + 2, none⟩ = some (.int .i64 P) ∧ w'.cell? ⟨g, o + j * 4 + 3, none⟩ = some (.int .i64 A)) ∧ Below wr.heap.size wr w')
        (first | assumption | exact ⟨⟨c1, c2, c3⟩, (Below.refl _ wr).drew⟩ | exact keep3 hg hg hg (by assumption) (by assumption) | fail)
        (first | (go_at_call 7; refine (hO.out _).mono ?_; rintro e w3 ⟨r, rfl, hr, b3⟩))
      rename_i hH
      obtain ⟨⟨e1, e2, -⟩, hH2⟩ := hH
      have HE := Hid.mk (below3 HB.out hH2)
      have hgW : g < w3.heap.size := Nat.lt_of_lt_of_le hg hH2.size
      clear b3 hH2 c1 c2 c3 hO hg HB
      by_cases hge : P ≤ L
      · have hge1 : decide (P ≤ L) = true := decide_eq_true hge
        have hfin := Hid.mk (hpass.out (hN.out hge))
        clear hN hW hone HQ hpass
        go_upto_region 6 with fail
        go_quiet (fail)
        go_wp2
        exact ⟨⟨j + 1, by omega, by go_num, hfin.out, below_drewN HE.out⟩, by simp [intOf]; omega⟩
      · have hge1 : decide (P ≤ L) = false := decide_eq_false hge
        have hwis := hW.out r hr (by omega)
        have hNaN := fun w => isNaN_any r w
        cases hq : wq (f j) with
        | none =>
          rw [hq] at hwis
          have hn : nanB r = true := hwis.2
          rw [hn] at hNaN
          replace hNaN := Hid.mk hNaN
          have hfin := Hid.mk (hpass.out hq)
          clear hN hW hone HQ hpass hwis hn hq hr
          go_upto_region 6 with fail
          go_quiet (first | (go_at_call 8; refine Calls.quiet_of_same (hNaN.out _)))
          go_wp2
          exact ⟨⟨j + 1, by omega, by go_num, hfin.out, below_drewN HE.out⟩, by simp [intOf]; omega⟩
        | some v =>
          rw [hq] at hwis
          obtain ⟨hr64, rfl, hn⟩ := hwis
          rw [hn] at hNaN
          replace hNaN := Hid.mk hNaN
          have hone1 := hone.out _ hq
          have hORD := Hid.mk (fun w => order_any r b w hr64 hb64)
          by_cases h0 : Z < 0
          · rw [if_pos (.inl h0)] at hone1
            have hfin : Hid (Bs (fun i => wq (f i)) (j + 1) (.int .i64 j) (.float .f64 r)) := ⟨by rw [hone1], r, rfl, hr64, fun _ => by rw [hone1, Int.toNat_natCast]; exact hq⟩
            have h01 : decide (Z < 0) = true := decide_eq_true h0
            clear hN hW hone HQ hpass hn hq hr hone1 hORD hr64
            go_upto_region 6 with fail
            go_quiet (first | (go_at_call 8; refine Calls.quiet_of_same (hNaN.out _)))
            go_wp2
            exact ⟨⟨j + 1, by omega, by go_num, hfin.out, below_drewN HE.out⟩, by simp [intOf]; omega⟩
          · have hqz := HQ.out.1 (by omega)
            rw [hqz] at hone1
            simp only [Option.getD_some] at hone1
            have h01 : decide (Z < 0) = false := decide_eq_false h0
            by_cases hgt : 0 < ordF r b
            · rw [if_pos (.inr hgt)] at hone1
              have hfin : Hid (Bs (fun i => wq (f i)) (j + 1) (.int .i64 j) (.float .f64 r)) := ⟨by rw [hone1], r, rfl, hr64, fun _ => by rw [hone1, Int.toNat_natCast]; exact hq⟩
              generalize ordF r b = OB at *
              clear hN hW hone HQ hpass hn hq hr hone1 hr64 hqz
              go_upto_region 6 with fail
              go_quiet (first | (go_at_call 8; refine Calls.quiet_of_same (hNaN.out _)))
              go_wp2_with (first | (go_at_call 9; refine (hORD.out _).mono ?_; rintro e w' ⟨rfl, rfl⟩))
              exact ⟨⟨j + 1, by omega, by go_num, hfin.out, below_drewN HE.out⟩, by simp [intOf]; omega⟩
            · rw [if_neg (by omega)] at hone1
              have hfin : Hid (Bs (fun i => wq (f i)) (j + 1) (.int .i64 Z) (.float .f64 b)) := ⟨by rw [hone1], b, rfl, hb64, fun _ => by rw [hone1]; exact hqz⟩
              generalize ordF r b = OB at *
              clear hN hW hone HQ hpass hn hq hr hone1 hr64 hqz
              go_upto_region 6 with fail
              go_quiet (first | (go_at_call 8; refine Calls.quiet_of_same (hNaN.out _)))
              go_wp2_with (first | (go_at_call 9; refine (hORD.out _).mono ?_; rintro e w' ⟨rfl, rfl⟩))
              exact ⟨⟨j + 1, by omega, by go_num, hfin.out, below_drewN HE.out⟩, by simp [intOf]; omega⟩
    · have hlt1 : ¬ (j : Int) < n := by omega
      have hjn : j = n := by omega
      subst hjn
      have hC := Hid.mk (fun w (h : Ss w a j f) => choose_any (cap := cap) h (by omega))
      generalize bst (fun i => wq (f i)) j = Z at *
      clear hpass hr hbq
      go_wp2_with (first
        | (go_at_call 10; refine (awake_any _).mono ?_; rintro e w3 ⟨rfl, b3⟩; have H3 := Hid.mk (below3 HB.out b3); clear b3)
        | (go_at_call 11; refine (hC.out _ (HS.out.call H3.out)).mono ?_; rintro e w4 ⟨rfl, b4⟩; have H4 := Hid.mk (below3 H3.out b4); clear b4))
      go_ret
      exact ⟨by simp, H4.out⟩
end Go.Proofs.Ytfaaoogdmfllbaa
