/-
  The walk of the law LifePlays. No condition.
-/
import Derived.Test.YtclpcodcfcegdaaPl
import Derived.Deep.CutBlock
import Derived.Deep.DeepCutAuto
namespace Go.Proofs.Ytclpcodcfcegdaa
open Go Go.RowKit

set_option maxRecDepth 100000 in
set_option maxHeartbeats 4000000 in
theorem lifePlays_any (x0 x1 : Int) (aa : Option Addr) (len cap : Nat) (f : Nat → Int × Int) (w : World) (hx : ActsF w aa len f) : Calls Try.prog 3 #[.int .i64 x0, .int .i64 x1, .slice aa len cap] w fun e w' => e = .returned (.bool true) ∧ Below w.heap.size w w' := by
  obtain ⟨n0, hn, hn1⟩ := low x0 15 (by omega)
  obtain ⟨k0, hk, hk1⟩ := low x1 7 (by omega)
  replace hn : bits .and .i64 x0 15 = (n0 : Int) := hn
  replace hk : bits .and .i64 x1 7 = (k0 : Int) := hk
  obtain ⟨n, hnn⟩ : ∃ n : Nat, (1 + (n0 : Int)) = n := ⟨1 + n0, by omega⟩
  obtain ⟨k, hkk⟩ : ∃ k : Nat, (1 + (k0 : Int)) = k := ⟨1 + k0, by omega⟩
  have hnb : 1 ≤ n ∧ n ≤ 16 := by omega
  have hkb : 1 ≤ k ∧ k ≤ 8 := by omega
  have HN := Hid.mk (new_any n k (by omega) (by omega) w)
  have hmk := run_make_row' (P := Try.prog) 27 3 (.int .i64 0) 8 Try.underlying27 Try.info3 rfl .i64 .i64 n (by omega) (by omega)
  rw [madeRow] at hmk
  have HX := Hid.mk hx
  clear hx
  go_enter Try.func3, Try.ntmps3
  go_upto_region 2 with fail
  clear hn hk hnn hkk hn1 hk1
  go_upto_region 4 with (go_at_call 6; refine HN.out.mono ?_; rintro e w1 ⟨a, g, rfl, h1, b1, o1⟩)
  have hP0 : Pl w a g w1.heap.size n k (List.replicate n 0) (-1) 0 (w1.alloc (.cells (cellsOf .i64 (List.replicate n 0)) 3)) := by
    have hb := (Below.refl w1.heap.size w1).alloc (Nat.le_refl _) (.cells (cellsOf .i64 (List.replicate n 0)) 3)
    have ha := h1.lt a (.inl rfl)
    have hg := h1.lt g (.inr rfl)
    exact ⟨(Hd.mk h1 b1 o1).call hb, Row.fresh w1 3 .i64 _, by omega, by omega, b1.size⟩
  have HP0 := Hid.mk hP0
  clear hP0 h1 b1 o1 hmk HN
  generalize w1.alloc (.cells (cellsOf .i64 (List.replicate n 0)) 3) = W0 at *
  generalize w1.heap.size = g2 at *
  go_upto_region 7 with (go_at_call 7; refine (awake_any _).mono ?_; rintro e w2 ⟨rfl, b2⟩; replace HP0 := Hid.mk (HP0.out.call b2); clear b2)
  go_loopw [12, 13, 14] (fun po pn i wr => ∃ (q : Nat) (xs : List Int) (o nx : Int), q ≤ len ∧ q ≤ 80 ∧ i = .int .i64 q ∧ po = .int .i64 o ∧ pn = .int .i64 nx ∧ Pl w a g g2 n k xs o nx wr) (fun _ _ i _ => 80 - (intOf i).toNat)
  case atStart => exact ⟨0, _, -1, 0, Nat.zero_le _, Nat.zero_le _, rfl, rfl, rfl, HP0.out⟩
  case round =>
    clear HP0
    obtain ⟨q, xs, o, nx, hql, hq80, rfl, rfl, rfl, hP⟩ := hrel
    by_cases hq : q < len ∧ q < 80
    · obtain ⟨hq1, hq2⟩ := hq
      have hq3 : (q : Int) < len := by omega
      have hq4 : (q : Int) < 80 := by omega
      obtain ⟨ga, oa, rfl, hga, ck, cb⟩ := (HX.out.call hP.hd.below) q hq1
      clear HX
      generalize (f q).1 = K at *
      generalize (f q).2 = b at *
      have hok := hP.hd.life.ok
      have hor := hok.or
      have hnx := hok.nxr
      have hln := Hid.mk hok.len
      have HP := Hid.mk hP
      have HO := Hid.mk hok
      clear hP hok
      by_cases h0 : 0 ≤ b
      · by_cases h1 : b < n
        · obtain ⟨j, rfl⟩ := Int.eq_ofNat_of_zero_le h0
          have hj : j < n := by omega
          have c2 := HP.out.row.cell j (by rw [hln.out]; exact hj)
          have HI := Hid.mk (isL_in xs j (by rw [hln.out]; exact hj))
          have hxr := HO.out.kind j hj
          go_upto_block 2 with fail
          go_cut [12, 13, 17, 18, 19, 20, 21, 22, 23] from 44 to 182 (fun po pn _ _ _ _ _ _ _ wx => ∃ (xs : List Int) (o nx : Int), po = .int .i64 o ∧ pn = .int .i64 nx ∧ Pl w a g g2 n k xs o nx wx)
          case first => as_aux_lemma =>
            by_cases hK0 : K = 0
            · subst hK0
              by_cases hx0 : xs.getD j 0 = 0
              · by_cases ho : o = -1
                · have HT := Hid.mk (open_yes HP.out.hd.life j hj hx0 ho)
                  subst ho
                  rw [hx0] at c2
                  clear hx0
                  go_wp2_with (go_at_call 8; refine HT.out.mono ?_; rintro e w1 ⟨rfl, h1, k1⟩; have c3 := (HP.out.kept k1).cell j (by rw [hln.out]; exact hj); have f3 := (HP.out.kept k1).frozen j; have HQ := Hid.mk (HP.out.both h1 k1); clear h1 k1)
                  go_meet
                  exact ⟨xs.set j 1, j, 0, rfl, rfl, HQ.out⟩
                · have ho2 : ¬ o < 0 := by omega
                  have HNo : Hid (isL xs (j : Int) ≠ 0 ∨ 0 ≤ o) := .inr (by omega)
                  rw [hx0] at c2
                  clear hx0 ho
                  go_wp2_with (go_at_call 8; refine (open_no HP.out.hd.life _ (by first | exact HNo.out)).mono ?_; rintro e w1 ⟨rfl, rfl⟩)
                  go_meet
                  exact ⟨xs, o, nx, rfl, rfl, HP.out⟩
              · have HNo : Hid (isL xs (j : Int) ≠ 0 ∨ 0 ≤ o) := .inl (by rw [HI.out]; exact hx0)
                generalize xs.getD j 0 = x at *
                replace hx0 : (x == 0) = false := by simpa using hx0
                go_wp2_with (go_at_call 8; refine (open_no HP.out.hd.life _ (by first | exact HNo.out)).mono ?_; rintro e w1 ⟨rfl, rfl⟩)
                go_meet
                exact ⟨xs, o, nx, rfl, rfl, HP.out⟩
            · replace hK0 : (K == 0) = false := by simpa using hK0
              by_cases hK4 : K = 4
              · subst hK4
                by_cases hx3 : xs.getD j 0 = 3
                · have HNo : Hid (isL xs (j : Int) < 0 ∨ isL xs (j : Int) = 3) := .inr (by rw [HI.out]; exact hx3)
                  rw [hx3] at c2
                  clear hx3
                  go_wp2_with (go_at_call 9; refine (full_of (let_no HP.out.hd.life _ HNo.out _)).mono ?_; rintro e w1 ⟨rfl, rfl⟩)
                  go_meet
                  exact ⟨xs, o, nx, rfl, rfl, HP.out⟩
                · have HT := Hid.mk (full_of (let_yes HP.out.hd.life j hj hx3 2 (by omega) (by omega)))
                  generalize xs.getD j 0 = x at *
                  replace hx3 : (x != 3) = true := by simpa using hx3
                  by_cases ho : o = j
                  · rw [if_pos ho] at HT
                    subst ho
                    go_wp2_with (go_at_call 9; refine HT.out.mono ?_; rintro e w1 ⟨rfl, h1, k1⟩; have c3 := (HP.out.kept k1).cell j (by rw [hln.out]; exact hj); have f3 := (HP.out.kept k1).frozen j; have HQ := Hid.mk (HP.out.both h1 k1); clear h1 k1)
                    go_meet
                    exact ⟨xs.set j 2, -1, nx, rfl, rfl, HQ.out⟩
                  · rw [if_neg ho] at HT
                    replace ho : (o == (j : Int)) = false := by simpa using ho
                    go_wp2_with (go_at_call 9; refine HT.out.mono ?_; rintro e w1 ⟨rfl, h1, k1⟩; have c3 := (HP.out.kept k1).cell j (by rw [hln.out]; exact hj); have f3 := (HP.out.kept k1).frozen j; have HQ := Hid.mk (HP.out.both h1 k1); clear h1 k1)
                    go_meet
                    exact ⟨xs.set j 2, o, nx, rfl, rfl, HQ.out⟩
              · replace hK4 : (K == 4) = false := by simpa using hK4
                by_cases hK5 : K = 5
                · subst hK5
                  by_cases hx3 : xs.getD j 0 = 3
                  · have HNo : Hid (isL xs (j : Int) < 0 ∨ isL xs (j : Int) = 3) := .inr (by rw [HI.out]; exact hx3)
                    rw [hx3] at c2
                    clear hx3
                    go_wp2_with (go_at_call 10; refine (free_of (let_no HP.out.hd.life _ HNo.out _)).mono ?_; rintro e w1 ⟨rfl, rfl⟩)
                    go_meet
                    exact ⟨xs, o, nx, rfl, rfl, HP.out⟩
                  · have HT := Hid.mk (free_of (let_yes HP.out.hd.life j hj hx3 0 (by omega) (by omega)))
                    generalize xs.getD j 0 = x at *
                    replace hx3 : (x != 3) = true := by simpa using hx3
                    by_cases ho : o = j
                    · rw [if_pos ho] at HT
                      subst ho
                      go_wp2_with (go_at_call 10; refine HT.out.mono ?_; rintro e w1 ⟨rfl, h1, k1⟩; have c3 := (HP.out.kept k1).cell j (by rw [hln.out]; exact hj); have f3 := (HP.out.kept k1).frozen j; have HQ := Hid.mk (HP.out.both h1 k1); clear h1 k1)
                      go_meet
                      exact ⟨xs.set j 0, -1, nx, rfl, rfl, HQ.out⟩
                    · rw [if_neg ho] at HT
                      replace ho : (o == (j : Int)) = false := by simpa using ho
                      go_wp2_with (go_at_call 10; refine HT.out.mono ?_; rintro e w1 ⟨rfl, h1, k1⟩; have c3 := (HP.out.kept k1).cell j (by rw [hln.out]; exact hj); have f3 := (HP.out.kept k1).frozen j; have HQ := Hid.mk (HP.out.both h1 k1); clear h1 k1)
                      go_meet
                      exact ⟨xs.set j 0, o, nx, rfl, rfl, HQ.out⟩
                · replace hK5 : (K == 5) = false := by simpa using hK5
                  by_cases hK6 : K = 6
                  · subst hK6
                    by_cases hx3 : xs.getD j 0 = 3
                    · have HNo : Hid (isL xs (j : Int) < 0 ∨ isL xs (j : Int) = 3) := .inr (by rw [HI.out]; exact hx3)
                      rw [hx3] at c2
                      clear hx3
                      go_wp2_with (go_at_call 11; refine (bad_of (let_no HP.out.hd.life _ HNo.out _)).mono ?_; rintro e w1 ⟨rfl, rfl⟩)
                      go_meet
                      exact ⟨xs, o, nx, rfl, rfl, HP.out⟩
                    · have HT := Hid.mk (bad_of (let_yes HP.out.hd.life j hj hx3 3 (by omega) (by omega)))
                      generalize xs.getD j 0 = x at *
                      replace hx3 : (x != 3) = true := by simpa using hx3
                      by_cases ho : o = j
                      · rw [if_pos ho] at HT
                        subst ho
                        go_wp2_with (go_at_call 11; refine HT.out.mono ?_; rintro e w1 ⟨rfl, h1, k1⟩; have c3 := (HP.out.kept k1).cell j (by rw [hln.out]; exact hj); have f3 := (HP.out.kept k1).frozen j; have HQ := Hid.mk (HP.out.both h1 k1); clear h1 k1)
                        go_meet
                        exact ⟨xs.set j 3, -1, nx, rfl, rfl, HQ.out⟩
                      · rw [if_neg ho] at HT
                        replace ho : (o == (j : Int)) = false := by simpa using ho
                        go_wp2_with (go_at_call 11; refine HT.out.mono ?_; rintro e w1 ⟨rfl, h1, k1⟩; have c3 := (HP.out.kept k1).cell j (by rw [hln.out]; exact hj); have f3 := (HP.out.kept k1).frozen j; have HQ := Hid.mk (HP.out.both h1 k1); clear h1 k1)
                        go_meet
                        exact ⟨xs.set j 3, o, nx, rfl, rfl, HQ.out⟩
                  · replace hK6 : (K == 6) = false := by simpa using hK6
                    by_cases ho : o = -1
                    · have HT := Hid.mk (take_none HP.out.hd.life ho)
                      subst ho
                      go_wp2_with (go_at_call 12; refine HT.out.mono ?_; rintro e w1 ⟨rfl, rfl⟩)
                      go_meet
                      exact ⟨xs, -1, nx, rfl, rfl, HP.out⟩
                    · obtain ⟨jj, rfl⟩ := Int.eq_ofNat_of_zero_le (show 0 ≤ o by omega)
                      clear ho
                      have hjj := (HO.out.open_at jj rfl).1
                      have hjj1 : (jj : Int) < n := by omega
                      have HT := Hid.mk (take_some HP.out.hd.life jj rfl)
                      have hno := HO.out.nxo (by omega)
                      unfold tkX tkO at HT
                      by_cases he : nx + 1 = k
                      · rw [if_pos he, if_pos he] at HT
                        go_wp2_with (go_at_call 12; refine HT.out.mono ?_; rintro e w1 ⟨rfl, h1, k1⟩; have c3 := (HP.out.kept k1).cell jj (by rw [hln.out]; exact hjj); have f3 := (HP.out.kept k1).frozen jj; have HQ := Hid.mk (HP.out.both h1 k1); clear h1 k1)
                        go_meet
                        exact ⟨xs.set jj 2, -1, nx + 1, rfl, by rw [he], HQ.out⟩
                      · rw [if_neg he, if_neg he] at HT
                        replace he : (nx + 1 == (k : Int)) = false := by simpa using he
                        go_wp2_with (go_at_call 12; refine HT.out.mono ?_; rintro e w1 ⟨rfl, h1, k1⟩; have HQ := Hid.mk (HP.out.only h1 k1); clear h1 k1)
                        go_meet
                        exact ⟨xs, jj, nx + 1, rfl, rfl, HQ.out⟩
          case rest => as_aux_lemma =>
            obtain ⟨xs', o', nx', rfl, rfl, hP'⟩ := hcut
            have hl' := hP'.hd.life.ok.len
            have hy := hP'.hd.life.ok.kind j hj
            have HI' := Hid.mk (isL_in xs' j (by rw [hl']; exact hj))
            clear c2 hxr
            generalize xs'.getD j 0 = y at *
            have hy1 : ¬ y < 0 := by omega
            have HP' := Hid.mk hP'
            clear hP' HP HO hln HI
            go_wp2_with (first
              | (go_at_call 13; refine (same_any HP'.out.hd.life g2 HP'.out.row).mono ?_; rintro e w3 ⟨rfl, b3⟩; replace HP' := Hid.mk (HP'.out.call b3); clear b3)
              | (go_at_call 14; refine (is_any HP'.out.hd.life _).mono ?_; rintro e w4 ⟨rfl, rfl⟩; rw [HI'.out]))
            exact ⟨⟨q + 1, xs', o', nx', by omega, by omega, by go_num, rfl, rfl, HP'.out⟩, by simp [intOf]; omega⟩
        · have HI := Hid.mk (isL_out xs b (by rw [hln.out]; omega))
          go_upto_block 2 with fail
          go_cut [12, 13, 17, 18, 19, 20, 21, 22, 23] from 44 to 182 (fun po pn _ _ _ _ _ _ _ wx => ∃ (xs : List Int) (o nx : Int), po = .int .i64 o ∧ pn = .int .i64 nx ∧ Pl w a g g2 n k xs o nx wx)
          case first => as_aux_lemma =>
            by_cases hK0 : K = 0
            · subst hK0
              have HNo : Hid (isL xs b ≠ 0 ∨ 0 ≤ o) := .inl (by rw [HI.out]; decide)
              go_wp2_with (go_at_call 8; refine (open_no HP.out.hd.life _ (by first | exact HNo.out)).mono ?_; rintro e w1 ⟨rfl, rfl⟩)
              go_meet
              exact ⟨xs, o, nx, rfl, rfl, HP.out⟩
            · replace hK0 : (K == 0) = false := by simpa using hK0
              by_cases hK4 : K = 4
              · subst hK4
                have HNo : Hid (isL xs b < 0 ∨ isL xs b = 3) := .inl (by rw [HI.out]; decide)
                go_wp2_with (go_at_call 9; refine (full_of (let_no HP.out.hd.life _ HNo.out _)).mono ?_; rintro e w1 ⟨rfl, rfl⟩)
                go_meet
                exact ⟨xs, o, nx, rfl, rfl, HP.out⟩
              · replace hK4 : (K == 4) = false := by simpa using hK4
                by_cases hK5 : K = 5
                · subst hK5
                  have HNo : Hid (isL xs b < 0 ∨ isL xs b = 3) := .inl (by rw [HI.out]; decide)
                  go_wp2_with (go_at_call 10; refine (free_of (let_no HP.out.hd.life _ HNo.out _)).mono ?_; rintro e w1 ⟨rfl, rfl⟩)
                  go_meet
                  exact ⟨xs, o, nx, rfl, rfl, HP.out⟩
                · replace hK5 : (K == 5) = false := by simpa using hK5
                  by_cases hK6 : K = 6
                  · subst hK6
                    have HNo : Hid (isL xs b < 0 ∨ isL xs b = 3) := .inl (by rw [HI.out]; decide)
                    go_wp2_with (go_at_call 11; refine (bad_of (let_no HP.out.hd.life _ HNo.out _)).mono ?_; rintro e w1 ⟨rfl, rfl⟩)
                    go_meet
                    exact ⟨xs, o, nx, rfl, rfl, HP.out⟩
                  · replace hK6 : (K == 6) = false := by simpa using hK6
                    by_cases ho : o = -1
                    · have HT := Hid.mk (take_none HP.out.hd.life ho)
                      subst ho
                      go_wp2_with (go_at_call 12; refine HT.out.mono ?_; rintro e w1 ⟨rfl, rfl⟩)
                      go_meet
                      exact ⟨xs, -1, nx, rfl, rfl, HP.out⟩
                    · obtain ⟨jj, rfl⟩ := Int.eq_ofNat_of_zero_le (show 0 ≤ o by omega)
                      clear ho
                      have hjj := (HO.out.open_at jj rfl).1
                      have hjj1 : (jj : Int) < n := by omega
                      have HT := Hid.mk (take_some HP.out.hd.life jj rfl)
                      have hno := HO.out.nxo (by omega)
                      unfold tkX tkO at HT
                      by_cases he : nx + 1 = k
                      · rw [if_pos he, if_pos he] at HT
                        go_wp2_with (go_at_call 12; refine HT.out.mono ?_; rintro e w1 ⟨rfl, h1, k1⟩; have c3 := (HP.out.kept k1).cell jj (by rw [hln.out]; exact hjj); have f3 := (HP.out.kept k1).frozen jj; have HQ := Hid.mk (HP.out.both h1 k1); clear h1 k1)
                        go_meet
                        exact ⟨xs.set jj 2, -1, nx + 1, rfl, by rw [he], HQ.out⟩
                      · rw [if_neg he, if_neg he] at HT
                        replace he : (nx + 1 == (k : Int)) = false := by simpa using he
                        go_wp2_with (go_at_call 12; refine HT.out.mono ?_; rintro e w1 ⟨rfl, h1, k1⟩; have HQ := Hid.mk (HP.out.only h1 k1); clear h1 k1)
                        go_meet
                        exact ⟨xs, jj, nx + 1, rfl, rfl, HQ.out⟩
          case rest => as_aux_lemma =>
            obtain ⟨xs', o', nx', rfl, rfl, hP'⟩ := hcut
            have hl' := hP'.hd.life.ok.len
            have HI' := Hid.mk (isL_out xs' b (by rw [hl']; omega))
            have HP' := Hid.mk hP'
            clear hP' HP HO hln HI
            go_wp2_with (first
              | (go_at_call 13; refine (same_any HP'.out.hd.life g2 HP'.out.row).mono ?_; rintro e w3 ⟨rfl, b3⟩; replace HP' := Hid.mk (HP'.out.call b3); clear b3)
              | (go_at_call 14; refine (is_any HP'.out.hd.life _).mono ?_; rintro e w4 ⟨rfl, rfl⟩; rw [HI'.out]))
            exact ⟨⟨q + 1, xs', o', nx', by omega, by omega, by go_num, rfl, rfl, HP'.out⟩, by simp [intOf]; omega⟩
      · have HI := Hid.mk (isL_out xs b (by rw [hln.out]; omega))
        go_upto_block 2 with fail
        go_cut [12, 13, 17, 18, 19, 20, 21, 22, 23] from 44 to 182 (fun po pn _ _ _ _ _ _ _ wx => ∃ (xs : List Int) (o nx : Int), po = .int .i64 o ∧ pn = .int .i64 nx ∧ Pl w a g g2 n k xs o nx wx)
        case first => as_aux_lemma =>
          by_cases hK0 : K = 0
          · subst hK0
            have HNo : Hid (isL xs b ≠ 0 ∨ 0 ≤ o) := .inl (by rw [HI.out]; decide)
            go_wp2_with (go_at_call 8; refine (open_no HP.out.hd.life _ (by first | exact HNo.out)).mono ?_; rintro e w1 ⟨rfl, rfl⟩)
            go_meet
            exact ⟨xs, o, nx, rfl, rfl, HP.out⟩
          · replace hK0 : (K == 0) = false := by simpa using hK0
            by_cases hK4 : K = 4
            · subst hK4
              have HNo : Hid (isL xs b < 0 ∨ isL xs b = 3) := .inl (by rw [HI.out]; decide)
              go_wp2_with (go_at_call 9; refine (full_of (let_no HP.out.hd.life _ HNo.out _)).mono ?_; rintro e w1 ⟨rfl, rfl⟩)
              go_meet
              exact ⟨xs, o, nx, rfl, rfl, HP.out⟩
            · replace hK4 : (K == 4) = false := by simpa using hK4
              by_cases hK5 : K = 5
              · subst hK5
                have HNo : Hid (isL xs b < 0 ∨ isL xs b = 3) := .inl (by rw [HI.out]; decide)
                go_wp2_with (go_at_call 10; refine (free_of (let_no HP.out.hd.life _ HNo.out _)).mono ?_; rintro e w1 ⟨rfl, rfl⟩)
                go_meet
                exact ⟨xs, o, nx, rfl, rfl, HP.out⟩
              · replace hK5 : (K == 5) = false := by simpa using hK5
                by_cases hK6 : K = 6
                · subst hK6
                  have HNo : Hid (isL xs b < 0 ∨ isL xs b = 3) := .inl (by rw [HI.out]; decide)
                  go_wp2_with (go_at_call 11; refine (bad_of (let_no HP.out.hd.life _ HNo.out _)).mono ?_; rintro e w1 ⟨rfl, rfl⟩)
                  go_meet
                  exact ⟨xs, o, nx, rfl, rfl, HP.out⟩
                · replace hK6 : (K == 6) = false := by simpa using hK6
                  by_cases ho : o = -1
                  · have HT := Hid.mk (take_none HP.out.hd.life ho)
                    subst ho
                    go_wp2_with (go_at_call 12; refine HT.out.mono ?_; rintro e w1 ⟨rfl, rfl⟩)
                    go_meet
                    exact ⟨xs, -1, nx, rfl, rfl, HP.out⟩
                  · obtain ⟨jj, rfl⟩ := Int.eq_ofNat_of_zero_le (show 0 ≤ o by omega)
                    clear ho
                    have hjj := (HO.out.open_at jj rfl).1
                    have hjj1 : (jj : Int) < n := by omega
                    have HT := Hid.mk (take_some HP.out.hd.life jj rfl)
                    have hno := HO.out.nxo (by omega)
                    unfold tkX tkO at HT
                    by_cases he : nx + 1 = k
                    · rw [if_pos he, if_pos he] at HT
                      go_wp2_with (go_at_call 12; refine HT.out.mono ?_; rintro e w1 ⟨rfl, h1, k1⟩; have c3 := (HP.out.kept k1).cell jj (by rw [hln.out]; exact hjj); have f3 := (HP.out.kept k1).frozen jj; have HQ := Hid.mk (HP.out.both h1 k1); clear h1 k1)
                      go_meet
                      exact ⟨xs.set jj 2, -1, nx + 1, rfl, by rw [he], HQ.out⟩
                    · rw [if_neg he, if_neg he] at HT
                      replace he : (nx + 1 == (k : Int)) = false := by simpa using he
                      go_wp2_with (go_at_call 12; refine HT.out.mono ?_; rintro e w1 ⟨rfl, h1, k1⟩; have HQ := Hid.mk (HP.out.only h1 k1); clear h1 k1)
                      go_meet
                      exact ⟨xs, jj, nx + 1, rfl, rfl, HQ.out⟩
        case rest => as_aux_lemma =>
          obtain ⟨xs', o', nx', rfl, rfl, hP'⟩ := hcut
          have hl' := hP'.hd.life.ok.len
          have HI' := Hid.mk (isL_out xs' b (by rw [hl']; omega))
          have HP' := Hid.mk hP'
          clear hP' HP HO hln HI
          go_wp2_with (first
            | (go_at_call 13; refine (same_any HP'.out.hd.life g2 HP'.out.row).mono ?_; rintro e w3 ⟨rfl, b3⟩; replace HP' := Hid.mk (HP'.out.call b3); clear b3)
            | (go_at_call 14; refine (is_any HP'.out.hd.life _).mono ?_; rintro e w4 ⟨rfl, rfl⟩; rw [HI'.out]))
          exact ⟨⟨q + 1, xs', o', nx', by omega, by omega, by go_num, rfl, rfl, HP'.out⟩, by simp [intOf]; omega⟩
    · have hq1 : ¬ ((q : Int) < len ∧ (q : Int) < 80) := by omega
      have HB := Hid.mk hP.hd.below
      clear hP
      by_cases hq2 : (q : Int) < len
      · have hq3 : ¬ (q : Int) < 80 := fun h => hq1 ⟨hq2, h⟩
        clear hq hq1
        go_wp2
        go_ret
        exact ⟨rfl, HB.out⟩
      · clear hq hq1
        go_wp2
        go_ret
        exact ⟨rfl, HB.out⟩
end Go.Proofs.Ytclpcodcfcegdaa
