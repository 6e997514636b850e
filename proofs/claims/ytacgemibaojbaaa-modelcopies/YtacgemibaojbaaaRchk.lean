/-
  Which records may be, as the answer reckons it: the walk of its Check. No condition.
-/
import Derived.Test.YtacgemibaojbaaaOf
namespace Go.Proofs.Ytacgemibaojbaaa
open Go Go.RowKit

theorem IsL.mono {w : World} {B B' a l} (h : IsL w B a l) (hB : B' ≤ B) : IsL w B' a l := fun h0 => by
  obtain ⟨g, ha, hg, hb⟩ := h h0
  exact ⟨g, ha, by omega, hb⟩
/-- all numbers from the k-th on are within their limits -/
def within : List Int → List Int → List Int → Bool
  | x :: xs, y :: ys, z :: zs => if x < y ∨ z < x then false else within xs ys zs
  | _, _, _ => true
theorem drop_getDI (l : List Int) (k : Nat) (h : k < l.length) : l.drop k = l.getD k 0 :: l.drop (k + 1) := by
  rw [List.drop_eq_getElem_cons h]
  simp [List.getD_eq_getElem?_getD, h]
/-- what holds in the answer's Check -/
def RcS (w : World) (l : List Int) (a b c : Option Addr) (xs ls ms : List Int) (wr : World) : Prop :=
  Row wr w.heap.size 41 .i64 l ∧ IsL wr w.heap.size a xs ∧ IsL wr w.heap.size b ls ∧ IsL wr w.heap.size c ms ∧ Below w.heap.size w wr
theorem RcS.call {w wr w2 : World} {l a b c xs ls ms} (h : RcS w l a b c xs ls ms wr) (q : Below wr.heap.size wr w2) : RcS w l a b c xs ls ms w2 :=
  ⟨h.1.call q, h.2.1.call q, h.2.2.1.call q, h.2.2.2.1.call q, below3 h.2.2.2.2 q⟩
theorem RcS.drew {w wr : World} {l a b c xs ls ms} (h : RcS w l a b c xs ls ms wr) : RcS w l a b c xs ls ms wr.drew := ⟨h.1, h.2.1, h.2.2.1, h.2.2.2.1, h.2.2.2.2.drew⟩
theorem rc_mk {w w' : World} {K S P A T N : Int} {a b c xs ls ms} (h : RcS w [K, S, P, A, T, N] a b c xs ls ms w') : w'.cell? ⟨w.heap.size, 0, none⟩ = some (.int .i64 K) ∧ w'.cell? ⟨w.heap.size, 1, none⟩ = some (.int .i64 S) ∧ w'.cell? ⟨w.heap.size, 2, none⟩ = some (.int .i64 P) ∧ w'.cell? ⟨w.heap.size, 3, none⟩ = some (.int .i64 A) ∧ w'.cell? ⟨w.heap.size, 4, none⟩ = some (.int .i64 T) ∧ w'.cell? ⟨w.heap.size, 5, none⟩ = some (.int .i64 N) ∧ RcS w [K, S, P, A, T, N] a b c xs ls ms w'  :=
  ⟨h.1.six.1, h.1.six.2.1, h.1.six.2.2.1, h.1.six.2.2.2.1, h.1.six.2.2.2.2.1, h.1.six.2.2.2.2.2, h⟩
theorem refCheck_any (K S P A T N : Int) (w : World) : Calls Try.prog 34 #[rv K S P A T N] w fun e w' =>
    e = .returned (.bool (decide (0 < (flds K).length) && (decide (laySet (flds K) (valsL (flds K) [K, S, P, A, T, N]) [K, 0, 0, 0, 0, 0] = [K, S, P, A, T, N]) && within (valsL (flds K) [K, S, P, A, T, N]) (leasts (flds K)) (mosts (flds K))))) ∧ Below w.heap.size w w' := by
  have q1 : (valsL (flds K) [K, S, P, A, T, N]).length = (flds K).length := by simp [valsL]
  have q2 : (leasts (flds K)).length = (flds K).length := by simp [leasts]
  have q3 : (mosts (flds K)).length = (flds K).length := by simp [mosts]
  have hlay : (laySet (flds K) (valsL (flds K) [K, S, P, A, T, N]) [K, 0, 0, 0, 0, 0]).length = 6 := laySet_len _ _ _
  have hof := fun w B a (h : IsL w B a (valsL (flds K) [K, S, P, A, T, N])) (h0 : 0 < (flds K).length) => of_any K (valsL (flds K) [K, S, P, A, T, N]) q1 h0 h
  have hrow := row_any K S P A T N
  have h3 := flds_len K
  unfold rowPost at hrow
  generalize valsL (flds K) [K, S, P, A, T, N] = xs at *
  generalize leasts (flds K) = ls at *
  generalize mosts (flds K) = ms at *
  generalize laySet (flds K) xs [K, 0, 0, 0, 0, 0] = Y at *
  generalize (flds K).length = n at *
  obtain ⟨y0, y1, y2, y3, y4, y5, rfl⟩ := six hlay
  clear hlay
  have HO := Hid.mk (And.intro hof (And.intro q1 (And.intro q2 q3)))
  clear hof q1 q2 q3
  replace hrow := Hid.mk hrow
  generalize hRes : (decide (0 < n) && (decide ([y0, y1, y2, y3, y4, y5] = [K, S, P, A, T, N]) && within xs ls ms)) = Res
  replace hRes := Hid.mk hRes
  unfold rv
  go_enter Try.func34, Try.ntmps34
  go_upto_region 1 with fail
  have p1 : Row (w.alloc (.cells #[.int .i64 K, .int .i64 S, .int .i64 P, .int .i64 A, .int .i64 T, .int .i64 N] 41)) w.heap.size 41 .i64 [K, S, P, A, T, N] := Row.fresh w 41 .i64 [K, S, P, A, T, N]
  have p2 := below_one w (.cells #[.int .i64 K, .int .i64 S, .int .i64 P, .int .i64 A, .int .i64 T, .int .i64 N] 41)
  generalize (w.alloc (.cells #[.int .i64 K, .int .i64 S, .int .i64 P, .int .i64 A, .int .i64 T, .int .i64 N] 41)) = W at *
  obtain ⟨c0, c1, c2, c3, c4, c5⟩ := p1.six
  have H := Hid.mk (And.intro p1 p2)
  clear p1 p2
  go_upto_region 2 with (go_at_call 48; refine (hrow.out _).mono ?_; rintro e w1 ⟨a, b, c, rfl, b1, i1, i2, i3⟩)
  have s1 : RcS w [K, S, P, A, T, N] a b c xs ls ms w1 := ⟨H.out.1.call b1, i1.mono H.out.2.size, i2.mono H.out.2.size, i3.mono H.out.2.size, below3 H.out.2 b1⟩
  clear i1 i2 i3 b1 c0 c1 c2 c3 c4 c5 hrow
  by_cases hn : 0 < n
  case neg =>
    have hd : decide (0 < n) = false := decide_eq_false hn
    rw [hd]
    replace s1 := Hid.mk s1
    go_region
    go_wp2_with fail
    go_ret
    exact ⟨by rw [← hRes.out, hd]; rfl, s1.out.2.2.2.2.drew⟩
  have hd : decide (0 < n) = true := decide_eq_true hn
  rw [hd]
  clear hd
  have s0 := Hid.mk (rc_mk s1.drew)
  clear s1
  by_cases e0 : y0 = K
  case neg =>
    have hf : Res = false := by rw [← hRes.out]; simp [e0]
    replace hf := Hid.mk hf
    go_region_held3 (fun w' => w'.cell? ⟨w.heap.size, 0, none⟩ = some (.int .i64 K) ∧ w'.cell? ⟨w.heap.size, 1, none⟩ = some (.int .i64 S) ∧ w'.cell? ⟨w.heap.size, 2, none⟩ = some (.int .i64 P) ∧ w'.cell? ⟨w.heap.size, 3, none⟩ = some (.int .i64 A) ∧ w'.cell? ⟨w.heap.size, 4, none⟩ = some (.int .i64 T) ∧ w'.cell? ⟨w.heap.size, 5, none⟩ = some (.int .i64 N) ∧ RcS w [K, S, P, A, T, N] a b c xs ls ms w' ) (first | assumption | exact s0.out | exact rc_mk (RcS.call (And.right (And.right (And.right (And.right (And.right (And.right (by assumption))))))) (by assumption)) | fail)
      (first | (go_at_call 49; refine (HO.out.1 _ _ _ (And.right (And.right (And.right (And.right (And.right (And.right s0.out)))))).2.1 hn).mono ?_; rintro e w3 ⟨rfl, b3⟩; simp only [rvL_six]; unfold rv))
    have s3 : Hid (RcS w [K, S, P, A, T, N] a b c xs ls ms w3) := Hid.mk ((And.right (And.right (And.right (And.right (And.right (And.right s0.out)))))).call b3)
    clear s0 b3
    go_wp2_with fail
    go_ret
    exact ⟨by rw [hf.out]; rfl, s3.out.2.2.2.2⟩
  subst y0
  by_cases e0 : y1 = S
  case neg =>
    have hf : Res = false := by rw [← hRes.out]; simp [e0]
    replace hf := Hid.mk hf
    go_region_held3 (fun w' => w'.cell? ⟨w.heap.size, 0, none⟩ = some (.int .i64 K) ∧ w'.cell? ⟨w.heap.size, 1, none⟩ = some (.int .i64 S) ∧ w'.cell? ⟨w.heap.size, 2, none⟩ = some (.int .i64 P) ∧ w'.cell? ⟨w.heap.size, 3, none⟩ = some (.int .i64 A) ∧ w'.cell? ⟨w.heap.size, 4, none⟩ = some (.int .i64 T) ∧ w'.cell? ⟨w.heap.size, 5, none⟩ = some (.int .i64 N) ∧ RcS w [K, S, P, A, T, N] a b c xs ls ms w' ) (first | assumption | exact s0.out | exact rc_mk (RcS.call (And.right (And.right (And.right (And.right (And.right (And.right (by assumption))))))) (by assumption)) | fail)
      (first | (go_at_call 49; refine (HO.out.1 _ _ _ (And.right (And.right (And.right (And.right (And.right (And.right s0.out)))))).2.1 hn).mono ?_; rintro e w3 ⟨rfl, b3⟩; simp only [rvL_six]; unfold rv))
    have s3 : Hid (RcS w [K, S, P, A, T, N] a b c xs ls ms w3) := Hid.mk ((And.right (And.right (And.right (And.right (And.right (And.right s0.out)))))).call b3)
    clear s0 b3
    go_wp2_with fail
    go_ret
    exact ⟨by rw [hf.out]; rfl, s3.out.2.2.2.2⟩
  subst y1
  by_cases e0 : y2 = P
  case neg =>
    have hf : Res = false := by rw [← hRes.out]; simp [e0]
    replace hf := Hid.mk hf
    go_region_held3 (fun w' => w'.cell? ⟨w.heap.size, 0, none⟩ = some (.int .i64 K) ∧ w'.cell? ⟨w.heap.size, 1, none⟩ = some (.int .i64 S) ∧ w'.cell? ⟨w.heap.size, 2, none⟩ = some (.int .i64 P) ∧ w'.cell? ⟨w.heap.size, 3, none⟩ = some (.int .i64 A) ∧ w'.cell? ⟨w.heap.size, 4, none⟩ = some (.int .i64 T) ∧ w'.cell? ⟨w.heap.size, 5, none⟩ = some (.int .i64 N) ∧ RcS w [K, S, P, A, T, N] a b c xs ls ms w' ) (first | assumption | exact s0.out | exact rc_mk (RcS.call (And.right (And.right (And.right (And.right (And.right (And.right (by assumption))))))) (by assumption)) | fail)
      (first | (go_at_call 49; refine (HO.out.1 _ _ _ (And.right (And.right (And.right (And.right (And.right (And.right s0.out)))))).2.1 hn).mono ?_; rintro e w3 ⟨rfl, b3⟩; simp only [rvL_six]; unfold rv))
    have s3 : Hid (RcS w [K, S, P, A, T, N] a b c xs ls ms w3) := Hid.mk ((And.right (And.right (And.right (And.right (And.right (And.right s0.out)))))).call b3)
    clear s0 b3
    go_wp2_with fail
    go_ret
    exact ⟨by rw [hf.out]; rfl, s3.out.2.2.2.2⟩
  subst y2
  by_cases e0 : y3 = A
  case neg =>
    have hf : Res = false := by rw [← hRes.out]; simp [e0]
    replace hf := Hid.mk hf
    go_region_held3 (fun w' => w'.cell? ⟨w.heap.size, 0, none⟩ = some (.int .i64 K) ∧ w'.cell? ⟨w.heap.size, 1, none⟩ = some (.int .i64 S) ∧ w'.cell? ⟨w.heap.size, 2, none⟩ = some (.int .i64 P) ∧ w'.cell? ⟨w.heap.size, 3, none⟩ = some (.int .i64 A) ∧ w'.cell? ⟨w.heap.size, 4, none⟩ = some (.int .i64 T) ∧ w'.cell? ⟨w.heap.size, 5, none⟩ = some (.int .i64 N) ∧ RcS w [K, S, P, A, T, N] a b c xs ls ms w' ) (first | assumption | exact s0.out | exact rc_mk (RcS.call (And.right (And.right (And.right (And.right (And.right (And.right (by assumption))))))) (by assumption)) | fail)
      (first | (go_at_call 49; refine (HO.out.1 _ _ _ (And.right (And.right (And.right (And.right (And.right (And.right s0.out)))))).2.1 hn).mono ?_; rintro e w3 ⟨rfl, b3⟩; simp only [rvL_six]; unfold rv))
    have s3 : Hid (RcS w [K, S, P, A, T, N] a b c xs ls ms w3) := Hid.mk ((And.right (And.right (And.right (And.right (And.right (And.right s0.out)))))).call b3)
    clear s0 b3
    go_wp2_with fail
    go_ret
    exact ⟨by rw [hf.out]; rfl, s3.out.2.2.2.2⟩
  subst y3
  by_cases e0 : y4 = T
  case neg =>
    have hf : Res = false := by rw [← hRes.out]; simp [e0]
    replace hf := Hid.mk hf
    go_region_held3 (fun w' => w'.cell? ⟨w.heap.size, 0, none⟩ = some (.int .i64 K) ∧ w'.cell? ⟨w.heap.size, 1, none⟩ = some (.int .i64 S) ∧ w'.cell? ⟨w.heap.size, 2, none⟩ = some (.int .i64 P) ∧ w'.cell? ⟨w.heap.size, 3, none⟩ = some (.int .i64 A) ∧ w'.cell? ⟨w.heap.size, 4, none⟩ = some (.int .i64 T) ∧ w'.cell? ⟨w.heap.size, 5, none⟩ = some (.int .i64 N) ∧ RcS w [K, S, P, A, T, N] a b c xs ls ms w' ) (first | assumption | exact s0.out | exact rc_mk (RcS.call (And.right (And.right (And.right (And.right (And.right (And.right (by assumption))))))) (by assumption)) | fail)
      (first | (go_at_call 49; refine (HO.out.1 _ _ _ (And.right (And.right (And.right (And.right (And.right (And.right s0.out)))))).2.1 hn).mono ?_; rintro e w3 ⟨rfl, b3⟩; simp only [rvL_six]; unfold rv))
    have s3 : Hid (RcS w [K, S, P, A, T, N] a b c xs ls ms w3) := Hid.mk ((And.right (And.right (And.right (And.right (And.right (And.right s0.out)))))).call b3)
    clear s0 b3
    go_wp2_with fail
    go_ret
    exact ⟨by rw [hf.out]; rfl, s3.out.2.2.2.2⟩
  subst y4
  by_cases e0 : y5 = N
  case neg =>
    have hf : Res = false := by rw [← hRes.out]; simp [e0]
    replace hf := Hid.mk hf
    go_region_held3 (fun w' => w'.cell? ⟨w.heap.size, 0, none⟩ = some (.int .i64 K) ∧ w'.cell? ⟨w.heap.size, 1, none⟩ = some (.int .i64 S) ∧ w'.cell? ⟨w.heap.size, 2, none⟩ = some (.int .i64 P) ∧ w'.cell? ⟨w.heap.size, 3, none⟩ = some (.int .i64 A) ∧ w'.cell? ⟨w.heap.size, 4, none⟩ = some (.int .i64 T) ∧ w'.cell? ⟨w.heap.size, 5, none⟩ = some (.int .i64 N) ∧ RcS w [K, S, P, A, T, N] a b c xs ls ms w' ) (first | assumption | exact s0.out | exact rc_mk (RcS.call (And.right (And.right (And.right (And.right (And.right (And.right (by assumption))))))) (by assumption)) | fail)
      (first | (go_at_call 49; refine (HO.out.1 _ _ _ (And.right (And.right (And.right (And.right (And.right (And.right s0.out)))))).2.1 hn).mono ?_; rintro e w3 ⟨rfl, b3⟩; simp only [rvL_six]; unfold rv))
    have s3 : Hid (RcS w [K, S, P, A, T, N] a b c xs ls ms w3) := Hid.mk ((And.right (And.right (And.right (And.right (And.right (And.right s0.out)))))).call b3)
    clear s0 b3
    go_wp2_with fail
    go_ret
    exact ⟨by rw [hf.out]; rfl, s3.out.2.2.2.2⟩
  subst y5
  have hf : within xs ls ms = Res := by rw [← hRes.out, decide_eq_true hn]; simp
  clear hRes
  go_region_held3 (fun w' => w'.cell? ⟨w.heap.size, 0, none⟩ = some (.int .i64 K) ∧ w'.cell? ⟨w.heap.size, 1, none⟩ = some (.int .i64 S) ∧ w'.cell? ⟨w.heap.size, 2, none⟩ = some (.int .i64 P) ∧ w'.cell? ⟨w.heap.size, 3, none⟩ = some (.int .i64 A) ∧ w'.cell? ⟨w.heap.size, 4, none⟩ = some (.int .i64 T) ∧ w'.cell? ⟨w.heap.size, 5, none⟩ = some (.int .i64 N) ∧ RcS w [K, S, P, A, T, N] a b c xs ls ms w' ) (first | assumption | exact s0.out | exact rc_mk (RcS.call (And.right (And.right (And.right (And.right (And.right (And.right (by assumption))))))) (by assumption)) | fail)
    (first | (go_at_call 49; refine (HO.out.1 _ _ _ (And.right (And.right (And.right (And.right (And.right (And.right s0.out)))))).2.1 hn).mono ?_; rintro e w3 ⟨rfl, b3⟩; simp only [rvL_six]; unfold rv))
  have s3 : Hid (RcS w [K, S, P, A, T, N] a b c xs ls ms w3) := Hid.mk ((And.right (And.right (And.right (And.right (And.right (And.right s0.out)))))).call b3)
  obtain ⟨q1, q2, q3⟩ := HO.out.2
  clear s0 b3 HO
  replace hf := Hid.mk (And.intro hf (And.intro q1 (And.intro q2 q3)))
  clear q1 q2 q3
  go_upto_region 5 with fail
  go_loopw [7] (fun i wr => ∃ k : Nat, k ≤ n ∧ i = .int .i64 k ∧ within (xs.drop k) (ls.drop k) (ms.drop k) = Res ∧ RcS w [K, S, P, A, T, N] a b c xs ls ms wr) (fun i _ => n - (intOf i).toNat)
  case atStart => exact ⟨0, Nat.zero_le _, rfl, hf.out.1, s3.out⟩
  case round =>
    clear s3
    obtain ⟨k, hk, rfl, hw, hs⟩ := hrel
    by_cases hkn : k < n
    · obtain ⟨g1, rfl, _, l1, c1⟩ := hs.2.1.cell k (by rw [hf.out.2.1]; exact hkn)
      obtain ⟨g2, rfl, _, l2, c2⟩ := hs.2.2.1.cell k (by rw [hf.out.2.2.1]; exact hkn)
      obtain ⟨g3, rfl, _, l3, c3⟩ := hs.2.2.2.1.cell k (by rw [hf.out.2.2.2]; exact hkn)
      rw [drop_getDI xs k (by rw [hf.out.2.1]; exact hkn), drop_getDI ls k (by rw [hf.out.2.2.1]; exact hkn), drop_getDI ms k (by rw [hf.out.2.2.2]; exact hkn), within] at hw
      generalize xs.getD k 0 = x at *
      generalize ls.getD k 0 = lo at *
      generalize ms.getD k 0 = hi at *
      have HS := Hid.mk hs
      clear hs
      go_upto_region 7 with fail
      by_cases hlo : x < lo
      · rw [if_pos (Or.inl hlo)] at hw
        have HW := Hid.mk hw
        clear hw
        go_region
        go_wp2_with fail
        go_ret
        exact ⟨by rw [← HW.out]; rfl, HS.out.2.2.2.2.drew⟩
      · by_cases hhi : hi < x
        · rw [if_pos (Or.inr hhi)] at hw
          have HW := Hid.mk hw
          clear hw
          go_region
          go_wp2_with fail
          go_ret
          exact ⟨by rw [← HW.out]; rfl, HS.out.2.2.2.2.drew⟩
        · rw [if_neg (by omega)] at hw
          have HW := Hid.mk hw
          clear hw
          go_region
          go_wp2_with fail
          exact ⟨⟨k + 1, by omega, by go_num, HW.out, HS.out.drew⟩, by simp [intOf]; omega⟩
    · have hk2 : k = n := by omega
      rw [hk2, List.drop_of_length_le (by rw [hf.out.2.1]; exact Nat.le_refl _), within] at hw
      · have HW := Hid.mk hw
        have HS := Hid.mk hs
        clear hw hs hk2
        go_wp2_with fail
        go_ret
        exact ⟨by rw [← HW.out]; rfl, HS.out.2.2.2.2⟩
      · intro _ _ _ _ _ _ h
        cases h
end Go.Proofs.Ytacgemibaojbaaa
