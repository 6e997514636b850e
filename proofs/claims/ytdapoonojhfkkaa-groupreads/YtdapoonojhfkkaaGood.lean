/-
  The law's own 'good' and 'awake'. No condition.
-/
import Derived.Test.YtdapoonojhfkkaaPck
namespace Go.Proofs.Ytdapoonojhfkkaa
open Go Go.RowKit

set_option maxRecDepth 20000 in
set_option maxHeartbeats 2000000 in
theorem good_any (a : Option Addr) (len cap : Nat) (f : Nat → R6) (w : World) (hx : RecsF w a len f) : Calls Try.prog 8 #[.slice a len cap] w fun e w' => ∃ v rs, e = .returned v ∧ Rw w v rs w' ∧ rs.length ≤ 40 := by
  have HX := Hid.mk hx
  clear hx
  go_enter Try.func8, Try.ntmps8
  go_upto_region 3 with fail
  have r0 : Rw w (.slice (some ⟨w.heap.size, 0, none⟩) 0 0) [] (w.alloc (.cells #[] 27)) := ⟨World.ownsRow_made w #[] 0 (Nat.le_refl _) (Nat.zero_le _) rfl, fun _ h => (by cases h), below_one w _⟩
  generalize (w.alloc (.cells #[] 27)) = W at *
  replace r0 := Hid.mk r0
  go_loopw [3, 4] (fun v i wr => ∃ (k : Nat) (rs : List R6), k ≤ 40 ∧ k ≤ len ∧ rs.length ≤ k ∧ i = .int .i64 k ∧ Rw w v rs wr) (fun _ i _ => 40 - (intOf i).toNat)
  case atStart => exact ⟨0, [], by omega, Nat.zero_le _, Nat.le_refl _, rfl, r0.out⟩
  case round =>
    clear r0
    obtain ⟨k, rs, hk40, hklen, hrk, rfl, hs⟩ := hrel
    by_cases hgo : k < len ∧ k < 40
    · obtain ⟨h1, h2⟩ := hgo
      obtain ⟨g, o, rfl, hg, c0, c1, c2, c3, c4, c5⟩ := HX.out.below hs.below k h1
      generalize hr : f k = r at *
      obtain ⟨K, S, P, A, T, N⟩ := r
      simp only at c0 c1 c2 c3 c4 c5
      have HS := Hid.mk (And.intro hs hr)
      clear hs hr
      have h2i : (k : Int) < 40 := by omega
      go_upto_region 5 with fail
      by_cases hm : mayB K S P A T N = true
      · replace hm := Hid.mk hm
        go_upto_region 6 with (go_at_call 20; refine (refCheckB_any K S P A T N _).mono ?_; rintro e w1 ⟨rfl, b1⟩; rw [hm.out])
        replace HS := Hid.mk (And.intro (HS.out.1.call b1) HS.out.2)
        have e1 : ∀ j, w1.cell? ⟨g, j, none⟩ = wr.cell? ⟨g, j, none⟩ := fun j => b1.cell (p := ⟨g, j, none⟩) hg
        rw [← e1] at c0 c1 c2 c3 c4 c5
        have hg1 := Nat.lt_of_lt_of_le hg b1.size
        clear e1 b1 hg
        obtain ⟨i27, z27, q1, q2, q3, q4, q5⟩ := info23z
        have HI := Hid.mk (And.intro q1 (And.intro q2 (And.intro q3 (And.intro q4 q5))))
        clear q1 q2 q3 q4 q5
        go_wp2_with (first | (at_builtin; refine wpList_append_own _ rfl (.tmp 21) (.tmp 26) 23 rfl w.heap.size 27 i27 z27 6 48 Try.underlying23 HI.out.1 HI.out.2.1 HI.out.2.2.1 HI.out.2.2.2.1 HI.out.2.2.2.2 (by decide) u3 rs.length (rowsC rs) rfl (HS.out.1.own.alloc _) ⟨w1.heap.size, 0, none⟩ 1 1 (R6.cells (K, S, P, A, T, N)) rfl rfl (rec_cells w1 (K, S, P, A, T, N)) (cells_one _) (by simp [maxLen]; omega) (by omega) (Nat.le_trans HS.out.1.below.size (by rw [size_alloc]; omega)) ?_; intro v2 w3 hown hgrow _))
        exact ⟨⟨k + 1, rs ++ [(K, S, P, A, T, N)], by omega, by omega, by rw [List.length_append, List.length_singleton]; omega, by go_num, HS.out.1.more _ _ hm.out hown hgrow⟩, by simp [intOf]; omega⟩
      · replace hm : mayB K S P A T N = false := by simpa using hm
        replace hm := Hid.mk hm
        go_wp2_with (go_at_call 20; refine (refCheckB_any K S P A T N _).mono ?_; rintro e w1 ⟨rfl, b1⟩; rw [hm.out])
        exact ⟨⟨k + 1, rs, by omega, by omega, by omega, by go_num, HS.out.1.call b1⟩, by simp [intOf]; omega⟩
    · have hex : ¬ ((k : Int) < (len : Int)) ∨ ((k : Int) < (len : Int) ∧ ¬ ((k : Int) < 40)) := by omega
      have HS := Hid.mk hs
      clear hs hgo
      rcases hex with hex | ⟨hex0, hex⟩
      all_goals
        go_wp2_with fail
        go_ret
        exact ⟨_, rfl, rs, HS.out, by omega⟩
/-- a row of records of the call's own, as one that is handed on -/
theorem Rw.recs {w a c rs wr} (h : Rw w (.slice a rs.length c) rs wr) : RecsF wr a rs.length (fun i => rs.getD i (0, 0, 0, 0, 0, 0)) := by
  intro i hi
  obtain ⟨r, hr⟩ : ∃ r, rs.getD i (0, 0, 0, 0, 0, 0) = r := ⟨_, rfl⟩
  obtain ⟨K, S, P, A, T, N⟩ := r
  obtain ⟨g, ha, hg, d0, d1, d2, d3, d4, d5⟩ := h.at i hi hr
  refine ⟨g, 0, ha, hg, ?_, ?_, ?_, ?_, ?_, ?_⟩ <;> (dsimp only; rw [hr, Nat.zero_add]; assumption)
/-- texts of the call's own, as ones that are handed on -/
theorem owns_txt {B a c} {ts : List ByteArray} {w : World} (h : w.ownsRow B 9 1 (.slice a ts.length c) ts.length (ts.map Value.string)) : TxtF w a ts := by
  intro i hi
  obtain ⟨g, c2, q, _⟩ := owns_form1 h (by omega)
  obtain ⟨rfl, _⟩ : a = some ⟨g, 0, none⟩ ∧ c = c2 := by simpa using q
  refine ⟨g, 0, rfl, (h.lt g rfl).2, ?_⟩
  have ea : (⟨g, 0, none⟩ : Addr).add i = ⟨g, 0 + i, none⟩ := by unfold Addr.add; split <;> simp_all
  rw [← ea]
  refine h.cells rfl i _ ?_
  simp [List.getD_eq_getElem?_getD, hi]
end Go.Proofs.Ytdapoonojhfkkaa
