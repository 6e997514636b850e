/-
  The walk of the law's same. No condition.
-/
import Derived.Test.YtclpcodcfcegdaaAwk
import Derived.Deep.Cut
namespace Go.Proofs.Ytclpcodcfcegdaa
open Go Go.RowKit

/-- how many there are of each kind -/
def cnts (xs : List Int) : List Int := [cnt xs 0, cnt xs 1, cnt xs 2, cnt xs 3]
theorem cnts_add (xs : List Int) (q : Nat) (hq : q < 4) : (cnts xs).set q ((cnts xs).getD q 0 + 1) = cnts (xs ++ [(q : Int)]) := by
  have h4 : q = 0 ∨ q = 1 ∨ q = 2 ∨ q = 3 := by omega
  unfold cnts
  rcases h4 with rfl | rfl | rfl | rfl <;> simp [cnt_snoc]
theorem cnts_at (xs : List Int) (q : Nat) (hq : q < 4) : (cnts xs).getD q 0 = cnt xs q := by
  have h4 : q = 0 ∨ q = 1 ∨ q = 2 ∨ q = 3 := by omega
  rcases h4 with rfl | rfl | rfl | rfl <;> rfl
set_option maxRecDepth 20000 in
theorem same_any {w : World} {a g n k xs o nx} (h : Lif w a g n k xs o nx) (g2 : Nat) (h2 : Row w g2 3 .i64 xs) :
    Calls Try.prog 13 #[.pointer (some ⟨a, 0, none⟩), .slice (some ⟨g2, 0, none⟩) n n, .int .i64 o, .int .i64 nx, .int .i64 k] w fun e w' => e = .returned (.bool true) ∧ Below w.heap.size w w' := by
  have H := Hid.mk h
  have H2 := Hid.mk h2
  have hnb := h.ok.nb
  have hkb := h.ok.kb
  have hl := Hid.mk h.ok.len
  clear h h2
  go_enter Try.func13, Try.ntmps13
  go_upto_region 3 with fail
  have hr0 : Row (w.alloc (.cells #[.int .i64 0, .int .i64 0, .int .i64 0, .int .i64 0] 42)) w.heap.size 42 .i64 (cnts (xs.take 0)) := Row.fresh w 42 .i64 [0, 0, 0, 0]
  have hb0 := (Below.refl w.heap.size w).alloc (Nat.le_refl _) (.cells #[.int .i64 0, .int .i64 0, .int .i64 0, .int .i64 0] 42)
  have HR0 := Hid.mk (And.intro hr0 hb0)
  clear hr0 hb0
  generalize w.alloc (.cells #[.int .i64 0, .int .i64 0, .int .i64 0, .int .i64 0] 42) = W0 at *
  go_loopw [13] (fun i wr => ∃ j : Nat, j ≤ n ∧ i = .int .i64 j ∧ Row wr w.heap.size 42 .i64 (cnts (xs.take j)) ∧ Below w.heap.size w wr) (fun i _ => n - (intOf i).toNat)
  case atStart => exact ⟨0, Nat.zero_le _, rfl, HR0.out.1, HR0.out.2⟩
  case round =>
    clear HR0
    obtain ⟨j, hj, rfl, hr, hb⟩ := hrel
    by_cases hlt : j < n
    · have hlt1 : (j : Int) < n := by omega
      have c2 := (H2.out.call hb).cell j (by rw [hl.out]; exact hlt)
      obtain ⟨q, hq⟩ := Int.eq_ofNat_of_zero_le (H.out.ok.kind j hlt).1
      have hq4 := (H.out.ok.kind j hlt).2
      have hts := take_snoc xs j (by rw [hl.out]; exact hlt)
      have hi := isL_in xs j (by rw [hl.out]; exact hlt)
      rw [hq] at c2 hq4 hts hi
      have hq5 : q < 4 := by omega
      have hq6 : (q : Int) < 4 := by omega
      have cq := hr.cell q (by simpa [cnts] using hq5)
      have fq := hr.frozen q
      have hca := cnts_add (xs.take j) q hq5
      have hrc : (cnts (xs.take j)).getD q 0 = cnt (xs.take j) q := cnts_at _ q hq5
      have hcr := cnt_range (xs.take j) q
      have hlen : (xs.take j).length ≤ 32 := by rw [List.length_take, hl.out]; omega
      rw [hrc] at cq hca
      rw [← hts] at hca
      have hgl := hr.lt
      have hg2 : g2 ≠ w.heap.size := by have := H2.out.lt; omega
      have HN := Hid.mk (And.intro hr (And.intro hb (And.intro hca (And.intro hts (And.intro hi hq)))))
      clear hr hb hca hts hi hq hrc hq4
      generalize cnt (xs.take j) q = c at *
      go_upto_region 6 with fail
      have hr1 := HN.out.1.stored q (c + 1)
      rw [HN.out.2.2.1] at hr1
      have hb1 := HN.out.2.1.setCell (p := ⟨w.heap.size, q, none⟩) (Nat.le_refl _) (.int .i64 (c + 1))
      have c3 := (H2.out.call hb1).cell j (by rw [hl.out]; exact hlt)
      rw [HN.out.2.2.2.2.2] at c3
      have HM := Hid.mk (And.intro hr1 hb1)
      clear hr1 hb1 c2 cq fq
      generalize wr.setCell ⟨w.heap.size, q, none⟩ (.int .i64 (c + 1)) = W1 at *
      have HI := Hid.mk (fun m => is_any ((H.out.call HM.out.2).drewN m) (j : Int))
      rw [HN.out.2.2.2.2.1] at HI
      go_quiet ((go_at_call 14; exact Calls.quiet_of_same (HI.out _)))
      go_wp2
      exact ⟨⟨j + 1, by omega, by go_num, HM.out.1.drewN nq, below_drewN HM.out.2⟩, by simp [intOf]; omega⟩
    · have hlt1 : ¬ (j : Int) < n := by omega
      have ht : xs.take j = xs := List.take_of_length_le (by rw [hl.out]; omega)
      rw [ht] at hr
      have c0 := hr.cell 0 (by simp [cnts])
      rw [cnts_at xs 0 (by decide)] at c0
      have hor := H.out.ok.or
      have hnx := H.out.ok.nxr
      have hcr : 0 ≤ cnt xs 0 * k ∧ cnt xs 0 * k ≤ 32 * 16 := mul_range (by have := cnt_range xs 0; have := hl.out; omega) (by omega)
      have hm : wrap64 (cnt xs 0 * k) = cnt xs 0 * k := by unfold wrap64; omega
      have HRM : Hid (∀ w', Lif w' a g n k xs o nx → Calls Try.prog 15 #[.pointer (some ⟨a, 0, none⟩)] w' fun e w'' => e = .returned (.int .i64 (cnt xs 0 * (k : Int) + if 0 ≤ o then k - nx else 0)) ∧ ∃ m, w'' = w'.drewN m) := fun w' h => room_any h
      obtain ⟨v, hv⟩ : ∃ v, cnt xs 0 * (k : Int) = v := ⟨_, rfl⟩
      rw [hv] at hcr HRM
      replace hm : wrap64 (cnt xs 0 * k) = v := hm.trans hv
      clear hv ht
      have HH := Hid.mk (And.intro hr (And.intro hb (H.out.call hb)))
      clear hr hb
      rw [show ((0 : Nat) : Int) = 0 from rfl] at c0
      generalize cnt xs 0 = c at c0 hm
      by_cases ho : 0 ≤ o
      · have hdo : decide (0 ≤ o) = true := decide_eq_true ho
        rw [if_pos ho] at HRM
        go_upto_region 13 with (go_at_call 16; refine (at_some HH.out.2.2 ho).mono ?_; rintro e w1 ⟨rfl, m1, rfl⟩)
        go_loopw [17] (fun i wx => ∃ q : Nat, q ≤ 4 ∧ i = .int .i64 q ∧ Row wx w.heap.size 42 .i64 (cnts xs) ∧ Below w.heap.size w wx ∧ Lif wx a g n k xs o nx) (fun i _ => 4 - (intOf i).toNat)
        case atStart => exact ⟨0, Nat.zero_le _, rfl, HH.out.1.drewN m1, below_drewN HH.out.2.1, HH.out.2.2.drewN m1⟩
        case round =>
          obtain ⟨q, hq, rfl, hr, hb, hlf⟩ := hrel
          by_cases hq4 : q < 4
          · have hq5 : (q : Int) < 4 := by omega
            have cq := hr.cell q (by simpa [cnts] using hq4)
            rw [cnts_at xs q hq4] at cq
            have HC := Hid.mk (fun m => count_any (hlf.drewN m) (q : Int))
            have HQ := Hid.mk (And.intro hr (And.intro hb hlf))
            clear hr hb hlf c0 hm
            generalize cnt xs q = cc at *
            go_upto_region 15 with fail
            go_quiet ((go_at_call 17; exact Calls.quiet_of_same (HC.out _)))
            go_wp2
            exact ⟨⟨q + 1, by omega, by go_num, HQ.out.1.drewN nq, below_drewN HQ.out.2.1, HQ.out.2.2.drewN nq⟩, by simp [intOf]; omega⟩
          · have hq5 : ¬ (q : Int) < 4 := by omega
            have HQ := Hid.mk (And.intro hb hlf)
            clear hr hb hlf c0 hm
            go_wp2_with (go_at_call 15; refine (HRM.out _ HQ.out.2).mono ?_; rintro e w2 ⟨rfl, m2, rfl⟩)
            go_ret
            exact ⟨rfl, below_drewN HQ.out.1⟩
      · have hdo : decide (0 ≤ o) = false := decide_eq_false ho
        rw [if_neg ho, Int.add_zero] at HRM
        have ho1 : o = -1 := by omega
        go_upto_region 13 with (go_at_call 16; refine (at_none HH.out.2.2 ho1).mono ?_; rintro e w1 ⟨rfl, rfl⟩)
        go_loopw [17] (fun i wx => ∃ q : Nat, q ≤ 4 ∧ i = .int .i64 q ∧ Row wx w.heap.size 42 .i64 (cnts xs) ∧ Below w.heap.size w wx ∧ Lif wx a g n k xs o nx) (fun i _ => 4 - (intOf i).toNat)
        case atStart => exact ⟨0, Nat.zero_le _, rfl, HH.out.1, HH.out.2.1, HH.out.2.2⟩
        case round =>
          obtain ⟨q, hq, rfl, hr, hb, hlf⟩ := hrel
          by_cases hq4 : q < 4
          · have hq5 : (q : Int) < 4 := by omega
            have cq := hr.cell q (by simpa [cnts] using hq4)
            rw [cnts_at xs q hq4] at cq
            have HC := Hid.mk (fun m => count_any (hlf.drewN m) (q : Int))
            have HQ := Hid.mk (And.intro hr (And.intro hb hlf))
            clear hr hb hlf c0 hm
            generalize cnt xs q = cc at *
            go_upto_region 15 with fail
            go_quiet ((go_at_call 17; exact Calls.quiet_of_same (HC.out _)))
            go_wp2
            exact ⟨⟨q + 1, by omega, by go_num, HQ.out.1.drewN nq, below_drewN HQ.out.2.1, HQ.out.2.2.drewN nq⟩, by simp [intOf]; omega⟩
          · have hq5 : ¬ (q : Int) < 4 := by omega
            have HQ := Hid.mk (And.intro hb hlf)
            clear hr hb hlf c0 hm
            go_wp2_with (go_at_call 15; refine (HRM.out _ HQ.out.2).mono ?_; rintro e w2 ⟨rfl, m2, rfl⟩)
            go_ret
            exact ⟨rfl, below_drewN HQ.out.1⟩
end Go.Proofs.Ytclpcodcfcegdaa
