/-
  The answer's primes.
-/
import Derived.Test.YtdolilgkjknckaaDoorFirst
import Derived.Test.YtdolilgkjknckaaDoorOwn
namespace Go.Proofs.YtdolilgkjknckaaDoor.Sh
open Go Go.RowKit

def noDiv (l : List Int) (p : Int) : Bool := l.all fun q => p % q != 0
def rpGo : Nat → List Int → Int → List Int
  | 0, l, _ => l
  | f + 1, l, p => if p < 400 ∧ l.length < 64 then (if noDiv l p = true then rpGo f (l ++ [p]) (p + 1) else rpGo f l (p + 1)) else l
theorem rpGo_all : rpGo 398 [] 2 = primes64 := by decide +kernel
theorem rpGo_end (f : Nat) (l : List Int) (p : Int) (h : ¬ (p < 400 ∧ l.length < 64)) : rpGo f l p = l := by
  cases f with
  | zero => rfl
  | succ f => rw [rpGo, if_neg h]
theorem noDiv_succ (l : List Int) (p : Int) (j : Nat) (h : j < l.length) : noDiv (l.take (j + 1)) p = (noDiv (l.take j) p && (p % l[j] != 0)) := by
  unfold noDiv
  rw [List.take_succ_eq_append_getElem h, List.all_append, List.all_cons, List.all_nil, Bool.and_true]
theorem info30z : (Tryd.prog.info? 66).map (fun i => (i.zero, i.size, i.bytes)) = some (some (.int .u64 0), 1, 8) := by kernel_rfl

theorem refPrimes_any (w : World) :
    Calls Tryd.prog 43 #[.int .i64 64] w fun e w' => ∃ v g, e = .returned v ∧ Sl w' 66 .u64 v g primes64 ∧ w.heap.size ≤ g ∧ Below w.heap.size w w' := by
  go_enter Tryd.func43, Tryd.ntmps43
  go_wp2_with fail
  go_loopw [3, 4] (fun v p wr => ∃ (l : List Int) (g m : Nat), Sl wr 66 .u64 v g l ∧ p = .int .u64 m ∧ 2 ≤ m ∧ m ≤ 400 ∧ l.length ≤ 64 ∧ (∀ q ∈ l, 2 ≤ q ∧ q ≤ 399) ∧ rpGo (400 - m) l m = primes64 ∧ w.heap.size ≤ g ∧ Below w.heap.size w wr)
    (fun _ p _ => 400 - (intOf p).toNat)
  case atStart =>
    exact ⟨[], w.heap.size, 2, Sl.ofRow (Row.fresh w 66 .u64 []), rfl, by omega, by omega, by decide, by simp, rpGo_all, Nat.le_refl _, (Below.refl w.heap.size w).alloc (Nat.le_refl _) _⟩
  case round =>
    obtain ⟨l, g, m, hs, rfl, m2, m4, hl, hq, hgo, hg, qb⟩ := hrel
    obtain ⟨cap, rfl, hcap⟩ := hs.val
    by_cases hc : m < 400 ∧ l.length < 64
    · obtain ⟨hc1, hc2⟩ := hc
      cases e : 400 - m with
      | zero => omega
      | succ f =>
        rw [e, rpGo, if_pos ⟨by omega, hc2⟩] at hgo
        have HQ := Hid.mk (And.intro hs (And.intro hq (And.intro hgo (And.intro hg (And.intro qb e)))))
        clear hs hq hgo hg qb e
        have hd1 : decide ((m : Int) < 400) = true := by rw [decide_eq_true_eq]; omega
        have hd2 : decide ((l.length : Int) < 64) = true := by rw [decide_eq_true_eq]; omega
        go_wp2_with fail
        go_loop [5, 6] (fun b i => ∃ j : Nat, j ≤ l.length ∧ i = .int .i64 j ∧ b = .bool (noDiv (l.take j) m)) (fun _ i => l.length - (intOf i).toNat)
        case atStart => exact ⟨0, Nat.zero_le _, rfl, rfl⟩
        case round =>
          obtain ⟨j, hj, rfl, rfl⟩ := hrel
          by_cases hjl : j < l.length
          · have hns := noDiv_succ l m j hjl
            obtain ⟨p2, p3⟩ := HQ.out.2.1 l[j] (List.getElem_mem hjl)
            have c0 := HQ.out.1.cell j hjl
            rw [List.getD_eq_getElem?_getD, List.getElem?_eq_getElem hjl, Option.getD_some] at c0
            generalize l[j] = q at *
            generalize hB : noDiv (l.take j) (m : Int) = B at *
            have HN := Hid.mk hns
            clear hns hB
            cases B
            · go_wp2_with fail
              refine ⟨⟨j + 1, by omega, by go_num, ?_⟩, by simp [intOf]; omega⟩
              rw [HN.out]
              rfl
            · go_wp2_with fail
              refine ⟨⟨j + 1, by omega, by go_num, ?_⟩, by simp [intOf]; omega⟩
              rw [HN.out, Bool.true_and]
          · have hj2 : j = l.length := by omega
            rw [hj2, List.take_length]
            clear hj hjl hj2
            cases hB : noDiv l (m : Int)
            · go_wp2_with fail
              obtain ⟨hs, hq, hgo, hg, qb, e⟩ := HQ.out
              rw [hB, if_neg (by simp)] at hgo
              refine ⟨⟨l, g, m + 1, hs, by go_num, by omega, by omega, hl, hq, ?_, hg, qb⟩, by simp [intOf]; omega⟩
              rw [show 400 - (m + 1) = f by omega]
              exact hgo
            · go_wp2_with (first | (at_builtin; refine wpList_append_sl rfl (.tmp 35) (.tmp 37) 61 rfl Tryd.underlying61 info30z rfl (by decide) rfl (HQ.out.1.alloc _) ⟨wr.heap.size, 0, none⟩ 1 1 [(m : Int)] rfl rfl (one_cell wr .u64 m 66) (by omega) ?_; intro v2 g2 w2 hs2 hgr hgg))
              obtain ⟨hs, hq, hgo, hg, qb, e⟩ := HQ.out
              rw [hB, if_pos rfl] at hgo
              have hz := qb.size
              have qb1 := qb.alloc hz (.cells #[Value.int IntKind.u64 ↑m] 66)
              refine ⟨⟨l ++ [(m : Int)], g2, m + 1, hs2, by go_num, by omega, by omega, by simp; omega, ?_, ?_, ?_, below_grown qb1 hgr qb1.size hg⟩, by simp [intOf]; omega⟩
              · intro q hm
                rcases List.mem_append.1 hm with h | h
                · exact hq q h
                · rw [List.mem_singleton] at h
                  omega
              · rw [show 400 - (m + 1) = f by omega]
                exact hgo
              · rw [size_alloc] at hgg
                omega
    · have hend := rpGo_end (400 - m) l m (by omega)
      rw [hend] at hgo
      have HQ := Hid.mk (And.intro hgo (And.intro hs (And.intro hg qb)))
      clear hend hgo hs hg qb hq
      by_cases h4 : m < 400
      · have hd1 : decide ((m : Int) < 400) = true := by rw [decide_eq_true_eq]; omega
        have hd2 : decide ((l.length : Int) < 64) = false := by rw [decide_eq_false_iff_not]; omega
        go_wp2_with fail
        go_ret
        obtain ⟨hgo, hs, hg, qb⟩ := HQ.out
        exact ⟨_, g, rfl, by rw [← hgo]; exact hs, hg, qb⟩
      · have hd1 : decide ((m : Int) < 400) = false := by rw [decide_eq_false_iff_not]; omega
        go_wp2_with fail
        go_ret
        obtain ⟨hgo, hs, hg, qb⟩ := HQ.out
        exact ⟨_, g, rfl, by rw [← hgo]; exact hs, hg, qb⟩
end Go.Proofs.YtdolilgkjknckaaDoor.Sh
