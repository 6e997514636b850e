/-
  Of blocks of eight pages, up to seven of which live: what each is worth, and that the first of which none lives is chosen. No condition.
-/
import Derived.Test.YtfaaoogdmfllbaaAwk
import Derived.Test.YtfaaoogdmfllbaaFewer
import Derived.Test.YtfaaoogdmfllbaaSli
namespace Go.Proofs.Ytfaaoogdmfllbaa
open Go Go.RowKit Go.Maps

/-- a number without an end -/
def endF : Nat := 9218868437227405312
theorem wq_lay (i : Int) (L A : Nat) (hL : L ≤ 7) (hA : A ≤ 65535) : ∃ v, wq (i, (L : Int), 8, (A : Int)) = some v ∧ nanB v = false ∧ (L = 0 → v = endF) ∧ (L ≠ 0 → key v < top) := by
  obtain ⟨v, α, hadd, hv, h1, h2⟩ := add_one A (by omega)
  have hrow := row_of (n := 8) (by omega) (by omega)
  have hO : ∀ s, worthO (L : Int) ((8 : Nat) : Int) (A : Int) = some s → nanB s = false → wq (i, (L : Int), 8, (A : Int)) = some s := by
    intro s hs hn
    unfold wq
    simp only
    rw [if_neg (by omega)]
    unfold ofO
    rw [if_neg (by omega)]
    have e : worthO (L : Int) 8 (A : Int) = some s := hs
    rw [e]
    unfold okO
    simp [hn]
  by_cases h0 : L = 0
  · subst h0
    exact ⟨endF, hO _ (none_worth hrow hadd hv h1 h2) end_number, end_number, fun _ => rfl, fun h => absurd rfl h⟩
  · obtain ⟨_, _, s, k, _, _, _, hs, hn, _, _⟩ := one_worth (x := L) hrow h0 (by omega) hadd hv h1 h2
    refine ⟨s, hO s hs hn.1, hn.1, fun h => absurd h h0, fun _ => ?_⟩
    rw [hn.2.1, ← top_is]
    exact Int.ofNat_lt.2 hn.2.2
theorem end_zero : zeroB endF = false := by decide +kernel
theorem ord_above {u : Nat} (h : nanB u = false) (hk : key u < top) : ordF endF u = 1 := by
  unfold ordF
  rw [end_zero, Bool.false_and]
  simp only [Bool.false_eq_true, if_false]
  unfold cmpF
  rw [show nanB endF = false from end_number, h, show key endF = top from key_end]
  simp only [Bool.false_eq_true, if_false]
  rw [if_neg (by omega), if_pos hk]
theorem ord_below {v : Nat} (h : nanB v = false) (hv : v = endF ∨ key v < top) : ¬ 0 < ordF v endF := by
  unfold ordF
  rw [end_zero, Bool.and_false]
  simp only [Bool.false_eq_true, if_false]
  unfold cmpF
  rw [show nanB endF = false from end_number, h, show key endF = top from key_end]
  simp only [Bool.false_eq_true, if_false]
  rcases hv with rfl | hv
  · rw [show key endF = top from key_end]
    simp
  · rw [if_pos hv]; decide
/-- which blocks are laid -/
def Laid (q : Q4) : Prop := ∃ (i : Int) (L A : Nat), q = (i, (L : Int), 8, (A : Int)) ∧ L ≤ 7 ∧ A ≤ 65535
theorem Laid.worth {q : Q4} (h : Laid q) : ∃ v, wq q = some v ∧ nanB v = false ∧ (q.2.1 = 0 → v = endF) ∧ (¬ q.2.1 = 0 → key v < top) := by
  obtain ⟨i, L, A, rfl, hL, hA⟩ := h
  obtain ⟨v, h1, h2, h3, h4⟩ := wq_lay i L A hL hA
  exact ⟨v, h1, h2, fun h => h3 (by simp only at h; omega), fun h => h4 (by simp only at h; omega)⟩
theorem bst_emp (f : Nat → Q4) (n : Nat) (h : ∀ i, i < n → Laid (f i)) : (0 ≤ emp f n → bst (fun i => wq (f i)) n = emp f n) ∧ (0 < n → 0 ≤ bst (fun i => wq (f i)) n) := by
  induction n with
  | zero => exact ⟨fun h => absurd h (show ¬ (0 : Int) ≤ -1 by decide), fun h => by omega⟩
  | succ k ih =>
    obtain ⟨ih1, ih2⟩ := ih fun i hi => h i (by omega)
    obtain ⟨v, hv, hn, hz, hk⟩ := (h k (by omega)).worth
    have hr := bst_range (fun i => wq (f i)) k
    have hre := emp_range f k
    have hone := bst_one (q := fun i => wq (f i)) (k := k) hv
    rw [hone, emp_succ]
    refine ⟨?_, ?_⟩
    · by_cases h0 : 0 ≤ emp f k
      · rw [if_neg (by omega)]
        intro _
        have e := ih1 h0
        have hat := (emp_at f k h0).1
        obtain ⟨u, hu, _, huz, _⟩ := (h (emp f k).toNat (by omega)).worth
        have := huz hat
        subst this
        rw [e]
        have hord := ord_below hn (by
          by_cases hl : (f k).2.1 = 0
          · exact .inl (hz hl)
          · exact .inr (hk hl))
        simp only [hu, Option.getD_some]
        rw [if_neg (by omega)]
      · by_cases hl : (f k).2.1 = 0
        · rw [if_pos ⟨by omega, hl⟩]
          intro _
          by_cases hb : bst (fun i => wq (f i)) k < 0
          · rw [if_pos (.inl hb)]
          · have hne := (emp_low f k).1 (by omega) (bst (fun i => wq (f i)) k).toNat (by omega)
            obtain ⟨u, hu, hun, _, huk⟩ := (h (bst (fun i => wq (f i)) k).toNat (by omega)).worth
            have := hz hl
            subst this
            simp only [hu, Option.getD_some]
            rw [ord_above hun (huk hne), if_pos (.inr (by decide))]
        · rw [if_neg (fun z => hl z.2)]
          intro h; omega
    · intro _
      split
      · omega
      · rename_i hc
        exact Decidable.byContradiction fun hb => hc (.inl (by omega))
theorem emp_congr {f g : Nat → Q4} (k : Nat) (h : ∀ i, i < k → f i = g i) : emp f k = emp g k := by
  induction k with
  | zero => rfl
  | succ k ih => rw [emp_succ, emp_succ, ih (fun i hi => h i (by omega)), h k (by omega)]

theorem wrap_small (k : Nat) (h : k ≤ 9223372036854775807) : IntKind.i64.wrap (k : Int) = k := by
  rw [IntKind.wrap_i64]
  omega
theorem low (n : Int) (m : Nat) (hm : m ≤ 1000000) : ∃ k : Nat, bits .and .i64 n (m : Int) = (k : Int) ∧ k ≤ m := by
  unfold bits
  simp only []
  have h : (BitVec.ofInt IntKind.i64.bits n &&& BitVec.ofInt IntKind.i64.bits (m : Int)).toNat ≤ m := by
    rw [BitVec.toNat_and]
    refine Nat.le_trans Nat.and_le_right ?_
    rw [BitVec.toNat_ofInt]
    show ((m : Int) % ((2 ^ 64 : Nat) : Int)).toNat ≤ m
    omega
  exact ⟨_, wrap_small _ (by omega), h⟩
/-- a block as cells -/
def c4 (q : Q4) : Array Value := #[.int .i64 q.1, .int .i64 q.2.1, .int .i64 q.2.2.1, .int .i64 q.2.2.2]
theorem c4_one (q : Q4) : ∀ u ∈ (c4 q).toList, u.oneCell' = true := by simp [c4, Value.oneCell']
theorem ei27 : EI 22 27 4 32 := ⟨Try.underlying22, ⟨_, _, rfl, rfl, rfl, rfl, rfl⟩, by decide, by decide⟩
/-- the law's own row: from block B on -/
structure Fw (w : World) (v : Value) (rs : List Q4) (wr : World) : Prop where
  ow : Ow wr w.heap.size 27 4 v (rs.map fun q => (c4 q).toList)
  rng : ∀ q ∈ rs, Laid q
  below : Below w.heap.size w wr
theorem Fw.more {w v rs wr w3 v2} (h : Fw w v rs wr) {q : Q4} (hq : Laid q) (ho : Ow w3 w.heap.size 27 4 v2 ((rs.map fun q => (c4 q).toList) ++ [(c4 q).toList])) (hg : wr.grownBy w3 v.ownBlock) : Fw w v2 (rs ++ [q]) w3 := by
  refine ⟨by rw [List.map_append]; exact ho, fun x hx => ?_, h.below.grown hg h.below.size (fun k hk => (h.ow.lt k hk).1)⟩
  rcases List.mem_append.1 hx with hx | hx
  · exact h.rng x hx
  · rw [List.mem_singleton.1 hx]; exact hq
theorem Fw.form {w v rs wr} (h : Fw w v rs wr) : ∃ a cap, v = .slice a rs.length cap := by
  obtain ⟨a, cap, e⟩ := h.ow.form
  rw [List.length_map] at e
  exact ⟨a, cap, e⟩
theorem Fw.call {w v rs wr w'} (h : Fw w v rs wr) (b : Below wr.heap.size wr w') : Fw w v rs w' := ⟨h.ow.call b, h.rng, below3 h.below b⟩
/-- as all others read it -/
theorem Fw.ss {w a n cap rs wr} (h : Fw w (.slice a n cap) rs wr) (hn : n = rs.length) : Ss wr a n (fun i => rs.getD i (0, 0, 0, 0)) := by
  intro i hi
  obtain ⟨g, rfl, _, hl, hc⟩ := h.ow.at (j := i) (by rw [List.length_map]; omega)
  have e : (rs.map fun q => (c4 q).toList).getD i [] = (c4 (rs.getD i (0, 0, 0, 0))).toList := by
    have hi' : i < rs.length := by omega
    simp [List.getD_eq_getElem?_getD, hi']
  rw [e] at hc
  refine ⟨g, 0, rfl, hl, ?_, ?_, ?_, ?_⟩
  · rw [Nat.zero_add]; exact hc 0 (by omega)
  · rw [Nat.zero_add]; exact hc 1 (by omega)
  · rw [Nat.zero_add]; exact hc 2 (by omega)
  · rw [Nat.zero_add]; exact hc 3 (by omega)
end Go.Proofs.Ytfaaoogdmfllbaa
