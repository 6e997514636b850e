/-
  The walks of Cold, and of the laws' few: a slice of its own, of so many, with counts that are not too great. No condition.
-/
import Derived.Test.YtcmmhfjnhlaepabGreatDoorRK5
import Derived.WalkSpells
import Derived.WalkLawsBesides
import Derived.Deep.Cut
import Derived.Deep.QuietTactic
import Derived.BigQuiet
namespace Go.Proofs.YtcmmhfjnhlaepabGreatDoor.We
open Go Go.RowKit Go.Maps
theorem above_any (a b l : Int) (ha : 0 ≤ a ∧ a ≤ 1000000) (hb : 0 ≤ b ∧ b ≤ 1000000) (w : World) : Calls Tryz.prog 188 #[.int .i64 a, .int .i64 b, .int .i64 l] w fun e w' => e = .returned (.bool (decide (l < a - b))) ∧ w' = w := by
  by_cases h : b < a
  · have h1 : 0 < a - b := by omega
    go_enter Tryz.func188, Tryz.ntmps188
    go_wp2
    go_ret
    exact ⟨rfl, rfl⟩
  · have h1 : ¬ 0 < a - b := by omega
    go_enter Tryz.func188, Tryz.ntmps188
    go_wp2
    go_ret
    exact ⟨rfl, rfl⟩
/-- by how much the greatest is above the least -/
theorem greatest_any {w : World} {a : Option Addr} {n cap : Nat} {f : Nat → Int × Int} (h : Ws w a n f) (h0 : 0 < n) (hn : n ≤ 1000) : Calls Tryz.prog 189 #[.slice a n cap] w fun e w' => e = .returned (.int .i64 (grt f (f 0).2 n)) ∧ Below w.heap.size w w' := by
  have H := Hid.mk h
  obtain ⟨g, o, rfl, hg, c0, c1⟩ := h 0 h0
  clear h
  rw [Nat.zero_mul, Nat.add_zero] at c0 c1
  generalize hz : (f 0).2 = z at *
  have h01 : (0 : Int) < n := by omega
  clear c0
  go_enter Tryz.func189, Tryz.ntmps189
  go_wp2
  go_loopw [3, 12] (fun l i wr => ∃ j : Nat, j ≤ n ∧ i = .int .i64 j ∧ l = .int .i64 (grt f z j) ∧ Below w.heap.size w wr) (fun _ i _ => n - (intOf i).toNat)
  case atStart => exact ⟨0, Nat.zero_le _, rfl, rfl, Below.refl _ _⟩
  case round =>
    obtain ⟨j, hj, rfl, rfl, hb⟩ := hrel
    have HB := Hid.mk hb
    clear hb c1 hg
    by_cases hlt : j < n
    · have hlt1 : (j : Int) < n := by omega
      obtain ⟨g', o', e, hg', d0, d1⟩ := H.out.call HB.out j hlt
      cases e
      have hs := Hid.mk (grt_succ f z j)
      generalize grt f z j = x at *
      generalize hfj : f j = q at *
      clear hfj
      obtain ⟨q0, q1⟩ := q
      simp only at d0 d1 hs
      go_wp2
      exact ⟨⟨j + 1, by omega, by go_num, by rw [hs.out, show max x q1 = if x < q1 then q1 else x by split <;> omega], HB.out.alloc HB.out.size _⟩, by simp [intOf]; omega⟩
    · have hlt1 : ¬ (j : Int) < n := by omega
      have hjn : j = n := by omega
      subst hjn
      go_wp2
      go_ret
      exact ⟨rfl, HB.out⟩
/-- counts that do not go round -/

theorem limb {a w : World} {p : Addr} {v : Value} (h : w.cell? p = some v ∧ Below a.heap.size a w) : Below a.heap.size a w := h.2
theorem keepS {a w w' : World} {p : Addr} {v : Value} (hg : p.block < a.heap.size) (h : w.cell? p = some v ∧ Below a.heap.size a w) (b : Below w.heap.size w w') : w'.cell? p = some v ∧ Below a.heap.size a w' :=
  ⟨(b.cell (p := p) (Nat.lt_of_lt_of_le hg h.2.size)).trans h.1, below3 h.2 b⟩
/-- where Cold points -/
def cld (fa : Nat → Int × Int) (na : Nat) (ff : Nat → Int × Int) (nf : Nat) (limit : Int) : Int :=
  if lst ff nf < 0 ∨ na = 0 ∨ ¬ limit < grt fa (fa 0).2 na - (ff (lst ff nf).toNat).2 then -1 else lst ff nf
theorem cold_any {w : World} {a b : Option Addr} {na ca nf cf : Nat} {fa ff : Nat → Int × Int} (ha : Ws w a na fa) (hf : Ws w b nf ff) (hna : na ≤ 1000) (hnf : nf ≤ 1000)
    (hfa : ∀ i, i < na → 0 ≤ (fa i).2 ∧ (fa i).2 ≤ 1000000) (hff : ∀ i, i < nf → 0 ≤ (ff i).2 ∧ (ff i).2 ≤ 1000000) (limit : Int) :
    Calls Tryz.prog 144 #[.slice a na ca, .slice b nf cf, .int .i64 limit] w fun e w' => e = .returned (.int .i64 (cld fa na ff nf limit)) ∧ Below w.heap.size w w' := by
  have hL := fun w (h : Ws w b nf ff) => least_any (cap := cf) h hnf
  have hr := lst_range ff nf
  unfold cld
  by_cases h0 : lst ff nf < 0
  · rw [if_pos (.inl h0)]
    have HS := Hid.mk (And.intro hf hL)
    generalize lst ff nf = x at *
    clear hf ha hL hfa hff
    go_enter Tryz.func144, Tryz.ntmps144
    go_upto_region 2 with (go_at_call 187; refine (HS.out.2 _ HS.out.1).mono ?_; rintro e w1 ⟨rfl, b1⟩)
    go_quiet (fail)
    go_wp2
    go_ret
    exact ⟨rfl, below_drewN b1⟩
  · by_cases h1 : na = 0
    · rw [if_pos (.inr (.inl h1))]
      have hn0 : ((na : Int) == 0) = true := by simp; omega
      clear h1
      have HS := Hid.mk (And.intro hf hL)
      generalize lst ff nf = x at *
      have hd0 : decide (x < 0) = false := decide_eq_false h0
      clear hf ha hL hfa hff h0
      go_enter Tryz.func144, Tryz.ntmps144
      go_upto_region 2 with (go_at_call 187; refine (HS.out.2 _ HS.out.1).mono ?_; rintro e w1 ⟨rfl, b1⟩)
      go_quiet (fail)
      go_wp2
      go_ret
      exact ⟨rfl, below_drewN b1⟩
    · have hG := fun w (h : Ws w a na fa) => greatest_any (cap := ca) h (by omega) hna
      have hgr : 0 ≤ grt fa (fa 0).2 na ∧ grt fa (fa 0).2 na ≤ 1000000 := by
        rcases grt_one fa (fa 0).2 na with e | ⟨i, hi, e⟩
        · rw [e]; exact hfa 0 (by omega)
        · rw [e]; exact hfa i hi
      obtain ⟨m, hm⟩ : ∃ m : Nat, lst ff nf = m := ⟨(lst ff nf).toNat, by omega⟩
      rw [hm] at hL hr ⊢
      rw [Int.toNat_natCast]
      have hmn : m < nf := by omega
      have hfm := hff m hmn
      have hA := fun (w : World) => above_any (grt fa (fa 0).2 na) (ff m).2 limit hgr hfm w
      generalize grt fa (fa 0).2 na = G at *
      obtain ⟨g, o, rfl, hg, _, _⟩ := hf m hmn
      have hM : ∀ w', Ws w' (some ⟨g, o, none⟩) nf ff → g < w'.heap.size ∧ w'.cell? ⟨g, o + m * 2 + 1, none⟩ = some (.int .i64 (ff m).2) := fun w' h' => by
        obtain ⟨g, o, e, k, _, d1⟩ := h' m hmn
        cases e
        exact ⟨k, d1⟩
      generalize (ff m).2 = M at *
      clear hff hfa hgr hfm hm h0 hg
      have hm0 : decide ((m : Int) < 0) = false := decide_eq_false (by omega)
      have hn0 : ((na : Int) == 0) = false := by simp; omega
      have hmn1 : (m : Int) < nf := by omega
      obtain ⟨d, hd⟩ : ∃ d : Bool, decide (limit < G - M) = d := ⟨_, rfl⟩
      have hv : (if (m : Int) < 0 ∨ na = 0 ∨ ¬ limit < G - M then (-1 : Int) else m) = if d = true then (m : Int) else -1 := by
        cases d <;> simp at hd
        · rw [if_pos (.inr (.inr (by omega)))]; rfl
        · rw [if_neg (by omega)]; rfl
      rw [hv]
      rw [hd] at hA
      clear hd hv h1
      have HS := Hid.mk (And.intro ha (And.intro hf (And.intro hL (And.intro hG (And.intro hA hM)))))
      clear ha hf hL hG hA hM
      go_enter Tryz.func144, Tryz.ntmps144
      go_upto_region 2 with (go_at_call 187; refine (HS.out.2.2.1 _ HS.out.2.1).mono ?_; rintro e w1 ⟨rfl, b1⟩)
      have HA := Hid.mk (HS.out.1.call b1)
      have HF := Hid.mk (HS.out.2.1.call b1)
      have HB := Hid.mk b1
      clear b1
      obtain ⟨hg, c1⟩ := HS.out.2.2.2.2.2 _ HF.out
      cases d
      all_goals
        go_region_held3 (fun w' => w'.cell? ⟨g, o + m * 2 + 1, none⟩ = some (.int .i64 M) ∧ Below w1.heap.size w1 w')
          (first | assumption | exact ⟨c1, (Below.refl _ w1).drew⟩ | exact keepS hg (by assumption) (by assumption) | fail)
          (first | (go_at_call 189; refine (HS.out.2.2.2.1 _ (HA.out.call (limb (by assumption)))).mono ?_; rintro e w2 ⟨rfl, b2⟩) | (go_at_call 188; refine (HS.out.2.2.2.2.1 _).mono ?_; rintro e w2 ⟨rfl, rfl⟩))
        go_wp2
        go_ret
        exact ⟨rfl, below3 HB.out (limb (by assumption))⟩
end Go.Proofs.YtcmmhfjnhlaepabGreatDoor.We
