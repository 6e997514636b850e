/-
  A transaction: Lay, the two functions that are handed over, mayBe, Changes, Spaces, Get. No condition.
-/
import Derived.Test.YtccelipljbkkgaaTxm
import Derived.Deep.RegionHeld3
namespace Go.Proofs.Ytccelipljbkkgaa
open Go Go.RowKit Go.Maps

/-- a page laid at any place -/
def layA (t : Ab) (S P A : Int) : Ab × Int :=
  match gA t.sp S with
  | none => (t, 80)
  | some x => if P < 0 ∨ x.q ≤ P then (t, 81) else ({ t with sp := sA t.sp { x with ps := mput x.ps P A } }, 0)
theorem putA_lay {t : Ab} {S P A : Int} (hP : 0 ≤ P) : putA t S P A = layA t S P A := by
  unfold putA layA
  cases gA t.sp S with
  | none => rfl
  | some x =>
    show (if x.q ≤ P then _ else _) = if P < 0 ∨ x.q ≤ P then _ else _
    by_cases h : x.q ≤ P
    · rw [if_pos h, if_pos (.inr h)]
    · rw [if_neg h, if_neg (by omega)]
theorem boxed0 {w w1 : World} (o : Obj) (b : Below (w.alloc o).heap.size (w.alloc o) w1) : Below w.heap.size w w1 := ((Below.refl _ w).alloc (Nat.le_refl _) o).trans (b.mono (by rw [size_alloc]; omega))
set_option maxRecDepth 20000 in
theorem lay_any {w s} (h : Whole w s) {x : Asp} {S P A : Int} (hg : gA (ab s).sp S = some x) (hP : 0 ≤ P) (hq : P < x.q) (hA : 0 ≤ A ∧ A ≤ 2000) :
    Calls Try.prog 41 #[.pointer (some ⟨s.p, 0, none⟩), .int .i64 S, .int .i64 P, .int .i64 A] w (Done w s (layA (ab s) S P A)) := by
  have hx := gA_some hg
  have hS := h.inv.ids x hx.1
  have hQ := h.inv.qs x hx.1
  rw [hx.2] at hS
  have hm : mayB 1 S P 0 0 0 = true := by rw [mayB_iff]; unfold mayR; omega
  have hck := fun W => checkB_any 1 S P 0 0 0 W
  rw [hm] at hck
  have hput : ∀ W, Below w.heap.size w W → Calls Try.prog 22 #[.pointer (some ⟨s.p, 0, none⟩), .int .i64 S, .int .i64 P, .int .i64 A] W (Done W s (layA (ab s) S P A)) := fun W b => by
    rw [← putA_lay hP]
    exact put_ab (h.call b) hS (by omega) hA
  have hfl := fun W (b : Below w.heap.size w W) => fill_any (h.call b).at'
  have hA0 : decide (A < 0) = false := by simp; omega
  unfold rv at hck
  have HC := Hid.mk (And.intro hck (And.intro hput hfl))
  clear hck hput hfl h hx hS hQ hm hg hq hA
  go_enter Try.func41, Try.ntmps41
  go_upto_region 3 with (first | (go_at_call 20; refine (HC.out.1 _).mono ?_; rintro e w1 ⟨rfl, b1⟩))
  go_wp2_with (first
    | (go_at_call 21; refine (HC.out.2.2 _ (by assumption)).mono ?_; rintro e w2 ⟨rfl, rfl⟩)
    | (go_at_call 22; refine (HC.out.2.1 _ (by assumption)).mono ?_; intro e w2 hd; obtain ⟨rfl, hd2⟩ := hd))
  go_ret
  exact Done.call b1 ⟨rfl, hd2⟩
set_option maxRecDepth 20000 in
/-- what a page that is put comes to, by the function that is handed over -/
theorem put1_any {w s} (h : Whole w s) {x : Asp} {S P A : Int} {g1 g2 g3 : Nat} (hS : K64 S) (hg : gA (ab s).sp S = some x) (hA : 0 ≤ A ∧ A ≤ 2000)
    (c1 : w.cell? ⟨g1, 0, none⟩ = some (.int .i64 S)) (c2 : w.cell? ⟨g2, 0, none⟩ = some (.int .i64 P)) (c3 : w.cell? ⟨g3, 0, none⟩ = some (.int .i64 A)) (l1 : g1 < w.heap.size) (l2 : g2 < w.heap.size) (l3 : g3 < w.heap.size) :
    Calls Try.prog 39 #[.pointer (some ⟨s.p, 0, none⟩), .pointer (some ⟨g1, 0, none⟩), .pointer (some ⟨g2, 0, none⟩), .pointer (some ⟨g3, 0, none⟩)] w (Done w s (layA (ab s) S P A)) := by
  have q := space_any h hS
  rw [hg] at q
  have hl : 0 ≤ P → P < x.q → ∀ W, Below w.heap.size w W → Calls Try.prog 41 #[.pointer (some ⟨s.p, 0, none⟩), .int .i64 S, .int .i64 P, .int .i64 A] W (Done W s (layA (ab s) S P A)) := fun h1 h2 W b => lay_any (h.call b) hg h1 h2 hA
  have he : P < 0 ∨ x.q ≤ P → layA (ab s) S P A = (ab s, 81) := fun h1 => by unfold layA; rw [hg]; exact if_pos h1
  have H := Hid.mk (And.intro h (And.intro q (And.intro hl he)))
  clear h q hl he hg hA
  obtain ⟨xi, xq, xs, xp⟩ := x
  simp only [svO, sv, svC, Option.isSome_some] at H
  by_cases hp0 : P < 0
  · have hd : decide (P < 0) = true := by simpa using hp0
    go_enter Try.func39, Try.ntmps39
    go_wp2_with (first | (go_at_call 40; refine H.out.2.1.mono ?_; rintro e w1 ⟨rfl, b1⟩; have e1 := b1.cell (p := ⟨g1, 0, none⟩) l1; have e2 := b1.cell (p := ⟨g2, 0, none⟩) l2; have e3 := b1.cell (p := ⟨g3, 0, none⟩) l3; rw [c1] at e1; rw [c2] at e2; rw [c3] at e3; have m1 := Nat.lt_of_lt_of_le l1 b1.size; have m2 := Nat.lt_of_lt_of_le l2 b1.size; have m3 := Nat.lt_of_lt_of_le l3 b1.size))
    go_ret
    rw [H.out.2.2.2 (.inl hp0)]
    exact Done.call (b1.alloc b1.size _) (Done.same (H.out.1.call (b1.alloc b1.size _)) 81)
  · have hd : decide (P < 0) = false := by simpa using hp0
    by_cases hq : xq ≤ P
    · have hd2 : decide (xq ≤ P) = true := by simpa using hq
      go_enter Try.func39, Try.ntmps39
      go_wp2_with (first | (go_at_call 40; refine H.out.2.1.mono ?_; rintro e w1 ⟨rfl, b1⟩; have e1 := b1.cell (p := ⟨g1, 0, none⟩) l1; have e2 := b1.cell (p := ⟨g2, 0, none⟩) l2; have e3 := b1.cell (p := ⟨g3, 0, none⟩) l3; rw [c1] at e1; rw [c2] at e2; rw [c3] at e3; have m1 := Nat.lt_of_lt_of_le l1 b1.size; have m2 := Nat.lt_of_lt_of_le l2 b1.size; have m3 := Nat.lt_of_lt_of_le l3 b1.size))
      go_ret
      rw [H.out.2.2.2 (.inr hq)]
      exact Done.call (b1.alloc b1.size _) (Done.same (H.out.1.call (b1.alloc b1.size _)) 81)
    · have hd2 : decide (xq ≤ P) = false := by simpa using hq
      have hq2 : P < xq := by omega
      have hp2 : 0 ≤ P := by omega
      have L := Hid.mk (H.out.2.2.1 hp2 hq2)
      clear hq hp0 hq2 hp2
      go_enter Try.func39, Try.ntmps39
      go_wp2_with (first
        | (go_at_call 40; refine H.out.2.1.mono ?_; rintro e w1 ⟨rfl, b1⟩; have e1 := b1.cell (p := ⟨g1, 0, none⟩) l1; have e2 := b1.cell (p := ⟨g2, 0, none⟩) l2; have e3 := b1.cell (p := ⟨g3, 0, none⟩) l3; rw [c1] at e1; rw [c2] at e2; rw [c3] at e3; have m1 := Nat.lt_of_lt_of_le l1 b1.size; have m2 := Nat.lt_of_lt_of_le l2 b1.size; have m3 := Nat.lt_of_lt_of_le l3 b1.size)
        | (go_at_call 41; refine (L.out _ (b1.alloc b1.size _)).mono ?_; intro e w2 hd3; obtain ⟨rfl, hd4⟩ := hd3))
      go_ret
      exact Done.call (b1.alloc b1.size _) ⟨rfl, hd4⟩
/-- what a record comes to, by the function that is handed over -/
theorem do1_any {w s} (h : Whole w s) {K S P A T N : Int} {g1 : Nat} (hr : Row w g1 35 .i64 [K, S, P, A, T, N]) :
    Calls Try.prog 43 #[.pointer (some ⟨s.p, 0, none⟩), .pointer (some ⟨g1, 0, none⟩)] w (Done w s (apA (ab s) K S P A T N)) := by
  have q := apply_any h K S P A T N
  obtain ⟨c0, c1, c2, c3, c4, c5⟩ := hr.six
  unfold rv at q
  have Q := Hid.mk q
  clear q h hr
  go_enter Try.func43, Try.ntmps43
  go_wp2_with (first | (go_at_call 7; refine Q.out.mono ?_; intro e w2 hd; obtain ⟨rfl, hd4⟩ := hd))
  go_ret
  exact ⟨rfl, hd4⟩
def kindB (K : Int) : Bool := K == 2 || K == 4 || K == 5 || K == 6 || K == 7
set_option maxRecDepth 20000 in
theorem mayBe_any (K S P A T N : Int) (w : World) : Calls Try.prog 42 #[rv K S P A T N] w fun e w' => e = .returned (.bool (kindB K && mayB K S P A T N)) ∧ Below w.heap.size w w' := by
  have hck := fun W => checkB_any K S P A T N W
  unfold rv at *
  have HC := Hid.mk hck
  clear hck
  generalize mayB K S P A T N = b at *
  by_cases h2 : K = 2
  · subst h2
    go_enter Try.func42, Try.ntmps42
    go_wp2_with (first | (go_at_call 20; refine (HC.out _).mono ?_; rintro e w1 ⟨rfl, b1⟩))
    go_ret
    exact ⟨by simp [kindB], boxed0 _ b1⟩
  by_cases h4 : K = 4
  · subst h4
    go_enter Try.func42, Try.ntmps42
    go_wp2_with (first | (go_at_call 20; refine (HC.out _).mono ?_; rintro e w1 ⟨rfl, b1⟩))
    go_ret
    exact ⟨by simp [kindB], boxed0 _ b1⟩
  by_cases h5 : K = 5
  · subst h5
    go_enter Try.func42, Try.ntmps42
    go_wp2_with (first | (go_at_call 20; refine (HC.out _).mono ?_; rintro e w1 ⟨rfl, b1⟩))
    go_ret
    exact ⟨by simp [kindB], boxed0 _ b1⟩
  by_cases h6 : K = 6
  · subst h6
    go_enter Try.func42, Try.ntmps42
    go_wp2_with (first | (go_at_call 20; refine (HC.out _).mono ?_; rintro e w1 ⟨rfl, b1⟩))
    go_ret
    exact ⟨by simp [kindB], boxed0 _ b1⟩
  by_cases h7 : K = 7
  · subst h7
    go_enter Try.func42, Try.ntmps42
    go_wp2_with (first | (go_at_call 20; refine (HC.out _).mono ?_; rintro e w1 ⟨rfl, b1⟩))
    go_ret
    exact ⟨by simp [kindB], boxed0 _ b1⟩
  have k2 : (K == 2) = false := by simpa using h2
  have k4 : (K == 4) = false := by simpa using h4
  have k5 : (K == 5) = false := by simpa using h5
  have k6 : (K == 6) = false := by simpa using h6
  have k7 : (K == 7) = false := by simpa using h7
  have kb : kindB K = false := by unfold kindB; rw [k2, k4, k5, k6, k7]; rfl
  rw [kb]
  clear kb
  go_enter Try.func42, Try.ntmps42
  go_wp2_with fail
  go_ret
  exact ⟨rfl, (Below.refl _ w).alloc (Nat.le_refl _) _⟩
end Go.Proofs.Ytccelipljbkkgaa
