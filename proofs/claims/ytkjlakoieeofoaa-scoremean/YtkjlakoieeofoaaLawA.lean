/-
  The walks of the laws ScoreOf and ScoreOrder. Condition: a float has 64 bits.
-/
import Derived.Test.YtkjlakoieeofoaaWalksB
namespace Go.Proofs.Ytkjlakoieeofoaa
open Go.RowKit

theorem is_same {o : Option Nat} {r s : Nat} (hr : Is o r) (hs : Is o s) : (Ieee.double.order r s == some .eq) = true ∨ nanB r = true ∧ nanB s = true := by
  cases o with
  | none => exact .inr ⟨hr.2, hs.2⟩
  | some v =>
    obtain rfl : r = v := hr.2
    obtain rfl : s = r := hs.2
    cases h : nanB s
    · left; rw [eq_is, h]; simp
    · exact .inr ⟨rfl, rfl⟩

theorem heap_cells {w w' : World} {a b c : Value} (hb : Below (w.alloc (.cells #[a, b, c] 23)).heap.size (w.alloc (.cells #[a, b, c] 23)) w') :
    w'.cell? { block := w.heap.size, off := 0 } = some a ∧ w'.cell? { block := w.heap.size, off := 1 } = some b ∧ w'.cell? { block := w.heap.size, off := 2 } = some c := by
  have h : ∀ i, w'.cell? { block := w.heap.size, off := i } = (w.alloc (.cells #[a, b, c] 23)).cell? { block := w.heap.size, off := i } := fun i => hb.cell (by simp)
  refine ⟨?_, ?_, ?_⟩ <;> rw [h] <;> simp
theorem worth_is (live pages age : Int) (W1 W2 W3 W4 W5 W6 : World) : Is (worthO live pages age)
    (fval .quo (fval .mul (fval .add (floatOfInt .f64 age) 4607182418800017408 W1) (fval .sub 4607182418800017408 (fval .quo (floatOfInt .f64 live) (floatOfInt .f64 pages) W2) W3) W4)
      (fval .mul 4611686018427387904 (fval .quo (floatOfInt .f64 live) (floatOfInt .f64 pages) W2) W5) W6) := by
  have hu := is_opO (op := .quo) (is_ofInt live) (is_ofInt pages) W2
  exact is_opO (is_opO (is_opO (is_ofInt age) (is_some (by decide)) _) (is_opO (is_some (by decide)) hu _) _) (is_opO (is_some (by decide)) hu _) _
theorem not_same {o : Option Nat} {r X : Nat} (h : ¬ FloatKind.f64.format.order r X = some .eq) (hr : Is o r) (hX : Is o X) : nanB r = true ∧ nanB X = true := by
  rcases is_same hr hX with g | g
  · have g' := eq_of_beq g
    exact absurd g' h
  · exact g
theorem below_alloc {w w1 w' : World} {o : Obj} {n : Nat} (h1 : Below (w.alloc o).heap.size (w.alloc o) w1) (h2 : Below (w1.drewN n).heap.size (w1.drewN n) w') : Below w.heap.size w w' := by
  have hs : w.heap.size ≤ (w.alloc o).heap.size := by simp
  have a : Below w.heap.size w (w.alloc o) := (Below.refl _ _).alloc (Nat.le_refl _) _
  have b : Below w.heap.size w w1 := a.trans (h1.mono hs)
  exact (below_drawn b n).trans (h2.mono (b.size))
set_option maxHeartbeats 400000 in
theorem scoreOf_any (live pages age : Int) (w : World) :
    Calls Try.prog 3 #[.agg #[.int .i64 live, .int .i64 pages, .int .i64 age]] w fun e w' => e = .returned (.bool true) ∧ Below w.heap.size w w' := by
  by_cases hp : pages = 0
  · have hn := fun {r} (hr : Is (ofO live pages age) r) => show nanB r = true by unfold ofO at hr; rw [if_pos hp] at hr; exact hr.2
    go_enter Try.func3, Try.ntmps3
    go_wp2_with (first
      | (go_at_call 9; refine (of_any _ _ _ _).mono ?_; rintro e w' ⟨r, rfl, hr, hbO⟩; obtain ⟨c0, c1, c2⟩ := heap_cells hbO)
      | (go_at_call 10; refine (awake_any _).mono ?_; rintro e w' ⟨rfl, hbA⟩)
      | (go_at_call 11; refine (isNaN_any _ _).mono ?_; rintro e w' ⟨rfl, rfl⟩))
    go_ret
    exact ⟨rfl, below_alloc (n := 0) hbO hbA⟩
  · have hn := fun {r X} (hr : Is (ofO live pages age) r) (h : ¬ FloatKind.f64.format.order r X = some .eq) (hX : Is (worthO live pages age) X) =>
      show nanB r = true ∧ nanB X = true by unfold ofO at hr; rw [if_neg hp] at hr; exact not_same h hr hX
    go_enter Try.func3, Try.ntmps3
    go_wp2_with (first
      | (go_at_call 9; refine (of_any _ _ _ _).mono ?_; rintro e w' ⟨r, rfl, hr, hbO⟩; obtain ⟨c0, c1, c2⟩ := heap_cells hbO)
      | (go_at_call 10; refine (awake_any _).mono ?_; rintro e w' ⟨rfl, hbA⟩)
      | (go_at_call 11; refine (isNaN_any _ _).mono ?_; rintro e w' ⟨rfl, rfl⟩))
    · go_ret
      exact ⟨rfl, below_alloc hbO hbA⟩
    · go_ret
      rename_i h _
      have h2 := (hn hr (by assumption) (worth_is ..)).2
      exact ⟨by rw [h2, Bool.or_true]; rfl, below_alloc hbO hbA⟩
    · have h2 := (hn hr (by assumption) (worth_is ..)).1
      simp_all
end Go.Proofs.Ytkjlakoieeofoaa
