/-
  The walk of the law NandNone. No condition.
-/
import Derived.Test.YtkfkepjegdaadaaAwake
namespace Go.Proofs.Ytkfkepjegdaadaa
open Go Go.RowKit

/-- a geometry in the law's own block -/
structure Gx (w0 : World) (B P Z : Int) (w : World) : Prop where
  below : Below w0.heap.size w0 w
  box : w.heap[w0.heap.size]? = some (.cells #[.int .i64 B, .int .i64 P, .int .i64 Z] 23 (0, 0))
theorem Gx.start (w : World) (B P Z : Int) : Gx w B P Z (w.alloc (.cells #[.int .i64 B, .int .i64 P, .int .i64 Z] 23)) :=
  ⟨(Below.refl w.heap.size w).alloc (Nat.le_refl _) _, heap_alloc_new w _⟩
theorem Gx.call {w0 : World} {B P Z} {w w' : World} (h : Gx w0 B P Z w) (b : Below w.heap.size w w') : Gx w0 B P Z w' :=
  ⟨below3 h.below b, (b.block _ (Array.getElem?_eq_some_iff.1 h.box).1).trans h.box⟩
theorem Gx.cells {w0 : World} {B P Z} {w : World} (h : Gx w0 B P Z w) : w.cell? ⟨w0.heap.size, 0, none⟩ = some (.int .i64 B) ∧ w.cell? ⟨w0.heap.size, 1, none⟩ = some (.int .i64 P) ∧ w.cell? ⟨w0.heap.size, 2, none⟩ = some (.int .i64 Z) :=
  ⟨cell_of_row _ _ 0 _ 23 _ h.box, cell_of_row _ _ 1 _ 23 _ h.box, cell_of_row _ _ 2 _ 23 _ h.box⟩
set_option maxHeartbeats 4000000 in
theorem nandNone_ok (B P Z : Nat) (hg : 8 ≤ B ∧ B ≤ 32 ∧ 4 ≤ P ∧ P ≤ 16 ∧ 64 ≤ Z ∧ Z ≤ 256) (b p : Int) (w : World) :
    Calls Try.prog 7 #[.agg #[.int .i64 B, .int .i64 P, .int .i64 Z], .int .i64 b, .int .i64 p] w fun e w' => e = .returned (.bool true) ∧ Below w.heap.size w w' := by
  have hok : okG (B : Int) P Z = true := by
    unfold okG inR
    simp
    omega
  have h1 : (8 : Int) ≤ B := by omega
  have h2 : (B : Int) ≤ 32 := by omega
  have h3 : (4 : Int) ≤ P := by omega
  have h4 : (P : Int) ≤ 16 := by omega
  have h5 : (64 : Int) ≤ Z := by omega
  have h6 : (Z : Int) ≤ 256 := by omega
  have HG := Hid.mk hg
  clear hg
  have HX := Hid.mk (Gx.start w B P Z)
  go_enter Try.func7, Try.ntmps7
  go_upto_region 6 with (first
    | (go_at_call 23; refine (power_nil _).mono ?_; rintro e w1 ⟨rfl, hw1⟩; rw [hw1]; clear hw1)
    | (go_at_call 22; refine (arm_nil _ _ _ _ rfl _).mono ?_; rintro e w2 ⟨rfl, b2⟩; replace HX := Hid.mk (HX.out.call b2); clear b2)
    | (go_at_call 20; refine (read_nil _ _ _).mono ?_; rintro e w1 ⟨rfl, hw1⟩; rw [hw1]; clear hw1)
    | (go_at_call 24; refine (marked_nil _ _).mono ?_; rintro e w1 ⟨rfl, hw1⟩; rw [hw1]; clear hw1))
  obtain ⟨c0, c1, c2⟩ := HX.out.cells
  go_wp2_with (first
    | (go_at_call 9; refine (new0_any _ _ _ HG.out _).mono ?_; rintro e w2 ⟨L, rfl, _, b2, _⟩; replace HX := Hid.mk (HX.out.call b2); clear b2)
    | (go_at_call 11; refine (awake_any _).mono ?_; rintro e w2 ⟨rfl, b2⟩; replace HX := Hid.mk (HX.out.call b2); clear b2)
    | (go_at_call 17; refine (prog_nil _ _ _ _ _).mono ?_; rintro e w1 ⟨rfl, hw1⟩; rw [hw1]; clear hw1)
    | (go_at_call 19; refine (erase_nil _ _).mono ?_; rintro e w1 ⟨rfl, hw1⟩; rw [hw1]; clear hw1)
    | (go_at_call 25; refine (mark_nil _ _).mono ?_; rintro e w1 ⟨rfl, hw1⟩; rw [hw1]; clear hw1)
    | (go_at_call 14; refine (off_nil _).mono ?_; rintro e w1 ⟨rfl, hw1⟩; rw [hw1]; clear hw1)
    | (go_at_call 15; refine (did_nil _).mono ?_; rintro e w1 ⟨rfl, hw1⟩; rw [hw1]; clear hw1)
    | (go_at_call 26; refine (worn_nil _).mono ?_; rintro e w1 ⟨rfl, hw1⟩; rw [hw1]; clear hw1)
    | (go_at_call 21; refine (dead_nil _).mono ?_; rintro e w1 ⟨rfl, hw1⟩; rw [hw1]; clear hw1)
    | (go_at_call 27; refine (geom_nil _).mono ?_; rintro e w2 ⟨rfl, b2⟩; replace HX := Hid.mk (HX.out.call b2); clear b2; obtain ⟨d0, d1, d2⟩ := HX.out.cells)
    | (go_at_call 28; refine (check_any _ _ _ _).mono ?_; rintro e w2 ⟨rfl, b2⟩; rw [hok]; replace HX := Hid.mk (HX.out.call b2); clear b2))
  go_ret
  exact ⟨rfl, HX.out.below⟩
set_option maxHeartbeats 8000000 in
theorem nandNone_no (B P Z : Int) (hok : okG B P Z = false) (b p : Int) (w : World) :
    Calls Try.prog 7 #[.agg #[.int .i64 B, .int .i64 P, .int .i64 Z], .int .i64 b, .int .i64 p] w fun e w' => e = .returned (.bool true) ∧ Below w.heap.size w w' := by
  have hcs : ¬ 8 ≤ B ∨ (8 ≤ B ∧ ¬ B ≤ 32) ∨ (8 ≤ B ∧ B ≤ 32 ∧ ¬ 4 ≤ P) ∨ (8 ≤ B ∧ B ≤ 32 ∧ 4 ≤ P ∧ ¬ P ≤ 16) ∨ (8 ≤ B ∧ B ≤ 32 ∧ 4 ≤ P ∧ P ≤ 16 ∧ ¬ 64 ≤ Z) ∨ (8 ≤ B ∧ B ≤ 32 ∧ 4 ≤ P ∧ P ≤ 16 ∧ 64 ≤ Z ∧ ¬ Z ≤ 256) := by
    unfold okG inR at hok
    simp at hok
    omega
  rcases hcs with h1 | ⟨h1, h2⟩ | ⟨h1, h2, h3⟩ | ⟨h1, h2, h3, h4⟩ | ⟨h1, h2, h3, h4, h5⟩ | ⟨h1, h2, h3, h4, h5, h6⟩
  all_goals
    try (have hz6 : decide (Z ≤ 256) = false := decide_eq_false (by omega))
    have HX := Hid.mk (Gx.start w B P Z)
    go_enter Try.func7, Try.ntmps7
    go_upto_region 6 with (first
      | (go_at_call 23; refine (power_nil _).mono ?_; rintro e w1 ⟨rfl, hw1⟩; rw [hw1]; clear hw1)
      | (go_at_call 22; refine (arm_nil _ _ _ _ rfl _).mono ?_; rintro e w2 ⟨rfl, b2⟩; replace HX := Hid.mk (HX.out.call b2); clear b2)
      | (go_at_call 20; refine (read_nil _ _ _).mono ?_; rintro e w1 ⟨rfl, hw1⟩; rw [hw1]; clear hw1)
      | (go_at_call 24; refine (marked_nil _ _).mono ?_; rintro e w1 ⟨rfl, hw1⟩; rw [hw1]; clear hw1))
    obtain ⟨c0, c1, c2⟩ := HX.out.cells
    go_wp2_with (first
      | (go_at_call 9; refine (new_refused _ _ _ hok _ _ _ _ rfl _).mono ?_; rintro e w2 ⟨rfl, b2⟩; replace HX := Hid.mk (HX.out.call b2); clear b2)
      | (go_at_call 11; refine (awake_any _).mono ?_; rintro e w2 ⟨rfl, b2⟩; replace HX := Hid.mk (HX.out.call b2); clear b2)
      | (go_at_call 17; refine (prog_nil _ _ _ _ _).mono ?_; rintro e w1 ⟨rfl, hw1⟩; rw [hw1]; clear hw1)
      | (go_at_call 19; refine (erase_nil _ _).mono ?_; rintro e w1 ⟨rfl, hw1⟩; rw [hw1]; clear hw1)
      | (go_at_call 25; refine (mark_nil _ _).mono ?_; rintro e w1 ⟨rfl, hw1⟩; rw [hw1]; clear hw1)
      | (go_at_call 14; refine (off_nil _).mono ?_; rintro e w1 ⟨rfl, hw1⟩; rw [hw1]; clear hw1)
      | (go_at_call 15; refine (did_nil _).mono ?_; rintro e w1 ⟨rfl, hw1⟩; rw [hw1]; clear hw1)
      | (go_at_call 26; refine (worn_nil _).mono ?_; rintro e w1 ⟨rfl, hw1⟩; rw [hw1]; clear hw1)
      | (go_at_call 21; refine (dead_nil _).mono ?_; rintro e w1 ⟨rfl, hw1⟩; rw [hw1]; clear hw1)
      | (go_at_call 27; refine (geom_nil _).mono ?_; rintro e w2 ⟨rfl, b2⟩; replace HX := Hid.mk (HX.out.call b2); clear b2; obtain ⟨d0, d1, d2⟩ := HX.out.cells)
      | (go_at_call 28; refine (check_any _ _ _ _).mono ?_; rintro e w2 ⟨rfl, b2⟩; rw [hok]; replace HX := Hid.mk (HX.out.call b2); clear b2))
    go_ret
    exact ⟨rfl, HX.out.below⟩
theorem nandNone_any (B P Z b p : Int) (w : World) : Calls Try.prog 7 #[.agg #[.int .i64 B, .int .i64 P, .int .i64 Z], .int .i64 b, .int .i64 p] w fun e w' => e = .returned (.bool true) ∧ Below w.heap.size w w' := by
  cases hok : okG B P Z
  · exact nandNone_no B P Z hok b p w
  · have hg : 8 ≤ B ∧ B ≤ 32 ∧ 4 ≤ P ∧ P ≤ 16 ∧ 64 ≤ Z ∧ Z ≤ 256 := by
      unfold okG inR at hok
      simp at hok
      omega
    obtain ⟨n1, rfl⟩ := Int.eq_ofNat_of_zero_le (by omega : 0 ≤ B)
    obtain ⟨n2, rfl⟩ := Int.eq_ofNat_of_zero_le (by omega : 0 ≤ P)
    obtain ⟨n3, rfl⟩ := Int.eq_ofNat_of_zero_le (by omega : 0 ≤ Z)
    exact nandNone_ok n1 n2 n3 (by omega) b p w
end Go.Proofs.Ytkfkepjegdaadaa
