/-
  Which manifests may be (manifest.Check 15, the answer's Check 19), and the laws' few (10). No condition.
-/
import Derived.Test.YtdolilgkjknckaaDoorRd
import Derived.Lib.SmallJoins
namespace Go.Proofs.YtdolilgkjknckaaDoor
open Go Go.RowKit
set_option maxRecDepth 100000
/-- a manifest as a value -/
abbrev mv (v l : Int) (d : ByteArray) : Value := .agg #[.int .i64 v, .int .i64 l, .string d]
def vOk (v : Int) : Bool := decide (1 ≤ v) && decide (v ≤ 1073741824)
def lOk (l : Int) : Bool := decide (0 ≤ l) && decide (l ≤ 1048576)
def dOk (d : ByteArray) : Bool := (d.size : Int) == 32
def mOk (v l : Int) (d : ByteArray) : Bool := vOk v && lOk l && dOk d
theorem isVersion_any (v : Int) (w : World) : Calls Tryd.prog 36 #[.int .i64 v] w fun e w' => e = .returned (.bool (vOk v)) ∧ w' = w := by
  unfold vOk
  by_cases h1 : 1 ≤ v
  all_goals
    by_cases h2 : v ≤ 1073741824
  all_goals
    go_enter Tryd.func36, Tryd.ntmps36
    go_wp2_with fail
    go_ret
    simp [h1, h2]
theorem isLength_any (v : Int) (w : World) : Calls Tryd.prog 37 #[.int .i64 v] w fun e w' => e = .returned (.bool (lOk v)) ∧ w' = w := by
  unfold lOk
  by_cases h1 : 0 ≤ v
  all_goals
    by_cases h2 : v ≤ 1048576
  all_goals
    go_enter Tryd.func37, Tryd.ntmps37
    go_wp2_with fail
    go_ret
    simp [h1, h2]
theorem isDigest_any (d : ByteArray) (w : World) : Calls Tryd.prog 38 #[.string d] w fun e w' => e = .returned (.bool (dOk d)) ∧ w' = w := by
  unfold dOk
  go_enter Tryd.func38, Tryd.ntmps38
  go_wp2_with fail
  go_ret
  exact ⟨rfl, rfl⟩
theorem check_any (v l : Int) (d : ByteArray) (w : World) : Calls Tryd.prog 15 #[mv v l d] w fun e w' => e = .returned (.bool (mOk v l d)) ∧ Below w.heap.size w w' := by
  unfold mOk
  have c1 := isVersion_any v
  have c2 := isLength_any l
  have c3 := isDigest_any d
  cases h1 : vOk v
  all_goals
    cases h2 : lOk l
  all_goals
    rw [h1] at c1
    rw [h2] at c2
    go_enter Tryd.func15, Tryd.ntmps15
    go_wp2_with (first
      | (go_at_call 36; refine (c1 _).mono ?_; rintro e w' ⟨rfl, rfl⟩)
      | (go_at_call 37; refine (c2 _).mono ?_; rintro e w' ⟨rfl, rfl⟩)
      | (go_at_call 38; refine (c3 _).mono ?_; rintro e w' ⟨rfl, rfl⟩))
    go_ret
    exact ⟨by simp, (Below.refl _ _).alloc (Nat.le_refl _) _⟩
theorem refCheck_any (v l : Int) (d : ByteArray) (w : World) : Calls Tryd.prog 19 #[mv v l d] w fun e w' => e = .returned (.bool (mOk v l d)) ∧ Below w.heap.size w w' := by
  unfold mOk vOk lOk dOk
  by_cases h1 : 1 ≤ v
  all_goals
    by_cases h2 : v ≤ 1073741824
  all_goals
    by_cases h3 : 0 ≤ l
  all_goals
    by_cases h4 : l ≤ 1048576
  all_goals
    try (exfalso; omega)
  all_goals
    go_enter Tryd.func19, Tryd.ntmps19
    go_wp2_with fail
    go_ret
    refine ⟨?_, (Below.refl _ _).alloc (Nat.le_refl _) _⟩
    first
    | (simp_all; done)
    | (simp_all; omega)
def cut400 (s : ByteArray) : ByteArray := if 400 < s.size then s.extract 0 400 else s
theorem cut400_le (s : ByteArray) : (cut400 s).size ≤ 400 := by
  unfold cut400
  split
  · rw [ByteArray.size_extract]; omega
  · omega
theorem few_any (s : ByteArray) (w : World) : Calls Tryd.prog 10 #[.string s] w fun e w' => e = .returned (.string (cut400 s)) ∧ w' = w := by
  by_cases h : 400 < s.size
  · have e : cut400 s = s.extract 0 400 := by unfold cut400; rw [if_pos h]
    rw [e]
    go_enter Tryd.func10, Tryd.ntmps10
    go_wp2
    go_ret
    exact ⟨rfl, rfl⟩
  · have e : cut400 s = s := by unfold cut400; rw [if_neg h]
    rw [e]
    go_enter Tryd.func10, Tryd.ntmps10
    go_wp2
    go_ret
    exact ⟨rfl, rfl⟩
end Go.Proofs.YtdolilgkjknckaaDoor
