/-
  What the calls of package score do that reckon with floats: where an operation has no answer, some NaN is drawn. No condition.
-/
import Derived.Test.YtfaaoogdmfllbaaFlt
import Derived.Deep.Draws
namespace Go.Proofs.Ytfaaoogdmfllbaa
open Go.RowKit

/-- what is drawn where an operation has no answer -/
def fval (op : BinOp) (x y : Nat) (w : World) : Nat := match floatBits op .f64 x y with
  | some r => r
  | none => Question.cut (.nanBits .f64 x y) (w.tape w.drawn (.nanBits .f64 x y))
def fdr (op : BinOp) (x y : Nat) : Nat := match floatBits op .f64 x y with
  | some _ => 0
  | none => 1
/-- r is what o tells, or some NaN -/
def Is (o : Option Nat) (r : Nat) : Prop := r < 18446744073709551616 ∧ match o with
  | some v => r = v
  | none => nanB r = true

theorem run_fop {P : Program} (op : BinOp) (hop : op = .add ∨ op = .sub ∨ op = .mul ∨ op = .quo) (t : TypeId) (x y : Nat) (w : World) :
    (binOp op t (.float .f64 x) (.float .f64 y)).run P w = .ok (.float .f64 (fval op x y w)) (w.drewN (fdr op x y)) := by
  cases h : floatBits op .f64 x y with
  | some r =>
    rw [run_float_arith w op t .f64 x y r h]
    simp only [fval, fdr, h]
    rfl
  | none =>
    rcases hop with rfl | rfl | rfl | rfl
    all_goals
      simp only [fval, fdr, h]
      simp only [floatBits] at h
      simp [binOp, Op.floatArith, h, Question.forced]
      rfl
@[go_sem] theorem run_fadd {P : Program} (t : TypeId) (x y : Nat) (w : World) : (binOp .add t (.float .f64 x) (.float .f64 y)).run P w = .ok (.float .f64 (fval .add x y w)) (w.drewN (fdr .add x y)) := run_fop _ (by simp) ..
@[go_sem] theorem run_fsub {P : Program} (t : TypeId) (x y : Nat) (w : World) : (binOp .sub t (.float .f64 x) (.float .f64 y)).run P w = .ok (.float .f64 (fval .sub x y w)) (w.drewN (fdr .sub x y)) := run_fop _ (by simp) ..
@[go_sem] theorem run_fmul {P : Program} (t : TypeId) (x y : Nat) (w : World) : (binOp .mul t (.float .f64 x) (.float .f64 y)).run P w = .ok (.float .f64 (fval .mul x y w)) (w.drewN (fdr .mul x y)) := run_fop _ (by simp) ..
@[go_sem] theorem run_fquo {P : Program} (t : TypeId) (x y : Nat) (w : World) : (binOp .quo t (.float .f64 x) (.float .f64 y)).run P w = .ok (.float .f64 (fval .quo x y w)) (w.drewN (fdr .quo x y)) := run_fop _ (by simp) ..
theorem nan_drawn (x y t : Nat) : nanB (Question.cut (.nanBits .f64 x y) t) = true ∧ Question.cut (.nanBits .f64 x y) t < 18446744073709551616 := by
  have e : Question.cut (.nanBits .f64 x y) t = (t % 2) * 2 ^ 63 + 0x7ff0000000000000 + 1 + (t / 2) % (2 ^ 52 - 1) := rfl
  rw [e]
  have h1 : t % 2 = 0 ∨ t % 2 = 1 := by omega
  generalize t / 2 = u
  have h2 : u % (2 ^ 52 - 1) < 4503599627370495 := by omega
  generalize u % (2 ^ 52 - 1) = v at *
  generalize t % 2 = z at *
  refine ⟨?_, by omega⟩
  unfold nanB Ieee.Format.read
  simp only [sw_is, bin_is, inf_is, lp_is]
  rw [if_neg (by omega), if_neg (by omega), if_neg (by omega)]
  rfl
theorem is_op {op : BinOp} {x y : Nat} (w : World) : Is (floatBits op .f64 x y) (fval op x y w) := by
  unfold Is fval
  cases h : floatBits op .f64 x y with
  | some r =>
    have := floatBits_wf h
    simp only [Lit.wf, decide_eq_true_eq] at this
    exact ⟨this, rfl⟩
  | none => exact ⟨(nan_drawn _ _ _).2, (nan_drawn _ _ _).1⟩
theorem nan_read {x : Nat} (h : nanB x = true) : ∃ s t, Ieee.double.read x = .nan s t := by
  unfold nanB at h
  cases e : Ieee.double.read x with
  | nan s t => exact ⟨s, t, rfl⟩
  | infinity s => rw [e] at h; cases h
  | number s m i => rw [e] at h; cases h
theorem op_nan_left (op : BinOp) {x : Nat} (y : Nat) (h : nanB x = true) : floatBits op .f64 x y = none := by
  obtain ⟨s, t, e⟩ := nan_read h
  have e' : FloatKind.f64.format.read x = .nan s t := e
  cases op <;> simp [floatBits, Ieee.Format.add, Ieee.Format.sub, Ieee.Format.mul, Ieee.Format.div, e', Ieee.Datum.sum, Ieee.Datum.product, Ieee.Datum.quotient]
theorem op_nan_right (op : BinOp) (x : Nat) {y : Nat} (h : nanB y = true) : floatBits op .f64 x y = none := by
  obtain ⟨s, t, e⟩ := nan_read h
  have e' : FloatKind.f64.format.read y = .nan s t := e
  cases op <;> simp only [floatBits, Ieee.Format.add, Ieee.Format.sub, Ieee.Format.mul, Ieee.Format.div, e', Ieee.Datum.opposite]
  all_goals cases FloatKind.f64.format.read x <;> rfl
/-- an operation of what o and p tell -/
def opO (op : BinOp) (o p : Option Nat) : Option Nat := o.bind fun x => p.bind fun y => floatBits op .f64 x y
theorem is_opO {op : BinOp} {o p : Option Nat} {x y : Nat} (hx : Is o x) (hy : Is p y) (w : World) : Is (opO op o p) (fval op x y w) := by
  have h := is_op (op := op) (x := x) (y := y) w
  cases o with
  | none => rw [op_nan_left op y hx.2] at h; exact h
  | some a =>
    obtain rfl : x = a := hx.2
    cases p with
    | none => rw [op_nan_right op x hy.2] at h; exact h
    | some b =>
      obtain rfl : y = b := hy.2
      exact h
theorem is_some {x : Nat} (h : x < 18446744073709551616) : Is (some x) x := ⟨h, rfl⟩
theorem ofInt_lt (n : Int) : floatOfInt .f64 n < 18446744073709551616 := by
  have := floatOfInt_wf .f64 n
  simpa [Lit.wf] using this
theorem is_ofInt (n : Int) : Is (some (floatOfInt .f64 n)) (floatOfInt .f64 n) := is_some (ofInt_lt n)

/-- what it is worth to clear a block, by the document -/
def shareO (live pages : Int) : Option Nat := opO .quo (some (floatOfInt .f64 live)) (some (floatOfInt .f64 pages))
def worthO (live pages age : Int) : Option Nat :=
  opO .quo (opO .mul (opO .add (some (floatOfInt .f64 age)) (some oneF)) (opO .sub (some oneF) (shareO live pages))) (opO .mul (some 4611686018427387904) (shareO live pages))
def ofO (live pages age : Int) : Option Nat := if pages = 0 then none else worthO live pages age

theorem nan_any (w : World) :
    Calls Try.prog 13 #[] w fun e w' => e = .returned (.float .f64 9221120237041090561) ∧ w' = w := by
  go_enter Try.func13, Try.ntmps13
  go_wp2
  all_goals (go_ret; exact ⟨rfl, rfl⟩)

theorem is_nan {o : Option Nat} {r : Nat} (h : o = none) (hr : r < 18446744073709551616) (hn : nanB r = true) : Is o r := by
  subst h
  exact ⟨hr, hn⟩
theorem below_drawn {B : Nat} {a w : World} (h : Below B a w) (n : Nat) : Below B a (w.drewN n) := below_drewN h n
set_option maxHeartbeats 400000 in
theorem of_any (live pages age : Int) (w : World) :
    Calls Try.prog 7 #[.agg #[.int .i64 live, .int .i64 pages, .int .i64 age]] w fun e w' => ∃ r, e = .returned (.float .f64 r) ∧ Is (ofO live pages age) r ∧ Below w.heap.size w w' := by
  go_enter Try.func7, Try.ntmps7
  go_wp2_with (go_at_call 13; refine (nan_any _).mono ?_; rintro e w' ⟨rfl, rfl⟩)
  all_goals go_ret
  · refine ⟨_, rfl, ?_, ((Below.refl _ _).alloc (Nat.le_refl _) _)⟩
    refine is_nan ?_ (by decide) (by kernel_rfl)
    unfold ofO
    simp_all
  · refine ⟨_, rfl, ?_, below_drawn ((Below.refl _ _).alloc (Nat.le_refl _) _) _⟩
    have hp : ¬ pages = 0 := by simp_all
    unfold ofO
    rw [if_neg hp]
    have hu := fun W => is_opO (op := .quo) (is_ofInt live) (is_ofInt pages) W
    exact is_opO (is_opO (is_opO (is_ofInt age) (is_some (by decide)) _) (is_opO (is_some (by decide)) (hu _) _) _) (is_opO (is_some (by decide)) (hu _) _) _

end Go.Proofs.Ytfaaoogdmfllbaa
