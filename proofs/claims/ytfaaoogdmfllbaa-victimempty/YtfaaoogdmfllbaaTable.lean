/-
  The shares of up to 32 pages, one by one, by reckoning. No condition.
-/
import Derived.Test.YtfaaoogdmfllbaaBetter
namespace Go.Proofs.Ytfaaoogdmfllbaa
open Ieee

/-- 1 less the share; twice the share -/
def cO (n x : Nat) : Option Nat := opO .sub (some oneF) (shareO (x : Int) (n : Int))
def dO (n x : Nat) : Option Nat := opO .mul (some 4611686018427387904) (shareO (x : Int) (n : Int))
def kOf (v : Nat) : Nat := (key v).toNat
def checkOne (n x : Nat) : Bool := match cO n x, dO n x with
  | some c, some d => !nanB c && decide (0 ≤ key c) && (decide (kOf c = 0) || decide (pw 1060 ≤ kOf c)) && decide (kOf c ≤ pw 1075) && !nanB d && decide (0 ≤ key d) && decide (pw 1060 ≤ kOf d) && decide (kOf d ≤ pw 1076)
  | _, _ => false
def checkTwo (n x : Nat) : Bool := match cO n x, dO n x, cO n (x + 1), dO n (x + 1) with
  | some c, some d, some c', some d' => decide (9 * (kOf c' * kOf d) ≤ 8 * (kOf c * kOf d')) && decide (0 < kOf c)
  | _, _, _, _ => false
def checkZero (n : Nat) : Bool := decide (cO n 0 = some oneF) && decide (dO n 0 = some 0)
def checkRow (n : Nat) : Bool := checkZero n && ((List.range (n + 1)).all fun x => decide (x = 0) || checkOne n x) && ((List.range n).all fun x => decide (x = 0) || checkTwo n x)
def checkAll : Bool := (List.range 33).all fun n => decide (n = 0) || checkRow n
theorem checked : checkAll = true := by decide +kernel
theorem row_of {n : Nat} (h0 : n ≠ 0) (h : n ≤ 32) : checkRow n = true := by
  have := checked
  unfold checkAll at this
  rw [List.all_eq_true] at this
  have := this n (List.mem_range.2 (by omega))
  simpa [h0] using this
theorem one_of {n x : Nat} (h : checkRow n = true) (h0 : x ≠ 0) (hx : x ≤ n) : checkOne n x = true := by
  unfold checkRow at h
  simp only [Bool.and_eq_true, List.all_eq_true] at h
  have := h.1.2 x (List.mem_range.2 (by omega))
  simpa [h0] using this
theorem two_of {n x : Nat} (h : checkRow n = true) (h0 : x ≠ 0) (hx : x < n) : checkTwo n x = true := by
  unfold checkRow at h
  simp only [Bool.and_eq_true, List.all_eq_true] at h
  have := h.2 x (List.mem_range.2 (by omega))
  simpa [h0] using this
theorem zero_of {n : Nat} (h : checkRow n = true) : cO n 0 = some oneF ∧ dO n 0 = some 0 := by
  unfold checkRow checkZero at h
  simp only [Bool.and_eq_true, decide_eq_true_eq] at h
  exact h.1.1
end Go.Proofs.Ytfaaoogdmfllbaa
