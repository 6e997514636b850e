/-
  Numerals: manifest.Digits (29) by strconv.Itoa, the answer's digits (34), and that a count says its own digits. Condition: the library's table of powers of ten holds what it was laid with (Tb).
-/
import Derived.Test.YtdolilgkjknckaaDoorRcn
import Derived.Test.YtdolilgkjknckaaDoorRef
import Derived.Test.YtdolilgkjknckaaDoorShelf
import Derived.Lib.AppendIntMem
import Derived.Deep.RegionWith
import Derived.Deep.RegionHeld3
import Derived.Lib.ItoaLen
namespace Go.Proofs.YtdolilgkjknckaaDoor
open Go Go.RowKit
set_option maxRecDepth 100000
/-- the table of powers of ten stands -/
def Tb (w : World) : Prop := Lib.TabIs Tryd.prog w "internal/strconv.uint64pow10" .u64 Lib.pow10Tab
theorem Tb.call {w w' : World} (h : Tb w) (b : Below w.heap.size w w') : Tb w' := Lib.tabBelow_of_tabIs h w' b
theorem Tb.alloc {w : World} (h : Tb w) (o : Obj) : Tb (w.alloc o) := h.call ((Below.refl _ _).alloc (Nat.le_refl _) _)
theorem Tb.drew {w : World} (h : Tb w) : Tb w.drew := h
def decB (n : Int) : ByteArray := ⟨(Lib.itoa n).toArray⟩
theorem digits_any (n : Int) (h0 : -9223372036854775808 ≤ n) (h1 : n ≤ 9223372036854775807) (w : World) (ht : Tb w) :
    Calls Tryd.prog 29 #[.int .i64 n] w fun e w' => e = .returned (.string (decB n)) ∧ Below w.heap.size w w' := by
  have c : ∀ w, Tb w → Calls Tryd.prog 30 #[.int .i64 n] w fun e w' => e = .returned (.string (decB n)) ∧ Below w.heap.size w w' := fun w ht =>
    (sl_strconv_Itoa n h0 h1 w ht).mono fun e w' ⟨he, k, os, hw⟩ => ⟨he, by rw [hw]; exact Lib.below_grow _ _ (Nat.le_refl _) _ _⟩
  clear h0 h1
  go_enter Tryd.func29, Tryd.ntmps29
  go_wp2_with (go_at_call 30; refine (c _ ht).mono ?_; rintro e w1 ⟨rfl, b1⟩)
  go_ret
  exact ⟨rfl, b1⟩
theorem itodi (n : Nat) : Lib.itoa (n : Int) = Lib.decDigits n := Lib.itoa_nonneg n
theorem dec_digit (d : Nat) (h : d < 10) : isD (UInt8.ofNat (48 + d)) = true ∧ (UInt8.ofNat (48 + d)).toNat = 48 + d := by
  have e : (UInt8.ofNat (48 + d)).toNat = 48 + d := by rw [UInt8.toNat_ofNat']; omega
  unfold isD
  rw [e]
  exact ⟨by rw [Bool.and_eq_true, decide_eq_true_iff, decide_eq_true_iff]; omega, rfl⟩
theorem decDigits_all (n : Nat) : (Lib.decDigits n).all isD = true ∧ val (Lib.decDigits n) = n ∧ Lib.decDigits n ≠ [] ∧ (1 ≤ n → (Lib.decDigits n).head? ≠ some 48) := by
  induction n using Nat.strongRecOn with
  | _ n ih =>
    by_cases h : n < 10
    · rw [Lib.decDigits_one h]
      obtain ⟨h1, h2⟩ := dec_digit n h
      refine ⟨by rw [List.all_cons, h1]; rfl, ?_, by simp, ?_⟩
      · show 10 * 0 + ((UInt8.ofNat (48 + n)).toNat - 48) = n
        omega
      · intro hn e
        rw [List.head?_cons] at e
        have := congrArg UInt8.toNat (Option.some.inj e)
        rw [h2] at this
        have h48 : (48 : UInt8).toNat = 48 := rfl
        omega
    · rw [Lib.decDigits, dif_neg h]
      obtain ⟨a1, a2, a3, a4⟩ := ih (n / 10) (by omega)
      obtain ⟨h1, h2⟩ := dec_digit (n % 10) (by omega)
      refine ⟨by rw [List.all_append, a1, List.all_cons, h1]; rfl, ?_, by simp, ?_⟩
      · rw [val_snoc, a2, h2]
        omega
      · intro _
        cases hd : Lib.decDigits (n / 10) with
        | nil => exact absurd hd a3
        | cons x t =>
          have := a4 (by omega)
          rw [hd] at this
          exact this
theorem cntV_dec (n : Nat) (h : n < 2147483648) : cntV (Lib.decDigits n) = ((n : Int), true) := by
  obtain ⟨h1, h2, h3, h4⟩ := decDigits_all n
  have hF : ¬ (Lib.decDigits n = [] ∨ ((Lib.decDigits n).head? = some 48 ∧ Lib.decDigits n ≠ [48])) := by
    rintro (e | ⟨e, e2⟩)
    · exact h3 e
    · by_cases hn : 1 ≤ n
      · exact h4 hn e
      · have h0 : n = 0 := by omega
        subst h0
        exact e2 (Lib.decDigits_one (by omega))
  unfold cntV
  rw [if_neg hF, if_pos ⟨h1, by omega⟩, h2]
theorem cntV_itoa (n : Int) : cntV (Lib.itoa n) = (if 0 ≤ n ∧ n < 2147483648 then n else 0, decide (0 ≤ n ∧ n < 2147483648)) := by
  by_cases h0 : 0 ≤ n
  · obtain ⟨m, rfl⟩ := Int.eq_ofNat_of_zero_le h0
    rw [itodi]
    by_cases h : m < 2147483648
    · rw [cntV_dec m h, if_pos (by omega), decide_eq_true (by omega)]
    · rw [if_neg (by omega), decide_eq_false (by omega)]
      obtain ⟨h1, h2, h3, h4⟩ := decDigits_all m
      unfold cntV
      split
      · rfl
      · exact if_neg (fun x => by omega)
  · rw [if_neg (by omega), decide_eq_false (by omega)]
    obtain ⟨m, hm⟩ : ∃ m : Nat, n = -(m : Int) := ⟨n.natAbs, by omega⟩
    subst hm
    rw [Lib.itoa_neg m (by omega)]
    exact cntV_no _ 0 (by simp) (by simp; decide)
theorem one_of (W : World) (b : UInt8) (v : Int) (hv : v = (b.toNat : Int)) :
    (convert 50 9 (.slice (some ⟨W.heap.size, 0, none⟩) 1 1)).run Tryd.prog (W.alloc (.cells #[.int .u8 v] 5)) = .ok (.string ⟨#[b]⟩) (W.alloc (.cells #[.int .u8 v] 5)) := by
  subst hv
  have h : HasBytes (W.alloc (.cells #[.int .u8 (b.toNat : Int)] 5)) W.heap.size [b] := Row.bytes (Row.fresh W 5 .u8 (toI [b]))
  exact h.back 50 9 5 1 1 rfl Tryd.underlying50 Tryd.underlying5 Tryd.underlying9
theorem refDigits_any (n : Nat) (hn : n ≤ 2147483648) (w : World) :
    Calls Tryd.prog 34 #[.int .i64 n] w fun e w' => e = .returned (.string ⟨(Lib.decDigits n).toArray⟩) ∧ Below w.heap.size w w' := by
  induction n using Nat.strongRecOn generalizing w with
  | _ n ih =>
    by_cases h : n < 10
    · rw [Lib.decDigits_one h]
      have hone := fun W => one_of W (UInt8.ofNat (48 + n)) (48 + (n : Int)) (by rw [(dec_digit n h).2]; omega)
      show Calls Tryd.prog 34 #[.int .i64 n] w fun e w' => e = .returned (.string ⟨#[UInt8.ofNat (48 + n)]⟩) ∧ Below w.heap.size w w'
      generalize (⟨#[UInt8.ofNat (48 + n)]⟩ : ByteArray) = O at *
      clear ih
      go_enter Tryd.func34, Tryd.ntmps34
      go_wp2_with fail
      go_ret
      exact ⟨rfl, (Below.refl _ _).alloc (Nat.le_refl _) _⟩
    · have c := ih (n / 10) (by omega) (by omega)
      have hw1 : IntKind.i64.wrap ((n : Int) / 10) = ((n / 10 : Nat) : Int) := by rw [IntKind.wrap_i64]; omega
      have ht : (n : Int).tmod 10 = (n : Int) % 10 := Int.tmod_eq_emod_of_nonneg (by omega)
      have hw2 : IntKind.u8.wrap (IntKind.i64.wrap (48 + (n : Int).tmod 10)) = 48 + ((n : Int) % 10) := by
        rw [ht, IntKind.wrap_i64]
        simp [IntKind.wrap, IntKind.bits, IntKind.signed]
        omega
      rw [← hw1] at c
      have hR : (⟨(Lib.decDigits (n / 10)).toArray⟩ : ByteArray) ++ ⟨#[UInt8.ofNat (48 + n % 10)]⟩ = ⟨(Lib.decDigits n).toArray⟩ := by
        rw [show Lib.decDigits n = Lib.decDigits (n / 10) ++ [UInt8.ofNat (48 + n % 10)] by rw [Lib.decDigits, dif_neg h]]
        apply ByteArray.ext
        simp
      have hone : ∀ W g, W.cell? ⟨g, 0, none⟩ = some (.int .u8 (48 + ((n : Int) % 10))) → (convert 50 9 (.slice (some ⟨g, 0, none⟩) 1 1)).run Tryd.prog W = .ok (.string ⟨#[UInt8.ofNat (48 + n % 10)]⟩) W := fun W g h =>
        run_one (48 + n % 10) (by omega) W g (by rw [h]; rfl)
      rw [← hw2] at hone
      clear hw1 hw2 ht
      have hs1 : (⟨(Lib.decDigits (n / 10)).toArray⟩ : ByteArray).size ≤ 30 := by
        show (Lib.decDigits (n / 10)).toArray.size ≤ 30
        rw [List.size_toArray, Lib.decDigits_length]
        have := Lib.nDigits_le20 (n / 10) (by omega)
        omega
      generalize (⟨(Lib.decDigits (n / 10)).toArray⟩ : ByteArray) = A at *
      generalize hO : (⟨#[UInt8.ofNat (48 + n % 10)]⟩ : ByteArray) = O at *
      have hO1 : O.size = 1 := by rw [← hO]; rfl
      clear hO
      generalize (⟨(Lib.decDigits n).toArray⟩ : ByteArray) = R at *
      have HR := Hid.mk hR
      clear hR ih
      go_enter Tryd.func34, Tryd.ntmps34
      go_wp2_with fail
      go_region_with (go_at_call 34; refine (c _).mono ?_; rintro e w1 ⟨rfl, b1⟩; try (have cc := kept_one _ _ _ b1))
      all_goals
        go_wp2_with fail
        go_ret
        refine ⟨by rw [← HR.out]; rfl, ?_⟩
        first
        | exact below3 ((Below.refl _ w).alloc (Nat.le_refl _) _).drew b1
        | exact (below3 (Below.refl _ w).drew b1).alloc (below3 (Below.refl _ w).drew b1).size _
end Go.Proofs.YtdolilgkjknckaaDoor
