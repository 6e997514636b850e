/-
  The model's torn page, and a page of it written: the walks of torn and program. No condition.
-/
import Derived.Test.YtkfkepjegdaadaaMlay
import Derived.Deep.RegionHeld3
import Derived.Deep.RegionWith
namespace Go.Proofs.Ytkfkepjegdaadaa
open Go Go.RowKit

theorem textI (n : Int) (h0 : 0 ≤ n) (h1 : n ≤ 1000) (c : Int) (hc : 0 ≤ c ∧ c < 256) (w : World) : Calls Try.prog 18 #[.int .i64 n, .int .u8 c] w fun e w' => e = .returned (.string (rep n.toNat (u8 c))) ∧ Below w.heap.size w w' := by
  obtain ⟨m, rfl⟩ := Int.eq_ofNat_of_zero_le h0
  rw [Int.toNat_natCast]
  exact text_any m (by omega) c hc w
theorem rep_extract (n k : Nat) (y : UInt8) : (rep n y).extract k n = rep (n - k) y := by
  apply ByteArray.ext
  unfold rep
  simp
theorem extract_none (s : ByteArray) : s.extract 0 0 = ⟨#[]⟩ := by
  apply ByteArray.ext
  simp
theorem tornP_eq (Z : Nat) (s : ByteArray) (k x : Int) (kk : Nat) (hk : min (max k 0) ((Z + 32 : Nat) : Int) = kk) : tornP Z s k x = s.extract 0 kk ++ rep (Z + 32 - kk) (u8 x) := by
  unfold tornP
  rw [hk, Int.toNat_natCast, rep_extract]
theorem torn_keep {w w1 w2 : World} {g : Nat} {v : Value} (h : w1.cell? ⟨g, 2, none⟩ = some v ∧ (Below w.heap.size w w1 ∧ g < w1.heap.size)) (b : Below w1.heap.size w1 w2) : w2.cell? ⟨g, 2, none⟩ = some v ∧ (Below w.heap.size w w2 ∧ g < w2.heap.size) :=
  ⟨(b.cell (p := ⟨g, 2, none⟩) h.2.2).trans h.1, below3 h.2.1 b, Nat.lt_of_lt_of_le h.2.2 b.size⟩
set_option maxHeartbeats 2000000 in
theorem torn_aux (i k x : Int) (hx : 0 ≤ x ∧ x < 256) (Z : Nat) (hZ : 64 ≤ Z ∧ Z ≤ 256) (s : ByteArray) (hs : s.size = Z + 32) (w : World) : Calls Try.prog 42 #[cutV i k x, .string s] w fun e w' => e = .returned (.string (tornP Z s k x)) ∧ Below w.heap.size w w' := by
  obtain ⟨kk, hkk, hm⟩ : ∃ kk : Nat, kk ≤ Z + 32 ∧ min (max k 0) ((Z + 32 : Nat) : Int) = kk := ⟨(min (max k 0) ((Z + 32 : Nat) : Int)).toNat, by omega, by omega⟩
  rw [tornP_eq Z s k x kk hm]
  generalize hR : s.extract 0 kk ++ rep (Z + 32 - kk) (u8 x) = R
  have HR := Hid.mk (And.intro hR hm)
  clear hR hm
  have hsi : (s.size : Int) = (Z : Int) + 32 := by omega
  unfold cutV
  go_enter Try.func42, Try.ntmps42
  go_upto_region 1 with fail
  have hcv := heap_alloc_new w (.cells #[.int .i64 i, .int .i64 k, .int .u8 x] 57)
  have hb0 := (Below.refl w.heap.size w).alloc (Nat.le_refl _) (.cells #[.int .i64 i, .int .i64 k, .int .u8 x] 57)
  generalize w.alloc (.cells #[.int .i64 i, .int .i64 k, .int .u8 x] 57) = W at *
  have lT : w.heap.size < W.heap.size := (Array.getElem?_eq_some_iff.1 hcv).1
  have c1 : W.cell? ⟨w.heap.size, 1, none⟩ = some (.int .i64 k) := cell_of_row _ _ 1 _ 57 _ hcv
  have c2 : W.cell? ⟨w.heap.size, 2, none⟩ = some (.int .u8 x) := cell_of_row _ _ 2 _ 57 _ hcv
  have HB := Hid.mk hb0
  have hS0 : Hid (W.drew.cell? ⟨w.heap.size, 2, none⟩ = some (.int .u8 x) ∧ (Below w.heap.size w W.drew ∧ w.heap.size < W.drew.heap.size)) := ⟨c2, hb0.drew, lT⟩
  clear hb0 hcv
  obtain ⟨Y, hY⟩ : ∃ Y, rep (Z + 32 - kk) (u8 x) = Y := ⟨_, rfl⟩
  have hYs : Y.size = Z + 32 - kk := by rw [← hY, rep_size]
  have htx : ∀ W, Calls Try.prog 18 #[.int .i64 ((Z + 32 - kk : Nat) : Int), .int .u8 x] W fun e w' => e = .returned (.string Y) ∧ Below W.heap.size W w' := fun W => by
    rw [← hY]
    exact text_any _ (by omega) x hx W
  have hRY : s.extract 0 kk ++ Y = R := by rw [← hY]; exact HR.out.1
  have hzz1 : ¬ 9223372036854775807 < Z + 32 := by omega
  have HT := Hid.mk htx
  have HRY := Hid.mk hRY
  clear htx hY hRY
  by_cases h1 : k < 0
  · have hk0 : kk = 0 := by have := HR.out.2; omega
    have ht2 : ∀ W, Calls Try.prog 18 #[.int .i64 (IntKind.i64.wrap ((Z : Int) + 32)), .int .u8 x] W fun e w' => e = .returned (.string Y) ∧ Below W.heap.size W w' := fun W => by
      rw [show IntKind.i64.wrap ((Z : Int) + 32) = ((Z + 32 - kk : Nat) : Int) by rw [IntKind.wrap_i64]; omega]
      exact HT.out W
    have HT2 := Hid.mk ht2
    clear ht2
    go_upto_region 6 with fail
    go_region_with (first | (go_at_call 18; refine (HT2.out _).mono ?_; rintro e w5 ⟨rfl, b5⟩))
    all_goals
      have hb5 := below3 hS0.out.2.1 b5
      clear b5
      go_wp2_with fail
      go_ret
      refine ⟨?_, hb5⟩
      rw [← HRY.out, hk0, extract_none]
      rfl
  · by_cases h2 : (s.size : Int) < k
    · have hk0 : kk = Z + 32 := by have := HR.out.2; omega
      rw [hsi] at h2
      have ht2 : ∀ W, Calls Try.prog 18 #[.int .i64 0, .int .u8 x] W fun e w' => e = .returned (.string Y) ∧ Below W.heap.size W w' := fun W => by
        rw [show (0 : Int) = ((Z + 32 - kk : Nat) : Int) by omega]
        exact HT.out W
      have HT2 := Hid.mk ht2
      clear ht2
      go_upto_region 6 with fail
      go_region_with (first | (go_at_call 18; refine (HT2.out _).mono ?_; rintro e w5 ⟨rfl, b5⟩))
      all_goals
        have hb5 := below3 hS0.out.2.1 b5
        clear b5
        go_wp2_with fail
        go_ret
        refine ⟨?_, hb5⟩
        rw [← HRY.out, hk0]
        rfl
    · obtain ⟨k', rfl⟩ := Int.eq_ofNat_of_zero_le (by omega : 0 ≤ k)
      have hk0 : k' = kk := by have := HR.out.2; omega
      subst hk0
      rw [hsi] at h2
      have hk8 : (k' : Int) ≤ (Z : Int) + 32 := by omega
      have hw1 : IntKind.i64.wrap ((Z : Int) + 32 - k') = ((Z + 32 - k' : Nat) : Int) := by rw [IntKind.wrap_i64]; omega
      go_upto_region 6 with fail
      go_region_with (first | (go_at_call 18; refine (HT.out _).mono ?_; rintro e w5 ⟨rfl, b5⟩))
      all_goals
        have hb5 := below3 hS0.out.2.1 b5
        clear b5
        go_wp2_with fail
        go_ret
        refine ⟨?_, hb5⟩
        rw [← HRY.out]
        rfl
end Go.Proofs.Ytkfkepjegdaadaa
