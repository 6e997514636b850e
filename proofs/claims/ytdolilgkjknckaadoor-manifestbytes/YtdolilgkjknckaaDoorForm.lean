/-
  No number has two forms: what Num reads has just the bytes of it. No condition.
-/
import Derived.Test.YtdolilgkjknckaaDoorBack
namespace Go.Proofs.YtdolilgkjknckaaDoor
open Go Go.RowKit

theorem splitN (T : ByteArray) (n : Nat) (h : n ≤ T.size) : ∃ D T2 : ByteArray, T = D ++ T2 ∧ D.size = n := by
  refine ⟨T.extract 0 n, T.extract n T.size, ?_, by rw [ByteArray.size_extract]; omega⟩
  have hs : T.size = T.data.size := rfl
  apply ByteArray.ext
  rw [ByteArray.data_append, ByteArray.data_extract, ByteArray.data_extract]
  simp only [Array.extract_append_extract]
  rw [Nat.min_eq_left (by omega), Nat.max_eq_right (by omega), hs]
  exact Array.extract_size.symm
theorem split1 (T : ByteArray) (h : 0 < T.size) : ∃ (b : UInt8) (T1 : ByteArray), T = ⟨#[b]⟩ ++ T1 := by
  obtain ⟨D, T2, e, hd⟩ := splitN T 1 h
  have hd2 : D.data.size = 1 := hd
  refine ⟨D.data[0], T2, ?_⟩
  rw [e]
  have : D = ⟨#[D.data[0]]⟩ := by
    apply ByteArray.ext
    apply Array.ext
    · exact hd2
    · intro i h1 h2
      obtain rfl : i = 0 := by omega
      rfl
  rw [← this]
theorem rB_short (T : ByteArray) (n : Int) (h : (T.size : Int) < n) : rB T 0 n = (⟨#[]⟩, 2, ⟨#[]⟩) := by
  unfold rB
  rw [if_neg (by decide), if_pos (Or.inr h)]
theorem rB_err (T : ByteArray) (e n : Int) (h : e ≠ 0) : rB T e n = (T, e, ⟨#[]⟩) := by
  unfold rB
  rw [if_pos h]
theorem rF_err (T : ByteArray) (e n : Int) (h : e ≠ 0) : rF T e n = (T, e, 0) := by
  unfold rF
  rw [rB_err T e _ h]
  rfl
theorem wid_small (c : Nat) (h : c ≤ 8) : wid (c : Int) = (c : Int) := by unfold wid; rw [if_neg (by omega), if_neg (by omega)]
theorem rF_short (T : ByteArray) (c : Nat) (h8 : c ≤ 8) (h : T.size < c) : rF T 0 c = (⟨#[]⟩, 2, 0) := by
  unfold rF
  rw [wid_small c h8, rB_short T _ (by omega)]
  rfl
theorem rF_app (D T2 : ByteArray) (h8 : D.size ≤ 8) : rF (D ++ T2) 0 D.size = (T2, 0, leL D.data.toList) := by
  unfold rF
  rw [wid_small _ h8, rB_app D T2 _ rfl]
theorem rN_err (T : ByteArray) (e most : Int) (h : e ≠ 0) : rN T e most = (T, e, 0) := by
  unfold rN
  rw [rF_err T e 1 h]
  simp only
  rw [rF_err T e _ h, if_neg (by omega), if_pos h]
theorem rN_empty (most : Int) : rN ⟨#[]⟩ 0 most = (⟨#[]⟩, 2, 0) := by
  unfold rN
  have h : rF ⟨#[]⟩ 0 1 = (⟨#[]⟩, 2, 0) := rF_short ⟨#[]⟩ 1 (by omega) (by decide)
  rw [h]
  simp only
  rw [rF_err _ 2 _ (by decide), if_neg (by omega), if_pos (by decide)]
theorem rN_much (b : UInt8) (T1 : ByteArray) (most : Int) (h : 8 < b.toNat) : rN (⟨#[b]⟩ ++ T1) 0 most = (⟨#[]⟩, 3, 0) := by
  unfold rN
  rw [rF_byte_app]
  simp only
  rw [if_pos h]
theorem rN_short (b : UInt8) (T1 : ByteArray) (most : Int) (h : b.toNat ≤ 8) (h1 : T1.size < b.toNat) : rN (⟨#[b]⟩ ++ T1) 0 most = (⟨#[]⟩, 2, 0) := by
  unfold rN
  rw [rF_byte_app]
  simp only
  rw [if_neg (by omega), rF_short T1 _ h h1, if_pos (by decide)]
theorem rN_split (b : UInt8) (D T2 : ByteArray) (most : Int) (h : b.toNat ≤ 8) (h1 : D.size = b.toNat) :
    rN (⟨#[b]⟩ ++ (D ++ T2)) 0 most = if 0 < b.toNat ∧ leL D.data.toList < 256 ^ (b.toNat - 1) then (⟨#[]⟩, 3, 0) else if most < (leL D.data.toList : Int) then (⟨#[]⟩, 5, 0) else (T2, 0, leL D.data.toList) := by
  unfold rN
  rw [rF_byte_app]
  simp only
  rw [← h1, rF_app D T2 (by omega), if_neg (by omega), if_neg (by simp)]
/-- the bytes that are read are the number's own, where the last one is not 0 -/
theorem form_iff (b : UInt8) (D : ByteArray) (h1 : D.size = b.toNat) : numB (leL D.data.toList) = ⟨#[b]⟩ ++ D ↔ ¬ (0 < b.toNat ∧ leL D.data.toList < 256 ^ (b.toNat - 1)) := by
  have hl : D.data.toList.length = b.toNat := by rw [Array.length_toList]; exact h1
  have hlt := leL_lt D.data.toList
  rw [hl] at hlt
  constructor
  · intro e hh
    have h2 := congrArg (fun x : ByteArray => x.size) e
    have h3 : (numB (leL D.data.toList)).size = nb (leL D.data.toList) + 1 := by
      show (numL _).toArray.size = _
      rw [List.size_toArray, numL_length]
    have h4 : ((⟨#[b]⟩ : ByteArray) ++ D).size = 1 + D.size := ByteArray.size_append
    simp only [h3, h4] at h2
    have h5 : nb (leL D.data.toList) = b.toNat := by omega
    by_cases h0 : leL D.data.toList = 0
    · rw [h0, nb_zero] at h5
      omega
    · have := nb_ge _ h0
      rw [h5] at this
      omega
  · intro hh
    have h5 : nb (leL D.data.toList) = b.toNat := nb_unique _ _ hlt (fun hp => by
      rcases Nat.lt_or_ge (leL D.data.toList) (256 ^ (b.toNat - 1)) with h | h
      · exact absurd ⟨hp, h⟩ hh
      · exact h)
    have h6 : digs (leL D.data.toList) = D.data.toList := by
      unfold digs
      rw [h5, ← hl, fixL_leL]
    unfold numB numL
    apply ByteArray.ext
    rw [h5, h6, UInt8.ofNat_toNat]
    simp
/-- what Num reads -/
theorem rN_form (T : ByteArray) (most : Int) : ((rN T 0 most).2.1 ≠ 0 ∧ (rN T 0 most).2.2 = 0) ∨
    ∃ k : Nat, 1 ≤ k ∧ k ≤ 9 ∧ (rN T 0 most).2.1 = 0 ∧ (rN T 0 most).1.size + k = T.size ∧ T.extract 0 k = numB (rN T 0 most).2.2 ∧ (rN T 0 most).2.2 < 18446744073709551616 := by
  by_cases h0 : T.size = 0
  · have e : T = ⟨#[]⟩ := by
      apply ByteArray.ext
      exact Array.eq_empty_of_size_eq_zero h0
    rw [e, rN_empty]
    exact .inl ⟨by decide, rfl⟩
  · obtain ⟨b, T1, rfl⟩ := split1 T (by omega)
    by_cases h8 : 8 < b.toNat
    · rw [rN_much b T1 most h8]
      exact .inl ⟨by decide, rfl⟩
    · by_cases h1 : T1.size < b.toNat
      · rw [rN_short b T1 most (by omega) h1]
        exact .inl ⟨by decide, rfl⟩
      · obtain ⟨D, T2, rfl, hd⟩ := splitN T1 b.toNat (by omega)
        rw [rN_split b D T2 most (by omega) hd]
        by_cases hf : 0 < b.toNat ∧ leL D.data.toList < 256 ^ (b.toNat - 1)
        · rw [if_pos hf]
          exact .inl ⟨by simp, rfl⟩
        · rw [if_neg hf]
          by_cases hm : most < (leL D.data.toList : Int)
          · rw [if_pos hm]
            exact .inl ⟨by simp, rfl⟩
          · rw [if_neg hm]
            refine .inr ⟨b.toNat + 1, by omega, by omega, rfl, ?_, ?_, ?_⟩
            · show T2.size + _ = _
              rw [ByteArray.size_append, ByteArray.size_append]
              show _ = 1 + _
              omega
            · have e := (form_iff b D hd).2 hf
              have hs : ((⟨#[b]⟩ : ByteArray) ++ D).size = b.toNat + 1 := by
                rw [ByteArray.size_append, hd]
                show 1 + _ = _
                omega
              rw [← ByteArray.append_assoc, ← hs, extract_left]
              exact e.symm
            · have hl : D.data.toList.length = b.toNat := by rw [Array.length_toList]; exact hd
              have := leL_lt D.data.toList
              rw [hl] at this
              exact Nat.lt_of_lt_of_le this (pow256_le8 _ (by omega))
end Go.Proofs.YtdolilgkjknckaaDoor
