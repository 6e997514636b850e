/-
  What is taken off has just its own bytes. No condition.
-/
import Derived.Test.YtdapoonojhfkkaaSame
namespace Go.Proofs.Ytdapoonojhfkkaa
open Go Go.RowKit

theorem empty_of_size {T : ByteArray} (h : T.size = 0) : T = ⟨#[]⟩ := by
  apply ByteArray.ext
  exact Array.eq_empty_of_size_eq_zero h
/-- a number that is read has just its bytes -/
theorem rN_back (T : ByteArray) (most : Int) (h : (rN T 0 most).2.1 = 0) : numB (rN T 0 most).2.2 ++ (rN T 0 most).1 = T := by
  by_cases h0 : T.size = 0
  · rw [empty_of_size h0, rN_empty] at h
    cases h
  · obtain ⟨b, T1, rfl⟩ := split1 T (by omega)
    by_cases h8 : 8 < b.toNat
    · rw [rN_much b T1 most h8] at h
      cases h
    · by_cases h1 : T1.size < b.toNat
      · rw [rN_short b T1 most (by omega) h1] at h
        cases h
      · obtain ⟨D, T2, rfl, hd⟩ := splitN T1 b.toNat (by omega)
        rw [rN_split b D T2 most (by omega) hd] at h ⊢
        by_cases hf : 0 < b.toNat ∧ leL D.data.toList < 256 ^ (b.toNat - 1)
        · rw [if_pos hf] at h
          cases h
        · rw [if_neg hf] at h ⊢
          by_cases hm : most < (leL D.data.toList : Int)
          · rw [if_pos hm] at h
            cases h
          · rw [if_neg hm]
            show numB (leL D.data.toList) ++ T2 = _
            rw [(form_iff b D hd).2 hf, ByteArray.append_assoc]
/-- an error stays -/
theorem tkGo_err (fs : List Fl) (s : ByteArray) (e : Int) (h : e ≠ 0) : (tkGo fs s e).2.1 = e := by
  induction fs generalizing s e with
  | nil => rfl
  | cons f fs ih =>
    rw [tkGo, rN_err s e f.2.2 h]
    exact ih s e h
theorem tkGo_back (fs : List Fl) (s : ByteArray) (h : (tkGo fs s 0).2.1 = 0) : numsB (tkGo fs s 0).2.2 ++ (tkGo fs s 0).1 = s := by
  induction fs generalizing s with
  | nil =>
    show (⟨#[]⟩ : ByteArray) ++ s = s
    apply ByteArray.ext
    simp
  | cons f fs ih =>
    rw [tkGo] at h ⊢
    simp only at h ⊢
    by_cases he : (rN s 0 f.2.2).2.1 = 0
    · rw [he] at h ⊢
      have h2 := ih _ h
      rw [numsB, Int.toNat_natCast, ByteArray.append_assoc, h2]
      exact rN_back s f.2.2 he
    · rw [tkGo_err _ _ _ he] at h
      exact absurd h he
theorem rF_back (s : ByteArray) (h : (rF s 0 1).2.1 = 0) : (⟨#[UInt8.ofNat (rF s 0 1).2.2]⟩ : ByteArray) ++ (rF s 0 1).1 = s := by
  by_cases h0 : s.size = 0
  · have q : rF ⟨#[]⟩ 0 1 = (⟨#[]⟩, 2, 0) := rF_short ⟨#[]⟩ 1 (by omega) (by decide)
    rw [empty_of_size h0, q] at h
    cases h
  · obtain ⟨b, T1, rfl⟩ := split1 s (by omega)
    rw [rF_byte_app, UInt8.ofNat_toNat]
/-- the numbers of a record that is made of numbers -/
theorem vals_lay (K : Int) (vs : List Int) (hl : vs.length = (flds K).length) : valsL (flds K) (laySet (flds K) vs [K, 0, 0, 0, 0, 0]) = vs ∧ (laySet (flds K) vs [K, 0, 0, 0, 0, 0]).getD 0 0 = K := by
  rcases kinds K with rfl | rfl | rfl | rfl | rfl | rfl | rfl | rfl | rfl | ⟨h1, h2, h3, h4, h5, h6, h7, h8, h9⟩
  case inr.inr.inr.inr.inr.inr.inr.inr.inr =>
    rw [flds_none h1 h2 h3 h4 h5 h6 h7 h8 h9] at hl ⊢
    obtain rfl : vs = [] := List.eq_nil_of_length_eq_zero hl
    exact ⟨rfl, rfl⟩
  all_goals
    first
    | (match vs, hl with
       | [x, y, z], _ => exact ⟨rfl, rfl⟩)
    | (match vs, hl with
       | [x, y], _ => exact ⟨rfl, rfl⟩)
    | (match vs, hl with
       | [x], _ => exact ⟨rfl, rfl⟩)
theorem tkE_ok {s : ByteArray} {e : Int} (h : tkE s e = 0) : (tkQ s e).2.1 = 0 ∧ chkL ((tkL s e).getD 0 0) (tkL s e) = true := by
  unfold tkE at h
  split at h
  · rename_i hh
    exact absurd h hh
  · rename_i hh
    refine ⟨by simpa using hh, ?_⟩
    split at h
    · assumption
    · cases h
/-- a record that is taken off, and its bytes -/
theorem tk_back (s : ByteArray) (h : tkE s 0 = 0) : ∃ K S P A T N, tkR s 0 = [K, S, P, A, T, N] ∧ mayB K S P A T N = true ∧ putB K [K, S, P, A, T, N] ++ (tkQ s 0).1 = s := by
  obtain ⟨h1, h2⟩ := tkE_ok h
  have hv := tkGo_vals (flds (rF s 0 1).2.2) (rF s 0 1).1 (rF s 0 1).2.1 (fun f hf => (flds_off _ f hf).2.2.2.1)
  have hl := vals_lay (rF s 0 1).2.2 (tkQ s 0).2.2 hv.1
  have hR : tkR s 0 = tkL s 0 := by unfold tkR; rw [if_pos h]
  have h6 : (tkL s 0).length = 6 := laySet_len _ _ _
  have e1 : (rF s 0 1).2.1 = 0 := by
    by_cases q : (rF s 0 1).2.1 = 0
    · exact q
    · have := tkGo_err (flds (rF s 0 1).2.2) (rF s 0 1).1 _ q
      exact absurd (this.symm.trans h1) q
  have h3 : numsB (tkQ s 0).2.2 ++ (tkQ s 0).1 = (rF s 0 1).1 := by
    unfold tkQ at h1 ⊢
    rw [e1] at h1 ⊢
    exact tkGo_back _ _ h1
  have h4 := rF_back s e1
  have hput : putB ((tkL s 0).getD 0 0) (tkL s 0) ++ (tkQ s 0).1 = s := by
    unfold putB
    have e2 : (tkL s 0).getD 0 0 = ((rF s 0 1).2.2 : Int) := hl.2
    rw [e2, show valsL (flds ((rF s 0 1).2.2 : Int)) (tkL s 0) = (tkQ s 0).2.2 from hl.1, ByteArray.append_assoc, h3, Int.toNat_natCast]
    exact h4
  rw [hR]
  obtain ⟨K, S, P, A, T, N, e3⟩ := six h6
  rw [e3] at h2 hput ⊢
  exact ⟨K, S, P, A, T, N, rfl, h2, hput⟩
end Go.Proofs.Ytdapoonojhfkkaa
