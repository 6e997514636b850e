/-
  What is put is taken again; what is taken off has just its own bytes. No condition.
-/
import Derived.Test.YtdapoonojhfkkaaTake
namespace Go.Proofs.Ytdapoonojhfkkaa
open Go Go.RowKit

/-- numbers that were written one behind the other -/
theorem tkGo_put (fs : List Fl) (vs : List Int) (t : ByteArray) (hl : vs.length = fs.length) (h : ∀ j, j < fs.length → 0 ≤ vs.getD j 0 ∧ vs.getD j 0 ≤ (fs.getD j (0, 0, 0)).2.2 ∧ vs.getD j 0 ≤ 1073741824) :
    tkGo fs (numsB vs ++ t) 0 = (t, 0, vs) := by
  induction fs generalizing vs with
  | nil =>
    obtain rfl : vs = [] := List.eq_nil_of_length_eq_zero hl
    rw [tkGo, numsB]
    have e : (⟨#[]⟩ : ByteArray) ++ t = t := by apply ByteArray.ext; simp
    rw [e]
  | cons f fs ih =>
    match vs, hl with
    | v :: vs, hl =>
      have h0 := h 0 (by simp)
      simp only [List.getD_cons_zero] at h0
      have hr := rN_app v.toNat (numsB vs ++ t) f.2.2 (by omega)
      rw [if_neg (by omega)] at hr
      have hi := ih vs (by simpa using hl) (fun j hj => by simpa using h (j + 1) (by simpa using hj))
      rw [numsB, ByteArray.append_assoc, tkGo, hr]
      simp only [hi]
      rw [Int.toNat_of_nonneg h0.1]
/-- a record that may be is read again -/
theorem tk_put {K S P A T N : Int} (hm : mayB K S P A T N = true) (t : ByteArray) : tkQ (putB K [K, S, P, A, T, N] ++ t) 0 = (t, 0, valsL (flds K) [K, S, P, A, T, N]) ∧ tkL (putB K [K, S, P, A, T, N] ++ t) 0 = [K, S, P, A, T, N] := by
  have hv := may_vals (mayB_iff.1 hm)
  have hb : (((UInt8.ofNat K.toNat).toNat : Nat) : Int) = K := by rw [UInt8.toNat_ofNat']; omega
  have hF : rF (putB K [K, S, P, A, T, N] ++ t) 0 1 = (numsB (valsL (flds K) [K, S, P, A, T, N]) ++ t, 0, (UInt8.ofNat K.toNat).toNat) := by
    unfold putB
    rw [ByteArray.append_assoc, rF_byte_app]
  have hQ : tkQ (putB K [K, S, P, A, T, N] ++ t) 0 = (t, 0, valsL (flds K) [K, S, P, A, T, N]) := by
    unfold tkQ
    rw [hF]
    simp only [hb]
    refine tkGo_put _ _ _ (valsL_length _ _) (fun j hj => ?_)
    rw [valsL_getD _ _ _ hj]
    have q1 := hv.2.2.2 _ (getD_mem _ j hj)
    have q2 := flds_off K _ (getD_mem _ j hj)
    omega
  refine ⟨hQ, ?_⟩
  unfold tkL
  rw [hQ, hF]
  simp only [hb]
  have hw := mayB_iff.1 hm
  clear hQ hF hv hb hm
  rcases hw with h | h | h | h | h | h | h | h | h
  all_goals
    obtain ⟨rfl, h⟩ := h
    simp [flds, valsL, laySet]
    try omega
theorem tkE_put {K S P A T N : Int} (hm : mayB K S P A T N = true) (t : ByteArray) : tkE (putB K [K, S, P, A, T, N] ++ t) 0 = 0 := by
  unfold tkE
  rw [(tk_put hm t).1, (tk_put hm t).2, if_neg (by simp)]
  exact if_pos hm
theorem tkR_put {K S P A T N : Int} (hm : mayB K S P A T N = true) (t : ByteArray) : tkR (putB K [K, S, P, A, T, N] ++ t) 0 = [K, S, P, A, T, N] := by
  unfold tkR
  rw [if_pos (tkE_put hm t), (tk_put hm t).2]
/-- a record that was put is taken off -/
theorem takePut_any {K S P A T N : Int} (hm : mayB K S P A T N = true) (t : ByteArray) {w : World} {g : Nat} (h : Rd w g (putB K [K, S, P, A, T, N] ++ t) 0) : Calls Try.prog 18 #[.pointer (some ⟨g, 0, none⟩)] w fun x w' =>
    x = .returned (.tuple #[rv K S P A T N, .int .i64 0]) ∧ Rd w' g t 0 ∧ w.grownBy w' (some g) := by
  have q := take_any h
  rw [tkE_put hm t, tkR_put hm t, (tk_put hm t).1] at q
  exact q
theorem takePut_last {K S P A T N : Int} (hm : mayB K S P A T N = true) {w : World} {g : Nat} (h : Rd w g (putB K [K, S, P, A, T, N]) 0) : Calls Try.prog 18 #[.pointer (some ⟨g, 0, none⟩)] w fun x w' =>
    x = .returned (.tuple #[rv K S P A T N, .int .i64 0]) ∧ Rd w' g ⟨#[]⟩ 0 ∧ w.grownBy w' (some g) := by
  refine takePut_any hm ⟨#[]⟩ ?_
  rw [append_nilB]
  exact h
theorem putMay_any {K S P A T N : Int} (hm : mayB K S P A T N = true) (w : World) : Calls Try.prog 29 #[rv K S P A T N] w fun e w' => e = .returned (.string (putB K [K, S, P, A, T, N])) ∧ Below w.heap.size w w' := by
  have q := put_any K S P A T N w
  rw [if_pos hm] at q
  exact q
theorem may_awake : mayB 1 3 300 9 0 0 = true := mayB_iff.2 (Or.inl (by decide))
theorem may_zero : mayB 0 0 0 0 0 0 = false := by
  rw [← Bool.not_eq_true]
  intro h
  have := mayB_iff.1 h
  simp [mayR] at this
end Go.Proofs.Ytdapoonojhfkkaa
