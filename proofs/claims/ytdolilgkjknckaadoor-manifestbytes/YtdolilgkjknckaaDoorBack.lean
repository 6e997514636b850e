/-
  What was written is read again; the law's own 'awake' and 'few'. No condition.
-/
import Derived.Test.YtdolilgkjknckaaDoorRef
namespace Go.Proofs.YtdolilgkjknckaaDoor
open Go Go.RowKit

theorem extract_left (a t : ByteArray) : (a ++ t).extract 0 a.size = a := by
  apply ByteArray.ext
  rw [ByteArray.data_extract, ByteArray.data_append]
  exact (Array.extract_append_left ..).trans (by simp)
theorem extract_right (a t : ByteArray) : (a ++ t).extract a.size (a ++ t).size = t := by
  apply ByteArray.ext
  rw [ByteArray.data_extract, ByteArray.data_append, ByteArray.size_append]
  have e1 : a.size = a.data.size := rfl
  have e2 : t.size = t.data.size := rfl
  have e3 : a.data.extract a.size (a.size + t.size) = #[] := Array.extract_empty_of_size_le_start (by rw [e1]; exact Nat.le_refl _)
  have e4 : t.data.extract 0 t.size = t.data := by rw [e2]; exact Array.extract_size
  rw [Array.extract_append, e3, Array.empty_append, show a.size - a.data.size = 0 by omega, show a.size + t.size - a.data.size = t.size by omega, e4]
theorem rB_app (a t : ByteArray) (n : Int) (h : n = (a.size : Int)) : rB (a ++ t) 0 n = (t, 0, a) := by
  subst h
  unfold rB
  have hs : (a ++ t).size = a.size + t.size := ByteArray.size_append
  rw [if_neg (by decide), if_neg (by rw [hs]; omega), Int.toNat_natCast, extract_right, extract_left]
/-- a number's bytes -/
def numB (n : Nat) : ByteArray := ⟨(numL n).toArray⟩
theorem append_nilB (a : ByteArray) : a ++ (⟨#[]⟩ : ByteArray) = a := by
  apply ByteArray.ext
  simp
theorem rF_byte_app (b : UInt8) (t : ByteArray) : rF (⟨#[b]⟩ ++ t) 0 1 = (t, 0, b.toNat) := by
  unfold rF
  rw [rB_app ⟨#[b]⟩ t (wid 1) rfl]
  simp [leL]
theorem rF_digs_app (n : Nat) (t : ByteArray) (h : n < 18446744073709551616) : rF (⟨(digs n).toArray⟩ ++ t) 0 (nb n) = (t, 0, n) := by
  unfold rF
  have h8 := nb_le8 n h
  have hw : wid (nb n : Int) = (nb n : Int) := by unfold wid; rw [if_neg (by omega), if_neg (by omega)]
  rw [hw, rB_app ⟨(digs n).toArray⟩ t (nb n) (by
    show (nb n : Int) = (((digs n).toArray.size : Nat) : Int)
    rw [List.size_toArray, digs_length])]
  simp only [leL_digs]
theorem numB_split (n : Nat) (t : ByteArray) : numB n ++ t = ⟨#[UInt8.ofNat (nb n)]⟩ ++ (⟨(digs n).toArray⟩ ++ t) := by
  unfold numB numL
  apply ByteArray.ext
  rw [ByteArray.data_append, ByteArray.data_append, ByteArray.data_append, ← Array.append_assoc]
  simp
theorem rN_app (n : Nat) (t : ByteArray) (most : Int) (h : n < 18446744073709551616) :
    rN (numB n ++ t) 0 most = if most < n then (⟨#[]⟩, 5, 0) else (t, 0, n) := by
  have h8 := nb_le8 n h
  have hb : (UInt8.ofNat (nb n)).toNat = nb n := by rw [UInt8.toNat_ofNat']; omega
  unfold rN
  rw [numB_split, rF_byte_app]
  simp only [hb]
  rw [rF_digs_app n t h, if_neg (by omega), if_neg (by simp)]
  have hn : ¬ (0 < nb n ∧ n < 256 ^ (nb n - 1)) := by
    intro hh
    by_cases h0 : n = 0
    · subst h0
      rw [nb_zero] at hh
      omega
    · have := nb_ge n h0
      omega
  rw [if_neg hn]
theorem rN_num (n : Nat) (most : Int) (h : n < 18446744073709551616) : rN (numB n) 0 most = if most < n then (⟨#[]⟩, 5, 0) else (⟨#[]⟩, 0, n) := by
  have := rN_app n ⟨#[]⟩ most h
  rwa [append_nilB] at this
theorem rT_app (x t : ByteArray) (most : Int) (h : x.size ≤ 1000) :
    rT (textB x ++ t) 0 most = if upTo most < x.size then (⟨#[]⟩, 5, ⟨#[]⟩) else (t, 0, x) := by
  have e : textB x ++ t = numB x.size ++ (x ++ t) := by
    unfold textB
    apply ByteArray.ext
    simp [numB]
  unfold rT
  rw [e, rN_app _ _ _ (by omega)]
  split
  · unfold rB
    rw [if_pos (by decide)]
  · exact rB_app x t _ rfl

def cut (s : ByteArray) : ByteArray := if 300 < s.size then s.extract 0 300 else s
theorem cut_size (s : ByteArray) : (cut s).size ≤ 300 := by
  unfold cut
  split
  · rw [ByteArray.size_extract]
    omega
  · omega
theorem encNumB_any (n : Nat) (hn : n < 18446744073709551616) (w : World) :
    Calls Tryd.prog 46 #[.int .u64 n] w fun e w' => e = .returned (.string (numB n)) ∧ Below w.heap.size w w' := encNum_any n hn w
theorem refNumB_any (n : Nat) (hn : n < 18446744073709551616) (w : World) :
    Calls Tryd.prog 51 #[.int .u64 n] w fun e w' => e = .returned (.string (numB n)) ∧ Below w.heap.size w w' := refNum_any n hn w
theorem num300 : numB 300 = ⟨#[2, 44, 1]⟩ := by decide +kernel
theorem textab : textB ⟨#[97, 98]⟩ = ⟨#[1, 2, 97, 98]⟩ := by decide +kernel
theorem rN300 : rN ⟨#[2, 44, 1]⟩ 0 1000 = (⟨#[]⟩, 0, 300) := by
  rw [← num300, rN_num 300 1000 (by omega)]
  rfl
theorem enc300 (w : World) : Calls Tryd.prog 46 #[.int .u64 300] w fun e w' => e = .returned (.string ⟨#[2, 44, 1]⟩) ∧ Below w.heap.size w w' := by
  have := encNumB_any 300 (by omega) w
  rw [num300] at this
  exact this
end Go.Proofs.YtdolilgkjknckaaDoor
