/-
  Numbers and texts as bytes: the walks of Fixed, Num, Text and of the answer's. No condition.
-/
import Derived.Test.YtdolilgkjknckaaDoorLen
import Derived.Test.YtdolilgkjknckaaDoorOwn
import Derived.Deep.RegionHeld3
import Derived.Deep.RegionWith
namespace Go.Proofs.YtdolilgkjknckaaDoor
open Go Go.RowKit

/-- a number's bytes, and the rest of eight -/
def fixP (n k : Nat) : List UInt8 := fixL n k ++ List.replicate (8 - k) 0
theorem fixP_length (n k : Nat) (h : k ≤ 8) : (fixP n k).length = 8 := by
  unfold fixP
  rw [List.length_append, fixL_length, List.length_replicate]
  omega
theorem fixP_step (n k : Nat) (h : k < 8) : (fixP n k).set k (UInt8.ofNat (n / 256 ^ k % 256)) = fixP n (k + 1) := by
  unfold fixP
  rw [List.set_append_right _ _ (by rw [fixL_length]; exact Nat.le_refl _), fixL_length, Nat.sub_self, fixL_snoc, show 8 - k = (8 - (k + 1)) + 1 by omega, List.replicate_succ, List.set_cons_zero]
  simp
theorem HasBytes.take {w : World} {g : Nat} {l : List UInt8} (h : HasBytes w g l) (m : Nat) : HasBytes w g (l.take m) := by
  intro j hj
  rw [List.length_take] at hj
  have := h j (by omega)
  rw [List.getD_eq_getElem?_getD, List.getElem?_take, if_pos (by omega), ← List.getD_eq_getElem?_getD]
  exact this
/-- bytes as numbers -/
def toI (l : List UInt8) : List Int := l.map fun b => (b.toNat : Int)
theorem toI_length (l : List UInt8) : (toI l).length = l.length := by simp [toI]
theorem toI_getD (l : List UInt8) (j : Nat) : (toI l).getD j 0 = ((l.getD j 0).toNat : Int) := by
  simp only [toI, List.getD_eq_getElem?_getD, List.getElem?_map]
  cases l[j]? <;> rfl
theorem Row.bytes {w : World} {g t} {l : List UInt8} (h : Row w g t .u8 (toI l)) : HasBytes w g l := by
  intro j hj
  exact ⟨by rw [h.cell j (by rw [toI_length]; exact hj), toI_getD], h.frozen j⟩
theorem byte_at (n k : Nat) : ((n : Int) / 2 ^ (8 * k)) % 256 = ((UInt8.ofNat (n / 256 ^ k % 256)).toNat : Int) := by
  rw [byte_mod, pow256]
  have e : ((n : Int) / 2 ^ (8 * k)) = ((n / 2 ^ (8 * k) : Nat) : Int) := by
    rw [Int.natCast_ediv, Int.natCast_pow]
    rfl
  rw [e]
  rfl
set_option maxRecDepth 100000 in
theorem encFixed_any (n : Nat) (b : Int) (w : World) :
    Calls Tryd.prog 66 #[.int .u64 n, .int .i64 b] w fun e w' => e = .returned (.string ⟨(fixL n (wid b).toNat).toArray⟩) ∧ Below w.heap.size w w' := by
  obtain ⟨h0, h8⟩ := wid_le b
  obtain ⟨m, hm⟩ := Int.eq_ofNat_of_zero_le h0
  have hm8 : m ≤ 8 := by omega
  rw [hm, Int.toNat_natCast]
  generalize hR : fixL n m = R
  have HR := Hid.mk hR
  clear hR h0 h8
  go_enter Tryd.func66, Tryd.ntmps66
  go_wp2_with fail
  go_loopw [7] (fun i wr => ∃ k : Nat, k ≤ 8 ∧ i = .int .i64 k ∧ HasBytes wr w.heap.size (fixP n k) ∧ Below w.heap.size w wr) (fun i _ => 8 - (intOf i).toNat)
  case atStart => exact ⟨0, Nat.zero_le _, rfl, Row.bytes (t := 107) (Row.fresh w 107 .u8 (toI (List.replicate 8 0))), (Below.refl w.heap.size w).alloc (Nat.le_refl _) _⟩
  case round =>
    obtain ⟨k, hk, rfl, hB, hb⟩ := hrel
    by_cases hk8 : k < 8
    · obtain ⟨c1, f1⟩ := hB k (by rw [fixP_length _ _ hk]; exact hk8)
      have HQ := Hid.mk (And.intro hB hb)
      clear hB hb
      generalize hv : (fixP n k).getD k 0 = v at c1
      have HV := Hid.mk hv
      clear hv
      go_wp2_with fail
      refine ⟨⟨k + 1, by omega, by go_num, ?_, HQ.out.2.setCell (Nat.le_refl _) _⟩, by simp [intOf]; omega⟩
      rw [byte_at, ← fixP_step n k hk8]
      exact HQ.out.1.stored k (by rw [fixP_length _ _ hk]; exact hk8) _
    · have hk2 : k = 8 := by omega
      rw [hk2] at hB
      have hbk := (hB.take m).back (P := Tryd.prog) 50 9 5 m 8 (by rw [List.length_take, fixP_length _ _ (Nat.le_refl _)]; omega) Tryd.underlying50 Tryd.underlying5 Tryd.underlying9
      have hsl := sliceTo (P := Tryd.prog) Tryd.underlying107 (by kernel_rfl) w.heap.size m hm8
      have et : (fixP n 8).take m = fixL n m := by
        unfold fixP
        rw [Nat.sub_self, List.replicate_zero, List.append_nil, fixL_take _ _ _ hm8]
      rw [et, HR.out] at hbk
      have HB := Hid.mk hb
      clear hB hb et hk2
      go_wp2_with (go_at_call 78; refine (width_any _ _).mono ?_; rintro x w' ⟨rfl, rfl⟩; rw [hm])
      go_ret
      exact ⟨rfl, HB.out⟩
/-- a text of one byte -/
theorem run_one (k : Nat) (hk : k < 256) (W : World) (g : Nat) (h : W.cell? ⟨g, 0, none⟩ = some (.int .u8 (k : Int))) :
    (convert 50 9 (.slice (some ⟨g, 0, none⟩) 1 1)).run Tryd.prog W = .ok (.string ⟨#[UInt8.ofNat k]⟩) W := by
  refine run_convert_bytes_back (P := Tryd.prog) W 50 9 5 ⟨g, 0, none⟩ 1 [UInt8.ofNat k] Tryd.underlying50 Tryd.underlying5 Tryd.underlying9 ?_
  intro j hj
  obtain rfl : j = 0 := by simp at hj; omega
  have e : (((UInt8.ofNat k).toNat : Nat) : Int) = k := by rw [UInt8.toNat_ofNat']; omega
  simp only [List.getElem_cons_zero, e]
  exact h
theorem kept_one (w0 w1 : World) (v : Value) (b : Below (w0.alloc (.cells #[v] 5)).drew.heap.size (w0.alloc (.cells #[v] 5)).drew w1) : w1.cell? ⟨w0.heap.size, 0, none⟩ = some v := by
  rw [b.cell (p := ⟨w0.heap.size, 0, none⟩) (by show w0.heap.size < (w0.alloc (.cells #[v] 5)).heap.size; rw [size_alloc]; omega)]
  exact cell_of_row _ _ 0 _ 5 _ (heap_alloc_new w0 _)
theorem encNum_any (n : Nat) (hn : n < 18446744073709551616) (w : World) :
    Calls Tryd.prog 46 #[.int .u64 n] w fun e w' => e = .returned (.string ⟨(numL n).toArray⟩) ∧ Below w.heap.size w w' := by
  have h8 := nb_le8 n hn
  have hbl : ((bitLen n : Int) + 7).tdiv 8 = (nb n : Int) := by
    unfold nb
    rw [Int.tdiv_eq_ediv_of_nonneg (by omega)]
    omega
  have hbb : bitLen n ≤ 64 := by
    unfold nb at h8
    omega
  have hw : wid (nb n : Int) = (nb n : Int) := by unfold wid; rw [if_neg (by omega), if_neg (by omega)]
  have hR : (⟨#[UInt8.ofNat (nb n)]⟩ : ByteArray) ++ ⟨(fixL n (nb n)).toArray⟩ = ⟨(numL n).toArray⟩ := by
    unfold numL digs
    apply ByteArray.ext
    simp
  have hz : (⟨(fixL n (nb n)).toArray⟩ : ByteArray).size ≤ 8 := by
    show (fixL n (nb n)).toArray.size ≤ 8
    rw [List.size_toArray, fixL_length]
    exact h8
  have hz1 : (⟨#[UInt8.ofNat (nb n)]⟩ : ByteArray).size = 1 := rfl
  generalize hk : nb n = k at *
  have hone := run_one k (by omega)
  generalize hF : (⟨(fixL n k).toArray⟩ : ByteArray) = F at *
  generalize (⟨#[UInt8.ofNat k]⟩ : ByteArray) = O at *
  generalize (⟨(numL n).toArray⟩ : ByteArray) = R at *
  have hwr : IntKind.u8.wrap (k : Int) = k := by simp [IntKind.wrap, IntKind.bits, IntKind.signed]; omega
  have HR := Hid.mk (And.intro hR hk)
  clear hR hk
  go_enter Tryd.func46, Tryd.ntmps46
  go_wp2_with (go_at_call 65; refine (len64_any n hn _).mono ?_; rintro e w' ⟨rfl, rfl⟩)
  clear hbl hbb hn
  go_region_with (go_at_call 66; refine (encFixed_any n _ _).mono ?_; rintro e w1 ⟨rfl, b1⟩; rw [hw, Int.toNat_natCast, hF]; try (have cc := kept_one _ _ _ b1))
  all_goals
    go_wp2_with fail
    go_ret
    refine ⟨by rw [← HR.out.1]; rfl, ?_⟩
    first
    | exact below3 ((Below.refl _ w').alloc (Nat.le_refl _) _).drew b1
    | exact (below3 (Below.refl _ w').drew b1).alloc (below3 (Below.refl _ w').drew b1).size _
/-- a text's bytes -/
def textB (s : ByteArray) : ByteArray := ⟨(numL s.size).toArray⟩ ++ s
theorem numL_size (n : Nat) (h : n < 18446744073709551616) : (⟨(numL n).toArray⟩ : ByteArray).size ≤ 9 := by
  show (numL n).toArray.size ≤ 9
  rw [List.size_toArray, numL_length]
  have := nb_le8 n h
  omega
end Go.Proofs.YtdolilgkjknckaaDoor
