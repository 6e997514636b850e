/-
  Four bytes that follow one another and were changed are always found: a whole page, its check behind it, has one remainder. No condition.
-/
import Derived.Test.YtaagnlgaadgpdaaDoorVal
namespace Go.Proofs.YtaagnlgaadgpdaaDoor
open Go Go.RowKit
open Crc

/-- the bytes of a word, the lowest first -/
def byteOf (m i : Nat) : UInt8 := UInt8.ofNat (m / 256 ^ i)
theorem word_bits (m : Nat) : word (byteOf m 0) (byteOf m 1) (byteOf m 2) (byteOf m 3) = BitVec.ofNat 32 m := by
  have hb : ∀ (i j : Nat), (BitVec.ofNat 32 (byteOf m i).toNat).getLsbD j = (decide (j < 8) && m.testBit (8 * i + j)) := by
    intro i j
    unfold byteOf
    rw [UInt8.toNat_ofNat', BitVec.getLsbD_ofNat, Nat.testBit_mod_two_pow]
    have e : m / 256 ^ i = m / 2 ^ (8 * i) := by rw [Nat.pow_mul]
    rw [e, Nat.testBit_div_two_pow]
    by_cases h : j < 8
    · have h2 : j < 32 := by omega
      simp [h, h2, Nat.add_comm]
    · simp [h]
  apply BitVec.eq_of_getLsbD_eq
  intro i hi
  unfold word
  simp only [BitVec.getLsbD_xor, BitVec.getLsbD_shiftLeft, hb]
  rw [BitVec.getLsbD_ofNat]
  simp only [hi, decide_true, Bool.true_and]
  by_cases h1 : i < 8
  · simp only [h1, decide_true, Bool.true_and, Bool.not_true, Bool.false_and, Bool.xor_false, Nat.mul_zero, Nat.zero_add]
  · have i1 : i - 8 < 32 := by omega
    have i2 : i - 8 - 8 < 32 := by omega
    simp only [h1, i1, i2, decide_true, decide_false, Bool.true_and, Bool.not_false, Bool.false_and, Bool.false_xor]
    by_cases h2 : i - 8 < 8
    · have e : 8 * 1 + (i - 8) = i := by omega
      simp only [h2, e, decide_true, Bool.true_and, Bool.not_true, Bool.false_and, Bool.xor_false]
    · simp only [h2, decide_false, Bool.true_and, Bool.not_false, Bool.false_and, Bool.false_xor]
      by_cases h3 : i - 8 - 8 < 8
      · have e : 8 * 2 + (i - 8 - 8) = i := by omega
        simp only [h3, e, decide_true, Bool.true_and, Bool.not_true, Bool.false_and, Bool.xor_false]
      · have h4 : i - 8 - 8 - 8 < 8 := by omega
        have e : 8 * 3 + (i - 8 - 8 - 8) = i := by omega
        simp only [h3, h4, e, decide_true, decide_false, Bool.true_and, Bool.not_false, Bool.false_and, Bool.false_xor]

theorem shl8_xor (x y : W) : (x ^^^ y) <<< 8 = x <<< 8 ^^^ y <<< 8 := by
  apply BitVec.eq_of_getLsbD_eq
  intro i hi
  rw [BitVec.getLsbD_xor, BitVec.getLsbD_shiftLeft, BitVec.getLsbD_shiftLeft, BitVec.getLsbD_shiftLeft, BitVec.getLsbD_xor]
  by_cases h : i < 8 <;> simp [h, hi]
theorem word_xor (a0 a1 a2 a3 b0 b1 b2 b3 : UInt8) : word (a0 ^^^ b0) (a1 ^^^ b1) (a2 ^^^ b2) (a3 ^^^ b3) = word a0 a1 a2 a3 ^^^ word b0 b1 b2 b3 := by
  unfold word
  rw [byte_xor, byte_xor, byte_xor, byte_xor]
  generalize BitVec.ofNat 32 a0.toNat = x0
  generalize BitVec.ofNat 32 a1.toNat = x1
  generalize BitVec.ofNat 32 a2.toNat = x2
  generalize BitVec.ofNat 32 a3.toNat = x3
  generalize BitVec.ofNat 32 b0.toNat = y0
  generalize BitVec.ofNat 32 b1.toNat = y1
  generalize BitVec.ofNat 32 b2.toNat = y2
  generalize BitVec.ofNat 32 b3.toNat = y3
  have e3 : (x2 ^^^ y2 ^^^ (x3 ^^^ y3) <<< 8) = (x2 ^^^ x3 <<< 8) ^^^ (y2 ^^^ y3 <<< 8) := by rw [shl8_xor]; ac_rfl
  rw [e3]
  generalize (x2 ^^^ x3 <<< 8) = x4
  generalize (y2 ^^^ y3 <<< 8) = y4
  have e2 : (x1 ^^^ y1 ^^^ (x4 ^^^ y4) <<< 8) = (x1 ^^^ x4 <<< 8) ^^^ (y1 ^^^ y4 <<< 8) := by rw [shl8_xor]; ac_rfl
  rw [e2]
  generalize (x1 ^^^ x4 <<< 8) = x5
  generalize (y1 ^^^ y4 <<< 8) = y5
  rw [shl8_xor]
  ac_rfl

theorem list_four (l : List UInt8) (k : Nat) (hk : k + 4 ≤ l.length) :
    ∃ pre b0 b1 b2 b3 post, l = pre ++ b0 :: b1 :: b2 :: b3 :: post ∧ pre.length = k := by
  refine ⟨l.take k, l[k], l[k + 1], l[k + 2], l[k + 3], l.drop (k + 4), ?_, by simp; omega⟩
  have e : l = l.take k ++ l.drop k := (List.take_append_drop k l).symm
  have h0 : l.drop k = l[k] :: l.drop (k + 1) := List.drop_eq_getElem_cons (by omega)
  have h1 : l.drop (k + 1) = l[k + 1] :: l.drop (k + 2) := List.drop_eq_getElem_cons (by omega)
  have h2 : l.drop (k + 2) = l[k + 2] :: l.drop (k + 3) := List.drop_eq_getElem_cons (by omega)
  have h3 : l.drop (k + 3) = l[k + 3] :: l.drop (k + 4) := List.drop_eq_getElem_cons (by omega)
  rw [← h3, ← h2, ← h1, ← h0]
  exact e

theorem xor8 (a b : UInt8) : bits .xor .u8 (a.toNat : Int) (b.toNat : Int) = ((a ^^^ b).toNat : Int) := by
  rw [u8_xor_nat _ _ a.toNat_lt b.toNat_lt, UInt8.toNat_xor]
theorem tmod_between (x d : Int) (hd : 0 < d) : -d < x.tmod d ∧ x.tmod d < d := ⟨Int.lt_tmod_of_pos x hd, Int.tmod_lt_of_pos x hd⟩


theorem fixL_four (c : Nat) : fixL c 4 = [byteOf c 0, byteOf c 1, byteOf c 2, byteOf c 3] := by
  have e : ∀ x : Nat, UInt8.ofNat (x % 256) = UInt8.ofNat x := by
    intro x
    apply UInt8.toNat_inj.1
    rw [UInt8.toNat_ofNat', UInt8.toNat_ofNat']
    omega
  have p0 : c / 256 ^ 0 = c := by rw [Nat.pow_zero, Nat.div_one]
  simp only [fixL, byteOf, e, Nat.div_div_eq_div_mul]
  rw [p0]
theorem xor_not_all (r : W) : r ^^^ ~~~ r = BitVec.allOnes 32 := by
  apply BitVec.eq_of_getLsbD_eq
  intro i hi
  rw [BitVec.getLsbD_xor, BitVec.getLsbD_not, BitVec.getLsbD_allOnes]
  simp [hi]
theorem run_checked (l : List UInt8) : run (~~~ 0#32) (l ++ fixL (crcN l) 4) = bits32 (BitVec.allOnes 32) := by
  rw [run_append, fixL_four, run_four, word_bits]
  unfold crcN more
  rw [BitVec.ofNat_toNat, BitVec.setWidth_eq, xor_not_all]
theorem Val.run {d s t : ByteArray} {K S I O W : Nat} (h : Val d s t K S I O W) : Crc.run (~~~ 0#32) (d.data.toList ++ s.data.toList) = bits32 (BitVec.allOnes 32) := by
  have h1 := h.spare
  unfold spareB at h1
  rw [h.data] at h1
  rw [← h1, toList_append]
  show Crc.run _ (d.data.toList ++ ((besideB K S I O W t.size).data.toList ++ (fixL _ 4))) = _
  rw [← List.append_assoc]
  exact run_checked _
/-- so many bytes from a place on, each with another one over it -/
def pat (l : List UInt8) (k : Nat) (m : UInt8) : Nat → List UInt8
  | 0 => l
  | j + 1 => (pat l k m j).set (k + j) ((pat l k m j).getD (k + j) 0 ^^^ m)
theorem pat_length (l : List UInt8) (k : Nat) (m : UInt8) (j : Nat) : (pat l k m j).length = l.length := by
  induction j with
  | zero => rfl
  | succ j ih => rw [pat, List.length_set, ih]
theorem pat_out (l : List UInt8) (k : Nat) (m : UInt8) (j i : Nat) (h : i < k ∨ k + j ≤ i) : (pat l k m j).getD i 0 = l.getD i 0 := by
  induction j with
  | zero => rfl
  | succ j ih =>
    rw [pat, List.getD_eq_getElem?_getD, List.getElem?_set_ne (by omega), ← List.getD_eq_getElem?_getD]
    exact ih (by omega)
theorem pat_four (pre post : List UInt8) (b0 b1 b2 b3 m : UInt8) (n : Nat) (h1 : 1 ≤ n) (h4 : n ≤ 4) :
    ∃ m1 m2 m3, pat (pre ++ b0 :: b1 :: b2 :: b3 :: post) pre.length m n = pre ++ (b0 ^^^ m) :: (b1 ^^^ m1) :: (b2 ^^^ m2) :: (b3 ^^^ m3) :: post := by
  have hn : n = 1 ∨ n = 2 ∨ n = 3 ∨ n = 4 := by omega
  rcases hn with rfl | rfl | rfl | rfl
  · exact ⟨0, 0, 0, by simp [pat, List.getD_eq_getElem?_getD]⟩
  · exact ⟨m, 0, 0, by simp [pat, List.getD_eq_getElem?_getD]⟩
  · exact ⟨m, m, 0, by simp [pat, List.getD_eq_getElem?_getD]⟩
  · exact ⟨m, m, m, by simp [pat, List.getD_eq_getElem?_getD]⟩
theorem word_zero (m0 m1 m2 m3 : UInt8) (h : word m0 m1 m2 m3 = 0#32) : m0 = 0 := by
  have b0 := m0.toNat_lt
  have b1 := m1.toNat_lt
  have b2 := m2.toNat_lt
  have b3 := m3.toNat_lt
  have hw := word_bits (m0.toNat + 256 * (m1.toNat + 256 * (m2.toNat + 256 * m3.toNat)))
  have e0 : byteOf (m0.toNat + 256 * (m1.toNat + 256 * (m2.toNat + 256 * m3.toNat))) 0 = m0 := by
    apply UInt8.toNat_inj.1
    unfold byteOf
    rw [UInt8.toNat_ofNat']
    omega
  have e1 : byteOf (m0.toNat + 256 * (m1.toNat + 256 * (m2.toNat + 256 * m3.toNat))) 1 = m1 := by
    apply UInt8.toNat_inj.1
    unfold byteOf
    rw [UInt8.toNat_ofNat']
    omega
  have e2 : byteOf (m0.toNat + 256 * (m1.toNat + 256 * (m2.toNat + 256 * m3.toNat))) 2 = m2 := by
    apply UInt8.toNat_inj.1
    unfold byteOf
    rw [UInt8.toNat_ofNat']
    omega
  have e3 : byteOf (m0.toNat + 256 * (m1.toNat + 256 * (m2.toNat + 256 * m3.toNat))) 3 = m3 := by
    apply UInt8.toNat_inj.1
    unfold byteOf
    rw [UInt8.toNat_ofNat']
    omega
  rw [e0, e1, e2, e3, h] at hw
  have h5 := congrArg BitVec.toNat hw
  rw [BitVec.toNat_ofNat, BitVec.toNat_ofNat] at h5
  apply UInt8.toNat_inj.1
  show m0.toNat = 0
  omega
theorem burst (l : List UInt8) (k n : Nat) (m : UInt8) (hk : k + 4 ≤ l.length) (h1 : 1 ≤ n) (h4 : n ≤ 4) (hm : m ≠ 0) (r : W) : run r (pat l k m n) ≠ run r l := by
  obtain ⟨pre, b0, b1, b2, b3, post, rfl, rfl⟩ := list_four l k hk
  obtain ⟨m1, m2, m3, hp⟩ := pat_four pre post b0 b1 b2 b3 m n h1 h4
  rw [hp]
  intro h
  have sp : ∀ (r : W) (p : List UInt8) (c0 c1 c2 c3 : UInt8) (q : List UInt8), run r (p ++ c0 :: c1 :: c2 :: c3 :: q) = run (run (run r p) [c0, c1, c2, c3]) q := by
    intro r p c0 c1 c2 c3 q
    rw [run_append]
    rfl
  rw [sp, sp] at h
  have h3 := four_inj (run_inj post h)
  rw [word_xor] at h3
  have h5 : word m m1 m2 m3 = 0#32 := by
    have e : word b0 b1 b2 b3 ^^^ word m m1 m2 m3 = word b0 b1 b2 b3 ^^^ 0#32 := by rw [h3, BitVec.xor_zero]
    exact (BitVec.xor_right_inj _).1 e
  exact hm (word_zero _ _ _ _ h5)
/-- bytes of a list -/
def ofL (l : List UInt8) : ByteArray := ⟨l.toArray⟩
theorem ofL_size (l : List UInt8) : (ofL l).size = l.length := by
  show l.toArray.size = l.length
  rw [List.size_toArray]
theorem allF_ofL (l : List UInt8) (j : Nat) (hj : j < l.length) (h : l.getD j 0 ≠ 255) : l.all (fun b => b == 255) = false := by
  rw [List.all_eq_false]
  refine ⟨l.getD j 0, ?_, by simpa using h⟩
  rw [List.getD_eq_getElem?_getD, List.getElem?_eq_getElem hj]
  exact List.getElem_mem _
/-- a page that was framed has noughts beside it -/
theorem nought (K S I O W : Nat) (t : ByteArray) (j : Nat) (h : t.size ≤ 300) (h1 : 319 ≤ j) (h2 : j < 328) : ((padB t 300).data.toList ++ (spareB K S I O W t 300).data.toList).getD j 0 = 0 := by
  have hz : (padB t 300).data.toList.length = 300 := by
    rw [Array.length_toList]
    exact padB_size t 300 h
  have hf : (fieldsB K S I O W t.size).data.toList.length = 19 := by
    rw [Array.length_toList]
    exact fieldsB_size ..
  unfold spareB besideB padB at *
  rw [fieldsB_size, toList_append (_ ++ _), toList_append (fieldsB K S I O W t.size)]
  rw [List.getD_eq_getElem?_getD, List.getElem?_append_right (by rw [hz]; omega), List.append_assoc, List.getElem?_append_right (by rw [hz, hf]; omega), hz, hf, List.getElem?_append_left (by
    show _ < (List.replicate 9 (0 : UInt8)).toArray.toList.length
    simp
    omega)]
  have hr : ∀ i : Nat, (List.replicate 9 (0 : UInt8))[i]?.getD 0 = 0 := by
    intro i
    rw [List.getElem?_replicate]
    split <;> rfl
  exact hr _
theorem torn_page (K S I O W : Nat) (hm : mayB K I O W) (hS : S < 18446744073709551616) (t : ByteArray) (ht : t.size ≤ 300) (k n : Nat) (m : UInt8) (hk : k ≤ 328) (h1 : 1 ≤ n) (h4 : n ≤ 4) (h0 : m ≠ 0) (L : List UInt8)
    (hL : L = pat ((padB t 300).data.toList ++ (spareB K S I O W t 300).data.toList) k m n) :
    L.length = 332 ∧ (¬ (allF (ofL (L.take 300)) = true ∧ allF (ofL (L.drop 300)) = true)) ∧ ¬ ∃ t' K' S' I' O' W', Val (ofL (L.take 300)) (ofL (L.drop 300)) t' K' S' I' O' W' := by
  have hv := Val.framed K S I O W hm hS t 300 ht (by omega)
  have hlen : ((padB t 300).data.toList ++ (spareB K S I O W t 300).data.toList).length = 332 := by
    rw [List.length_append, Array.length_toList, Array.length_toList]
    have e1 : (padB t 300).data.size = 300 := padB_size t 300 ht
    have e2 : (spareB K S I O W t 300).data.size = 32 := spareB_size ..
    rw [e1, e2]
  have hLl : L.length = 332 := by rw [hL, pat_length, hlen]
  have hJ : (ofL (L.take 300)).data.toList ++ (ofL (L.drop 300)).data.toList = L := by
    show (L.take 300).toArray.toList ++ (L.drop 300).toArray.toList = L
    simp
  refine ⟨hLl, ?_, ?_⟩
  · intro hE
    have ha : L.all (fun b => b == 255) = true := by
      rw [← hJ, List.all_append]
      have e1 := hE.1
      have e2 := hE.2
      unfold allF at e1 e2
      rw [e1, e2]
      rfl
    have hj : ∃ j, 319 ≤ j ∧ j < 328 ∧ (j < k ∨ k + n ≤ j) := by
      by_cases hh : k ≤ 319
      · by_cases h2 : k + n ≤ 327
        · exact ⟨327, by omega, by omega, .inr h2⟩
        · exact ⟨319, by omega, by omega, by omega⟩
      · exact ⟨319, by omega, by omega, .inl (by omega)⟩
    obtain ⟨j, j1, j2, j3⟩ := hj
    have hb : L.getD j 0 = 0 := by
      rw [hL, pat_out _ _ _ _ _ j3]
      exact nought K S I O W t j ht j1 j2
    have hf := allF_ofL L j (by omega) (by rw [hb]; decide)
    rw [ha] at hf
    cases hf
  · rintro ⟨t', K', S', I', O', W', hv'⟩
    have r1 := hv.run
    have r2 := hv'.run
    rw [hJ, hL] at r2
    exact burst _ k n m (by omega) h1 h4 h0 _ (r2.trans r1.symm)
end Go.Proofs.YtaagnlgaadgpdaaDoor
