/-
  The walk of the law CrcBits: two texts that differ just within four bytes that follow one another have other checks. Condition: the table's sixteen cells hold what the text lays.
-/
import Derived.Test.YthjocdboanmkcaaDoorWalksA
import Derived.Test.YthjocdboanmkcaaDoorBytes
import Derived.OpenShut
namespace Go.Proofs.YthjocdboanmkcaaDoor
open Go.RowKit
open Crc

/-- the bytes of a word, the lowest first -/
def byteOf (m i : Nat) : UInt8 := UInt8.ofNat (m / 256 ^ i)
/-- the text behind j rounds -/
def patch (l : List UInt8) (k m : Nat) : Nat → List UInt8
  | 0 => l
  | j + 1 => (patch l k m j).set (k + j) ((patch l k m j).getD (k + j) 0 ^^^ byteOf m j)
theorem patch_length (l : List UInt8) (k m j : Nat) : (patch l k m j).length = l.length := by
  induction j with
  | zero => rfl
  | succ j ih => rw [patch, List.length_set, ih]

theorem word_bits (m : Nat) : word (byteOf m 0) (byteOf m 1) (byteOf m 2) (byteOf m 3) = BitVec.ofNat 32 m := by
  have hb : ∀ (i j : Nat), (BitVec.ofNat 32 (byteOf m i).toNat).getLsbD j = (decide (j < 8) && m.testBit (8 * i + j)) := by
    intro i j
    unfold byteOf
    rw [UInt8.toNat_ofNat', BitVec.getLsbD_ofNat, Nat.testBit_mod_two_pow]
    have e : m / 256 ^ i = m / 2 ^ (8 * i) := by rw [Nat.pow_mul]
    rw [e, Nat.testBit_div_two_pow]
    by_cases h : j < 8
    · have h2 : j < 32 := by omega
      simp [h, h2, Nat.add_comm]
    · simp [h]
  apply BitVec.eq_of_getLsbD_eq
  intro i hi
  unfold word
  simp only [BitVec.getLsbD_xor, BitVec.getLsbD_shiftLeft, hb]
  rw [BitVec.getLsbD_ofNat]
  simp only [hi, decide_true, Bool.true_and]
  by_cases h1 : i < 8
  · simp only [h1, decide_true, Bool.true_and, Bool.not_true, Bool.false_and, Bool.xor_false, Nat.mul_zero, Nat.zero_add]
  · have i1 : i - 8 < 32 := by omega
    have i2 : i - 8 - 8 < 32 := by omega
    simp only [h1, i1, i2, decide_true, decide_false, Bool.true_and, Bool.not_false, Bool.false_and, Bool.false_xor]
    by_cases h2 : i - 8 < 8
    · have e : 8 * 1 + (i - 8) = i := by omega
      simp only [h2, e, decide_true, Bool.true_and, Bool.not_true, Bool.false_and, Bool.xor_false]
    · simp only [h2, decide_false, Bool.true_and, Bool.not_false, Bool.false_and, Bool.false_xor]
      by_cases h3 : i - 8 - 8 < 8
      · have e : 8 * 2 + (i - 8 - 8) = i := by omega
        simp only [h3, e, decide_true, Bool.true_and, Bool.not_true, Bool.false_and, Bool.xor_false]
      · have h4 : i - 8 - 8 - 8 < 8 := by omega
        have e : 8 * 3 + (i - 8 - 8 - 8) = i := by omega
        simp only [h3, h4, e, decide_true, decide_false, Bool.true_and, Bool.not_false, Bool.false_and, Bool.false_xor]

theorem shl8_xor (x y : W) : (x ^^^ y) <<< 8 = x <<< 8 ^^^ y <<< 8 := by
  apply BitVec.eq_of_getLsbD_eq
  intro i hi
  rw [BitVec.getLsbD_xor, BitVec.getLsbD_shiftLeft, BitVec.getLsbD_shiftLeft, BitVec.getLsbD_shiftLeft, BitVec.getLsbD_xor]
  by_cases h : i < 8 <;> simp [h, hi]
theorem word_xor (a0 a1 a2 a3 b0 b1 b2 b3 : UInt8) : word (a0 ^^^ b0) (a1 ^^^ b1) (a2 ^^^ b2) (a3 ^^^ b3) = word a0 a1 a2 a3 ^^^ word b0 b1 b2 b3 := by
  unfold word
  rw [byte_xor, byte_xor, byte_xor, byte_xor]
  generalize BitVec.ofNat 32 a0.toNat = x0
  generalize BitVec.ofNat 32 a1.toNat = x1
  generalize BitVec.ofNat 32 a2.toNat = x2
  generalize BitVec.ofNat 32 a3.toNat = x3
  generalize BitVec.ofNat 32 b0.toNat = y0
  generalize BitVec.ofNat 32 b1.toNat = y1
  generalize BitVec.ofNat 32 b2.toNat = y2
  generalize BitVec.ofNat 32 b3.toNat = y3
  have e3 : (x2 ^^^ y2 ^^^ (x3 ^^^ y3) <<< 8) = (x2 ^^^ x3 <<< 8) ^^^ (y2 ^^^ y3 <<< 8) := by rw [shl8_xor]; ac_rfl
  rw [e3]
  generalize (x2 ^^^ x3 <<< 8) = x4
  generalize (y2 ^^^ y3 <<< 8) = y4
  have e2 : (x1 ^^^ y1 ^^^ (x4 ^^^ y4) <<< 8) = (x1 ^^^ x4 <<< 8) ^^^ (y1 ^^^ y4 <<< 8) := by rw [shl8_xor]; ac_rfl
  rw [e2]
  generalize (x1 ^^^ x4 <<< 8) = x5
  generalize (y1 ^^^ y4 <<< 8) = y5
  rw [shl8_xor]
  ac_rfl

theorem list_four (l : List UInt8) (k : Nat) (hk : k + 4 ≤ l.length) :
    ∃ pre b0 b1 b2 b3 post, l = pre ++ b0 :: b1 :: b2 :: b3 :: post ∧ pre.length = k := by
  refine ⟨l.take k, l[k], l[k + 1], l[k + 2], l[k + 3], l.drop (k + 4), ?_, by simp; omega⟩
  have e : l = l.take k ++ l.drop k := (List.take_append_drop k l).symm
  have h0 : l.drop k = l[k] :: l.drop (k + 1) := List.drop_eq_getElem_cons (by omega)
  have h1 : l.drop (k + 1) = l[k + 1] :: l.drop (k + 2) := List.drop_eq_getElem_cons (by omega)
  have h2 : l.drop (k + 2) = l[k + 2] :: l.drop (k + 3) := List.drop_eq_getElem_cons (by omega)
  have h3 : l.drop (k + 3) = l[k + 3] :: l.drop (k + 4) := List.drop_eq_getElem_cons (by omega)
  rw [← h3, ← h2, ← h1, ← h0]
  exact e

theorem patch_four (pre post : List UInt8) (b0 b1 b2 b3 : UInt8) (m : Nat) :
    patch (pre ++ b0 :: b1 :: b2 :: b3 :: post) pre.length m 4 = pre ++ (b0 ^^^ byteOf m 0) :: (b1 ^^^ byteOf m 1) :: (b2 ^^^ byteOf m 2) :: (b3 ^^^ byteOf m 3) :: post := by
  simp [patch, List.getD_eq_getElem?_getD]

theorem bits_differ (l : List UInt8) (k m : Nat) (hk : k + 4 ≤ l.length) (hm : m < 4294967296) (h0 : m ≠ 0) : moreI 0 (patch l k m 4) ≠ moreI 0 l := by
  obtain ⟨pre, b0, b1, b2, b3, post, rfl, rfl⟩ := list_four l k hk
  rw [patch_four]
  intro h
  unfold moreI at h
  have h1 : more (BitVec.ofInt 32 0) _ = more (BitVec.ofInt 32 0) _ := BitVec.eq_of_toNat_eq (Int.ofNat.inj h)
  unfold more at h1
  have h2 := BitVec.not_inj.1 h1
  have sp : ∀ (r : W) (p : List UInt8) (c0 c1 c2 c3 : UInt8) (q : List UInt8), run r (p ++ c0 :: c1 :: c2 :: c3 :: q) = run (run (run r p) [c0, c1, c2, c3]) q := by
    intro r p c0 c1 c2 c3 q
    rw [run_append]
    rfl
  rw [sp, sp] at h2
  have h3 := four_inj (run_inj post h2)
  rw [word_xor, word_bits m] at h3
  have h4 : BitVec.ofNat 32 m = 0#32 := by
    have e : word b0 b1 b2 b3 ^^^ BitVec.ofNat 32 m = word b0 b1 b2 b3 ^^^ 0#32 := by rw [h3, BitVec.xor_zero]
    exact (BitVec.xor_right_inj _).1 e
  have h5 := congrArg BitVec.toNat h4
  simp at h5
  omega

theorem xor8 (a b : UInt8) : bits .xor .u8 (a.toNat : Int) (b.toNat : Int) = ((a ^^^ b).toNat : Int) := by
  rw [u8_xor_nat _ _ a.toNat_lt b.toNat_lt, UInt8.toNat_xor]
theorem round_byte (a : UInt8) (m i : Nat) : bits .xor .u8 (a.toNat : Int) (((m / 256 ^ i : Nat) : Int) % 256) = ((a ^^^ byteOf m i).toNat : Int) := by
  have e : (((m / 256 ^ i : Nat) : Int) % 256) = ((byteOf m i).toNat : Int) := by
    unfold byteOf
    rw [UInt8.toNat_ofNat']
    omega
  rw [e, xor8]

theorem tmod_between (x d : Int) (hd : 0 < d) : -d < x.tmod d ∧ x.tmod d < d := ⟨Int.lt_tmod_of_pos x hd, Int.tmod_lt_of_pos x hd⟩

set_option maxHeartbeats 400000 in
theorem crcBits_any (s : ByteArray) (at0 m : Int) (w : World)
    (ht : ∀ i : Nat, i < 16 → w.cell? ⟨0, i, none⟩ = some (.int .u32 (tab.getD i 0)))
    (wf : (Lit.int .u32 m).wf = true) :
    Calls Tryd.prog 5 #[.string s, .int .i64 at0, .int .u32 m] w fun e w' => e = .returned (.bool true) ∧ Below w.heap.size w w' := by
  have ha := cut_size s
  have sa : (cut s).size ≤ maxLen := by unfold maxLen; omega
  obtain ⟨h0, h1⟩ := bounds_u32 wf
  obtain ⟨c, rfl⟩ := Int.eq_ofNat_of_zero_le h0
  by_cases h4 : (cut s).size < 4
  · go_enter Tryd.func5, Tryd.ntmps5
    go_wp2_with (first | (go_at_call 9; refine (few_any _ _).mono ?_; rintro e w' ⟨rfl, rfl⟩) | (go_at_call 7; refine (awake_any _ ht).mono ?_; rintro e w' ⟨rfl, rfl⟩))
    go_ret
    exact ⟨rfl, Below.refl _ _⟩
  · by_cases hc : c = 0
    · subst hc
      go_enter Tryd.func5, Tryd.ntmps5
      go_wp2_with (first | (go_at_call 9; refine (few_any _ _).mono ?_; rintro e w' ⟨rfl, rfl⟩) | (go_at_call 7; refine (awake_any _ ht).mono ?_; rintro e w' ⟨rfl, rfl⟩))
      go_ret
      exact ⟨rfl, Below.refl _ _⟩
    · have hc2 : ((c : Int) == 0) = false := by simp; omega
      have hconv := fun w => run_bytes_of_string (P := Tryd.prog) w 9 29 5 (cut s) Tryd.underlying9 Tryd.underlying29 Tryd.underlying5
      have hd : (0 : Int) < ((cut s).size : Int) - 3 := by omega
      obtain ⟨t1, t2⟩ := tmod_between at0 (((cut s).size : Int) - 3) hd
      obtain ⟨t3, t4⟩ := tmod_between (at0.tmod (((cut s).size : Int) - 3) + ((cut s).size : Int) - 3) (((cut s).size : Int) - 3) hd
      have t5 : 0 ≤ (at0.tmod (((cut s).size : Int) - 3) + ((cut s).size : Int) - 3).tmod (((cut s).size : Int) - 3) := Int.tmod_nonneg _ (by omega)
      go_enter Tryd.func5, Tryd.ntmps5
      go_wp2_with (first | (go_at_call 9; refine (few_any _ _).mono ?_; rintro e w' ⟨rfl, rfl⟩) | (go_at_call 7; refine (awake_any _ ht).mono ?_; rintro e w' ⟨rfl, rfl⟩))
      have hk : ∃ k : Nat, (at0.tmod (((cut s).size : Int) - 3) + ((cut s).size : Int) - 3) % (((cut s).size : Int) - 3) = (k : Int) ∧ k + 4 ≤ (cut s).size := by
        have hn := Int.emod_nonneg (at0.tmod (((cut s).size : Int) - 3) + ((cut s).size : Int) - 3) (by omega : ((cut s).size : Int) - 3 ≠ 0)
        have hl := Int.emod_lt_of_pos (at0.tmod (((cut s).size : Int) - 3) + ((cut s).size : Int) - 3) hd
        obtain ⟨k, hk⟩ := Int.eq_ofNat_of_zero_le hn
        exact ⟨k, hk, by omega⟩
      obtain ⟨k, hk, hk4⟩ := hk
      rw [hk]
      clear hk t1 t2 t3 t4 t5 hd hconv wf
      have hlen : Hid ((cut s).data.toList.length = (cut s).size) := Array.length_toList
      have hB0 := (HasBytes.converted w' (cut s) (grownCap w' (cut s).size 0 5) 5).drew
      have hBel0 := ((Below.refl w'.heap.size w').alloc (Nat.le_refl _) (.cells (bytesRow (cut s) (grownCap w' (cut s).size 0 5)) 5 ((bytesRow (cut s) (grownCap w' (cut s).size 0 5)).size, (bytesRow (cut s) (grownCap w' (cut s).size 0 5)).size + 1))).drew
      go_loopw [10, 11] (fun r i wr => ∃ j q : Nat, j ≤ 4 ∧ i = .int .i64 j ∧ r = .int .u32 q ∧ q = c / 256 ^ j ∧ HasBytes wr w'.heap.size (patch (cut s).data.toList k c j) ∧ Below w'.heap.size w' wr)
        (fun _ i _ => 4 - (intOf i).toNat)
      case atStart => exact ⟨0, c, Nat.zero_le _, rfl, rfl, by simp, hB0, hBel0⟩
      case round =>
        clear hB0 hBel0
        obtain ⟨j, q, hj, rfl, rfl, hq, hB, hBel⟩ := hrel
        have hq2 : q < 4294967296 := by
          have := Nat.div_le_self c (256 ^ j)
          omega
        have HQ : Hid (q = c / 256 ^ j) := hq
        clear hq
        by_cases hj4 : j < 4
        · have hlt : k + j < (patch (cut s).data.toList k c j).length := by rw [patch_length, hlen.out]; omega
          obtain ⟨hcell, hfr⟩ := hB (k + j) hlt
          have HB : Hid (HasBytes wr w'.heap.size (patch (cut s).data.toList k c j)) := hB
          have HL : Hid (Below w'.heap.size w' wr) := hBel
          have HLt : Hid (k + j < (patch (cut s).data.toList k c j).length) := hlt
          clear hB hBel hlt
          generalize hv : (patch (cut s).data.toList k c j).getD (k + j) 0 = v at hcell
          have HV : Hid ((patch (cut s).data.toList k c j).getD (k + j) 0 = v) := hv
          clear hv
          go_wp2_with fail
          go_roundw
          case rel =>
            have hB := HB.out
            have hBel := HL.out
            refine ⟨j + 1, q / 256, by omega, by go_num, by go_num, ?_, ?_, ?_⟩
            · rw [Nat.pow_succ, ← Nat.div_div_eq_div_mul, HQ.out]
            · have hq := HQ.out
              subst hq
              rw [round_byte, patch, HV.out]
              exact hB.stored (k + j) HLt.out _
            · exact hBel.setCell (Nat.le_refl _) _
          case measure => simp [intOf]; omega
        · obtain rfl : j = 4 := by omega
          have ht2 : ∀ i : Nat, i < 16 → wr.cell? ⟨0, i, none⟩ = some (.int .u32 (tab.getD i 0)) := fun i hi => (hBel.cell (p := ⟨0, i, none⟩) (size_of_cell (ht i hi))).trans (ht i hi)
          have hback := hB.back (P := Tryd.prog) 29 9 5 (cut s).size (grownCap w' (cut s).size 0 5) (by rw [patch_length, hlen.out]) Tryd.underlying29 Tryd.underlying5 Tryd.underlying9
          have hdiff := bits_differ (cut s).data.toList k c (by rw [hlen.out]; omega) (by omega) hc
          have hdiff2 := bne_iff_ne.2 hdiff
          clear hdiff
          have sp : (⟨(patch (cut s).data.toList k c 4).toArray⟩ : ByteArray).size ≤ maxLen := by
            show (patch (cut s).data.toList k c 4).toArray.size ≤ maxLen
            rw [List.size_toArray, patch_length, hlen.out]
            exact sa
          generalize patch (cut s).data.toList k c 4 = P4 at *
          have HL : Hid (Below w'.heap.size w' wr) := hBel
          clear hB hBel ht
          go_wp2_with (first | (go_at_call 7; refine (awake_any _ ht2).mono ?_; rintro e w'' ⟨rfl, rfl⟩) | (go_at_call 8; refine (sum_any _ _ (by assumption) ht2).mono ?_; rintro e w'' ⟨rfl, rfl⟩))
          go_ret
          exact ⟨rfl, HL.out⟩
end Go.Proofs.YthjocdboanmkcaaDoor
