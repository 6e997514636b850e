/-
  What the calls of package crc, and of the answer that the document gives, do to the world: they hand back the check of 'Crc' and leave the world as it was. Condition: the table's sixteen cells hold what the text lays.
-/
import Derived.Test.YtbhggcleijjofaaDoorRows
import Derived.Test.YtbhggcleijjofaaDoorCrc
import Derived.WalkKit
import Derived.WalkSpells
import Derived.WalkLawsBesides
import Derived.Laws.BitsAllLaws
namespace Go.Proofs.YtbhggcleijjofaaDoor.Pg
open Go.RowKit
open Crc

def tab : List Int := [0, 274646895, 549293790, 820201905, 1098587580, 1361435347, 1640403810, 1905808397, 2197175160, 2460548119, 2722870694, 2987750089, 3280807620, 3553878443, 3811616794, 4084100981]
theorem tab_is (i : Nat) : tab[i]?.getD 0 = ((tabB i).toNat : Int) := by
  by_cases h : i < 16
  · have : ∀ i : Fin 16, tab[i.val]?.getD 0 = ((tabB i.val).toNat : Int) := by decide
    exact this ⟨i, h⟩
  · have h1 : tab[i]? = none := List.getElem?_eq_none (by simp [tab]; omega)
    have h2 : tabB i = 0#32 := by
      unfold tabB
      rw [List.getD_eq_getElem?_getD, List.getElem?_eq_none (by simp; omega)]
      rfl
    rw [h1, h2]
    rfl

theorem bxor (x y : W) : bits .xor .u32 (x.toNat : Int) (y.toNat : Int) = ((x ^^^ y).toNat : Int) := by
  rw [u32_xor_nat _ _ x.isLt y.isLt, BitVec.toNat_xor]
theorem band15 (x : W) : bits .and .u32 (x.toNat : Int) 15 = ((x &&& 15#32).toNat : Int) := by
  have := u32_and_nat x.toNat 15 x.isLt (by omega)
  rw [BitVec.toNat_and]
  exact this
theorem band15_lt (x : Int) : 0 ≤ bits .and .u32 x 15 ∧ bits .and .u32 x 15 < 16 := by
  have e : bits .and .u32 x 15 = IntKind.u32.wrap ((BitVec.ofInt 32 x &&& BitVec.ofInt 32 15).toNat : Int) := rfl
  have h : (BitVec.ofInt 32 x &&& 15#32).toNat < 16 := low_lt _
  have e15 : BitVec.ofInt 32 15 = 15#32 := by decide
  rw [e, e15, IntKind.wrap_u32']
  omega
theorem nib_is (x : W) : bits .xor .u32 ((x.toNat : Int) / 16) (tab[(bits .and .u32 (x.toNat : Int) 15).toNat]?.getD 0) = ((nib x).toNat : Int) := by
  rw [band15, tab_is]
  have e : (x.toNat : Int) / (16 : Int) = ((x >>> 4).toNat : Int) := by
    rw [BitVec.toNat_ushiftRight, Nat.shiftRight_eq_div_pow]
    omega
  rw [e, bxor]
  rfl
theorem byte_is (x : W) (b : UInt8) : bits .xor .u32 (x.toNat : Int) ((b.toNat : Int) % 4294967296) = ((x ^^^ BitVec.ofNat 32 b.toNat).toNat : Int) := by
  have e : ((b.toNat : Int) % 4294967296) = ((BitVec.ofNat 32 b.toNat).toNat : Int) := by
    rw [BitVec.toNat_ofNat]
    omega
  rw [e, bxor]
theorem not_is (x : W) : bits .xor .u32 IntKind.u32.max (x.toNat : Int) = ((~~~ x).toNat : Int) := by
  have e : IntKind.u32.max = ((0xffffffff#32).toNat : Int) := by decide
  rw [e, bxor]
  have : (0xffffffff#32) = BitVec.allOnes 32 := by decide
  rw [this, BitVec.allOnes_xor]
theorem not_any (x : Int) : bits .xor .u32 IntKind.u32.max x = ((~~~ (BitVec.ofInt 32 x)).toNat : Int) := by
  have e : bits .xor .u32 IntKind.u32.max x = IntKind.u32.wrap ((BitVec.ofInt 32 IntKind.u32.max ^^^ BitVec.ofInt 32 x).toNat : Int) := rfl
  have e1 : BitVec.ofInt 32 IntKind.u32.max = BitVec.allOnes 32 := by decide
  rw [e, e1, BitVec.allOnes_xor, IntKind.wrap_u32']
  have := (~~~ (BitVec.ofInt 32 x)).isLt
  omega
theorem take_next (s : ByteArray) (k : Nat) (hk : k < s.size) : s.data.toList.take (k + 1) = s.data.toList.take k ++ [s[k]] := by
  rw [List.take_add_one]
  have : s.data.toList[k]? = some s[k] := by
    rw [Array.getElem?_toList, Array.getElem?_eq_getElem hk]
    rfl
  rw [this]
  rfl
theorem take_all (s : ByteArray) : s.data.toList.take s.size = s.data.toList := by
  apply List.take_of_length_le
  exact Nat.le_of_eq (Array.length_toList)

/-- the check, in the walk's own numbers -/
def moreI (x : Int) (l : List UInt8) : Int := ((more (BitVec.ofInt 32 x) l).toNat : Int)
theorem ofInt_back (a : W) : BitVec.ofInt 32 (a.toNat : Int) = a := by
  rw [BitVec.ofInt_natCast, BitVec.ofNat_toNat, BitVec.setWidth_eq]
theorem moreI_lt (x : Int) (l : List UInt8) : 0 ≤ moreI x l ∧ moreI x l < 4294967296 := by
  have := (more (BitVec.ofInt 32 x) l).isLt
  unfold moreI
  omega
theorem moreI_moreI (x : Int) (a b : List UInt8) : moreI (moreI x a) b = moreI x (a ++ b) := by
  unfold moreI
  rw [ofInt_back, more_more]
theorem moreI_moreI_nil (x : Int) (a : List UInt8) : moreI (moreI x a) [] = moreI x a := by
  rw [moreI_moreI, List.append_nil]

set_option maxHeartbeats 400000 in
theorem more_any (x : Int) (s : ByteArray) (w : World) (hs : s.size ≤ maxLen)
    (ht : ∀ i : Nat, i < 16 → w.cell? ⟨0, i, none⟩ = some (.int .u32 (tab.getD i 0))) :
    Calls Tryd.prog 60 #[.int .u32 x, .string s] w fun e w' => e = .returned (.int .u32 (moreI x s.data.toList)) ∧ w' = w := by
  unfold maxLen at hs
  unfold moreI
  go_enter Tryd.func60, Tryd.ntmps60
  go_wp2
  rw [not_any]
  go_loop [5, 11] (fun r i => ∃ k : Nat, k ≤ s.size ∧ i = .int .i64 k ∧ r = .int .u32 (run (~~~ (BitVec.ofInt 32 x)) (s.data.toList.take k)).toNat)
     (fun _ i => s.size - (intOf i).toNat)
  case atStart => exact ⟨0, Nat.zero_le _, rfl, rfl⟩
  case round =>
    obtain ⟨k, hk, rfl, rfl⟩ := hrel
    have hb := band15_lt
    go_wp2
    · have hlt : k < s.size := by assumption
      refine ⟨⟨k + 1, by omega, by go_num, ?_⟩, by simp [intOf]; omega⟩
      rw [byte_is, nib_is, nib_is, take_next s k hlt, run_append]
      rfl
    · have he : k = s.size := by omega
      subst he
      go_ret
      rw [not_is, take_all]
      exact ⟨rfl, rfl⟩

set_option maxHeartbeats 400000 in
theorem sum_any (s : ByteArray) (w : World) (hs : s.size ≤ maxLen)
    (ht : ∀ i : Nat, i < 16 → w.cell? ⟨0, i, none⟩ = some (.int .u32 (tab.getD i 0))) :
    Calls Tryd.prog 61 #[.string s] w fun e w' => e = .returned (.int .u32 (moreI 0 s.data.toList)) ∧ w' = w := by
  go_enter Tryd.func61, Tryd.ntmps61
  go_wp2_with (go_at_call 60; refine (more_any _ _ _ hs ht).mono ?_; rintro e w' ⟨rfl, rfl⟩)
  go_ret
  exact ⟨rfl, rfl⟩

/- WHAT THE DOCUMENT's ANSWER DOES -/
def turI (m n : Int) : Int := ((tur m.toNat (BitVec.ofInt 32 n) 0#32).toNat : Int)
theorem ofInt_toNat (n : Int) (h0 : 0 ≤ n) (h1 : n < 4294967296) : ((BitVec.ofInt 32 n).toNat : Int) = n := by
  obtain ⟨k, rfl⟩ := Int.eq_ofNat_of_zero_le h0
  rw [ofInt_u32 k (by omega)]

theorem in_is (R : W) (b : UInt8) : bits .xor .u32 (R.toNat : Int) (turI 8 ((b.toNat : Int) % 4294967296) * 16777216 % 4294967296) = ((refIn R b).toNat : Int) := by
  have hb := b.toNat_lt
  have e0 : (b.toNat : Int) % 4294967296 = (b.toNat : Int) := by omega
  have e1 : turI 8 (b.toNat : Int) = ((tur 8 (BitVec.ofNat 32 b.toNat) 0#32).toNat : Int) := by
    unfold turI
    rw [BitVec.ofInt_natCast]
    rfl
  rw [e0, e1]
  unfold refIn
  generalize tur 8 (BitVec.ofNat 32 b.toNat) 0#32 = t
  have e2 : (t.toNat : Int) * (16777216 : Int) % (4294967296 : Int) = ((t <<< 24).toNat : Int) := by
    rw [BitVec.toNat_shiftLeft, Nat.shiftLeft_eq]
    omega
  rw [e2, bxor]
theorem top_is (X : W) : X.getLsbD 31 = decide (2147483648 ≤ X.toNat) := by
  have h := BitVec.msb_eq_decide X
  rw [BitVec.msb_eq_getLsbD_last] at h
  exact h
theorem bit_top (X : W) (h : 2147483648 ≤ X.toNat) : bits .xor .u32 ((X.toNat : Int) * 2 % 4294967296) 517762881 = ((refBit X).toNat : Int) := by
  have e2 : (X.toNat : Int) * (2 : Int) % (4294967296 : Int) = ((X <<< 1).toNat : Int) := by
    rw [BitVec.toNat_shiftLeft, Nat.shiftLeft_eq]
    omega
  have e3 : (517762881 : Int) = ((0x1edc6f41#32).toNat : Int) := by decide
  unfold refBit
  rw [top_is, decide_eq_true h, if_pos rfl, e2, e3, bxor]
theorem last_is (R : W) : bits .xor .u32 (turI 32 (R.toNat : Int)) 4294967295 = ((rev R ^^^ 0xffffffff#32).toNat : Int) := by
  have e1 : turI 32 (R.toNat : Int) = ((rev R).toNat : Int) := by
    unfold turI rev
    rw [ofInt_back]
    rfl
  have e2 : (4294967295 : Int) = ((0xffffffff#32).toNat : Int) := by decide
  rw [e1, e2, bxor]
theorem bit_low (X : W) (h : ¬ 2147483648 ≤ X.toNat) : (X.toNat : Int) * (2 : Int) = ((refBit X).toNat : Int) := by
  unfold refBit
  rw [top_is, decide_eq_false h, if_neg (by simp), BitVec.toNat_shiftLeft, Nat.shiftLeft_eq]
  omega

end Go.Proofs.YtbhggcleijjofaaDoor.Pg
