/-
  What the calls of package crc, and of the answer that the document gives, do to the world: they hand back the check of 'Crc' and leave the world as it was. Condition: the table's sixteen cells hold what the text lays.
-/
import Derived.WalkKit
import Derived.WalkSpells
import Derived.WalkLawsBesides
import Derived.Laws.BitsAllLaws
import Derived.Test.YtaphpdmfjnhlaaaGreatDoorARFl
namespace Go.Proofs.YtaphpdmfjnhlaaaGreatDoor.Pg
open Go.RowKit
open Crc
/- WHAT THE DOCUMENT's ANSWER DOES -/
set_option maxHeartbeats 400000 in
theorem turned_any (n m : Int) (w : World) (h0 : 0 <= n) (h1 : n < 4294967296) (hm0 : 0 <= m) (hm1 : m <= 32) :
  Calls Tryz.prog 94 #[.int .u32 n, .int .i64 m] w fun e w' => e = .returned (.int .u32 (turI m n)) /\ w' = w := by
 unfold turI
 have e := ofInt_toNat n h0 h1
 generalize BitVec.ofInt 32 n = b at e
 subst e
 obtain ⟨c, rfl⟩ := Int.eq_ofNat_of_zero_le hm0
 rw [Int.toNat_natCast]
 clear h0 h1 hm0
 go_enter Tryz.func94, Tryz.ntmps94
 go_wp2
 go_loop [0, 5, 6] (fun x o i => ∃ (k : Nat) (N O : W), k <= c /\ i = .int .i64 k /\ x = .int .u32 N.toNat /\ o = .int .u32 O.toNat /\ tur (c - k) N O = tur c b 0#32)
   (fun _ _ i => c - (intOf i).toNat)
 case atStart => exact ⟨0, b, 0#32, Nat.zero_le _, rfl, rfl, rfl, rfl⟩
 case round =>
  obtain ⟨k, N, O, hk, rfl, rfl, rfl, hT⟩ := hrel
  have HT : Hid (tur (c - k) N O = tur c b 0#32) := hT
  clear hT
  go_wp2
  ·have hlt : k < c := by assumption
   have hN := N.isLt
   have hO := O.isLt
   refine ⟨⟨k + 1, BitVec.ofNat 32 (N.toNat / 2), BitVec.ofNat 32 (O.toNat * 2 + N.toNat % 2), by omega, by go_num, ?_, ?_, ?_⟩, by simp [intOf]; omega⟩
   ·rw [BitVec.toNat_ofNat]
    congr 1
    omega
   ·rw [BitVec.toNat_ofNat]
    congr 1
    omega
   ·have hT := HT.out
    have e : c - k = (c - (k + 1)) + 1 := by omega
    rw [e, tur] at hT
    exact hT
  ·have he : k = c := by omega
   subst he
   have hT := HT.out
   rw [Nat.sub_self, tur] at hT
   go_ret
   rw [hT]
   exact ⟨rfl, rfl⟩
set_option maxHeartbeats 400000 in
theorem refSum_any (s : ByteArray) (w : World) (hs : s.size <= maxLen) :
  Calls Tryz.prog 60 #[.string s] w fun e w' => e = .returned (.int .u32 (moreI 0 s.data.toList)) /\ w' = w := by
 unfold maxLen at hs
 unfold moreI
 go_enter Tryz.func60, Tryz.ntmps60
 go_wp2
 go_loop [3, 4] (fun r i => ∃ k : Nat, k <= s.size /\ i = .int .i64 k /\ r = .int .u32 (refRun 0xffffffff#32 (s.data.toList.take k)).toNat)
   (fun _ i => s.size - (intOf i).toNat)
 case atStart => exact ⟨0, Nat.zero_le _, rfl, rfl⟩
 case round =>
  obtain ⟨k, hk, rfl, rfl⟩ := hrel
  generalize hR : refRun 0xffffffff#32 (s.data.toList.take k) = R
  have HR : Hid (refRun 0xffffffff#32 (s.data.toList.take k) = R) := hR
  clear hR
  go_wp2_with (first | (go_at_call 94; refine (turned_any _ _ _ (by omega) (by omega) (by omega) (by omega)).mono ?_; rintro e w' ⟨rfl, rfl⟩))
  ·have hlt : k < s.size := by assumption
   rw [in_is]
   generalize hb : s[k] = b
   have HB : Hid (s[k] = b) := hb
   clear hb
   generalize turI 8 (↑b.toNat % 4294967296) * 16777216 % 4294967296 = t1
   generalize turI 8 (↑b.toNat % 4294967296) = t2
   go_loop [3, 5] (fun r i => ∃ (j : Nat) (X : W), j <= 8 /\ i = .int .i64 j /\ r = .int .u32 X.toNat /\ refBits (8 - j) X = refByte R b)
     (fun _ i => 8 - (intOf i).toNat)
   case atStart => exact ⟨0, refIn R b, Nat.zero_le _, rfl, rfl, rfl⟩
   case round =>
    obtain ⟨j, X, hj, rfl, rfl, hX⟩ := hrel
    have HX : Hid (refBits (8 - j) X = refByte R b) := hX
    clear hX
    by_cases ht : (2147483648 : Int) <= X.toNat
    ·go_wp2
     ·have hj2 : j < 8 := by omega
      refine ⟨⟨j + 1, refBit X, by omega, by go_num, ?_, ?_⟩, by simp [intOf]; omega⟩
      ·rw [bit_top X (by omega)]
      ·have hX := HX.out
       rw [(by omega : 8 - j = 8 - (j + 1) + 1), refBits] at hX
       exact hX
     ·have hj2 : j = 8 := by omega
      subst hj2
      have hX : X = refByte R b := HX.out
      refine ⟨⟨k + 1, by omega, by go_num, ?_⟩, by simp [intOf]; omega⟩
      rw [hX, <- HR.out, <- HB.out, take_next s k hlt]
      simp only [refRun, List.foldl_append, List.foldl_cons, List.foldl_nil]
    ·go_wp2
     ·have hj2 : j < 8 := by omega
      refine ⟨⟨j + 1, refBit X, by omega, by go_num, ?_, ?_⟩, by simp [intOf]; omega⟩
      ·rw [bit_low X (by omega)]
      ·have hX := HX.out
       rw [(by omega : 8 - j = 8 - (j + 1) + 1), refBits] at hX
       exact hX
     ·have hj2 : j = 8 := by omega
      subst hj2
      have hX : X = refByte R b := HX.out
      refine ⟨⟨k + 1, by omega, by go_num, ?_⟩, by simp [intOf]; omega⟩
      rw [hX, <- HR.out, <- HB.out, take_next s k hlt]
      simp only [refRun, List.foldl_append, List.foldl_cons, List.foldl_nil]
  ·have he : k = s.size := by omega
   subst he
   have hR := HR.out
   rw [take_all] at hR
   go_ret
   rw [last_is, <- hR, ref_is]
   exact ⟨rfl, rfl⟩
end Go.Proofs.YtaphpdmfjnhlaaaGreatDoor.Pg
