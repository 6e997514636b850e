/-
  Numbers as bytes, the lowest first: what they are worth, how many a number has. No condition. The reader's block, and the calls that read and write it: Err, Left, End, fail, Bytes, New. No condition. The reader's Fixed, Num and Text. No condition. How many bits a number has: the walk of Len64. No condition. Numbers and texts as bytes: the walks of Fixed, Num, Text and of the answer's. No condition. Records: which numbers a kind has, their limits; the walk of the program's list of them. No condition. Which records may be: the walk of the program's Check. No condition.
-/
import Derived.Laws.MathBits
import Derived.Test.YtcmmhfjnhlaepabGreatDoorRows
import Derived.Test.YtcmmhfjnhlaepabGreatDoorRK3
import Derived.WalkSpells
import Derived.WalkLawsBesides
import Derived.Laws.BitsAllLaws
import Derived.Laws.Bits64b
import Derived.Deep.RegionHeld3
import Derived.Deep.RegionWith
import Derived.Deep.Cut
import Derived.Laws.Closers25
import Derived.Laws.NewBlocks
import Derived.Laws.ResultCell
import Derived.Deep.RegionLaw
namespace Go.Proofs.YtcmmhfjnhlaepabGreatDoor.Gp
open Go Pg
end Go.Proofs.YtcmmhfjnhlaepabGreatDoor.Gp
namespace Go.Proofs.YtcmmhfjnhlaepabGreatDoor.Gp
open Go Go.RowKit Pg
def rN (s : ByteArray) (e : Int) (most : Int) : ByteArray × Int × Nat :=
 if 8 < (rF s e 1).2.2 then (⟨#[]⟩, 3, 0)
 else if (rF (rF s e 1).1 (rF s e 1).2.1 (rF s e 1).2.2).2.1 ≠ 0 then ((rF (rF s e 1).1 (rF s e 1).2.1 (rF s e 1).2.2).1, (rF (rF s e 1).1 (rF s e 1).2.1 (rF s e 1).2.2).2.1, 0)
 else if 0 < (rF s e 1).2.2 /\ (rF (rF s e 1).1 (rF s e 1).2.1 (rF s e 1).2.2).2.2 < 256 ^ ((rF s e 1).2.2 - 1) then (⟨#[]⟩, 3, 0)
 else if most < (rF (rF s e 1).1 (rF s e 1).2.1 (rF s e 1).2.2).2.2 then (⟨#[]⟩, 5, 0)
 else rF (rF s e 1).1 (rF s e 1).2.1 (rF s e 1).2.2
theorem rF_byte (s : ByteArray) (e : Int) : (rF s e 1).2.2 < 256 := by
 refine Nat.lt_of_lt_of_le (leL_lt _) ?_
 have h : (rB s e (wid 1)).2.2.data.toList.length <= 1 := by
  rw [Array.length_toList]
  show (rB s e 1).2.2.size <= 1
  unfold rB
  split
  ·show 0 <= 1
   omega
  ·split
   ·show 0 <= 1
    omega
   ·rw [ByteArray.size_extract]
    omega
 exact (Nat.pow_le_pow_right (show 256 > 0 by omega) h : 256 ^ _ <= 256 ^ 1)
theorem shifted (n k : Nat) : (((n : Int) / 2 ^ (8 * k)) == 0) = decide (n < 256 ^ k) := by
 have e : ((n : Int) / 2 ^ (8 * k)) = ((n / 256 ^ k : Nat) : Int) := by
  rw [pow256, Int.natCast_ediv, Int.natCast_pow]
  rfl
 have hp := Nat.pow_pos (n := k) (show 0 < 256 by omega)
 rw [e]
 by_cases h : n < 256 ^ k
 ·rw [Nat.div_eq_of_lt h, decide_eq_true h]
  rfl
 ·have : 0 < n / 256 ^ k := Nat.div_pos (by omega) hp
  rw [decide_eq_false h]
  generalize n / 256 ^ k = q at *
  rw [beq_eq_false_iff_ne]
  omega
theorem rN_le (s : ByteArray) (e most : Int) (h : 0 <= most) : ((rN s e most).2.2 : Int) <= most := by
 unfold rN
 split
 ·exact h
 ·split
  ·exact h
  ·split
   ·exact h
   ·split
    ·exact h
    ·omega
theorem len_close (k x m : Nat) (hk : k <= 56) (hm : m < 256) (hx : bitLen x = k + bitLen m) : wrap64 ((k : Int) + wrap64 (bitLen m : Int)) = (bitLen x : Int) := by
 have := bitLen_le8 m hm
 unfold wrap64
 omega
theorem len_close0 (x : Nat) (hm : x < 256) : wrap64 (wrap64 (bitLen x : Int)) = (bitLen x : Int) := by
 have := bitLen_le8 x hm
 unfold wrap64
 omega
theorem bitLen_by (x a b : Nat) (h : b = 2 ^ a) (hx : x / b ≠ 0) : bitLen x = a + bitLen (x / b) := by
 subst h
 exact bitLen_shift x a hx
theorem quot_by (n B C b sh : Nat) (hb : b = 2 ^ sh) (hBC : B = b * C) (h : n < B) (h1 : (b : Int) <= (n : Int)) : ∃ a : Nat, (n : Int) / (b : Int) = a /\ a < C /\ Hid (bitLen n = sh + bitLen a) := by
 have hpos : 0 < b := by subst hb; exact Nat.two_pow_pos sh
 refine ⟨n / b, by simp, Nat.div_lt_of_lt_mul (by rw [<- hBC]; exact h), ?_⟩
 have hx : n / b ≠ 0 := by
  have : 0 < n / b := Nat.div_pos (by omega) hpos
  omega
 exact bitLen_by n sh b hb hx
set_option maxHeartbeats 1000000 in
set_option maxRecDepth 100000 in
theorem len_111 (n : Nat) (w : World) (d0 : decide ((4294967296 : Int) <= (n : Int)) = true) (a : Nat) (qa : (n : Int) / 4294967296 = (a : Int)) (Xa : Hid (bitLen n = 32 + bitLen a)) (d1 : decide ((65536 : Int) <= (a : Int)) = true) (b : Nat) (qb : (a : Int) / 65536 = (b : Int)) (Xb : Hid (bitLen a = 16 + bitLen b)) (d2 : decide ((256 : Int) <= (b : Int)) = true) (c : Nat) (qc : (b : Int) / 256 = (c : Int)) (Xc : Hid (bitLen b = 8 + bitLen c)) (hm : (c : Int) < 256) :
  Calls Tryz.prog 239 #[.int .u64 n] w fun e w' => e = .returned (.int .i64 (bitLen n)) /\ w' = w := by
 go_enter Tryz.func239, Tryz.ntmps239
 go_wp2_with fail
 go_ret
 refine ⟨congrArg Ending.returned (congrArg (Value.int IntKind.i64) ?_), rfl⟩
 rw [len8tab_get]
 exact len_close 56 n _ (by omega) (by omega) (by have e0 := Xa.out; have e1 := Xb.out; have e2 := Xc.out; omega)
set_option maxHeartbeats 1000000 in
set_option maxRecDepth 100000 in
theorem len_110 (n : Nat) (w : World) (d0 : decide ((4294967296 : Int) <= (n : Int)) = true) (a : Nat) (qa : (n : Int) / 4294967296 = (a : Int)) (Xa : Hid (bitLen n = 32 + bitLen a)) (d1 : decide ((65536 : Int) <= (a : Int)) = true) (b : Nat) (qb : (a : Int) / 65536 = (b : Int)) (Xb : Hid (bitLen a = 16 + bitLen b)) (d2 : decide ((256 : Int) <= (b : Int)) = false) (hm : (b : Int) < 256) :
  Calls Tryz.prog 239 #[.int .u64 n] w fun e w' => e = .returned (.int .i64 (bitLen n)) /\ w' = w := by
 go_enter Tryz.func239, Tryz.ntmps239
 go_wp2_with fail
 go_ret
 refine ⟨congrArg Ending.returned (congrArg (Value.int IntKind.i64) ?_), rfl⟩
 rw [len8tab_get]
 exact len_close 48 n _ (by omega) (by omega) (by have e0 := Xa.out; have e1 := Xb.out; omega)
set_option maxHeartbeats 1000000 in
set_option maxRecDepth 100000 in
theorem len_101 (n : Nat) (w : World) (d0 : decide ((4294967296 : Int) <= (n : Int)) = true) (a : Nat) (qa : (n : Int) / 4294967296 = (a : Int)) (Xa : Hid (bitLen n = 32 + bitLen a)) (d1 : decide ((65536 : Int) <= (a : Int)) = false) (d2 : decide ((256 : Int) <= (a : Int)) = true) (c : Nat) (qc : (a : Int) / 256 = (c : Int)) (Xc : Hid (bitLen a = 8 + bitLen c)) (hm : (c : Int) < 256) :
  Calls Tryz.prog 239 #[.int .u64 n] w fun e w' => e = .returned (.int .i64 (bitLen n)) /\ w' = w := by
 go_enter Tryz.func239, Tryz.ntmps239
 go_wp2_with fail
 go_ret
 refine ⟨congrArg Ending.returned (congrArg (Value.int IntKind.i64) ?_), rfl⟩
 rw [len8tab_get]
 exact len_close 40 n _ (by omega) (by omega) (by have e0 := Xa.out; have e1 := Xc.out; omega)
set_option maxHeartbeats 1000000 in
set_option maxRecDepth 100000 in
theorem len_100 (n : Nat) (w : World) (d0 : decide ((4294967296 : Int) <= (n : Int)) = true) (a : Nat) (qa : (n : Int) / 4294967296 = (a : Int)) (Xa : Hid (bitLen n = 32 + bitLen a)) (d1 : decide ((65536 : Int) <= (a : Int)) = false) (d2 : decide ((256 : Int) <= (a : Int)) = false) (hm : (a : Int) < 256) :
  Calls Tryz.prog 239 #[.int .u64 n] w fun e w' => e = .returned (.int .i64 (bitLen n)) /\ w' = w := by
 go_enter Tryz.func239, Tryz.ntmps239
 go_wp2_with fail
 go_ret
 refine ⟨congrArg Ending.returned (congrArg (Value.int IntKind.i64) ?_), rfl⟩
 rw [len8tab_get]
 exact len_close 32 n _ (by omega) (by omega) (by have e0 := Xa.out; omega)
set_option maxHeartbeats 1000000 in
set_option maxRecDepth 100000 in
theorem len_011 (n : Nat) (w : World) (d0 : decide ((4294967296 : Int) <= (n : Int)) = false) (d1 : decide ((65536 : Int) <= (n : Int)) = true) (b : Nat) (qb : (n : Int) / 65536 = (b : Int)) (Xb : Hid (bitLen n = 16 + bitLen b)) (d2 : decide ((256 : Int) <= (b : Int)) = true) (c : Nat) (qc : (b : Int) / 256 = (c : Int)) (Xc : Hid (bitLen b = 8 + bitLen c)) (hm : (c : Int) < 256) :
  Calls Tryz.prog 239 #[.int .u64 n] w fun e w' => e = .returned (.int .i64 (bitLen n)) /\ w' = w := by
 go_enter Tryz.func239, Tryz.ntmps239
 go_wp2_with fail
 go_ret
 refine ⟨congrArg Ending.returned (congrArg (Value.int IntKind.i64) ?_), rfl⟩
 rw [len8tab_get]
 exact len_close 24 n _ (by omega) (by omega) (by have e0 := Xb.out; have e1 := Xc.out; omega)
set_option maxHeartbeats 1000000 in
set_option maxRecDepth 100000 in
theorem len_010 (n : Nat) (w : World) (d0 : decide ((4294967296 : Int) <= (n : Int)) = false) (d1 : decide ((65536 : Int) <= (n : Int)) = true) (b : Nat) (qb : (n : Int) / 65536 = (b : Int)) (Xb : Hid (bitLen n = 16 + bitLen b)) (d2 : decide ((256 : Int) <= (b : Int)) = false) (hm : (b : Int) < 256) :
  Calls Tryz.prog 239 #[.int .u64 n] w fun e w' => e = .returned (.int .i64 (bitLen n)) /\ w' = w := by
 go_enter Tryz.func239, Tryz.ntmps239
 go_wp2_with fail
 go_ret
 refine ⟨congrArg Ending.returned (congrArg (Value.int IntKind.i64) ?_), rfl⟩
 rw [len8tab_get]
 exact len_close 16 n _ (by omega) (by omega) (by have e0 := Xb.out; omega)
set_option maxHeartbeats 1000000 in
set_option maxRecDepth 100000 in
theorem len_001 (n : Nat) (w : World) (d0 : decide ((4294967296 : Int) <= (n : Int)) = false) (d1 : decide ((65536 : Int) <= (n : Int)) = false) (d2 : decide ((256 : Int) <= (n : Int)) = true) (c : Nat) (qc : (n : Int) / 256 = (c : Int)) (Xc : Hid (bitLen n = 8 + bitLen c)) (hm : (c : Int) < 256) :
  Calls Tryz.prog 239 #[.int .u64 n] w fun e w' => e = .returned (.int .i64 (bitLen n)) /\ w' = w := by
 go_enter Tryz.func239, Tryz.ntmps239
 go_wp2_with fail
 go_ret
 refine ⟨congrArg Ending.returned (congrArg (Value.int IntKind.i64) ?_), rfl⟩
 rw [len8tab_get]
 exact len_close 8 n _ (by omega) (by omega) (by have e0 := Xc.out; omega)
set_option maxHeartbeats 1000000 in
set_option maxRecDepth 100000 in
theorem len_000 (n : Nat) (w : World) (d0 : decide ((4294967296 : Int) <= (n : Int)) = false) (d1 : decide ((65536 : Int) <= (n : Int)) = false) (d2 : decide ((256 : Int) <= (n : Int)) = false) (hm : (n : Int) < 256) :
  Calls Tryz.prog 239 #[.int .u64 n] w fun e w' => e = .returned (.int .i64 (bitLen n)) /\ w' = w := by
 go_enter Tryz.func239, Tryz.ntmps239
 go_wp2_with fail
 go_ret
 refine ⟨congrArg Ending.returned (congrArg (Value.int IntKind.i64) ?_), rfl⟩
 rw [len8tab_get]
 first | exact len_close0 n (by omega) | exact len_close1 n (by omega)
theorem len64_any (n : Nat) (h : n < 18446744073709551616) (w : World) :
  Calls Tryz.prog 239 #[.int .u64 n] w fun e w' => e = .returned (.int .i64 (bitLen n)) /\ w' = w := by
 by_cases h1 : ((4294967296 : Nat) : Int) <= (n : Int)
 ·obtain ⟨a, qa, ba, Xa⟩ := quot_by n 18446744073709551616 4294967296 4294967296 32 (by decide) (by decide) (by omega) h1
  by_cases h2 : ((65536 : Nat) : Int) <= (a : Int)
  ·obtain ⟨b, qb, bb, Xb⟩ := quot_by a 4294967296 65536 65536 16 (by decide) (by decide) (by omega) h2
   by_cases h3 : ((256 : Nat) : Int) <= (b : Int)
   ·obtain ⟨c, qc, bc, Xc⟩ := quot_by b 65536 256 256 8 (by decide) (by decide) (by omega) h3
    exact len_111 n w (decide_eq_true h1) a qa Xa (decide_eq_true h2) b qb Xb (decide_eq_true h3) c qc Xc (by omega)
   ·exact len_110 n w (decide_eq_true h1) a qa Xa (decide_eq_true h2) b qb Xb (decide_eq_false h3) (by omega)
  ·by_cases h3 : ((256 : Nat) : Int) <= (a : Int)
   ·obtain ⟨c, qc, bc, Xc⟩ := quot_by a 65536 256 256 8 (by decide) (by decide) (by omega) h3
    exact len_101 n w (decide_eq_true h1) a qa Xa (decide_eq_false h2) (decide_eq_true h3) c qc Xc (by omega)
   ·exact len_100 n w (decide_eq_true h1) a qa Xa (decide_eq_false h2) (decide_eq_false h3) (by omega)
 ·by_cases h2 : ((65536 : Nat) : Int) <= (n : Int)
  ·obtain ⟨b, qb, bb, Xb⟩ := quot_by n 4294967296 65536 65536 16 (by decide) (by decide) (by omega) h2
   by_cases h3 : ((256 : Nat) : Int) <= (b : Int)
   ·obtain ⟨c, qc, bc, Xc⟩ := quot_by b 65536 256 256 8 (by decide) (by decide) (by omega) h3
    exact len_011 n w (decide_eq_false h1) (decide_eq_true h2) b qb Xb (decide_eq_true h3) c qc Xc (by omega)
   ·exact len_010 n w (decide_eq_false h1) (decide_eq_true h2) b qb Xb (decide_eq_false h3) (by omega)
  ·by_cases h3 : ((256 : Nat) : Int) <= (n : Int)
   ·obtain ⟨c, qc, bc, Xc⟩ := quot_by n 65536 256 256 8 (by decide) (by decide) (by omega) h3
    exact len_001 n w (decide_eq_false h1) (decide_eq_false h2) (decide_eq_true h3) c qc Xc (by omega)
   ·exact len_000 n w (decide_eq_false h1) (decide_eq_false h2) (decide_eq_false h3) (by omega)
set_option maxRecDepth 100000
theorem HasBytes.take {w : World} {g : Nat} {l : List UInt8} (h : HasBytes w g l) (m : Nat) : HasBytes w g (l.take m) := by
 intro j hj
 rw [List.length_take] at hj
 have := h j (by omega)
 rw [List.getD_eq_getElem?_getD, List.getElem?_take, if_pos (by omega), <- List.getD_eq_getElem?_getD]
 exact this
theorem encFixed_any (n : Nat) (b : Int) (w : World) :
  Calls Tryz.prog 186 #[.int .u64 n, .int .i64 b] w fun e w' => e = .returned (.string ⟨(fixL n (wid b).toNat).toArray⟩) /\ Below w.heap.size w w' := by
 obtain ⟨h0, h8⟩ := wid_le b
 obtain ⟨m, hm⟩ := Int.eq_ofNat_of_zero_le h0
 have hm8 : m <= 8 := by omega
 rw [hm, Int.toNat_natCast]
 generalize hR : fixL n m = R
 have HR := Hid.mk hR
 clear hR h0 h8
 go_enter Tryz.func186, Tryz.ntmps186
 go_wp2_with fail
 go_loopw [7] (fun i wr => ∃ k : Nat, k <= 8 /\ i = .int .i64 k /\ HasBytes wr w.heap.size (fixP n k) /\ Below w.heap.size w wr) (fun i _ => 8 - (intOf i).toNat)
 case atStart => exact ⟨0, Nat.zero_le _, rfl, Row.bytes (t := 281) (Row.fresh w 281 .u8 (toI (List.replicate 8 0))), (Below.refl w.heap.size w).alloc (Nat.le_refl _) _⟩
 case round =>
  obtain ⟨k, hk, rfl, hB, hb⟩ := hrel
  by_cases hk8 : k < 8
  ·obtain ⟨c1, f1⟩ := hB k (by rw [fixP_length _ _ hk]; exact hk8)
   have HQ := Hid.mk (And.intro hB hb)
   clear hB hb
   generalize hv : (fixP n k).getD k 0 = v at c1
   have HV := Hid.mk hv
   clear hv
   go_wp2_with fail
   refine ⟨⟨k + 1, by omega, by go_num, ?_, HQ.out.2.setCell (Nat.le_refl _) _⟩, by simp [intOf]; omega⟩
   rw [byte_at, <- fixP_step n k hk8]
   exact HQ.out.1.stored k (by rw [fixP_length _ _ hk]; exact hk8) _
  ·have hk2 : k = 8 := by omega
   rw [hk2] at hB
   have hbk := (HasBytes.take hB m).back (P := Tryz.prog) 257 9 5 m 8 (by rw [List.length_take, fixP_length _ _ (Nat.le_refl _)]; omega) Tryz.underlying257 Tryz.underlying5 Tryz.underlying9
   have hsl := sliceTo (P := Tryz.prog) Tryz.underlying281 (by kernel_rfl) w.heap.size m hm8
   have et : (fixP n 8).take m = fixL n m := by
    unfold fixP
    rw [Nat.sub_self, List.replicate_zero, List.append_nil, fixL_take _ _ _ hm8]
   rw [et, HR.out] at hbk
   have HB := Hid.mk hb
   clear hB hb et hk2
   go_wp2_with (go_at_call 217; refine (width_any _ _).mono ?_; rintro x w' ⟨rfl, rfl⟩; rw [hm])
   go_ret
   exact ⟨rfl, HB.out⟩
theorem run_one (k : Nat) (hk : k < 256) (W : World) (g : Nat) (h : W.cell? ⟨g, 0, none⟩ = some (.int .u8 (k : Int))) :
  (convert 257 9 (.slice (some ⟨g, 0, none⟩) 1 1)).run Tryz.prog W = .ok (.string ⟨#[UInt8.ofNat k]⟩) W := by
 refine run_convert_bytes_back (P := Tryz.prog) W 257 9 5 ⟨g, 0, none⟩ 1 [UInt8.ofNat k] Tryz.underlying257 Tryz.underlying5 Tryz.underlying9 ?_
 intro j hj
 obtain rfl : j = 0 := by simp at hj; omega
 have e : (((UInt8.ofNat k).toNat : Nat) : Int) = k := by rw [UInt8.toNat_ofNat']; omega
 simp only [List.getElem_cons_zero, e]
 exact h
theorem kept_one (w0 w1 : World) (v : Value) (b : Below (w0.alloc (.cells #[v] 5)).drew.heap.size (w0.alloc (.cells #[v] 5)).drew w1) : w1.cell? ⟨w0.heap.size, 0, none⟩ = some v := by
 rw [b.cell (p := ⟨w0.heap.size, 0, none⟩) (by show w0.heap.size < (w0.alloc (.cells #[v] 5)).heap.size; rw [size_alloc]; omega)]
 exact cell_of_row _ _ 0 _ 5 _ (heap_alloc_new w0 _)
theorem encNum_any (n : Nat) (hn : n < 18446744073709551616) (w : World) :
  Calls Tryz.prog 224 #[.int .u64 n] w fun e w' => e = .returned (.string ⟨(numL n).toArray⟩) /\ Below w.heap.size w w' := by
 have h8 := nb_le8 n hn
 have hbl : ((bitLen n : Int) + 7).tdiv 8 = (nb n : Int) := by
  unfold nb
  rw [Int.tdiv_eq_ediv_of_nonneg (by omega)]
  omega
 have hbb : bitLen n <= 64 := by
  unfold nb at h8
  omega
 have hw : wid (nb n : Int) = (nb n : Int) := by unfold wid; rw [if_neg (by omega), if_neg (by omega)]
 have hR : (⟨#[UInt8.ofNat (nb n)]⟩ : ByteArray) ++ ⟨(fixL n (nb n)).toArray⟩ = ⟨(numL n).toArray⟩ := by
  unfold numL digs
  apply ByteArray.ext
  simp
 have hz : (⟨(fixL n (nb n)).toArray⟩ : ByteArray).size <= 8 := by
  show (fixL n (nb n)).toArray.size <= 8
  rw [List.size_toArray, fixL_length]
  exact h8
 have hz1 : (⟨#[UInt8.ofNat (nb n)]⟩ : ByteArray).size = 1 := rfl
 generalize hk : nb n = k at *
 have hone := run_one k (by omega)
 generalize hF : (⟨(fixL n k).toArray⟩ : ByteArray) = F at *
 generalize (⟨#[UInt8.ofNat k]⟩ : ByteArray) = O at *
 generalize (⟨(numL n).toArray⟩ : ByteArray) = R at *
 have hwr : IntKind.u8.wrap (k : Int) = k := by simp [IntKind.wrap, IntKind.bits, IntKind.signed]; omega
 have HR := Hid.mk (And.intro hR hk)
 clear hR hk
 go_enter Tryz.func224, Tryz.ntmps224
 go_wp2_with (go_at_call 239; refine (len64_any n hn _).mono ?_; rintro e w' ⟨rfl, rfl⟩)
 clear hbl hbb hn
 go_region_with (go_at_call 186; refine (encFixed_any n _ _).mono ?_; rintro e w1 ⟨rfl, b1⟩; rw [hw, Int.toNat_natCast, hF]; try (have cc := kept_one _ _ _ b1))
 all_goals
  go_wp2_with fail
  go_ret
  refine ⟨by rw [<- HR.out.1]; rfl, ?_⟩
  first
  | exact below3 ((Below.refl _ w').alloc (Nat.le_refl _) _).drew b1
  | exact (below3 (Below.refl _ w').drew b1).alloc (below3 (Below.refl _ w').drew b1).size _
theorem numL_size (n : Nat) (h : n < 18446744073709551616) : (⟨(numL n).toArray⟩ : ByteArray).size <= 9 := by
 show (numL n).toArray.size <= 9
 rw [List.size_toArray, numL_length]
 have := nb_le8 n h
 omega
end Go.Proofs.YtcmmhfjnhlaepabGreatDoor.Gp
namespace Go.Proofs.YtcmmhfjnhlaepabGreatDoor.Gp
open Go Go.RowKit Pg
set_option maxRecDepth 100000
abbrev Fl := Nat × Int × Int
def flds (K : Int) : List Fl :=
 if K = 1 then [(1, 1, 15), (2, 0, 1023), (3, 0, 511)] else if K = 2 then [(1, 1, 15), (2, 0, 1023)] else if K = 3 then [(3, 0, 511), (4, 0, 511)]
 else if K = 4 then [(1, 1, 15), (5, 1, 1024)] else if K = 5 then [(1, 1, 15)] else if K = 6 then [(1, 1, 15), (4, 1, 15)] else if K = 7 then [(1, 1, 15)]
 else if K = 8 then [(3, 0, 31)] else if K = 9 then [(3, 0, 31), (5, 0, 1073741824)] else []
theorem flds_none {K : Int} (h1 : ¬ K = 1) (h2 : ¬ K = 2) (h3 : ¬ K = 3) (h4 : ¬ K = 4) (h5 : ¬ K = 5) (h6 : ¬ K = 6) (h7 : ¬ K = 7) (h8 : ¬ K = 8) (h9 : ¬ K = 9) : flds K = [] := by
 unfold flds
 rw [if_neg h1, if_neg h2, if_neg h3, if_neg h4, if_neg h5, if_neg h6, if_neg h7, if_neg h8, if_neg h9]
theorem kinds (K : Int) : K = 1 \/ K = 2 \/ K = 3 \/ K = 4 \/ K = 5 \/ K = 6 \/ K = 7 \/ K = 8 \/ K = 9 \/ (¬ K = 1 /\ ¬ K = 2 /\ ¬ K = 3 /\ ¬ K = 4 /\ ¬ K = 5 /\ ¬ K = 6 /\ ¬ K = 7 /\ ¬ K = 8 /\ ¬ K = 9) := by omega
def flCells (R : Nat) : List Fl -> List Value
 | [] => []
 | f :: fs => .pointer (some ⟨R, f.1, none⟩) :: .int .i64 f.2.1 :: .int .i64 f.2.2 :: flCells R fs
theorem flCells_get (R : Nat) (fs : List Fl) (j : Nat) (h : j < fs.length) :
  (flCells R fs)[j * 3]? = some (.pointer (some ⟨R, (fs.getD j (0, 0, 0)).1, none⟩)) /\ (flCells R fs)[j * 3 + 1]? = some (.int .i64 (fs.getD j (0, 0, 0)).2.1) /\ (flCells R fs)[j * 3 + 2]? = some (.int .i64 (fs.getD j (0, 0, 0)).2.2) := by
 induction fs generalizing j with
 | nil => simp at h
 | cons f fs ih =>
  cases j with
  | zero => simp [flCells]
  | succ j =>
   have := ih j (by simpa using h)
   rw [show (j + 1) * 3 = j * 3 + 1 + 1 + 1 by omega]
   simpa [flCells] using this
def NumsAt (w : World) (B R : Nat) (a : Option Addr) (fs : List Fl) : Prop :=
 0 < fs.length -> ∃ g, a = some ⟨g, 0, none⟩ /\ B <= g /\ w.heap[g]? = some (.cells (flCells R fs).toArray 206 (0, 0))
theorem NumsAt.same {w w' : World} {B R a fs} (h : NumsAt w B R a fs) (hh : ∀ g, g < w.heap.size -> B <= g -> w'.heap[g]? = w.heap[g]?) : NumsAt w' B R a fs := by
 intro h0
 obtain ⟨g, ha, hg, hb⟩ := h h0
 exact ⟨g, ha, hg, (hh g (Array.getElem?_eq_some_iff.1 hb).1 hg).trans hb⟩
theorem NumsAt.call {w w' : World} {B R a fs} (h : NumsAt w B R a fs) (b : Below w.heap.size w w') : NumsAt w' B R a fs := h.same fun g hg _ => b.block g hg
theorem NumsAt.alloc {w : World} {B R a fs} (h : NumsAt w B R a fs) (o : Obj) : NumsAt (w.alloc o) B R a fs := h.same fun g hg _ => Below.heap_alloc w o g hg
theorem NumsAt.drew {w : World} {B R a fs} (h : NumsAt w B R a fs) : NumsAt w.drew B R a fs := h
theorem NumsAt.set {w : World} {B R a fs} (h : NumsAt w B R a fs) {p : Addr} (hp : p.block < B) (v : Value) : NumsAt (w.setCell p v) B R a fs :=
 h.same fun g _ hg => heap_setCell_other w p g v (fun e => by rw [<- e] at hp; omega)
theorem NumsAt.kept {w w' : World} {B R a fs} (h : NumsAt w B R a fs) {g0 : Nat} (b : w.grownBy w' (some g0)) (h0 : g0 < B) : NumsAt w' B R a fs :=
 h.same fun g hg hB => b.block g hg (by simp; omega)
theorem NumsAt.cells {w : World} {B R a fs} (h : NumsAt w B R a fs) (j : Nat) (hj : j < fs.length) : ∃ g, a = some ⟨g, 0, none⟩ /\ B <= g /\ g < w.heap.size ∧
  w.cell? ⟨g, j * 3, none⟩ = some (.pointer (some ⟨R, (fs.getD j (0, 0, 0)).1, none⟩)) /\ w.cell? ⟨g, j * 3 + 1, none⟩ = some (.int .i64 (fs.getD j (0, 0, 0)).2.1) /\ w.cell? ⟨g, j * 3 + 2, none⟩ = some (.int .i64 (fs.getD j (0, 0, 0)).2.2) := by
 obtain ⟨g, ha, hg, hb⟩ := h (by omega)
 obtain ⟨c0, c1, c2⟩ := flCells_get R fs j hj
 refine ⟨g, ha, hg, (Array.getElem?_eq_some_iff.1 hb).1, ?_, ?_, ?_⟩
 ·rw [cell_of_row w g _ _ 206 _ hb]; simpa using c0
 ·rw [cell_of_row w g _ _ 206 _ hb]; simpa using c1
 ·rw [cell_of_row w g _ _ 206 _ hb]; simpa using c2
def numsPost (w : World) (R : Nat) (fs : List Fl) (e : Ending) (w' : World) : Prop :=
 ∃ a, e = .returned (.slice a fs.length fs.length) /\ Below w.heap.size w w' /\ NumsAt w' w.heap.size R a fs
theorem below_four (w : World) (o1 o2 o3 o4 : Obj) : Below w.heap.size w ((((w.alloc o1).alloc o2).alloc o3).alloc o4) :=
 (((((Below.refl w.heap.size w).alloc (Nat.le_refl _) o1).alloc (by rw [size_alloc]; omega) o2).alloc (by rw [size_alloc, size_alloc]; omega) o3).alloc (by rw [size_alloc, size_alloc, size_alloc]; omega) o4)
theorem nums_done (w W : World) (R : Nat) (fs : List Fl) (cs : Array Value) (g : Nat) (n : Nat) (hb : Below w.heap.size w W) (hc : cs = (flCells R fs).toArray) (hg : g = W.heap.size) (hn : n = fs.length) :
  numsPost w R fs (.returned (.slice (some ⟨g, 0, none⟩) n n)) (W.alloc (.cells cs 206)) := by
 subst hg hc hn
 exact ⟨_, rfl, hb.alloc hb.size _, fun _ => ⟨_, rfl, hb.size, heap_alloc_new W _⟩⟩
theorem size_four (w : World) (o1 o2 o3 o4 : Obj) : ((((w.alloc o1).alloc o2).alloc o3).alloc o4).heap.size = w.heap.size + 1 + 1 + 1 + 1 := by simp only [size_alloc]
theorem cell_four {w : World} {R : Nat} {v : Value} (hR : R < w.heap.size) (c0 : w.cell? ⟨R, 0, none⟩ = some v) (o1 o2 o3 o4 : Obj) : ((((w.alloc o1).alloc o2).alloc o3).alloc o4).cell? ⟨R, 0, none⟩ = some v := by
 rw [(below_four w o1 o2 o3 o4).cell (p := ⟨R, 0, none⟩) hR]
 exact c0
theorem numbers_1 (R : Nat) (w : World) (hR : R < w.heap.size) (c0 : w.cell? ⟨R, 0, none⟩ = some (.int .i64 1)) : Calls Tryz.prog 147 #[.pointer (some ⟨R, 0, none⟩)] w (numsPost w R (flds 1)) := by
 have c4 := cell_four hR c0
 go_enter Tryz.func147, Tryz.ntmps147
 go_wp2_with fail
 go_ret
 exact nums_done w _ R [(1, 1, 15), (2, 0, 1023), (3, 0, 511)] _ _ _ (below_four w _ _ _ _) rfl (size_four w _ _ _ _).symm rfl
theorem numbers_2 (R : Nat) (w : World) (hR : R < w.heap.size) (c0 : w.cell? ⟨R, 0, none⟩ = some (.int .i64 2)) : Calls Tryz.prog 147 #[.pointer (some ⟨R, 0, none⟩)] w (numsPost w R (flds 2)) := by
 have c4 := cell_four hR c0
 go_enter Tryz.func147, Tryz.ntmps147
 go_wp2_with fail
 go_ret
 exact nums_done w _ R [(1, 1, 15), (2, 0, 1023)] _ _ _ (below_four w _ _ _ _) rfl (size_four w _ _ _ _).symm rfl
theorem numbers_3 (R : Nat) (w : World) (hR : R < w.heap.size) (c0 : w.cell? ⟨R, 0, none⟩ = some (.int .i64 3)) : Calls Tryz.prog 147 #[.pointer (some ⟨R, 0, none⟩)] w (numsPost w R (flds 3)) := by
 have c4 := cell_four hR c0
 go_enter Tryz.func147, Tryz.ntmps147
 go_wp2_with fail
 go_region
 go_wp2_with fail
 go_ret
 exact nums_done w _ R [(3, 0, 511), (4, 0, 511)] _ _ _ (below_four w _ _ _ _).drew rfl (size_four w _ _ _ _).symm rfl
theorem numbers_4 (R : Nat) (w : World) (hR : R < w.heap.size) (c0 : w.cell? ⟨R, 0, none⟩ = some (.int .i64 4)) : Calls Tryz.prog 147 #[.pointer (some ⟨R, 0, none⟩)] w (numsPost w R (flds 4)) := by
 have c4 := cell_four hR c0
 go_enter Tryz.func147, Tryz.ntmps147
 go_wp2_with fail
 go_region
 go_wp2_with fail
 go_ret
 exact nums_done w _ R [(1, 1, 15), (5, 1, 1024)] _ _ _ (below_four w _ _ _ _).drew rfl (size_four w _ _ _ _).symm rfl
theorem numbers_5 (R : Nat) (w : World) (hR : R < w.heap.size) (c0 : w.cell? ⟨R, 0, none⟩ = some (.int .i64 5)) : Calls Tryz.prog 147 #[.pointer (some ⟨R, 0, none⟩)] w (numsPost w R (flds 5)) := by
 have c4 := cell_four hR c0
 go_enter Tryz.func147, Tryz.ntmps147
 go_wp2_with fail
 go_ret
 exact nums_done w _ R [(1, 1, 15)] _ _ _ (below_four w _ _ _ _) rfl (size_four w _ _ _ _).symm rfl
theorem numbers_6 (R : Nat) (w : World) (hR : R < w.heap.size) (c0 : w.cell? ⟨R, 0, none⟩ = some (.int .i64 6)) : Calls Tryz.prog 147 #[.pointer (some ⟨R, 0, none⟩)] w (numsPost w R (flds 6)) := by
 have c4 := cell_four hR c0
 go_enter Tryz.func147, Tryz.ntmps147
 go_wp2_with fail
 go_region
 go_wp2_with fail
 go_ret
 exact nums_done w _ R [(1, 1, 15), (4, 1, 15)] _ _ _ (below_four w _ _ _ _).drew rfl (size_four w _ _ _ _).symm rfl
theorem numbers_7 (R : Nat) (w : World) (hR : R < w.heap.size) (c0 : w.cell? ⟨R, 0, none⟩ = some (.int .i64 7)) : Calls Tryz.prog 147 #[.pointer (some ⟨R, 0, none⟩)] w (numsPost w R (flds 7)) := by
 have c4 := cell_four hR c0
 go_enter Tryz.func147, Tryz.ntmps147
 go_wp2_with fail
 go_ret
 exact nums_done w _ R [(1, 1, 15)] _ _ _ (below_four w _ _ _ _) rfl (size_four w _ _ _ _).symm rfl
theorem numbers_8 (R : Nat) (w : World) (hR : R < w.heap.size) (c0 : w.cell? ⟨R, 0, none⟩ = some (.int .i64 8)) : Calls Tryz.prog 147 #[.pointer (some ⟨R, 0, none⟩)] w (numsPost w R (flds 8)) := by
 have c4 := cell_four hR c0
 go_enter Tryz.func147, Tryz.ntmps147
 go_wp2_with fail
 go_ret
 exact nums_done w _ R [(3, 0, 31)] _ _ _ (below_four w _ _ _ _) rfl (size_four w _ _ _ _).symm rfl
theorem numbers_9 (R : Nat) (w : World) (hR : R < w.heap.size) (c0 : w.cell? ⟨R, 0, none⟩ = some (.int .i64 9)) : Calls Tryz.prog 147 #[.pointer (some ⟨R, 0, none⟩)] w (numsPost w R (flds 9)) := by
 have c4 := cell_four hR c0
 go_enter Tryz.func147, Tryz.ntmps147
 go_wp2_with fail
 go_region
 go_wp2_with fail
 go_ret
 exact nums_done w _ R [(3, 0, 31), (5, 0, 1073741824)] _ _ _ (below_four w _ _ _ _).drew rfl (size_four w _ _ _ _).symm rfl
theorem numbers_0 (R : Nat) (K : Int) (w : World) (hR : R < w.heap.size) (c0 : w.cell? ⟨R, 0, none⟩ = some (.int .i64 K)) (h1 : ¬ K = 1) (h2 : ¬ K = 2) (h3 : ¬ K = 3) (h4 : ¬ K = 4) (h5 : ¬ K = 5) (h6 : ¬ K = 6) (h7 : ¬ K = 7) (h8 : ¬ K = 8) (h9 : ¬ K = 9) :
  Calls Tryz.prog 147 #[.pointer (some ⟨R, 0, none⟩)] w (numsPost w R (flds K)) := by
 rw [flds_none h1 h2 h3 h4 h5 h6 h7 h8 h9]
 have c4 := cell_four hR c0
 go_enter Tryz.func147, Tryz.ntmps147
 go_wp2_with fail
 go_ret
 exact ⟨none, rfl, below_four w _ _ _ _, fun h => by simp at h⟩
theorem numbers_any {w : World} {R : Nat} {K : Int} (hR : R < w.heap.size) (c0 : w.cell? ⟨R, 0, none⟩ = some (.int .i64 K)) : Calls Tryz.prog 147 #[.pointer (some ⟨R, 0, none⟩)] w (numsPost w R (flds K)) := by
 rcases kinds K with rfl | rfl | rfl | rfl | rfl | rfl | rfl | rfl | rfl | ⟨h1, h2, h3, h4, h5, h6, h7, h8, h9⟩
 ·exact numbers_1 R w hR c0
 ·exact numbers_2 R w hR c0
 ·exact numbers_3 R w hR c0
 ·exact numbers_4 R w hR c0
 ·exact numbers_5 R w hR c0
 ·exact numbers_6 R w hR c0
 ·exact numbers_7 R w hR c0
 ·exact numbers_8 R w hR c0
 ·exact numbers_9 R w hR c0
 ·exact numbers_0 R K w hR c0 h1 h2 h3 h4 h5 h6 h7 h8 h9
set_option maxRecDepth 100000
def chkGo : List Fl -> List Int -> Option (List Int)
 | [], l => some l
 | f :: fs, l => if l.getD f.1 0 < f.2.1 \/ f.2.2 < l.getD f.1 0 then none else chkGo fs (l.set f.1 0)
def chkL (K : Int) (l : List Int) : Bool :=
 match chkGo (flds K) l with
 | none => false
 | some m => decide (0 < (flds K).length /\ m = [K, 0, 0, 0, 0, 0])
theorem flds_off (K : Int) : ∀ f ∈ flds K, 1 <= f.1 /\ f.1 <= 5 /\ 0 <= f.2.1 /\ 0 <= f.2.2 /\ f.2.2 <= 1073741824 := by
 rcases kinds K with rfl | rfl | rfl | rfl | rfl | rfl | rfl | rfl | rfl | ⟨h1, h2, h3, h4, h5, h6, h7, h8, h9⟩
 all_goals first
 | (rw [flds_none h1 h2 h3 h4 h5 h6 h7 h8 h9]; intro f hf; cases hf)
 | (intro f hf; simp [flds] at hf; rcases hf with rfl | rfl | rfl <;> simp)
 | (intro f hf; simp [flds] at hf; rcases hf with rfl | rfl <;> simp)
 | (intro f hf; simp [flds] at hf; subst hf; simp)
theorem flds_len (K : Int) : (flds K).length <= 3 := by
 rcases kinds K with rfl | rfl | rfl | rfl | rfl | rfl | rfl | rfl | rfl | ⟨h1, h2, h3, h4, h5, h6, h7, h8, h9⟩
 all_goals first
 | (rw [flds_none h1 h2 h3 h4 h5 h6 h7 h8 h9]; simp)
 | simp [flds]
theorem drop_getD (fs : List Fl) (k : Nat) (h : k < fs.length) : fs.drop k = fs.getD k (0, 0, 0) :: fs.drop (k + 1) := by
 rw [List.drop_eq_getElem_cons h]
 simp [List.getD_eq_getElem?_getD, h]
theorem getD_mem (fs : List Fl) (k : Nat) (h : k < fs.length) : fs.getD k (0, 0, 0) ∈ fs := by
 simp [List.getD_eq_getElem?_getD, h]
def rv (K S P A T N : Int) : Value := .agg #[.int .i64 K, .int .i64 S, .int .i64 P, .int .i64 A, .int .i64 T, .int .i64 N]
def ChkS (w : World) (K : Int) (a : Option Addr) (R0 : Option (List Int)) (k : Nat) (lk : List Int) (wr : World) : Prop :=
 lk.length = 6 /\ Row wr w.heap.size 47 .i64 lk /\ Row wr (w.heap.size + 1) 47 .i64 [K, 0, 0, 0, 0, 0] /\ NumsAt wr (w.heap.size + 2) w.heap.size a (flds K) /\ chkGo ((flds K).drop k) lk = R0 /\ Below w.heap.size w wr
theorem three_cells {W : World} {g : Nat} {x y z : Value} (h : W.heap[g]? = some (.cells #[x, y, z] 206 (0, 0))) : W.cell? ⟨g, 0, none⟩ = some x /\ W.cell? ⟨g, 1, none⟩ = some y /\ W.cell? ⟨g, 2, none⟩ = some z := by
 refine ⟨?_, ?_, ?_⟩ <;> (rw [cell_of_row W g _ _ 206 _ h]; rfl)
theorem ChkS.alloc {w : World} {K a R0 k lk wr} (h : ChkS w K a R0 k lk wr) (o : Obj) : ChkS w K a R0 k lk (wr.alloc o) :=
 ⟨h.1, h.2.1.alloc o, h.2.2.1.alloc o, h.2.2.2.1.alloc o, h.2.2.2.2.1, h.2.2.2.2.2.alloc h.2.2.2.2.2.size o⟩
theorem ChkS.drew {w : World} {K a R0 k lk wr} (h : ChkS w K a R0 k lk wr) : ChkS w K a R0 k lk wr.drew :=
 ⟨h.1, h.2.1.drew, h.2.2.1.drew, h.2.2.2.1.drew, h.2.2.2.2.1, h.2.2.2.2.2.drew⟩
theorem ChkS.next {w : World} {K a R0 k lk wr} (h : ChkS w K a R0 k lk wr) (o : Nat) (hgo : chkGo ((flds K).drop (k + 1)) (lk.set o 0) = R0) : ChkS w K a R0 (k + 1) (lk.set o 0) (wr.setCell ⟨w.heap.size, o, none⟩ (.int .i64 0)) :=
 ⟨by rw [List.length_set]; exact h.1, h.2.1.stored o 0, h.2.2.1.other (by show w.heap.size ≠ w.heap.size + 1; omega) _, h.2.2.2.1.set (by show w.heap.size < w.heap.size + 2; omega) _, hgo, h.2.2.2.2.2.setCell (Nat.le_refl _) _⟩
theorem six {l : List Int} (h : l.length = 6) : ∃ a b c d e f, l = [a, b, c, d, e, f] := by
 match l, h with
 | [a, b, c, d, e, f], _ => exact ⟨a, b, c, d, e, f, rfl⟩
theorem _root_.Go.Proofs.YtcmmhfjnhlaepabGreatDoor.Row.six {w : World} {g : Nat} {a b c d e f : Int} (h : Row w g 47 .i64 [a, b, c, d, e, f]) : w.cell? ⟨g, 0, none⟩ = some (.int .i64 a) /\ w.cell? ⟨g, 1, none⟩ = some (.int .i64 b) /\ w.cell? ⟨g, 2, none⟩ = some (.int .i64 c) ∧
  w.cell? ⟨g, 3, none⟩ = some (.int .i64 d) /\ w.cell? ⟨g, 4, none⟩ = some (.int .i64 e) /\ w.cell? ⟨g, 5, none⟩ = some (.int .i64 f) :=
 ⟨h.cell 0 (by simp), h.cell 1 (by simp), h.cell 2 (by simp), h.cell 3 (by simp), h.cell 4 (by simp), h.cell 5 (by simp)⟩
theorem check_any (K S P A T N : Int) (w : World) : Calls Tryz.prog 91 #[rv K S P A T N] w fun e w' => e = .returned (.bool (chkL K [K, S, P, A, T, N])) /\ Below w.heap.size w w' := by
 unfold rv chkL
 generalize hR0 : chkGo (flds K) [K, S, P, A, T, N] = R0
 go_enter Tryz.func91, Tryz.ntmps91
 go_upto_region 2 with fail
 have p1 : Row ((w.alloc (.cells #[.int .i64 K, .int .i64 S, .int .i64 P, .int .i64 A, .int .i64 T, .int .i64 N] 47)).alloc (.cells #[.int .i64 K, .int .i64 0, .int .i64 0, .int .i64 0, .int .i64 0, .int .i64 0] 47)) w.heap.size 47 .i64 [K, S, P, A, T, N] := (Row.fresh w 47 .i64 [K, S, P, A, T, N]).alloc _
 have p2 : Row ((w.alloc (.cells #[.int .i64 K, .int .i64 S, .int .i64 P, .int .i64 A, .int .i64 T, .int .i64 N] 47)).alloc (.cells #[.int .i64 K, .int .i64 0, .int .i64 0, .int .i64 0, .int .i64 0, .int .i64 0] 47)) (w.heap.size + 1) 47 .i64 [K, 0, 0, 0, 0, 0] := Row.fresh1 w _ 47 .i64 [K, 0, 0, 0, 0, 0]
 have p3 := below_two w (.cells #[.int .i64 K, .int .i64 S, .int .i64 P, .int .i64 A, .int .i64 T, .int .i64 N] 47) (.cells #[.int .i64 K, .int .i64 0, .int .i64 0, .int .i64 0, .int .i64 0, .int .i64 0] 47)
 have p4 : ((w.alloc (.cells #[.int .i64 K, .int .i64 S, .int .i64 P, .int .i64 A, .int .i64 T, .int .i64 N] 47)).alloc (.cells #[.int .i64 K, .int .i64 0, .int .i64 0, .int .i64 0, .int .i64 0, .int .i64 0] 47)).heap.size = w.heap.size + 2 := by rw [size_alloc, size_alloc]
 generalize ((w.alloc (.cells #[.int .i64 K, .int .i64 S, .int .i64 P, .int .i64 A, .int .i64 T, .int .i64 N] 47)).alloc (.cells #[.int .i64 K, .int .i64 0, .int .i64 0, .int .i64 0, .int .i64 0, .int .i64 0] 47)) = W at *
 have H := Hid.mk (And.intro p1 (And.intro p2 (And.intro p3 p4)))
 clear p1 p2 p3 p4
 go_upto_region 4 with (go_at_call 147; refine (numbers_any (K := K) H.out.1.lt (H.out.1.cell 0 (by simp))).mono ?_; rintro e w1 ⟨a, rfl, b1, n1⟩)
 have hn3 := flds_len K
 rw [H.out.2.2.2] at n1
 have S0 : ChkS w K a R0 0 [K, S, P, A, T, N] w1 := ⟨rfl, H.out.1.call b1, H.out.2.1.call b1, n1, hR0, below3 H.out.2.2.1 b1⟩
 replace S0 := Hid.mk S0
 clear H n1 b1 hR0
 generalize hn : (flds K).length = n at *
 replace hn := Hid.mk hn
 go_loopw [13] (fun i wr => ∃ (k : Nat) (lk : List Int), k <= n /\ i = .int .i64 k /\ ChkS w K a R0 k lk wr) (fun i _ => n - (intOf i).toNat)
 case atStart => exact ⟨0, _, Nat.zero_le _, rfl, S0.out⟩
 case round =>
  clear S0
  obtain ⟨k, lk, hk, rfl, hs⟩ := hrel
  by_cases hkn : k < n
  ·have hkl : k < (flds K).length := by rw [hn.out]; exact hkn
   obtain ⟨g, rfl, hg, hgl, c0, c1, c2⟩ := hs.2.2.2.1.cells k hkl
   have hoff := flds_off K _ (getD_mem _ k hkl)
   have hgo := hs.2.2.2.2.1
   rw [drop_getD _ k hkl, chkGo] at hgo
   generalize (flds K).getD k (0, 0, 0) = f at *
   obtain ⟨o, lo, hi⟩ := f
   simp only at c0 c1 c2 hoff hgo
   generalize hx : lk.getD o 0 = x at *
   have hx2 := hs.2.1.cell o (by rw [hs.1]; omega)
   rw [hx] at hx2
   have HS := Hid.mk (And.intro hs (And.intro hoff hx2))
   clear hs hx hoff hx2
   go_upto_region 6 with fail
   have p1 := HS.out.1.alloc (.cells #[.pointer (some ⟨w.heap.size, o, none⟩), .int .i64 lo, .int .i64 hi] 206)
   have p2 := three_cells (heap_alloc_new wr (.cells #[.pointer (some ⟨w.heap.size, o, none⟩), .int .i64 lo, .int .i64 hi] 206))
   have p3 : (wr.alloc (.cells #[.pointer (some ⟨w.heap.size, o, none⟩), .int .i64 lo, .int .i64 hi] 206)).cell? ⟨w.heap.size, o, none⟩ = some (.int .i64 x) := (((Below.refl _ wr).alloc (Nat.le_refl _) _).cell (p := ⟨w.heap.size, o, none⟩) HS.out.1.2.1.lt).trans HS.out.2.2
   have p4 := p1.2.1.frozen o
   generalize (wr.alloc (.cells #[.pointer (some ⟨w.heap.size, o, none⟩), .int .i64 lo, .int .i64 hi] 206)) = W2 at *
   generalize wr.heap.size = G at *
   obtain ⟨d0, d1, d2⟩ := p2
   replace HS := Hid.mk (And.intro p1 HS.out.2.1)
   clear p1 c0 c1 c2
   by_cases hlo : x < lo
   ·rw [if_pos (Or.inl hlo)] at hgo
    subst hgo
    go_region
    go_wp2_with fail
    go_ret
    exact ⟨rfl, HS.out.1.2.2.2.2.2.drew⟩
   ·by_cases hhi : hi < x
    ·rw [if_pos (Or.inr hhi)] at hgo
     subst hgo
     go_region
     go_wp2_with fail
     go_ret
     exact ⟨rfl, HS.out.1.2.2.2.2.2.drew⟩
    ·rw [if_neg (by omega)] at hgo
     replace hgo := Hid.mk hgo
     go_region
     go_wp2_with fail
     exact ⟨⟨k + 1, _, by omega, by go_num, HS.out.1.drew.next o hgo.out⟩, by simp [intOf]; omega⟩
  ·have hk2 : k = n := by omega
   obtain ⟨hl, hr, hr2, hna, hgo, hb⟩ := hs
   rw [hk2, <- hn.out, List.drop_length, chkGo] at hgo
   subst hgo
   obtain ⟨x0, x1, x2, x3, x4, x5, rfl⟩ := six hl
   obtain ⟨c0, c1, c2, c3, c4, c5⟩ := hr.six
   obtain ⟨e0, e1, e2, e3, e4, e5⟩ := hr2.six
   have HB := Hid.mk hb
   have HN := Hid.mk hn.out
   clear hr hr2 hna hb hl hk2 hn
   by_cases h0 : 0 < n
   ·have hd : decide (0 < (flds K).length) = true := decide_eq_true (by rw [HN.out]; exact h0)
    go_wp2_with fail
    all_goals
     go_ret
     exact ⟨rfl, HB.out⟩
   ·have hd : decide (0 < (flds K).length) = false := decide_eq_false (by rw [HN.out]; exact h0)
    go_wp2_with fail
    all_goals
     go_ret
     exact ⟨rfl, HB.out⟩
def rvL (l : List Int) : Value := .agg (cellsOf .i64 l)
end Go.Proofs.YtcmmhfjnhlaepabGreatDoor.Gp
