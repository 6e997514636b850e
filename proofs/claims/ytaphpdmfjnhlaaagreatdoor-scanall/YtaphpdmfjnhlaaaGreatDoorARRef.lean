/-
  The answer's Num, Fixed and Text. No condition.
-/
import Derived.Test.YtaphpdmfjnhlaaaGreatDoorAK1
namespace Go.Proofs.YtaphpdmfjnhlaaaGreatDoor.Pg
open Go Go.RowKit
set_option maxRecDepth 100000
theorem info5y : (Tryz.prog.info? 5).map (fun i => (i.zero, i.size, i.bytes)) = some (some (.int .u8 0), 1, 1) := by kernel_rfl
theorem Sl.hasBytes {w : World} {e v g} {l : List UInt8} (h : Sl w e .u8 v g (toI l)) : HasBytes w g l := by
 intro j hj
 have hj2 : j < (toI l).length := by rw [toI_length]; exact hj
 exact ⟨by rw [h.cell j hj2, toI_getD], h.frozen j hj2⟩
theorem Sl.back {w : World} {v g} {l : List UInt8} (h : Sl w 5 .u8 v g (toI l)) : (convert 64 9 v).run Tryz.prog w = .ok (.string ⟨l.toArray⟩) w := by
 obtain ⟨cap, rfl, _⟩ := h.val
 exact (Sl.hasBytes h).back 64 9 5 _ cap (toI_length l) Tryz.underlying64 Tryz.underlying5 Tryz.underlying9
theorem toI_snoc (l : List UInt8) (d : UInt8) : toI l ++ [(d.toNat : Int)] = toI (l ++ [d]) := by simp [toI]
theorem one_byte (wr : World) (d : UInt8) : ∀ j, j < 1 -> (wr.alloc (.cells #[.int .u8 (d.toNat : Int)] 5)).cell? ((⟨wr.heap.size, 0, none⟩ : Addr).add j) = some (.int .u8 ([(d.toNat : Int)].getD j 0)) := one_cell wr .u8 _ 5
theorem low_byte (m : Nat) : ∃ d : UInt8, (m : Int) % 256 = (d.toNat : Int) /\ d = UInt8.ofNat (m % 256) :=
 ⟨UInt8.ofNat (m % 256), by rw [byte_mod]; rfl, rfl⟩
theorem refFixed_any (n : Nat) (hn : n < 18446744073709551616) (b : Int) (w : World) :
  Calls Tryz.prog 59 #[.int .u64 n, .int .i64 b] w fun e w' => e = .returned (.string ⟨(fixL n (wid b).toNat).toArray⟩) /\ Below w.heap.size w w' := by
 obtain ⟨h0, h8⟩ := wid_le b
 obtain ⟨M, hM⟩ := Int.eq_ofNat_of_zero_le h0
 have hM8 : M <= 8 := by omega
 have hW : (M : Int) = wid b := hM.symm
 rw [hM, Int.toNat_natCast]
 have hgo : ∀ k : Nat, k < M -> (k : Int) < b /\ (k : Int) < 8 := by
  intro k hk
  unfold wid at hW
  split at hW
  ·omega
  ·split at hW <;> omega
 have hend : ¬ (M : Int) < b \/ ¬ (M : Int) < 8 := by
  unfold wid at hW
  split at hW
  ·omega
  ·split at hW <;> omega
 have HG := Hid.mk (And.intro hgo hend)
 clear hgo hend hW hM h0 h8
 generalize hR : (⟨(fixL n M).toArray⟩ : ByteArray) = R
 have HR := Hid.mk hR
 clear hR
 go_enter Tryz.func59, Tryz.ntmps59
 go_wp2_with fail
 go_loopw [0, 5, 6] (fun x v i wr => ∃ (g k m : Nat), Sl wr 5 .u8 v g (toI (fixL n k)) /\ k <= M /\ i = .int .i64 k /\ x = .int .u64 m /\ m = n / 256 ^ k /\ w.heap.size <= g /\ Below w.heap.size w wr)
  (fun _ _ i _ => M - (intOf i).toNat)
 case atStart =>
  exact ⟨w.heap.size, 0, n, Sl.ofRow (Row.fresh w 5 .u8 []), Nat.zero_le _, rfl, rfl, by simp, Nat.le_refl _, (Below.refl w.heap.size w).alloc (Nat.le_refl _) _⟩
 case round =>
  obtain ⟨g, k, m, hs, hk, rfl, rfl, hm, hg, qb⟩ := hrel
  obtain ⟨cap, rfl, hcap⟩ := hs.val
  have hm64 : m < 18446744073709551616 := by
   have := Nat.div_le_self n (256 ^ k)
   omega
  by_cases hkM : k < M
  ·obtain ⟨t1, t2⟩ := HG.out.1 k hkM
   obtain ⟨d, hd1, hd2⟩ := low_byte m
   have hdl := d.toNat_lt
   have hlen : (toI (fixL n k)).length + 1 <= 1000000 := by rw [toI_length, fixL_length]; omega
   have HQ := Hid.mk (And.intro hs (And.intro hm (And.intro hg (And.intro qb (And.intro hd2 hlen)))))
   clear hs hm hg qb hd2 hlen
   go_wp2_with (first | (at_builtin; refine wpList_append_sl rfl (.tmp 17) (.tmp 21) 64 rfl Tryz.underlying64 info5y rfl (by decide) rfl (HQ.out.1.alloc _) ⟨wr.heap.size, 0, none⟩ 1 1 [(d.toNat : Int)] rfl rfl (one_byte wr d) HQ.out.2.2.2.2.2 ?_; intro v2 g2 w2 hs2 hgr hgg))
   obtain ⟨hs, hm, hg, qb, hd2, hlen⟩ := HQ.out
   have hz := qb.size
   have qb1 := qb.alloc hz (.cells #[Value.int IntKind.u8 (d.toNat : Int)] 5)
   rw [toI_snoc, hd2, hm, <- fixL_snoc] at hs2
   refine ⟨⟨g2, k + 1, m / 256, hs2, by omega, by go_num, by go_num, ?_, ?_, below_grown qb1 hgr qb1.size hg⟩, by simp [intOf]; omega⟩
   ·rw [hm, Nat.pow_succ, Nat.div_div_eq_div_mul]
   ·rw [size_alloc] at hgg
    omega
  ·have hk2 : k = M := by omega
   have hbk := (Sl.back hs)
   rw [hk2, HR.out] at hbk
   have he := HG.out.2
   rw [<- hk2] at he
   have htl : (toI (fixL n k)).length = k := by rw [toI_length, fixL_length]
   rw [<- hk2] at hbk
   have HQ := Hid.mk qb
   clear hs qb hm
   rw [htl] at hbk |-
   clear hk2 hk hkM
   rcases he with he | he
   ·go_wp2_with fail
    go_ret
    exact ⟨rfl, HQ.out⟩
   ·by_cases hkb : (k : Int) < b
    ·go_wp2_with fail
     go_ret
     exact ⟨rfl, HQ.out⟩
    ·go_wp2_with fail
     go_ret
     exact ⟨rfl, HQ.out⟩
end Go.Proofs.YtaphpdmfjnhlaaaGreatDoor.Pg
