/-
  The answer's Num, Fixed and Text. No condition.
-/
import Derived.Test.YtdolilgkjknckaaDoorEnc
namespace Go.Proofs.YtdolilgkjknckaaDoor
open Go Go.RowKit

theorem info5y : (Tryd.prog.info? 5).map (fun i => (i.zero, i.size, i.bytes)) = some (some (.int .u8 0), 1, 1) := by kernel_rfl
theorem Sl.hasBytes {w : World} {e v g} {l : List UInt8} (h : Sl w e .u8 v g (toI l)) : HasBytes w g l := by
  intro j hj
  have hj2 : j < (toI l).length := by rw [toI_length]; exact hj
  exact ⟨by rw [h.cell j hj2, toI_getD], h.frozen j hj2⟩
/-- 'string(b)' -/
theorem Sl.back {w : World} {v g} {l : List UInt8} (h : Sl w 5 .u8 v g (toI l)) : (convert 50 9 v).run Tryd.prog w = .ok (.string ⟨l.toArray⟩) w := by
  obtain ⟨cap, rfl, _⟩ := h.val
  exact h.hasBytes.back 50 9 5 _ cap (toI_length l) Tryd.underlying50 Tryd.underlying5 Tryd.underlying9
theorem toI_snoc (l : List UInt8) (d : UInt8) : toI l ++ [(d.toNat : Int)] = toI (l ++ [d]) := by simp [toI]
theorem one_byte (wr : World) (d : UInt8) : ∀ j, j < 1 → (wr.alloc (.cells #[.int .u8 (d.toNat : Int)] 5)).cell? ((⟨wr.heap.size, 0, none⟩ : Addr).add j) = some (.int .u8 ([(d.toNat : Int)].getD j 0)) := one_cell wr .u8 _ 5
theorem low_byte (m : Nat) : ∃ d : UInt8, (m : Int) % 256 = (d.toNat : Int) ∧ d = UInt8.ofNat (m % 256) :=
  ⟨UInt8.ofNat (m % 256), by rw [byte_mod]; rfl, rfl⟩
theorem refNum_any (n : Nat) (hn : n < 18446744073709551616) (w : World) :
    Calls Tryd.prog 51 #[.int .u64 n] w fun e w' => e = .returned (.string ⟨(numL n).toArray⟩) ∧ Below w.heap.size w w' := by
  have h8 := nb_le8 n hn
  rw [← digs_length] at h8
  generalize hR : (⟨(numL n).toArray⟩ : ByteArray) = R
  have HR := Hid.mk (And.intro hR h8)
  clear hR h8
  go_enter Tryd.func51, Tryd.ntmps51
  go_wp2_with fail
  go_loopw [0, 3] (fun x v wr => ∃ (l : List UInt8) (g m : Nat), Sl wr 5 .u8 v g (toI l) ∧ x = .int .u64 m ∧ m < 18446744073709551616 ∧ l ++ digs m = digs n ∧ w.heap.size ≤ g ∧ Below w.heap.size w wr)
    (fun x _ _ => (intOf x).toNat)
  case atStart =>
    exact ⟨[], w.heap.size, n, Sl.ofRow (Row.fresh w 5 .u8 []), rfl, hn, rfl, Nat.le_refl _, (Below.refl w.heap.size w).alloc (Nat.le_refl _) _⟩
  case round =>
    obtain ⟨l, g, m, hs, rfl, hm, hd, hg, qb⟩ := hrel
    obtain ⟨cap, rfl, hcap⟩ := hs.val
    have hl8 : l.length ≤ 8 := by
      have := congrArg List.length hd
      rw [List.length_append] at this
      have := HR.out.2
      omega
    by_cases hm0 : (0 : Int) < (m : Int)
    · obtain ⟨d, hd1, hd2⟩ := low_byte m
      have hdl := d.toNat_lt
      rw [digs_step m (by omega), ← hd2] at hd
      have hlen : (toI l).length + 1 ≤ 1000000 := by rw [toI_length]; omega
      have HQ := Hid.mk (And.intro hs (And.intro hd (And.intro hg (And.intro qb (And.intro hd2 hlen)))))
      clear hs hd hg qb hd2 hlen
      go_wp2_with (first | (at_builtin; refine wpList_append_sl rfl (.tmp 7) (.tmp 11) 50 rfl Tryd.underlying50 info5y rfl (by decide) rfl (HQ.out.1.alloc _) ⟨wr.heap.size, 0, none⟩ 1 1 [(d.toNat : Int)] rfl rfl (one_byte wr d) HQ.out.2.2.2.2.2 ?_; intro v2 g2 w2 hs2 hgr hgg))
      obtain ⟨hs, hd, hg, qb, hd2, hlen⟩ := HQ.out
      have hz := qb.size
      have qb1 := qb.alloc hz (.cells #[Value.int IntKind.u8 (d.toNat : Int)] 5)
      rw [toI_snoc] at hs2
      refine ⟨⟨l ++ [d], g2, m / 256, hs2, by go_num, by omega, by rw [← hd]; simp, ?_, below_grown qb1 hgr qb1.size hg⟩, by simp [intOf]; omega⟩
      rw [size_alloc] at hgg
      omega
    · have hm1 : m = 0 := by omega
      rw [hm1, digs_zero, List.append_nil] at hd
      have hbk := fun o => (hs.alloc o).back
      have hk : l.length = nb n := by rw [hd, digs_length]
      have hone := run_one l.length (by omega)
      have hwr : IntKind.u8.wrap (l.length : Int) = l.length := by simp [IntKind.wrap, IntKind.bits, IntKind.signed]; omega
      have hsum : (⟨#[UInt8.ofNat l.length]⟩ : ByteArray) ++ ⟨l.toArray⟩ = R := by
        rw [← HR.out.1, hk, hd]
        unfold numL
        apply ByteArray.ext
        simp
      have hz1 : (⟨#[UInt8.ofNat l.length]⟩ : ByteArray).size = 1 := rfl
      have hz2 : (⟨l.toArray⟩ : ByteArray).size ≤ 8 := by
        show l.toArray.size ≤ 8
        rw [List.size_toArray]
        exact hl8
      have htl := toI_length l
      have HQ := Hid.mk (And.intro hs (And.intro qb hsum))
      clear hs qb hsum hd hk hm1
      generalize (⟨#[UInt8.ofNat l.length]⟩ : ByteArray) = O at *
      generalize (⟨l.toArray⟩ : ByteArray) = F at *
      rw [htl] at hbk hcap ⊢
      clear htl
      go_wp2_with fail
      go_ret
      exact ⟨by rw [← HQ.out.2.2]; rfl, HQ.out.2.1.alloc HQ.out.2.1.size _⟩
end Go.Proofs.YtdolilgkjknckaaDoor
