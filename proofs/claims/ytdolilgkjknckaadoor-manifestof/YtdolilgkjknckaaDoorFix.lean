/-
  The reader's Fixed, Num and Text. No condition.
-/
import Derived.Test.YtdolilgkjknckaaDoorRd
import Derived.Test.YtdolilgkjknckaaDoorNum
import Derived.Laws.Bits64b
namespace Go.Proofs.YtdolilgkjknckaaDoor
open Go Go.RowKit

theorem rB_small (s : ByteArray) (e n : Int) (h : n ≤ 8) : (rB s e n).2.2.size ≤ 8 := by
  unfold rB
  split
  · show 0 ≤ 8
    omega
  · split
    · show 0 ≤ 8
      omega
    · rw [ByteArray.size_extract]
      omega
theorem take_succ_at (s : ByteArray) (k : Nat) (h : k < s.size) : s.data.toList.take (k + 1) = s.data.toList.take k ++ [s.data.toList.getD k 0] := by
  have hl : k < s.data.toList.length := by rw [Array.length_toList]; exact h
  rw [List.take_succ_eq_append_getElem hl, List.getD_eq_getElem?_getD, List.getElem?_eq_getElem hl]
  rfl
/-- a byte at its place -/
theorem or_place (a k : Nat) (b : UInt8) (ha : a < 256 ^ k) (hk : k < 8) : bits .or .u64 (a : Int) (IntKind.u64.wrap (IntKind.u64.wrap (b.toNat : Int) * 2 ^ (8 * k))) = ((a + 256 ^ k * b.toNat : Nat) : Int) := by
  have hb := b.toNat_lt
  have h64 : 256 ^ k * 256 ≤ 18446744073709551616 := by
    rw [← Nat.pow_succ]
    exact (Nat.pow_le_pow_right (show 256 > 0 by omega) (show k + 1 ≤ 8 by omega) : 256 ^ (k + 1) ≤ 256 ^ 8)
  have hm : 256 ^ k * b.toNat < 18446744073709551616 := by
    have := Nat.mul_le_mul_left (256 ^ k) (show b.toNat ≤ 255 by omega)
    have := Nat.pow_pos (n := k) (show 0 < 256 by omega)
    omega
  have e1 : IntKind.u64.wrap (b.toNat : Int) = (b.toNat : Int) := by rw [IntKind.wrap_u64]; omega
  have e2 : IntKind.u64.wrap ((b.toNat : Int) * 2 ^ (8 * k)) = ((256 ^ k * b.toNat : Nat) : Int) := by
    have e3 : ((b.toNat : Int) * 2 ^ (8 * k)) = ((256 ^ k * b.toNat : Nat) : Int) := by
      rw [pow256, Int.natCast_mul, Int.natCast_pow, Int.mul_comm]
      rfl
    rw [e3, IntKind.wrap_u64]
    omega
  rw [e1, e2, bits_or_u64_nat _ _ (by omega) hm, Nat.or_comm]
  have h3 := Nat.two_pow_add_eq_or_of_lt (i := 8 * k) (b := a) (by rw [← pow256]; exact ha) b.toNat
  rw [← pow256] at h3
  rw [← h3, Nat.add_comm]
theorem fixed_any {w : World} {g s e} (h : Rd w g s e) (n : Int) : Calls Tryd.prog 67 #[.pointer (some ⟨g, 0, none⟩), .int .i64 n] w fun x w' =>
    x = .returned (.int .u64 (leL (rB s e (wid n)).2.2.data.toList)) ∧ Rd w' g (rB s e (wid n)).1 (rB s e (wid n)).2.1 ∧ w.grownBy w' (some g) := by
  have hsm := rB_small s e (wid n) (wid_le n).2
  generalize hR : rB s e (wid n) = R at *
  obtain ⟨s', e', t⟩ := R
  simp only at hsm
  have HH := Hid.mk h
  clear h
  have hconv := fun w s => run_bytes_of_string (P := Tryd.prog) w 9 50 5 s Tryd.underlying9 Tryd.underlying50 Tryd.underlying5
  go_enter Tryd.func67, Tryd.ntmps67
  go_wp2_with (first
    | (go_at_call 78; refine (width_any _ _).mono ?_; rintro x w' ⟨rfl, rfl⟩)
    | (go_at_call 48; refine (bytes_any HH.out _).mono ?_; rintro x w1 ⟨rfl, r1, g1⟩; rw [hR] at r1 ⊢; replace HH := Hid.mk (And.intro r1 g1); clear r1 g1))
  have hB0 := (HasBytes.converted w1 t (grownCap w1 t.size 0 5) 5).drew
  have hlen : Hid (t.data.toList.length = t.size) := Array.length_toList
  have hz := HH.out.1.lt
  go_loopw [5, 14] (fun v i wr => ∃ k : Nat, k ≤ t.size ∧ i = .int .i64 k ∧ v = .int .u64 (leL (t.data.toList.take k)) ∧ HasBytes wr w1.heap.size t.data.toList ∧ Rd wr g s' e' ∧ w'.grownBy wr (some g)) (fun _ i _ => t.size - (intOf i).toNat)
  case atStart => exact ⟨0, Nat.zero_le _, rfl, by simp [leL], hB0, (HH.out.1.alloc _).drew, grown_drewN (grown_alloc HH.out.2 _) 1⟩
  case round =>
    clear hB0 hconv
    obtain ⟨k, hk, rfl, rfl, hB, hr, hgr⟩ := hrel
    by_cases hks : k < t.size
    · obtain ⟨c1, _⟩ := hB k (by rw [hlen.out]; exact hks)
      have hts := take_succ_at t k hks
      generalize hb : t.data.toList.getD k 0 = b at *
      generalize hl : t.data.toList.take k = l at *
      have HQ := Hid.mk (And.intro hB (And.intro hr (And.intro hgr (And.intro hts (And.intro hb hl)))))
      clear hB hr hgr hts hb hl
      go_wp2_with fail
      obtain ⟨hB, hr, hgr, hts, hb, hl⟩ := HQ.out
      have hll : l.length = k := by rw [← hl, List.length_take, hlen.out]; omega
      have hlt := leL_lt l
      rw [hll] at hlt
      refine ⟨⟨k + 1, by omega, by go_num, ?_, hB, hr, hgr⟩, by simp [intOf]; omega⟩
      rw [hts, leL_append, hll, or_place _ _ _ hlt (by omega)]
      simp [leL]
    · have hk2 : k = t.size := by omega
      subst hk2
      have htk : t.data.toList.take t.size = t.data.toList := List.take_of_length_le (by rw [hlen.out]; exact Nat.le_refl _)
      rw [htk]
      clear htk
      have HQ := Hid.mk (And.intro hr hgr)
      clear hB hr hgr
      generalize hV : leL t.data.toList = V
      replace hV := Hid.mk hV
      go_wp2_with fail
      go_ret
      exact ⟨by rw [hV.out]; rfl, HQ.out⟩

/-- what a reader's Fixed leaves and answers -/
def rF (s : ByteArray) (e n : Int) : ByteArray × Int × Nat := ((rB s e (wid n)).1, (rB s e (wid n)).2.1, leL (rB s e (wid n)).2.2.data.toList)
theorem fixedF_any {w : World} {g s e} (h : Rd w g s e) (n : Int) : Calls Tryd.prog 67 #[.pointer (some ⟨g, 0, none⟩), .int .i64 n] w fun x w' =>
    x = .returned (.int .u64 (rF s e n).2.2) ∧ Rd w' g (rF s e n).1 (rF s e n).2.1 ∧ w.grownBy w' (some g) := fixed_any h n
theorem pow256_le8 (k : Nat) (h : k ≤ 8) : 256 ^ k ≤ 18446744073709551616 := (Nat.pow_le_pow_right (show 256 > 0 by omega) h : 256 ^ k ≤ 256 ^ 8)
theorem rF_lt (s : ByteArray) (e n : Int) : (rF s e n).2.2 < 18446744073709551616 := by
  refine Nat.lt_of_lt_of_le (leL_lt _) (pow256_le8 _ ?_)
  rw [Array.length_toList]
  exact rB_small s e (wid n) (wid_le n).2
/-- what a reader's Num leaves and answers -/
def rN (s : ByteArray) (e : Int) (most : Int) : ByteArray × Int × Nat :=
  if 8 < (rF s e 1).2.2 then (⟨#[]⟩, 3, 0)
  else if (rF (rF s e 1).1 (rF s e 1).2.1 (rF s e 1).2.2).2.1 ≠ 0 then ((rF (rF s e 1).1 (rF s e 1).2.1 (rF s e 1).2.2).1, (rF (rF s e 1).1 (rF s e 1).2.1 (rF s e 1).2.2).2.1, 0)
  else if 0 < (rF s e 1).2.2 ∧ (rF (rF s e 1).1 (rF s e 1).2.1 (rF s e 1).2.2).2.2 < 256 ^ ((rF s e 1).2.2 - 1) then (⟨#[]⟩, 3, 0)
  else if most < (rF (rF s e 1).1 (rF s e 1).2.1 (rF s e 1).2.2).2.2 then (⟨#[]⟩, 5, 0)
  else rF (rF s e 1).1 (rF s e 1).2.1 (rF s e 1).2.2
theorem rF_byte (s : ByteArray) (e : Int) : (rF s e 1).2.2 < 256 := by
  refine Nat.lt_of_lt_of_le (leL_lt _) ?_
  have h : (rB s e (wid 1)).2.2.data.toList.length ≤ 1 := by
    rw [Array.length_toList]
    show (rB s e 1).2.2.size ≤ 1
    unfold rB
    split
    · show 0 ≤ 1
      omega
    · split
      · show 0 ≤ 1
        omega
      · rw [ByteArray.size_extract]
        omega
  exact (Nat.pow_le_pow_right (show 256 > 0 by omega) h : 256 ^ _ ≤ 256 ^ 1)
theorem shifted (n k : Nat) : (((n : Int) / 2 ^ (8 * k)) == 0) = decide (n < 256 ^ k) := by
  have e : ((n : Int) / 2 ^ (8 * k)) = ((n / 256 ^ k : Nat) : Int) := by
    rw [pow256, Int.natCast_ediv, Int.natCast_pow]
    rfl
  have hp := Nat.pow_pos (n := k) (show 0 < 256 by omega)
  rw [e]
  by_cases h : n < 256 ^ k
  · rw [Nat.div_eq_of_lt h, decide_eq_true h]
    rfl
  · have : 0 < n / 256 ^ k := Nat.div_pos (by omega) hp
    rw [decide_eq_false h]
    generalize n / 256 ^ k = q at *
    rw [beq_eq_false_iff_ne]
    omega
theorem num_any {w : World} {g s e} (h : Rd w g s e) (most : Int) : Calls Tryd.prog 47 #[.pointer (some ⟨g, 0, none⟩), .int .u64 most] w fun x w' =>
    x = .returned (.int .u64 (rN s e most).2.2) ∧ Rd w' g (rN s e most).1 (rN s e most).2.1 ∧ w.grownBy w' (some g) := by
  have hc := rF_byte s e
  have HH := Hid.mk (And.intro h (grown_refl w (some g)))
  clear h
  unfold rN
  generalize hq1 : rF s e 1 = q1 at *
  obtain ⟨s1, e1, c⟩ := q1
  simp only at hc ⊢
  by_cases h8 : 8 < c
  · rw [if_pos h8]
    generalize hq2 : rF ⟨#[]⟩ 3 c = q2
    have hq3 : q2 = (⟨#[]⟩, 3, 0) := by
      rw [← hq2]
      unfold rF rB
      rw [if_pos (by decide)]
      rfl
    rw [hq3] at hq2
    go_enter Tryd.func47, Tryd.ntmps47
    go_wp2_with (first
      | (go_at_call 67; refine (fixedF_any HH.out.1 _).mono ?_; rintro x w1 ⟨rfl, r1, g1⟩; (first | rw [hq1] at r1 ⊢ | rw [hq2] at r1 ⊢); replace HH := Hid.mk (And.intro r1 (grown_trans HH.out.2 g1)); clear r1 g1)
      | (go_at_call 26; refine (err_any HH.out.1).mono ?_; rintro x w' ⟨rfl, rfl⟩)
      | (go_at_call 68; refine (fail_any HH.out.1 _).mono ?_; rintro x w1 ⟨rfl, r1, g1⟩; replace HH := Hid.mk (And.intro r1 (grown_trans HH.out.2 g1)); clear r1 g1))
    go_ret
    exact ⟨rfl, HH.out⟩
  · rw [if_neg h8]
    have hn := rF_lt s1 e1 c
    generalize hq2 : rF s1 e1 c = q2 at *
    obtain ⟨s2, e2, n⟩ := q2
    simp only at hn ⊢
    by_cases he : e2 = 0
    · subst he
      rw [if_neg (by decide)]
      by_cases hc0 : 0 < c
      · have hsh := shifted n (c - 1)
        by_cases hz : n < 256 ^ (c - 1)
        · rw [if_pos ⟨hc0, hz⟩]
          rw [decide_eq_true hz] at hsh
          go_enter Tryd.func47, Tryd.ntmps47
          go_wp2_with (first
      | (go_at_call 67; refine (fixedF_any HH.out.1 _).mono ?_; rintro x w1 ⟨rfl, r1, g1⟩; (first | rw [hq1] at r1 ⊢ | rw [hq2] at r1 ⊢); replace HH := Hid.mk (And.intro r1 (grown_trans HH.out.2 g1)); clear r1 g1)
      | (go_at_call 26; refine (err_any HH.out.1).mono ?_; rintro x w' ⟨rfl, rfl⟩)
      | (go_at_call 68; refine (fail_any HH.out.1 _).mono ?_; rintro x w1 ⟨rfl, r1, g1⟩; replace HH := Hid.mk (And.intro r1 (grown_trans HH.out.2 g1)); clear r1 g1))
          go_ret
          exact ⟨rfl, HH.out⟩
        · rw [if_neg (fun hh => hz hh.2)]
          rw [decide_eq_false hz] at hsh
          by_cases hm : most < n
          · rw [if_pos hm]
            go_enter Tryd.func47, Tryd.ntmps47
            go_wp2_with (first
      | (go_at_call 67; refine (fixedF_any HH.out.1 _).mono ?_; rintro x w1 ⟨rfl, r1, g1⟩; (first | rw [hq1] at r1 ⊢ | rw [hq2] at r1 ⊢); replace HH := Hid.mk (And.intro r1 (grown_trans HH.out.2 g1)); clear r1 g1)
      | (go_at_call 26; refine (err_any HH.out.1).mono ?_; rintro x w' ⟨rfl, rfl⟩)
      | (go_at_call 68; refine (fail_any HH.out.1 _).mono ?_; rintro x w1 ⟨rfl, r1, g1⟩; replace HH := Hid.mk (And.intro r1 (grown_trans HH.out.2 g1)); clear r1 g1))
            go_ret
            exact ⟨rfl, HH.out⟩
          · rw [if_neg hm]
            go_enter Tryd.func47, Tryd.ntmps47
            go_wp2_with (first
      | (go_at_call 67; refine (fixedF_any HH.out.1 _).mono ?_; rintro x w1 ⟨rfl, r1, g1⟩; (first | rw [hq1] at r1 ⊢ | rw [hq2] at r1 ⊢); replace HH := Hid.mk (And.intro r1 (grown_trans HH.out.2 g1)); clear r1 g1)
      | (go_at_call 26; refine (err_any HH.out.1).mono ?_; rintro x w' ⟨rfl, rfl⟩)
      | (go_at_call 68; refine (fail_any HH.out.1 _).mono ?_; rintro x w1 ⟨rfl, r1, g1⟩; replace HH := Hid.mk (And.intro r1 (grown_trans HH.out.2 g1)); clear r1 g1))
            go_ret
            exact ⟨rfl, HH.out⟩
      · rw [if_neg (fun hh => hc0 hh.1)]
        by_cases hm : most < n
        · rw [if_pos hm]
          go_enter Tryd.func47, Tryd.ntmps47
          go_wp2_with (first
      | (go_at_call 67; refine (fixedF_any HH.out.1 _).mono ?_; rintro x w1 ⟨rfl, r1, g1⟩; (first | rw [hq1] at r1 ⊢ | rw [hq2] at r1 ⊢); replace HH := Hid.mk (And.intro r1 (grown_trans HH.out.2 g1)); clear r1 g1)
      | (go_at_call 26; refine (err_any HH.out.1).mono ?_; rintro x w' ⟨rfl, rfl⟩)
      | (go_at_call 68; refine (fail_any HH.out.1 _).mono ?_; rintro x w1 ⟨rfl, r1, g1⟩; replace HH := Hid.mk (And.intro r1 (grown_trans HH.out.2 g1)); clear r1 g1))
          go_ret
          exact ⟨rfl, HH.out⟩
        · rw [if_neg hm]
          go_enter Tryd.func47, Tryd.ntmps47
          go_wp2_with (first
      | (go_at_call 67; refine (fixedF_any HH.out.1 _).mono ?_; rintro x w1 ⟨rfl, r1, g1⟩; (first | rw [hq1] at r1 ⊢ | rw [hq2] at r1 ⊢); replace HH := Hid.mk (And.intro r1 (grown_trans HH.out.2 g1)); clear r1 g1)
      | (go_at_call 26; refine (err_any HH.out.1).mono ?_; rintro x w' ⟨rfl, rfl⟩)
      | (go_at_call 68; refine (fail_any HH.out.1 _).mono ?_; rintro x w1 ⟨rfl, r1, g1⟩; replace HH := Hid.mk (And.intro r1 (grown_trans HH.out.2 g1)); clear r1 g1))
          go_ret
          exact ⟨rfl, HH.out⟩
    · rw [if_pos he]
      go_enter Tryd.func47, Tryd.ntmps47
      go_wp2_with (first
      | (go_at_call 67; refine (fixedF_any HH.out.1 _).mono ?_; rintro x w1 ⟨rfl, r1, g1⟩; (first | rw [hq1] at r1 ⊢ | rw [hq2] at r1 ⊢); replace HH := Hid.mk (And.intro r1 (grown_trans HH.out.2 g1)); clear r1 g1)
      | (go_at_call 26; refine (err_any HH.out.1).mono ?_; rintro x w' ⟨rfl, rfl⟩)
      | (go_at_call 68; refine (fail_any HH.out.1 _).mono ?_; rintro x w1 ⟨rfl, r1, g1⟩; replace HH := Hid.mk (And.intro r1 (grown_trans HH.out.2 g1)); clear r1 g1))
      go_ret
      exact ⟨rfl, HH.out⟩
theorem rN_le (s : ByteArray) (e most : Int) (h : 0 ≤ most) : ((rN s e most).2.2 : Int) ≤ most := by
  unfold rN
  split
  · exact h
  · split
    · exact h
    · split
      · exact h
      · split
        · exact h
        · omega
/-- up to so much -/
def upTo (most : Int) : Int := if most < 0 then 0 else most
theorem upTo_nonneg (m : Int) : 0 ≤ upTo m := by unfold upTo; split <;> omega
theorem upTo_le (m : Int) (h : m ≤ 9223372036854775807) : upTo m ≤ 9223372036854775807 := by unfold upTo; split <;> omega
/-- what a reader's Text leaves and answers -/
def rT (s : ByteArray) (e : Int) (most : Int) : ByteArray × Int × ByteArray := rB (rN s e (upTo most)).1 (rN s e (upTo most)).2.1 (rN s e (upTo most)).2.2
/- no reader -/
theorem fixed_nil (n : Int) (w : World) : Calls Tryd.prog 67 #[.pointer none, .int .i64 n] w fun x w' => x = .returned (.int .u64 0) ∧ Below w.heap.size w w' := by
  have hconv := fun w s => run_bytes_of_string (P := Tryd.prog) w 9 50 5 s Tryd.underlying9 Tryd.underlying50 Tryd.underlying5
  go_enter Tryd.func67, Tryd.ntmps67
  go_wp2_with (first
    | (go_at_call 78; refine (width_any _ _).mono ?_; rintro x w' ⟨rfl, rfl⟩)
    | (go_at_call 48; refine (bytes_nil _ _).mono ?_; rintro x w' ⟨rfl, rfl⟩))
  go_loopw [5, 14] (fun v i wr => i = .int .i64 0 ∧ v = .int .u64 0 ∧ Below w'.heap.size w' wr) (fun _ _ _ => 0)
  case atStart => exact ⟨rfl, rfl, ((Below.refl w'.heap.size w').alloc (Nat.le_refl _) _).drew⟩
  case round =>
    clear hconv
    obtain ⟨rfl, rfl, hb⟩ := hrel
    have HB := Hid.mk hb
    clear hb
    go_wp2_with fail
    go_ret
    exact ⟨rfl, HB.out⟩
theorem num_nil (most : Int) (w : World) : Calls Tryd.prog 47 #[.pointer none, .int .u64 most] w fun x w' => x = .returned (.int .u64 0) ∧ Below w.heap.size w w' := by
  have hb := Below.refl w.heap.size w
  go_enter Tryd.func47, Tryd.ntmps47
  go_wp2_with (first
    | (go_at_call 67; refine (fixed_nil _ _).mono ?_; rintro x w1 ⟨rfl, b1⟩; replace hb := below3 hb b1; clear b1)
    | (go_at_call 26; refine (err_nil _).mono ?_; rintro x w' ⟨rfl, rfl⟩))
  go_ret
  exact ⟨rfl, hb⟩
end Go.Proofs.YtdolilgkjknckaaDoor
