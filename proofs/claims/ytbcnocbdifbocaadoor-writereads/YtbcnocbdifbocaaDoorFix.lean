/-
  The reader's Fixed, Num and Text. No condition.
-/
import Derived.Test.YtbcnocbdifbocaaDoorRd
import Derived.Test.YtbcnocbdifbocaaDoorNum
import Derived.Laws.Bits64b
namespace Go.Proofs.YtbcnocbdifbocaaDoor.Pg
open Go Go.RowKit

theorem rB_small (s : ByteArray) (e n : Int) (h : n ≤ 8) : (rB s e n).2.2.size ≤ 8 := by
  unfold rB
  split
  · show 0 ≤ 8
    omega
  · split
    · show 0 ≤ 8
      omega
    · rw [ByteArray.size_extract]
      omega
theorem take_succ_at (s : ByteArray) (k : Nat) (h : k < s.size) : s.data.toList.take (k + 1) = s.data.toList.take k ++ [s.data.toList.getD k 0] := by
  have hl : k < s.data.toList.length := by rw [Array.length_toList]; exact h
  rw [List.take_succ_eq_append_getElem hl, List.getD_eq_getElem?_getD, List.getElem?_eq_getElem hl]
  rfl
/-- a byte at its place -/
theorem or_place (a k : Nat) (b : UInt8) (ha : a < 256 ^ k) (hk : k < 8) : bits .or .u64 (a : Int) (IntKind.u64.wrap (IntKind.u64.wrap (b.toNat : Int) * 2 ^ (8 * k))) = ((a + 256 ^ k * b.toNat : Nat) : Int) := by
  have hb := b.toNat_lt
  have h64 : 256 ^ k * 256 ≤ 18446744073709551616 := by
    rw [← Nat.pow_succ]
    exact (Nat.pow_le_pow_right (show 256 > 0 by omega) (show k + 1 ≤ 8 by omega) : 256 ^ (k + 1) ≤ 256 ^ 8)
  have hm : 256 ^ k * b.toNat < 18446744073709551616 := by
    have := Nat.mul_le_mul_left (256 ^ k) (show b.toNat ≤ 255 by omega)
    have := Nat.pow_pos (n := k) (show 0 < 256 by omega)
    omega
  have e1 : IntKind.u64.wrap (b.toNat : Int) = (b.toNat : Int) := by rw [IntKind.wrap_u64]; omega
  have e2 : IntKind.u64.wrap ((b.toNat : Int) * 2 ^ (8 * k)) = ((256 ^ k * b.toNat : Nat) : Int) := by
    have e3 : ((b.toNat : Int) * 2 ^ (8 * k)) = ((256 ^ k * b.toNat : Nat) : Int) := by
      rw [pow256, Int.natCast_mul, Int.natCast_pow, Int.mul_comm]
      rfl
    rw [e3, IntKind.wrap_u64]
    omega
  rw [e1, e2, bits_or_u64_nat _ _ (by omega) hm, Nat.or_comm]
  have h3 := Nat.two_pow_add_eq_or_of_lt (i := 8 * k) (b := a) (by rw [← pow256]; exact ha) b.toNat
  rw [← pow256] at h3
  rw [← h3, Nat.add_comm]
theorem fixed_any {w : World} {g s e} (h : Rd w g s e) (n : Int) : Calls Tryd.prog 75 #[.pointer (some ⟨g, 0, none⟩), .int .i64 n] w fun x w' =>
    x = .returned (.int .u64 (leL (rB s e (wid n)).2.2.data.toList)) ∧ Rd w' g (rB s e (wid n)).1 (rB s e (wid n)).2.1 ∧ w.grownBy w' (some g) := by
  have hsm := rB_small s e (wid n) (wid_le n).2
  generalize hR : rB s e (wid n) = R at *
  obtain ⟨s', e', t⟩ := R
  simp only at hsm
  have HH := Hid.mk h
  clear h
  have hconv := fun w s => run_bytes_of_string (P := Tryd.prog) w 9 121 5 s Tryd.underlying9 Tryd.underlying121 Tryd.underlying5
  go_enter Tryd.func75, Tryd.ntmps75
  go_wp2_with (first
    | (go_at_call 72; refine (width_any _ _).mono ?_; rintro x w' ⟨rfl, rfl⟩)
    | (go_at_call 82; refine (bytes_any HH.out _).mono ?_; rintro x w1 ⟨rfl, r1, g1⟩; rw [hR] at r1 ⊢; replace HH := Hid.mk (And.intro r1 g1); clear r1 g1))
  have hB0 := (HasBytes.converted w1 t (grownCap w1 t.size 0 5) 5).drew
  have hlen : Hid (t.data.toList.length = t.size) := Array.length_toList
  have hz := HH.out.1.lt
  go_loopw [5, 14] (fun v i wr => ∃ k : Nat, k ≤ t.size ∧ i = .int .i64 k ∧ v = .int .u64 (leL (t.data.toList.take k)) ∧ HasBytes wr w1.heap.size t.data.toList ∧ Rd wr g s' e' ∧ w'.grownBy wr (some g)) (fun _ i _ => t.size - (intOf i).toNat)
  case atStart => exact ⟨0, Nat.zero_le _, rfl, by simp [leL], hB0, (HH.out.1.alloc _).drew, grown_drewN (grown_alloc HH.out.2 _) 1⟩
  case round =>
    clear hB0 hconv
    obtain ⟨k, hk, rfl, rfl, hB, hr, hgr⟩ := hrel
    by_cases hks : k < t.size
    · obtain ⟨c1, _⟩ := hB k (by rw [hlen.out]; exact hks)
      have hts := take_succ_at t k hks
      generalize hb : t.data.toList.getD k 0 = b at *
      generalize hl : t.data.toList.take k = l at *
      have HQ := Hid.mk (And.intro hB (And.intro hr (And.intro hgr (And.intro hts (And.intro hb hl)))))
      clear hB hr hgr hts hb hl
      go_wp2_with fail
      obtain ⟨hB, hr, hgr, hts, hb, hl⟩ := HQ.out
      have hll : l.length = k := by rw [← hl, List.length_take, hlen.out]; omega
      have hlt := leL_lt l
      rw [hll] at hlt
      refine ⟨⟨k + 1, by omega, by go_num, ?_, hB, hr, hgr⟩, by simp [intOf]; omega⟩
      rw [hts, leL_append, hll, or_place _ _ _ hlt (by omega)]
      simp [leL]
    · have hk2 : k = t.size := by omega
      subst hk2
      have htk : t.data.toList.take t.size = t.data.toList := List.take_of_length_le (by rw [hlen.out]; exact Nat.le_refl _)
      rw [htk]
      clear htk
      have HQ := Hid.mk (And.intro hr hgr)
      clear hB hr hgr
      generalize hV : leL t.data.toList = V
      replace hV := Hid.mk hV
      go_wp2_with fail
      go_ret
      exact ⟨by rw [hV.out]; rfl, HQ.out⟩

/-- what a reader's Fixed leaves and answers -/
def rF (s : ByteArray) (e n : Int) : ByteArray × Int × Nat := ((rB s e (wid n)).1, (rB s e (wid n)).2.1, leL (rB s e (wid n)).2.2.data.toList)
theorem fixedF_any {w : World} {g s e} (h : Rd w g s e) (n : Int) : Calls Tryd.prog 75 #[.pointer (some ⟨g, 0, none⟩), .int .i64 n] w fun x w' =>
    x = .returned (.int .u64 (rF s e n).2.2) ∧ Rd w' g (rF s e n).1 (rF s e n).2.1 ∧ w.grownBy w' (some g) := fixed_any h n
theorem pow256_le8 (k : Nat) (h : k ≤ 8) : 256 ^ k ≤ 18446744073709551616 := (Nat.pow_le_pow_right (show 256 > 0 by omega) h : 256 ^ k ≤ 256 ^ 8)
theorem rF_lt (s : ByteArray) (e n : Int) : (rF s e n).2.2 < 18446744073709551616 := by
  refine Nat.lt_of_lt_of_le (leL_lt _) (pow256_le8 _ ?_)
  rw [Array.length_toList]
  exact rB_small s e (wid n) (wid_le n).2
end Go.Proofs.YtbcnocbdifbocaaDoor.Pg
