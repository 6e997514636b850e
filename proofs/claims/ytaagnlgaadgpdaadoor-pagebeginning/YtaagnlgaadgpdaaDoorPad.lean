/-
  Texts with noughts behind them: the walks of Repeat (of noughts), padded, zeros, fields, few. No condition.
-/
import Derived.Test.YtaagnlgaadgpdaaDoorTag
import Derived.Test.YtaagnlgaadgpdaaDoorShelf
import Derived.Lib.LazyBuf
import Derived.Lib.SmallJoins
namespace Go.Proofs.YtaagnlgaadgpdaaDoor
open Go Go.RowKit

/-- so many noughts -/
def zs (n : Nat) : ByteArray := ⟨(List.replicate n 0).toArray⟩
theorem zs_size (n : Nat) : (zs n).size = n := by
  show (List.replicate n (0 : UInt8)).toArray.size = n
  simp
set_option maxRecDepth 100000 in
theorem repeat_zs (c : Nat) (hc : c ≤ 65535) (w : World) : Calls Tryd.prog 26 #[.string ⟨#[0]⟩, .int .i64 c] w fun e w' => e = .returned (.string (zs c)) ∧ Below w.heap.size w w' := by
  by_cases h2 : 2 ≤ c
  · have hr := repeat_main ⟨#[0]⟩ c w h2 (by omega) (by show 1 * c ≤ _; omega) (by show 0 < 1; decide)
    have e1 : (⟨(Lib.repeatL (⟨#[0]⟩ : ByteArray).data.toList c).toArray⟩ : ByteArray) = zs c := by
      unfold zs
      show (⟨(Lib.repeatL (List.replicate 1 0) c).toArray⟩ : ByteArray) = _
      rw [Lib.repeatL_replicate, Nat.mul_one]
    rw [e1] at hr
    exact hr
  · by_cases h1 : c = 1
    · subst h1
      go_enter Tryd.func26, Tryd.ntmps26
      go_wp2_with fail
      go_ret
      exact ⟨rfl, Below.refl _ _⟩
    · have h0 : c = 0 := by omega
      subst h0
      go_enter Tryd.func26, Tryd.ntmps26
      go_wp2_with fail
      go_ret
      exact ⟨rfl, Below.refl _ _⟩
/-- a text, then noughts -/
def padB (s : ByteArray) (n : Nat) : ByteArray := s ++ zs (n - s.size)
theorem padB_size (s : ByteArray) (n : Nat) (h : s.size ≤ n) : (padB s n).size = n := by
  unfold padB
  rw [ByteArray.size_append, zs_size]
  omega
theorem padded_any (s : ByteArray) (n : Nat) (h : s.size ≤ n) (hn : n ≤ 65535) (w : World) : Calls Tryd.prog 15 #[.string s, .int .i64 n] w fun e w' => e = .returned (.string (padB s n)) ∧ Below w.heap.size w w' := by
  have hr := fun w => repeat_zs (n - s.size) (by omega) w
  have hz := zs_size (n - s.size)
  unfold padB
  generalize zs (n - s.size) = Z at *
  have e1 : ((n - s.size : Nat) : Int) = (n : Int) - (s.size : Int) := by omega
  rw [e1] at hr
  have hz2 : Z.size ≤ 65535 := by omega
  clear hz e1
  go_enter Tryd.func15, Tryd.ntmps15
  go_wp2_with (first | (go_at_call 26; refine (hr _).mono ?_; rintro e w' ⟨rfl, b1⟩))
  go_ret
  exact ⟨rfl, b1⟩
theorem run_make_bytes (l : Nat) (hc : l ≤ 65535) (w : World) :
    (Instr.makeSlice 37 (.int .i64 l) (.int .i64 l)).run Tryd.prog w = .ok (.slice (some ⟨w.heap.size, 0, none⟩) l l) (w.alloc (.cells (madeCells #[.int .u8 0] l) 5)) := by
  obtain ⟨i, hi, hzz⟩ := Option.map_eq_some_iff.1 info5y
  simp only [Prod.mk.injEq] at hzz
  obtain ⟨hz, hs, hb⟩ := hzz
  have hr := run_make (P := Tryd.prog) w 37 5 i (.int .u8 0) Tryd.underlying37 hi hz .i64 .i64 l l (by omega) (by omega) (by rw [hb]; omega) (by omega)
  simp only [Int.toNat_natCast, hs, Nat.mul_one] at hr
  exact hr
theorem zeros_any (n : Int) (h0 : 0 ≤ n) (hn : n ≤ 65535) (w : World) : Calls Tryd.prog 20 #[.int .i64 n] w fun e w' => e = .returned (.string (zs n.toNat)) ∧ Below w.heap.size w w' := by
  obtain ⟨m, rfl⟩ := Int.eq_ofNat_of_zero_le h0
  rw [Int.toNat_natCast]
  have hb := fun (w : World) => (HasBytes.made w m 5).back (P := Tryd.prog) 37 9 5 m m (by rw [List.length_replicate]) Tryd.underlying37 Tryd.underlying5 Tryd.underlying9
  unfold zs
  generalize (⟨(List.replicate m (0 : UInt8)).toArray⟩ : ByteArray) = Z at *
  have hmk := run_make_bytes m (by omega)
  go_enter Tryd.func20, Tryd.ntmps20
  go_wp2_with fail
  go_ret
  exact ⟨rfl, below_one w _⟩
/-- a number's bytes, so many -/
def fx (n k : Nat) : ByteArray := ⟨(fixL n k).toArray⟩
theorem fx_size (n k : Nat) : (fx n k).size = k := by
  show (fixL n k).toArray.size = k
  rw [List.size_toArray, fixL_length]
def fieldsB (K S I O W L : Nat) : ByteArray := fx K 1 ++ fx S 8 ++ fx I 2 ++ fx O 2 ++ fx W 4 ++ fx L 2
theorem fieldsB_size (K S I O W L : Nat) : (fieldsB K S I O W L).size = 19 := by
  unfold fieldsB
  simp only [ByteArray.size_append, fx_size]
theorem enc_1 (n : Nat) (w : World) : Calls Tryd.prog 19 #[.int .u64 n, .int .i64 1] w fun e w' => e = .returned (.string (fx n 1)) ∧ Below w.heap.size w w' := encFixed_any n 1 w
theorem enc_2 (n : Nat) (w : World) : Calls Tryd.prog 19 #[.int .u64 n, .int .i64 2] w fun e w' => e = .returned (.string (fx n 2)) ∧ Below w.heap.size w w' := encFixed_any n 2 w
theorem enc_4 (n : Nat) (w : World) : Calls Tryd.prog 19 #[.int .u64 n, .int .i64 4] w fun e w' => e = .returned (.string (fx n 4)) ∧ Below w.heap.size w w' := encFixed_any n 4 w
theorem enc_8 (n : Nat) (w : World) : Calls Tryd.prog 19 #[.int .u64 n, .int .i64 8] w fun e w' => e = .returned (.string (fx n 8)) ∧ Below w.heap.size w w' := encFixed_any n 8 w
theorem renc_1 (n : Nat) (hn : n < 18446744073709551616) (w : World) : Calls Tryd.prog 21 #[.int .u64 n, .int .i64 1] w fun e w' => e = .returned (.string (fx n 1)) ∧ Below w.heap.size w w' := refFixed_any n hn 1 w
theorem renc_2 (n : Nat) (hn : n < 18446744073709551616) (w : World) : Calls Tryd.prog 21 #[.int .u64 n, .int .i64 2] w fun e w' => e = .returned (.string (fx n 2)) ∧ Below w.heap.size w w' := refFixed_any n hn 2 w
theorem renc_4 (n : Nat) (hn : n < 18446744073709551616) (w : World) : Calls Tryd.prog 21 #[.int .u64 n, .int .i64 4] w fun e w' => e = .returned (.string (fx n 4)) ∧ Below w.heap.size w w' := refFixed_any n hn 4 w
theorem renc_8 (n : Nat) (hn : n < 18446744073709551616) (w : World) : Calls Tryd.prog 21 #[.int .u64 n, .int .i64 8] w fun e w' => e = .returned (.string (fx n 8)) ∧ Below w.heap.size w w' := refFixed_any n hn 8 w
/-- a text that is not too long -/
def cut (s : ByteArray) : ByteArray := if s.size ≤ 300 then s else s.extract 0 300
theorem cut_size (s : ByteArray) : (cut s).size ≤ 300 := by
  unfold cut
  split
  · assumption
  · rw [ByteArray.size_extract]
    omega
theorem few_any (s : ByteArray) (w : World) : Calls Tryd.prog 7 #[.string s] w fun e w' => e = .returned (.string (cut s)) ∧ w' = w := by
  unfold cut
  by_cases h : s.size ≤ 300
  · rw [if_pos h]
    go_enter Tryd.func7, Tryd.ntmps7
    go_wp2
    go_ret
    exact ⟨rfl, rfl⟩
  · rw [if_neg h]
    go_enter Tryd.func7, Tryd.ntmps7
    go_wp2
    go_ret
    exact ⟨rfl, rfl⟩
end Go.Proofs.YtaagnlgaadgpdaaDoor
