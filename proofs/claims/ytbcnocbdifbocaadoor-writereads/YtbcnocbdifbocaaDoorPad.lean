/-
  Texts with noughts behind them: the walks of Repeat (of noughts), padded, zeros, fields, few. No condition.
-/
import Derived.Test.YtbcnocbdifbocaaDoorTag
import Derived.Test.YtbcnocbdifbocaaDoorShelf
import Derived.Lib.LazyBuf
import Derived.Lib.SmallJoins
namespace Go.Proofs.YtbcnocbdifbocaaDoor.Pg
open Go Go.RowKit

/-- so many noughts -/
def zs (n : Nat) : ByteArray := ⟨(List.replicate n 0).toArray⟩
theorem zs_size (n : Nat) : (zs n).size = n := by
  show (List.replicate n (0 : UInt8)).toArray.size = n
  simp
set_option maxRecDepth 100000 in
theorem repeat_zs (c : Nat) (hc : c ≤ 65535) (w : World) : Calls Tryd.prog 71 #[.string ⟨#[0]⟩, .int .i64 c] w fun e w' => e = .returned (.string (zs c)) ∧ Below w.heap.size w w' := by
  by_cases h2 : 2 ≤ c
  · have hr := repeat_main ⟨#[0]⟩ c w h2 (by omega) (by show 1 * c ≤ _; omega) (by show 0 < 1; decide)
    have e1 : (⟨(Lib.repeatL (⟨#[0]⟩ : ByteArray).data.toList c).toArray⟩ : ByteArray) = zs c := by
      unfold zs
      show (⟨(Lib.repeatL (List.replicate 1 0) c).toArray⟩ : ByteArray) = _
      rw [Lib.repeatL_replicate, Nat.mul_one]
    rw [e1] at hr
    exact hr
  · by_cases h1 : c = 1
    · subst h1
      go_enter Tryd.func71, Tryd.ntmps71
      go_wp2_with fail
      go_ret
      exact ⟨rfl, Below.refl _ _⟩
    · have h0 : c = 0 := by omega
      subst h0
      go_enter Tryd.func71, Tryd.ntmps71
      go_wp2_with fail
      go_ret
      exact ⟨rfl, Below.refl _ _⟩
/-- a text, then noughts -/
def padB (s : ByteArray) (n : Nat) : ByteArray := s ++ zs (n - s.size)
theorem padB_size (s : ByteArray) (n : Nat) (h : s.size ≤ n) : (padB s n).size = n := by
  unfold padB
  rw [ByteArray.size_append, zs_size]
  omega
theorem padded_any (s : ByteArray) (n : Nat) (h : s.size ≤ n) (hn : n ≤ 65535) (w : World) : Calls Tryd.prog 58 #[.string s, .int .i64 n] w fun e w' => e = .returned (.string (padB s n)) ∧ Below w.heap.size w w' := by
  have hr := fun w => repeat_zs (n - s.size) (by omega) w
  have hz := zs_size (n - s.size)
  unfold padB
  generalize zs (n - s.size) = Z at *
  have e1 : ((n - s.size : Nat) : Int) = (n : Int) - (s.size : Int) := by omega
  rw [e1] at hr
  have hz2 : Z.size ≤ 65535 := by omega
  clear hz e1
  go_enter Tryd.func58, Tryd.ntmps58
  go_wp2_with (first | (go_at_call 71; refine (hr _).mono ?_; rintro e w' ⟨rfl, b1⟩))
  go_ret
  exact ⟨rfl, b1⟩
/-- a number's bytes, so many -/
def fx (n k : Nat) : ByteArray := ⟨(fixL n k).toArray⟩
theorem fx_size (n k : Nat) : (fx n k).size = k := by
  show (fixL n k).toArray.size = k
  rw [List.size_toArray, fixL_length]
def fieldsB (K S I O W L : Nat) : ByteArray := fx K 1 ++ fx S 8 ++ fx I 2 ++ fx O 2 ++ fx W 4 ++ fx L 2
theorem fieldsB_size (K S I O W L : Nat) : (fieldsB K S I O W L).size = 19 := by
  unfold fieldsB
  simp only [ByteArray.size_append, fx_size]
theorem enc_1 (n : Nat) (w : World) : Calls Tryd.prog 62 #[.int .u64 n, .int .i64 1] w fun e w' => e = .returned (.string (fx n 1)) ∧ Below w.heap.size w w' := encFixed_any n 1 w
theorem enc_2 (n : Nat) (w : World) : Calls Tryd.prog 62 #[.int .u64 n, .int .i64 2] w fun e w' => e = .returned (.string (fx n 2)) ∧ Below w.heap.size w w' := encFixed_any n 2 w
theorem enc_4 (n : Nat) (w : World) : Calls Tryd.prog 62 #[.int .u64 n, .int .i64 4] w fun e w' => e = .returned (.string (fx n 4)) ∧ Below w.heap.size w w' := encFixed_any n 4 w
theorem enc_8 (n : Nat) (w : World) : Calls Tryd.prog 62 #[.int .u64 n, .int .i64 8] w fun e w' => e = .returned (.string (fx n 8)) ∧ Below w.heap.size w w' := encFixed_any n 8 w
/-- a text that is not too long -/
def cut (s : ByteArray) : ByteArray := if s.size ≤ 300 then s else s.extract 0 300
theorem cut_size (s : ByteArray) : (cut s).size ≤ 300 := by
  unfold cut
  split
  · assumption
  · rw [ByteArray.size_extract]
    omega
end Go.Proofs.YtbcnocbdifbocaaDoor.Pg
