/-
  Texts with noughts behind them: the walks of Repeat (of noughts), padded, zeros, fields, few. No condition. A tag and a length as bytes: the walk of fields. No condition.
-/
import Derived.Test.YtbhggcleijjofaaDoorTag
import Derived.Test.YtbhggcleijjofaaDoorShelf
import Derived.Lib.LazyBuf
import Derived.Lib.SmallJoins
namespace Go.Proofs.YtbhggcleijjofaaDoor.Pg
open Go Go.RowKit

/-- so many noughts -/
def zs (n : Nat) : ByteArray := ⟨(List.replicate n 0).toArray⟩
theorem zs_size (n : Nat) : (zs n).size = n := by
  show (List.replicate n (0 : UInt8)).toArray.size = n
  simp
set_option maxRecDepth 100000 in
theorem repeat_zs (c : Nat) (hc : c ≤ 65535) (w : World) : Calls Tryd.prog 72 #[.string ⟨#[0]⟩, .int .i64 c] w fun e w' => e = .returned (.string (zs c)) ∧ Below w.heap.size w w' := by
  by_cases h2 : 2 ≤ c
  · have hr := repeat_main ⟨#[0]⟩ c w h2 (by omega) (by show 1 * c ≤ _; omega) (by show 0 < 1; decide)
    have e1 : (⟨(Lib.repeatL (⟨#[0]⟩ : ByteArray).data.toList c).toArray⟩ : ByteArray) = zs c := by
      unfold zs
      show (⟨(Lib.repeatL (List.replicate 1 0) c).toArray⟩ : ByteArray) = _
      rw [Lib.repeatL_replicate, Nat.mul_one]
    rw [e1] at hr
    exact hr
  · by_cases h1 : c = 1
    · subst h1
      go_enter Tryd.func72, Tryd.ntmps72
      go_wp2_with fail
      go_ret
      exact ⟨rfl, Below.refl _ _⟩
    · have h0 : c = 0 := by omega
      subst h0
      go_enter Tryd.func72, Tryd.ntmps72
      go_wp2_with fail
      go_ret
      exact ⟨rfl, Below.refl _ _⟩
/-- a text, then noughts -/
def padB (s : ByteArray) (n : Nat) : ByteArray := s ++ zs (n - s.size)
theorem padB_size (s : ByteArray) (n : Nat) (h : s.size ≤ n) : (padB s n).size = n := by
  unfold padB
  rw [ByteArray.size_append, zs_size]
  omega
theorem padded_any (s : ByteArray) (n : Nat) (h : s.size ≤ n) (hn : n ≤ 65535) (w : World) : Calls Tryd.prog 58 #[.string s, .int .i64 n] w fun e w' => e = .returned (.string (padB s n)) ∧ Below w.heap.size w w' := by
  have hr := fun w => repeat_zs (n - s.size) (by omega) w
  have hz := zs_size (n - s.size)
  unfold padB
  generalize zs (n - s.size) = Z at *
  have e1 : ((n - s.size : Nat) : Int) = (n : Int) - (s.size : Int) := by omega
  rw [e1] at hr
  have hz2 : Z.size ≤ 65535 := by omega
  clear hz e1
  go_enter Tryd.func58, Tryd.ntmps58
  go_wp2_with (first | (go_at_call 72; refine (hr _).mono ?_; rintro e w' ⟨rfl, b1⟩))
  go_ret
  exact ⟨rfl, b1⟩
/-- a number's bytes, so many -/
def fx (n k : Nat) : ByteArray := ⟨(fixL n k).toArray⟩
theorem fx_size (n k : Nat) : (fx n k).size = k := by
  show (fixL n k).toArray.size = k
  rw [List.size_toArray, fixL_length]
def fieldsB (K S I O W L : Nat) : ByteArray := fx K 1 ++ fx S 8 ++ fx I 2 ++ fx O 2 ++ fx W 4 ++ fx L 2
theorem fieldsB_size (K S I O W L : Nat) : (fieldsB K S I O W L).size = 19 := by
  unfold fieldsB
  simp only [ByteArray.size_append, fx_size]
theorem enc_1 (n : Nat) (w : World) : Calls Tryd.prog 42 #[.int .u64 n, .int .i64 1] w fun e w' => e = .returned (.string (fx n 1)) ∧ Below w.heap.size w w' := encFixed_any n 1 w
theorem enc_2 (n : Nat) (w : World) : Calls Tryd.prog 42 #[.int .u64 n, .int .i64 2] w fun e w' => e = .returned (.string (fx n 2)) ∧ Below w.heap.size w w' := encFixed_any n 2 w
theorem enc_4 (n : Nat) (w : World) : Calls Tryd.prog 42 #[.int .u64 n, .int .i64 4] w fun e w' => e = .returned (.string (fx n 4)) ∧ Below w.heap.size w w' := encFixed_any n 4 w
theorem enc_8 (n : Nat) (w : World) : Calls Tryd.prog 42 #[.int .u64 n, .int .i64 8] w fun e w' => e = .returned (.string (fx n 8)) ∧ Below w.heap.size w w' := encFixed_any n 8 w
/-- a text that is not too long -/
def cut (s : ByteArray) : ByteArray := if s.size ≤ 300 then s else s.extract 0 300
theorem cut_size (s : ByteArray) : (cut s).size ≤ 300 := by
  unfold cut
  split
  · assumption
  · rw [ByteArray.size_extract]
    omega
/-- what a call on a tag holds: the tag's own block -/
def TgS (w : World) (g : Nat) (w' : World) : Prop := g < w'.heap.size ∧ Below w.heap.size w w'
def Tg5 (w' : World) (g : Nat) (K S I O W : Int) : Prop := w'.cell? ⟨g, 0, none⟩ = some (.int .i64 K) ∧ w'.cell? ⟨g, 1, none⟩ = some (.int .u64 S) ∧ w'.cell? ⟨g, 2, none⟩ = some (.int .i64 I) ∧ w'.cell? ⟨g, 3, none⟩ = some (.int .i64 O) ∧ w'.cell? ⟨g, 4, none⟩ = some (.int .i64 W)
theorem tg_keep {w : World} {g : Nat} {K S I O W : Int} {wx w2 : World}
    (h : wx.cell? ⟨g, 0, none⟩ = some (.int .i64 K) ∧ wx.cell? ⟨g, 1, none⟩ = some (.int .u64 S) ∧ wx.cell? ⟨g, 2, none⟩ = some (.int .i64 I) ∧ wx.cell? ⟨g, 3, none⟩ = some (.int .i64 O) ∧ wx.cell? ⟨g, 4, none⟩ = some (.int .i64 W) ∧ TgS w g wx)
    (b : Below wx.heap.size wx w2) :
    w2.cell? ⟨g, 0, none⟩ = some (.int .i64 K) ∧ w2.cell? ⟨g, 1, none⟩ = some (.int .u64 S) ∧ w2.cell? ⟨g, 2, none⟩ = some (.int .i64 I) ∧ w2.cell? ⟨g, 3, none⟩ = some (.int .i64 O) ∧ w2.cell? ⟨g, 4, none⟩ = some (.int .i64 W) ∧ TgS w g w2 := by
  obtain ⟨h0, h1, h2, h3, h4, hl, hb⟩ := h
  refine ⟨(b.cell (p := ⟨g, 0, none⟩) hl).trans h0, (b.cell (p := ⟨g, 1, none⟩) hl).trans h1, (b.cell (p := ⟨g, 2, none⟩) hl).trans h2, (b.cell (p := ⟨g, 3, none⟩) hl).trans h3, (b.cell (p := ⟨g, 4, none⟩) hl).trans h4, Nat.lt_of_lt_of_le hl b.size, below3 hb b⟩
theorem tg_fresh (w : World) (K S I O W : Int) :
    Tg5 (w.alloc (.cells #[.int .i64 K, .int .u64 S, .int .i64 I, .int .i64 O, .int .i64 W] 43)) w.heap.size K S I O W ∧ TgS w w.heap.size (w.alloc (.cells #[.int .i64 K, .int .u64 S, .int .i64 I, .int .i64 O, .int .i64 W] 43)) := by
  have h := heap_alloc_new w (.cells #[.int .i64 K, .int .u64 S, .int .i64 I, .int .i64 O, .int .i64 W] 43)
  refine ⟨⟨?_, ?_, ?_, ?_, ?_⟩, by rw [size_alloc]; omega, below_one w _⟩
  all_goals (rw [cell_of_row _ _ _ _ 43 _ h]; rfl)
def fxW (n : Nat) (b : Int) : ByteArray := ⟨(fixL n (wid b).toNat).toArray⟩
theorem fw1 (n : Nat) : fxW n 1 = fx n 1 := rfl
theorem fw2 (n : Nat) : fxW n 2 = fx n 2 := rfl
theorem fw4 (n : Nat) : fxW n 4 = fx n 4 := rfl
theorem fw8 (n : Nat) : fxW n 8 = fx n 8 := rfl
theorem enc_w (n : Nat) (b : Int) (w : World) : Calls Tryd.prog 42 #[.int .u64 n, .int .i64 b] w fun e w' => e = .returned (.string (fxW n b)) ∧ Below w.heap.size w w' := encFixed_any n b w
theorem wrap_nat (n : Nat) (h : n < 9223372036854775808) : IntKind.u64.wrap (n : Int) = (n : Int) := by rw [IntKind.wrap_u64]; omega
set_option maxHeartbeats 4000000 in
/-- the pieces put together, in the order in which the text adds them -/
theorem fields_any (K S I O W L : Nat) (hK : K < 9223372036854775808) (hI : I < 9223372036854775808) (hO : O < 9223372036854775808) (hW : W < 9223372036854775808) (hL : L < 9223372036854775808) (w : World) :
    Calls Tryd.prog 59 #[tagV K S I O W, .int .i64 L] w fun e w' => e = .returned (.string (fieldsB K S I O W L)) ∧ Below w.heap.size w w' := by
  have e1 := wrap_nat K hK
  have e2 := wrap_nat I hI
  have e3 := wrap_nat O hO
  have e4 := wrap_nat W hW
  have e5 := wrap_nat L hL
  have z1 := fx_size K 1
  have z2 := fx_size S 8
  have z3 := fx_size I 2
  have z4 := fx_size O 2
  have z5 := fx_size W 4
  have z6 := fx_size L 2
  have z12 : (fx K 1 ++ fx S 8).size = 9 := by rw [ByteArray.size_append, z1, z2]
  have z13 : (fx K 1 ++ fx S 8 ++ fx I 2).size = 11 := by rw [ByteArray.size_append, z12, z3]
  have z14 : (fx K 1 ++ fx S 8 ++ fx I 2 ++ fx O 2).size = 13 := by rw [ByteArray.size_append, z13, z4]
  have z15 : (fx K 1 ++ fx S 8 ++ fx I 2 ++ fx O 2 ++ fx W 4).size = 17 := by rw [ByteArray.size_append, z14, z5]
  obtain ⟨t5, tS⟩ := tg_fresh w K S I O W
  unfold fieldsB tagV
  clear hK hI hO hW hL
  go_enter Tryd.func59, Tryd.ntmps59
  go_wp2_with fail
  generalize w.alloc (.cells #[.int .i64 K, .int .u64 S, .int .i64 I, .int .i64 O, .int .i64 W] 43) = W1 at *
  obtain ⟨c0, c1, c2, c3, c4⟩ := t5
  have hS : Hid (W1.drew.cell? ⟨w.heap.size, 0, none⟩ = some (.int .i64 K) ∧ W1.drew.cell? ⟨w.heap.size, 1, none⟩ = some (.int .u64 S) ∧ W1.drew.cell? ⟨w.heap.size, 2, none⟩ = some (.int .i64 I) ∧ W1.drew.cell? ⟨w.heap.size, 3, none⟩ = some (.int .i64 O) ∧ W1.drew.cell? ⟨w.heap.size, 4, none⟩ = some (.int .i64 W) ∧ TgS w w.heap.size W1.drew) := ⟨c0, c1, c2, c3, c4, tS.1, tS.2.drew⟩
  clear tS
  go_region_held3 (fun w' => w'.cell? ⟨w.heap.size, 0, none⟩ = some (.int .i64 K) ∧ w'.cell? ⟨w.heap.size, 1, none⟩ = some (.int .u64 S) ∧ w'.cell? ⟨w.heap.size, 2, none⟩ = some (.int .i64 I) ∧ w'.cell? ⟨w.heap.size, 3, none⟩ = some (.int .i64 O) ∧ w'.cell? ⟨w.heap.size, 4, none⟩ = some (.int .i64 W) ∧ TgS w w.heap.size w') (first | assumption | exact hS.out | exact tg_keep (by assumption) (by assumption) | fail)
    (first | (go_at_call 42; refine (enc_w _ _ _).mono ?_; rintro x w3 ⟨rfl, b3⟩; (first | rw [fw1] | rw [fw8] | rw [fw2] | rw [fw4])))
  have hb2 : TgS w w.heap.size w3 := (by assumption : _ ∧ _ ∧ _ ∧ _ ∧ _ ∧ TgS w w.heap.size w3).2.2.2.2.2
  go_wp2_with fail
  go_ret
  exact ⟨rfl, hb2.2⟩
end Go.Proofs.YtbhggcleijjofaaDoor.Pg
