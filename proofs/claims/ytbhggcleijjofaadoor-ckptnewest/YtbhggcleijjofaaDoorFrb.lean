/-
  Pages framed: the walks of both sides' Frame. Condition of the program's: the table's cells hold what the text lays. Pages that may not be framed; the answer's Frame. No condition.
-/
import Derived.Test.YtbhggcleijjofaaDoorFld
import Derived.Test.YtbhggcleijjofaaDoorCrcW
namespace Go.Proofs.YtbhggcleijjofaaDoor.Pg
open Go Go.RowKit

/-- the table of the check holds what the text lays -/
def Tab (w : World) : Prop := 0 < w.heap.size ∧ ∀ i : Nat, i < 16 → w.cell? ⟨0, i, none⟩ = some (.int .u32 (tab.getD i 0))
theorem Tab.call {w w' : World} (h : Tab w) (b : Below w.heap.size w w') : Tab w' := ⟨Nat.lt_of_lt_of_le h.1 b.size, fun i hi => (b.cell (p := ⟨0, i, none⟩) h.1).trans (h.2 i hi)⟩
theorem Tab.alloc {w : World} (h : Tab w) (o : Obj) : Tab (w.alloc o) := h.call (below_one w o)
theorem Tab.drew {w : World} (h : Tab w) : Tab w.drew := h
/-- the check of bytes, as a number -/
def crcN (l : List UInt8) : Nat := (Crc.more 0#32 l).toNat
theorem moreI_crcN (l : List UInt8) : moreI 0 l = (crcN l : Int) := by
  unfold moreI crcN
  rfl
theorem crcN_lt (l : List UInt8) : crcN l < 4294967296 := (Crc.more 0#32 l).isLt
/-- what stands beside, without the check -/
def besideB (K S I O W L : Nat) : ByteArray := padB (fieldsB K S I O W L) 28
theorem besideB_size (K S I O W L : Nat) : (besideB K S I O W L).size = 28 := padB_size _ _ (by rw [fieldsB_size]; omega)
/-- what stands beside -/
def spareB (K S I O W : Nat) (s : ByteArray) (n : Nat) : ByteArray := besideB K S I O W s.size ++ fx (crcN ((padB s n).data.toList ++ (besideB K S I O W s.size).data.toList)) 4
theorem spareB_size (K S I O W : Nat) (s : ByteArray) (n : Nat) : (spareB K S I O W s n).size = 32 := by
  unfold spareB
  rw [ByteArray.size_append, besideB_size, fx_size]
/-- what Frame holds on its way: its tag's block, the table -/
def FrS (w : World) (g : Nat) (K S I O W : Int) (wx : World) : Prop := Tg5 wx g K S I O W ∧ TgS w g wx ∧ Tab wx
theorem FrS.call {w : World} {g : Nat} {K S I O W : Int} {wx w2 : World} (h : FrS w g K S I O W wx) (b : Below wx.heap.size wx w2) : FrS w g K S I O W w2 := by
  have hk := tg_keep (w := w) ⟨h.1.1, h.1.2.1, h.1.2.2.1, h.1.2.2.2.1, h.1.2.2.2.2, h.2.1⟩ b
  exact ⟨⟨hk.1, hk.2.1, hk.2.2.1, hk.2.2.2.1, hk.2.2.2.2.1⟩, hk.2.2.2.2.2, h.2.2.call b⟩
theorem frs_fresh (w : World) (K S I O W : Int) (hT : Tab w) : FrS w w.heap.size K S I O W (w.alloc (.cells #[.int .i64 K, .int .u64 S, .int .i64 I, .int .i64 O, .int .i64 W] 43)) :=
  ⟨(tg_fresh w K S I O W).1, (tg_fresh w K S I O W).2, hT.alloc _⟩
theorem frame_ok (K S I O W : Nat) (hm : mayB K I O W) (s : ByteArray) (n : Nat) (h : s.size ≤ n) (hn : n ≤ 65535) (w : World) (hT : Tab w) :
    Calls Tryd.prog 45 #[tagV K S I O W, .string s, .int .i64 n] w fun e w' => e = .returned (.tuple #[.string (padB s n), .string (spareB K S I O W s n), .int .i64 0]) ∧ Below w.heap.size w w' := by
  have hc := chk_iff.2 hm
  unfold mayB at hm
  have HM := Hid.mk hm
  have b1 : W < 9223372036854775808 := by omega
  have b2 : O < 9223372036854775808 := by omega
  have b3 : I < 9223372036854775808 := by omega
  have b4 : K < 9223372036854775808 := by omega
  have b5 : (W : Int) ≤ 9223372036854775807 := by omega
  clear hm
  have hz := padB_size s n h
  have hz2 := besideB_size K S I O W s.size
  have hz3 := fieldsB_size K S I O W s.size
  unfold spareB
  have hmm : moreI (moreI 0 (padB s n).data.toList) (besideB K S I O W s.size).data.toList = (crcN ((padB s n).data.toList ++ (besideB K S I O W s.size).data.toList) : Int) := by
    rw [moreI_moreI, moreI_crcN]
  have hlt := crcN_lt ((padB s n).data.toList ++ (besideB K S I O W s.size).data.toList)
  generalize crcN ((padB s n).data.toList ++ (besideB K S I O W s.size).data.toList) = X at *
  have hfx := fx_size X 4
  have hu : fxW X 4 = fx X 4 := rfl
  have hbe : padB (fieldsB K S I O W s.size) 28 = besideB K S I O W s.size := rfl
  generalize hF : fieldsB K S I O W s.size = F at *
  generalize hB : besideB K S I O W s.size = B at *
  generalize hD : padB s n = D at *
  generalize fx X 4 = Y at *
  have pd1 := fun w => padded_any s n h hn w
  have pd2 := fun w => padded_any F 28 (by omega) (by omega) w
  have fd := fun w => fields_any K S I O W s.size b4 b3 b2 b1 (by omega) w
  rw [hD] at pd1
  rw [hbe] at pd2
  rw [hF] at fd
  have sD : D.size ≤ maxLen := by unfold maxLen; omega
  have sB : B.size ≤ maxLen := by unfold maxLen; omega
  have e4 : IntKind.u64.wrap (X : Int) = (X : Int) := by rw [IntKind.wrap_u64]; omega
  have hq := frs_fresh w K S I O W hT
  unfold tagV at fd ⊢
  generalize hw0 : w.alloc (.cells #[.int .i64 K, .int .u64 S, .int .i64 I, .int .i64 O, .int .i64 W] 43) = w0 at hq
  have HQ := Hid.mk hq
  have HW0 := Hid.mk hw0
  clear hw0
  have HD := Hid.mk (And.intro hF (And.intro hB (And.intro hD hmm)))
  clear hT hF hB hD hq b1 b2 b3 b4 hbe hmm
  have hcn : (n : Int) ≤ 65535 := by omega
  have hsn : (s.size : Int) ≤ (n : Int) := by omega
  go_enter Tryd.func45, Tryd.ntmps45
  go_upto_region 4 with (first
    | (go_at_call 57; rw [HW0.out]; refine (check_any _ _ _ _ _ b5 _).mono ?_; rintro e w1 ⟨rfl, c1⟩; rw [hc]; replace HQ := Hid.mk (HQ.out.call c1); clear c1)
    | (go_at_call 58; refine (pd1 _).mono ?_; rintro e w2 ⟨rfl, c1⟩; replace HQ := Hid.mk (HQ.out.call c1); clear c1))
  obtain ⟨c0, c1, c2, c3, c4⟩ := HQ.out.1
  clear pd1
  go_wp2_with (first
    | (go_at_call 59; refine (fd _).mono ?_; rintro e w3 ⟨rfl, c5⟩; replace HQ := Hid.mk (HQ.out.call c5); clear c5)
    | (go_at_call 58; refine (pd2 _).mono ?_; rintro e w4 ⟨rfl, c6⟩; replace HQ := Hid.mk (HQ.out.call c6); clear c6)
    | (go_at_call 61; refine (sum_any _ _ sD HQ.out.2.2.2).mono ?_; rintro e w5 ⟨rfl, rfl⟩)
    | (go_at_call 60; refine (more_any _ _ _ sB HQ.out.2.2.2).mono ?_; rintro e w6 ⟨rfl, rfl⟩; rw [HD.out.2.2.2])
    | (go_at_call 42; refine (enc_w _ _ _).mono ?_; rintro e w7 ⟨rfl, c7⟩; rw [hu]; replace HQ := Hid.mk (HQ.out.call c7); clear c7))
  go_ret3
  exact ⟨rfl, HQ.out.2.1.2⟩
theorem frame_bad (K S I O W : Int) (hW : W ≤ 9223372036854775807) (s : ByteArray) (n : Int) (h : ¬ (chk K I O W = true ∧ 0 ≤ n ∧ n ≤ 65535 ∧ (s.size : Int) ≤ n)) (w : World) :
    Calls Tryd.prog 45 #[tagV K S I O W, .string s, .int .i64 n] w fun e w' => e = .returned (.tuple #[.string ⟨#[]⟩, .string ⟨#[]⟩, .int .i64 1]) ∧ Below w.heap.size w w' := by
  have hb : Hid (Below w.heap.size w (w.alloc (.cells #[.int .i64 K, .int .u64 S, .int .i64 I, .int .i64 O, .int .i64 W] 43))) := below_one w _
  unfold tagV
  cases hc : chk K I O W with
  | false =>
    clear h
    go_enter Tryd.func45, Tryd.ntmps45
    go_wp2_with (first | (go_at_call 57; refine (check_any _ _ _ _ _ hW _).mono ?_; rintro e w1 ⟨rfl, c1⟩; rw [hc]; replace hb := Hid.mk (below3 hb.out c1); clear c1))
    go_ret3
    exact ⟨rfl, hb.out⟩
  | true =>
    by_cases h0 : n < 0
    · clear h
      go_enter Tryd.func45, Tryd.ntmps45
      go_wp2_with (first | (go_at_call 57; refine (check_any _ _ _ _ _ hW _).mono ?_; rintro e w1 ⟨rfl, c1⟩; rw [hc]; replace hb := Hid.mk (below3 hb.out c1); clear c1))
      go_ret3
      exact ⟨rfl, hb.out⟩
    · by_cases h1 : 65535 < n
      · clear h
        go_enter Tryd.func45, Tryd.ntmps45
        go_wp2_with (first | (go_at_call 57; refine (check_any _ _ _ _ _ hW _).mono ?_; rintro e w1 ⟨rfl, c1⟩; rw [hc]; replace hb := Hid.mk (below3 hb.out c1); clear c1))
        go_ret3
        exact ⟨rfl, hb.out⟩
      · have h2 : n < (s.size : Int) := by
          rcases Int.lt_or_le n (s.size : Int) with h2 | h2
          · exact h2
          · exact absurd ⟨hc, by omega, by omega, h2⟩ h
        clear h
        go_enter Tryd.func45, Tryd.ntmps45
        go_wp2_with (first | (go_at_call 57; refine (check_any _ _ _ _ _ hW _).mono ?_; rintro e w1 ⟨rfl, c1⟩; rw [hc]; replace hb := Hid.mk (below3 hb.out c1); clear c1))
        go_ret3
        exact ⟨rfl, hb.out⟩
theorem beside_zs (K S I O W L : Nat) : besideB K S I O W L = fx K 1 ++ fx S 8 ++ fx I 2 ++ fx O 2 ++ fx W 4 ++ fx L 2 ++ zs 9 := by
  unfold besideB padB
  rw [fieldsB_size]
  rfl
theorem toList_append (a b : ByteArray) : (a ++ b).data.toList = a.data.toList ++ b.data.toList := by
  rw [ByteArray.data_append, Array.toList_append]
end Go.Proofs.YtbhggcleijjofaaDoor.Pg
