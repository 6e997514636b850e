/-
  Pages that may not be framed; the answer's Frame. No condition.
-/
import Derived.Test.YtbcnocbdifbocaaDoorFra
namespace Go.Proofs.YtbcnocbdifbocaaDoor.Pg
open Go Go.RowKit

theorem frame_bad (K S I O W : Int) (hW : W ≤ 9223372036854775807) (s : ByteArray) (n : Int) (h : ¬ (chk K I O W = true ∧ 0 ≤ n ∧ n ≤ 65535 ∧ (s.size : Int) ≤ n)) (w : World) :
    Calls Tryd.prog 38 #[tagV K S I O W, .string s, .int .i64 n] w fun e w' => e = .returned (.tuple #[.string ⟨#[]⟩, .string ⟨#[]⟩, .int .i64 1]) ∧ Below w.heap.size w w' := by
  have hb : Hid (Below w.heap.size w (w.alloc (.cells #[.int .i64 K, .int .u64 S, .int .i64 I, .int .i64 O, .int .i64 W] 52))) := below_one w _
  unfold tagV
  cases hc : chk K I O W with
  | false =>
    clear h
    go_enter Tryd.func38, Tryd.ntmps38
    go_wp2_with (first | (go_at_call 57; refine (check_any _ _ _ _ _ hW _).mono ?_; rintro e w1 ⟨rfl, c1⟩; rw [hc]; replace hb := Hid.mk (below3 hb.out c1); clear c1))
    go_ret3
    exact ⟨rfl, hb.out⟩
  | true =>
    by_cases h0 : n < 0
    · clear h
      go_enter Tryd.func38, Tryd.ntmps38
      go_wp2_with (first | (go_at_call 57; refine (check_any _ _ _ _ _ hW _).mono ?_; rintro e w1 ⟨rfl, c1⟩; rw [hc]; replace hb := Hid.mk (below3 hb.out c1); clear c1))
      go_ret3
      exact ⟨rfl, hb.out⟩
    · by_cases h1 : 65535 < n
      · clear h
        go_enter Tryd.func38, Tryd.ntmps38
        go_wp2_with (first | (go_at_call 57; refine (check_any _ _ _ _ _ hW _).mono ?_; rintro e w1 ⟨rfl, c1⟩; rw [hc]; replace hb := Hid.mk (below3 hb.out c1); clear c1))
        go_ret3
        exact ⟨rfl, hb.out⟩
      · have h2 : n < (s.size : Int) := by
          rcases Int.lt_or_le n (s.size : Int) with h2 | h2
          · exact h2
          · exact absurd ⟨hc, by omega, by omega, h2⟩ h
        clear h
        go_enter Tryd.func38, Tryd.ntmps38
        go_wp2_with (first | (go_at_call 57; refine (check_any _ _ _ _ _ hW _).mono ?_; rintro e w1 ⟨rfl, c1⟩; rw [hc]; replace hb := Hid.mk (below3 hb.out c1); clear c1))
        go_ret3
        exact ⟨rfl, hb.out⟩
theorem beside_zs (K S I O W L : Nat) : besideB K S I O W L = fx K 1 ++ fx S 8 ++ fx I 2 ++ fx O 2 ++ fx W 4 ++ fx L 2 ++ zs 9 := by
  unfold besideB padB
  rw [fieldsB_size]
  rfl
theorem toList_append (a b : ByteArray) : (a ++ b).data.toList = a.data.toList ++ b.data.toList := by
  rw [ByteArray.data_append, Array.toList_append]
end Go.Proofs.YtbcnocbdifbocaaDoor.Pg
