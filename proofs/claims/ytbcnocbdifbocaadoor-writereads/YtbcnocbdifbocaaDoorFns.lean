/-
  The walks of what only reads a Life: Is, Count, slices.Index, At, Room; of New, and of all without a Life. No condition.
-/
import Derived.Test.YtbcnocbdifbocaaDoorLif
import Derived.Deep.QuietTactic
import Derived.BigQuiet
namespace Go.Proofs.YtbcnocbdifbocaaDoor.Lf
open Go Go.RowKit

theorem is_any {w : World} {a g n k xs o nx} (h : Lif w a g n k xs o nx) (b : Int) : Calls Tryd.prog 14 #[.pointer (some ⟨a, 0, none⟩), .int .i64 b] w fun e w' => e = .returned (.int .i64 (isL xs b)) ∧ w' = w := by
  obtain ⟨c0, c1, c2, f2⟩ := h.cells
  have hl := h.ok.len
  have hnb := h.ok.nb
  by_cases h0 : 0 ≤ b
  · by_cases h1 : b < n
    · obtain ⟨j, rfl⟩ := Int.eq_ofNat_of_zero_le h0
      have hj : j < n := by omega
      have cj := h.at j hj
      rw [isL_in xs j (by omega)]
      generalize xs.getD j 0 = x at *
      clear h hl
      go_enter Tryd.func14, Tryd.ntmps14
      go_wp2
      go_ret
      exact ⟨rfl, rfl⟩
    · rw [isL_out xs b (by omega)]
      clear h hl
      go_enter Tryd.func14, Tryd.ntmps14
      go_wp2
      go_ret
      exact ⟨rfl, rfl⟩
  · rw [isL_out xs b (by omega)]
    clear h hl
    go_enter Tryd.func14, Tryd.ntmps14
    go_wp2
    go_ret
    exact ⟨rfl, rfl⟩
theorem ret_int {k : IntKind} {a b : Int} (h : a = b) : Ending.returned (.int k a) = .returned (.int k b) := by rw [h]
theorem count_any {w : World} {a g n k xs o nx} (h : Lif w a g n k xs o nx) (v : Int) : Calls Tryd.prog 73 #[.pointer (some ⟨a, 0, none⟩), .int .i64 v] w fun e w' => e = .returned (.int .i64 (cnt xs v)) ∧ w' = w := by
  obtain ⟨c0, c1, c2, f2⟩ := h.cells
  have hl := h.ok.len
  have hnb := h.ok.nb
  have H := Hid.mk h
  have HL := Hid.mk hl
  clear h hl
  go_enter Tryd.func73, Tryd.ntmps73
  go_wp2
  go_loop [5, 15] (fun s i => ∃ j : Nat, j ≤ n ∧ i = .int .i64 j ∧ s = .int .i64 (cnt (xs.take j) v)) (fun _ i => n - (intOf i).toNat)
  case atStart => exact ⟨0, Nat.zero_le _, rfl, rfl⟩
  case round =>
    obtain ⟨j, hj, rfl, rfl⟩ := hrel
    by_cases hlt : j < n
    · have cj := H.out.at j hlt
      have hr := cnt_range (xs.take j) v
      have hr2 : (xs.take j).length ≤ 32 := by rw [List.length_take, HL.out]; omega
      have hs := Hid.mk (cnt_take xs j (by rw [HL.out]; exact hlt) v)
      generalize xs.getD j 0 = x at *
      have hlt1 : (j : Int) < n := by omega
      by_cases hx : x = v
      · rw [if_pos hx] at hs
        subst hx
        generalize cnt (List.take j xs) x = c at *
        go_wp2
        refine ⟨⟨j + 1, by omega, by go_num, ?_⟩, by simp [intOf]; omega⟩
        rw [hs.out]
      · rw [if_neg hx] at hs
        generalize cnt (List.take j xs) v = c at *
        go_wp2
        refine ⟨⟨j + 1, by omega, by go_num, ?_⟩, by simp [intOf]; omega⟩
        rw [hs.out, Int.add_zero]
    · have hlt1 : ¬ (j : Int) < n := by omega
      go_wp2
      go_ret
      exact ⟨ret_int (by rw [List.take_of_length_le (by rw [HL.out]; omega)]), rfl⟩
theorem index_any {w : World} {a g n k xs o nx} (h : Lif w a g n k xs o nx) : Calls Tryd.prog 36 #[.slice (some ⟨g, 0, none⟩) n n, .int .i64 1] w fun e w' => e = .returned (.int .i64 o) ∧ w' = w := by
  have hnb := h.ok.nb
  have ho := h.ok.or
  have H := Hid.mk h
  clear h
  go_enter Tryd.func36, Tryd.ntmps36
  go_wp2
  go_loop [8] (fun i => ∃ j : Nat, j ≤ n ∧ i = .int .i64 j ∧ (o < 0 ∨ (j : Int) ≤ o)) (fun i => n - (intOf i).toNat)
  case atStart => exact ⟨0, Nat.zero_le _, rfl, by omega⟩
  case round =>
    obtain ⟨j, hj, rfl, hjo⟩ := hrel
    by_cases hlt : j < n
    · have cj := H.out.at j hlt
      have hp := H.out.ok.opn j hlt
      generalize xs.getD j 0 = x at *
      have hlt1 : (j : Int) < n := by omega
      by_cases hx : x = 1
      · subst hx
        have hq : (j : Int) = o := hp.1 rfl
        clear hp
        subst hq
        go_wp2
        go_ret
        exact ⟨rfl, rfl⟩
      · have hx2 : ¬ (1 : Int) = x := fun e => hx e.symm
        have hq : ¬ (j : Int) = o := fun e => hx (hp.2 e)
        clear hp
        go_wp2
        exact ⟨⟨j + 1, by omega, by go_num, by omega⟩, by simp [intOf]; omega⟩
    · have hlt1 : ¬ (j : Int) < n := by omega
      have hq : o = -1 := by omega
      subst hq
      go_wp2
      go_ret
      exact ⟨rfl, rfl⟩
theorem at_some {w : World} {a g n k xs o nx} (h : Lif w a g n k xs o nx) (ho : 0 ≤ o) : Calls Tryd.prog 16 #[.pointer (some ⟨a, 0, none⟩)] w fun e w' => e = .returned (.tuple #[.int .i64 o, .int .i64 nx, .bool true]) ∧ ∃ m, w' = w.drewN m := by
  obtain ⟨c0, c1, c2, f2⟩ := h.cells
  have H := Hid.mk h
  clear h
  go_enter Tryd.func16, Tryd.ntmps16
  go_wp2_with (go_at_call 36; refine (index_any H.out).mono ?_; rintro e w' ⟨rfl, rfl⟩)
  go_region
  go_wp2
  go_ret3
  exact ⟨rfl, _, rfl⟩
theorem at_none {w : World} {a g n k xs o nx} (h : Lif w a g n k xs o nx) (ho : o = -1) : Calls Tryd.prog 16 #[.pointer (some ⟨a, 0, none⟩)] w fun e w' => e = .returned (.tuple #[.int .i64 0, .int .i64 0, .bool false]) ∧ w' = w := by
  subst ho
  obtain ⟨c0, c1, c2, f2⟩ := h.cells
  have H := Hid.mk h
  clear h
  go_enter Tryd.func16, Tryd.ntmps16
  go_wp2_with (go_at_call 36; refine (index_any H.out).mono ?_; rintro e w' ⟨rfl, rfl⟩)
  go_ret3
  exact ⟨rfl, rfl⟩
end Go.Proofs.YtbcnocbdifbocaaDoor.Lf
