/-
  The walks of the laws' awake, and of the law LifeNone. No condition.
-/
import Derived.Test.YtclpcodcfcegdaaActs
namespace Go.Proofs.Ytclpcodcfcegdaa
open Go Go.RowKit

/-- what a law holds of its Life -/
structure Hd (w0 : World) (a g n k : Nat) (xs : List Int) (o nx : Int) (w : World) : Prop where
  life : Lif w a g n k xs o nx
  below : Below w0.heap.size w0 w
  new : ∀ i, ownL a g i → w0.heap.size ≤ i
theorem Hd.call {w0 : World} {a g n k xs o nx} {w w' : World} (h : Hd w0 a g n k xs o nx w) (b : Below w.heap.size w w') : Hd w0 a g n k xs o nx w' := ⟨h.life.call b, below3 h.below b, h.new⟩
theorem Hd.drewN {w0 : World} {a g n k xs o nx} {w : World} (h : Hd w0 a g n k xs o nx w) (m : Nat) : Hd w0 a g n k xs o nx (w.drewN m) := h.call (below_drewN (Below.refl _ w))
theorem Hd.act {w0 : World} {a g n k xs o nx xs' o' nx'} {w w' : World} (h : Hd w0 a g n k xs o nx w) (hl : Lif w' a g n k xs' o' nx') (hk : Kp (ownL a g) w w') : Hd w0 a g n k xs' o' nx' w' :=
  ⟨hl, hk.below h.below h.below.size h.new, h.new⟩
theorem cnt010 : cnt [0, 1, 0] 0 = 2 := by decide
theorem room010 : roomL 4 [0, 1, 0] 1 1 = 11 := by decide
theorem isL010 : isL [0, 1, 0] 1 = 1 := by decide
theorem awake_any (w : World) : Calls Try.prog 7 #[] w fun e w' => e = .returned (.bool true) ∧ Below w.heap.size w w' := by
  have hn : ∀ w, Calls Try.prog 6 #[.int .i64 3, .int .i64 4] w fun e w' =>
    ∃ a g, e = .returned (.tuple #[.pointer (some ⟨a, 0, none⟩), .int .i64 0]) ∧ Lif w' a g 3 4 [0, 0, 0] (-1) 0 ∧ Below w.heap.size w w' ∧ ∀ i, ownL a g i → w.heap.size ≤ i := new_any 3 4 (by decide) (by decide)
  have ho : ∀ {w a g}, Lif w a g 3 4 [0, 0, 0] (-1) 0 → Calls Try.prog 8 #[.pointer (some ⟨a, 0, none⟩), .int .i64 1] w fun e w' => e = .returned (.bool true) ∧ Lif w' a g 3 4 [0, 1, 0] 1 0 ∧ Kp (ownL a g) w w' :=
    fun h => open_yes h 1 (by decide) (by decide) rfl
  have ht : ∀ {w a g}, Lif w a g 3 4 [0, 1, 0] 1 0 → Calls Try.prog 12 #[.pointer (some ⟨a, 0, none⟩)] w fun e w' => e = .returned (.tuple #[.int .i64 1, .int .i64 0, .bool true]) ∧ Lif w' a g 3 4 [0, 1, 0] 1 1 ∧ Kp (ownL a g) w w' :=
    fun h => take_some h 1 rfl
  have hi : ∀ {w a g}, Lif w a g 3 4 [0, 1, 0] 1 1 → Calls Try.prog 14 #[.pointer (some ⟨a, 0, none⟩), .int .i64 1] w fun e w' => e = .returned (.int .i64 1) ∧ w' = w := fun h => by
    have := is_any h 1; rwa [isL010] at this
  have hr : ∀ {w a g}, Lif w a g 3 4 [0, 1, 0] 1 1 → Calls Try.prog 15 #[.pointer (some ⟨a, 0, none⟩)] w fun e w' => e = .returned (.int .i64 11) ∧ ∃ m, w' = w.drewN m := fun h => by
    have := room_any h; rwa [room010] at this
  have hc : ∀ {w a g}, Lif w a g 3 4 [0, 1, 0] 1 1 → Calls Try.prog 17 #[.pointer (some ⟨a, 0, none⟩), .int .i64 0] w fun e w' => e = .returned (.int .i64 2) ∧ w' = w := fun h => by
    have := count_any h 0; rwa [cnt010] at this
  generalize [(0 : Int), 0, 0] = X0 at *
  generalize [(0 : Int), 1, 0] = X1 at *
  go_enter Try.func7, Try.ntmps7
  go_wp2_with (first
    | (go_at_call 6; refine (hn _).mono ?_; rintro e w1 ⟨a, g, rfl, h1, b1, o1⟩; have HS : Hid (Hd w a g 3 4 X0 (-1) 0 w1) := ⟨h1, b1, o1⟩; clear h1 b1 o1)
    | (go_at_call 8; refine (ho HS.out.life).mono ?_; rintro e w2 ⟨rfl, h2, k2⟩; replace HS := Hid.mk (HS.out.act h2 k2); clear h2 k2)
    | (go_at_call 12; refine (ht HS.out.life).mono ?_; rintro e w3 ⟨rfl, h2, k2⟩; replace HS := Hid.mk (HS.out.act h2 k2); clear h2 k2)
    | (go_at_call 14; refine (hi HS.out.life).mono ?_; rintro e w4 ⟨rfl, rfl⟩)
    | (go_at_call 15; refine (hr HS.out.life).mono ?_; rintro e w4 ⟨rfl, m, rfl⟩; replace HS := Hid.mk (HS.out.drewN m))
    | (go_at_call 17; refine (hc HS.out.life).mono ?_; rintro e w4 ⟨rfl, rfl⟩))
  go_ret
  exact ⟨rfl, HS.out.below⟩
theorem new_both (n k : Int) (w : World) : Calls Try.prog 6 #[.int .i64 n, .int .i64 k] w fun e w' =>
    (if (1 ≤ n ∧ n ≤ 32) ∧ 1 ≤ k ∧ k ≤ 16 then ∃ a : Nat, e = .returned (.tuple #[.pointer (some ⟨a, 0, none⟩), .int .i64 0]) else e = .returned (.tuple #[.pointer none, .int .i64 1])) ∧ Below w.heap.size w w' := by
  by_cases h : (1 ≤ n ∧ n ≤ 32) ∧ 1 ≤ k ∧ k ≤ 16
  · simp only [if_pos h]
    obtain ⟨⟨h1, h2⟩, h3, h4⟩ := h
    obtain ⟨n, rfl⟩ := Int.eq_ofNat_of_zero_le (show 0 ≤ n by omega)
    obtain ⟨k, rfl⟩ := Int.eq_ofNat_of_zero_le (show 0 ≤ k by omega)
    exact (new_any n k (by omega) (by omega) w).mono (fun e w' ⟨a, g, h1, h2, h3, h4⟩ => ⟨⟨a, h1⟩, h3⟩)
  · simp only [if_neg h]
    exact (new_no n k h w).mono (fun e w' ⟨h1, h2⟩ => ⟨h1, h2 ▸ Below.refl _ _⟩)
set_option maxRecDepth 20000 in
theorem lifeNone_any (n k b : Int) (w : World) : Calls Try.prog 5 #[.int .i64 n, .int .i64 k, .int .i64 b] w fun e w' => e = .returned (.bool true) ∧ Below w.heap.size w w' := by
  have hN := new_both n k
  by_cases h : (1 ≤ n ∧ n ≤ 32) ∧ 1 ≤ k ∧ k ≤ 16
  · simp only [if_pos h] at hN
    obtain ⟨⟨h1, h2⟩, h3, h4⟩ := h
    go_enter Try.func5, Try.ntmps5
    go_wp2_with (first
      | (go_at_call 12; refine (take_nil _).mono ?_; rintro e w1 ⟨rfl, rfl⟩)
      | (go_at_call 16; refine (at_nil _).mono ?_; rintro e w1 ⟨rfl, rfl⟩)
      | (go_at_call 6; refine (hN _).mono ?_; rintro e w1 ⟨⟨a, rfl⟩, b1⟩)
      | (go_at_call 7; refine (awake_any _).mono ?_; rintro e w2 ⟨rfl, b2⟩)
      | (go_at_call 14; refine (is_nil _ _).mono ?_; rintro e w1 ⟨rfl, rfl⟩)
      | (go_at_call 8; refine (open_nil _ _).mono ?_; rintro e w1 ⟨rfl, rfl⟩)
      | (go_at_call 9; refine (full_of (let_nil _ _ _)).mono ?_; rintro e w1 ⟨rfl, rfl⟩)
      | (go_at_call 10; refine (free_of (let_nil _ _ _)).mono ?_; rintro e w1 ⟨rfl, rfl⟩)
      | (go_at_call 11; refine (bad_of (let_nil _ _ _)).mono ?_; rintro e w1 ⟨rfl, rfl⟩)
      | (go_at_call 15; refine (room_nil _).mono ?_; rintro e w1 ⟨rfl, rfl⟩)
      | (go_at_call 17; refine (count_nil _ _).mono ?_; rintro e w1 ⟨rfl, rfl⟩))
    go_ret
    exact ⟨rfl, below3 b1 b2⟩
  · simp only [if_neg h] at hN
    have h4 : n < 1 ∨ (1 ≤ n ∧ 32 < n) ∨ (1 ≤ n ∧ n ≤ 32 ∧ k < 1) ∨ (1 ≤ n ∧ n ≤ 32 ∧ 1 ≤ k ∧ 16 < k) := by omega
    clear h
    rcases h4 with h1 | ⟨h1, h2⟩ | ⟨h1, h2, h3⟩ | ⟨h1, h2, h3, h4⟩
    all_goals
      try have hd : decide (k ≤ 16) = false := decide_eq_false (by omega)
      go_enter Try.func5, Try.ntmps5
      go_wp2_with (first
        | (go_at_call 12; refine (take_nil _).mono ?_; rintro e w1 ⟨rfl, rfl⟩)
        | (go_at_call 16; refine (at_nil _).mono ?_; rintro e w1 ⟨rfl, rfl⟩)
        | (go_at_call 6; refine (hN _).mono ?_; rintro e w1 ⟨rfl, b1⟩)
        | (go_at_call 7; refine (awake_any _).mono ?_; rintro e w2 ⟨rfl, b2⟩)
        | (go_at_call 14; refine (is_nil _ _).mono ?_; rintro e w1 ⟨rfl, rfl⟩)
        | (go_at_call 8; refine (open_nil _ _).mono ?_; rintro e w1 ⟨rfl, rfl⟩)
        | (go_at_call 9; refine (full_of (let_nil _ _ _)).mono ?_; rintro e w1 ⟨rfl, rfl⟩)
        | (go_at_call 10; refine (free_of (let_nil _ _ _)).mono ?_; rintro e w1 ⟨rfl, rfl⟩)
        | (go_at_call 11; refine (bad_of (let_nil _ _ _)).mono ?_; rintro e w1 ⟨rfl, rfl⟩)
        | (go_at_call 15; refine (room_nil _).mono ?_; rintro e w1 ⟨rfl, rfl⟩)
        | (go_at_call 17; refine (count_nil _ _).mono ?_; rintro e w1 ⟨rfl, rfl⟩))
      go_ret
      exact ⟨rfl, below3 b1 b2⟩
end Go.Proofs.Ytclpcodcfcegdaa
