/-
  The walk of the laws' awake. No condition.
-/
import Derived.Test.YtcnjlfngpbnmcaaFew
namespace Go.Proofs.Ytcnjlfngpbnmcaa
open Go Go.RowKit

def f3 (i : Nat) : Int × Int := [((4 : Int), (3 : Int)), (7, 1), (9, 1)].getD i (0, 0)
theorem f3_ok : ∀ i, i < 3 → 0 ≤ (f3 i).2 ∧ (f3 i).2 ≤ 1000000 := by decide
theorem f3_row {w : World} {g : Nat} (h : Row w g 25 .i64 [4, 3, 7, 1, 9, 1]) (k n : Nat) (hk : k + n ≤ 3) : Ws w (some ⟨g, k * 2, none⟩) n (fun i => f3 (k + i)) := by
  intro i hi
  refine ⟨g, k * 2, rfl, h.lt, ?_, ?_⟩
  · rw [show k * 2 + i * 2 = (k + i) * 2 by omega, h.cell _ (by simp; omega)]
    show _ = some (Value.int .i64 (f3 (k + i)).1)
    have : k + i < 3 := by omega
    generalize k + i = z at *
    match z, this with
    | 0, _ => rfl
    | 1, _ => rfl
    | 2, _ => rfl
  · rw [show k * 2 + i * 2 + 1 = (k + i) * 2 + 1 by omega, h.cell _ (by simp; omega)]
    show _ = some (Value.int .i64 (f3 (k + i)).2)
    have : k + i < 3 := by omega
    generalize k + i = z at *
    match z, this with
    | 0, _ => rfl
    | 1, _ => rfl
    | 2, _ => rfl
theorem aw_lst : lst (fun i => f3 (0 + i)) 3 = 1 := by decide
theorem aw_spr : spr (fun i => f3 (0 + i)) 3 = 2 := by decide
theorem aw_c1 : cld (fun i => f3 (0 + i)) 3 (fun i => f3 (0 + i)) 1 0 = -1 := by decide
theorem aw_c2 : cld (fun i => f3 (0 + i)) 3 (fun i => f3 (1 + i)) 2 1 = 0 := by decide
theorem awake_any (w : World) : Calls Try.prog 7 #[] w fun e w' => e = .returned (.bool true) ∧ Below w.heap.size w w' := by
  have hL : ∀ {w : World} {g : Nat}, Row w g 25 .i64 [4, 3, 7, 1, 9, 1] → Calls Try.prog 8 #[.slice (some ⟨g, 0, none⟩) 3 3] w fun e w' => e = .returned (.int .i64 1) ∧ Below w.heap.size w w' := fun h => by
    have := least_any (cap := 3) (f3_row h 0 3 (by omega)) (by omega); rwa [aw_lst] at this
  have hS : ∀ {w : World} {g : Nat}, Row w g 25 .i64 [4, 3, 7, 1, 9, 1] → Calls Try.prog 9 #[.slice (some ⟨g, 0, none⟩) 3 3] w fun e w' => e = .returned (.int .i64 2) ∧ Below w.heap.size w w' := fun h => by
    have := spread_any (cap := 3) (f3_row h 0 3 (by omega)) (by omega) (fun i hi => f3_ok _ (by omega)); rwa [aw_spr] at this
  have hC : ∀ {w : World} {g : Nat}, Row w g 25 .i64 [4, 3, 7, 1, 9, 1] → ∀ (o n c : Nat) (l r : Int), (o, n, c, l, r) = (0, 1, 3, 0, -1) ∨ (o, n, c, l, r) = (2, 2, 2, 1, 0) →
      Calls Try.prog 10 #[.slice (some ⟨g, 0, none⟩) 3 3, .slice (some ⟨g, o, none⟩) n c, .int .i64 l] w fun e w' => e = .returned (.int .i64 r) ∧ Below w.heap.size w w' := fun h o n c l r e => by
    rcases e with e | e <;> cases e
    · have := cold_any (ca := 3) (cf := 3) (f3_row h 0 3 (by omega)) (f3_row h 0 1 (by omega)) (by omega) (by omega) (fun i hi => f3_ok _ (by omega)) (fun i hi => f3_ok _ (by omega)) 0; rwa [aw_c1] at this
    · have := cold_any (ca := 3) (cf := 2) (f3_row h 0 3 (by omega)) (f3_row h 1 2 (by omega)) (by omega) (by omega) (fun i hi => f3_ok _ (by omega)) (fun i hi => f3_ok _ (by omega)) 1; rwa [aw_c2] at this
  have HC := Hid.mk (And.intro @hL (And.intro @hS @hC))
  clear hL hS hC
  go_enter Try.func7, Try.ntmps7
  go_upto_region 2 with fail
  have r0 : Row (w.alloc (.cells #[.int .i64 4, .int .i64 3, .int .i64 7, .int .i64 1, .int .i64 9, .int .i64 1] 25)) w.heap.size 25 .i64 [4, 3, 7, 1, 9, 1] := Row.fresh w 25 .i64 [4, 3, 7, 1, 9, 1]
  have b0 := (Below.refl w.heap.size w).alloc (Nat.le_refl _) (.cells #[.int .i64 4, .int .i64 3, .int .i64 7, .int .i64 1, .int .i64 9, .int .i64 1] 25)
  generalize (w.alloc (.cells #[.int .i64 4, .int .i64 3, .int .i64 7, .int .i64 1, .int .i64 9, .int .i64 1] 25)) = W at *
  have HS := Hid.mk (And.intro r0 b0)
  clear r0 b0
  go_wp2_with (first
    | (go_at_call 8; refine (HC.out.1 HS.out.1).mono ?_; rintro e w1 ⟨rfl, b1⟩; replace HS := Hid.mk (And.intro (HS.out.1.call b1) (below3 HS.out.2 b1)); clear b1)
    | (go_at_call 9; refine (HC.out.2.1 HS.out.1).mono ?_; rintro e w2 ⟨rfl, b1⟩; replace HS := Hid.mk (And.intro (HS.out.1.call b1) (below3 HS.out.2 b1)); clear b1)
    | (go_at_call 10; refine (HC.out.2.2 HS.out.1 _ _ _ _ _ (by first | exact .inl rfl | exact .inr rfl)).mono ?_; rintro e w3 ⟨rfl, b1⟩; replace HS := Hid.mk (And.intro (HS.out.1.call b1) (below3 HS.out.2 b1)); clear b1))
  go_ret
  exact ⟨rfl, HS.out.2⟩
end Go.Proofs.Ytcnjlfngpbnmcaa
