/-
  The walk of PageFrames. Condition: the table's cells hold what the text lays.
-/
import Derived.Test.YtaagnlgaadgpdaaDoorAwk
namespace Go.Proofs.YtaagnlgaadgpdaaDoor
open Go Go.RowKit

theorem frs_keep {w : World} {K S I O W : Int} {wx w2 : World} (h : wx.cell? ⟨w.heap.size, 0, none⟩ = some (.int .i64 K) ∧ wx.cell? ⟨w.heap.size, 1, none⟩ = some (.int .u64 S) ∧ wx.cell? ⟨w.heap.size, 2, none⟩ = some (.int .i64 I) ∧ wx.cell? ⟨w.heap.size, 3, none⟩ = some (.int .i64 O) ∧ wx.cell? ⟨w.heap.size, 4, none⟩ = some (.int .i64 W) ∧ FrS w w.heap.size K S I O W wx) (b : Below wx.heap.size wx w2) : w2.cell? ⟨w.heap.size, 0, none⟩ = some (.int .i64 K) ∧ w2.cell? ⟨w.heap.size, 1, none⟩ = some (.int .u64 S) ∧ w2.cell? ⟨w.heap.size, 2, none⟩ = some (.int .i64 I) ∧ w2.cell? ⟨w.heap.size, 3, none⟩ = some (.int .i64 O) ∧ w2.cell? ⟨w.heap.size, 4, none⟩ = some (.int .i64 W) ∧ FrS w w.heap.size K S I O W w2 := by
  have h2 := h.2.2.2.2.2.call b
  have h5 := h2.1
  exact ⟨h5.1, h5.2.1, h5.2.2.1, h5.2.2.2.1, h5.2.2.2.2, h2⟩
theorem FrS.drew {w : World} {g : Nat} {K S I O W : Int} {wx : World} (h : FrS w g K S I O W wx) : FrS w g K S I O W wx.drew := ⟨h.1, ⟨h.2.1.1, h.2.1.2.drew⟩, h.2.2⟩
theorem bne_self (b : Bool) : (b != b) = false := by cases b <;> rfl
set_option maxHeartbeats 4000000 in
theorem pageFrames_bad (K S I O W : Int) (hW : W ≤ 9223372036854775807) (s : ByteArray) (z n : Int) (hn : z.tmod 400 = n) (B : Bool) (hc : chk K I O W = B) (h : B = false ∨ (B = true ∧ (n < 0 ∨ (0 ≤ n ∧ n < ((cut s).size : Int))))) (w : World) (hT : Tab w) :
    Calls Tryd.prog 3 #[tagV K S I O W, .string s, .int .i64 z] w fun e w' => e = .returned (.bool true) ∧ Below w.heap.size w w' := by
  have hu := cut_size s
  have hnb : -400 < n ∧ n < 400 := by rw [← hn]; exact ⟨Int.lt_tmod_of_pos z (by omega), Int.tmod_lt_of_pos z (by omega)⟩
  have fb := fun w => frame_bad K S I O W hW (cut s) n (fun h2 => by rw [hc] at h2; rcases h with h | ⟨h, h3⟩ <;> simp_all <;> omega) w
  generalize hU : cut s = U at *
  have HU := Hid.mk hU
  clear hU
  unfold tagV at fb ⊢
  have hq := frs_fresh w K S I O W hT
  generalize hw0 : w.alloc (.cells #[.int .i64 K, .int .u64 S, .int .i64 I, .int .i64 O, .int .i64 W] 24) = V0 at hq
  have HQ := Hid.mk hq
  have HW0 := Hid.mk hw0
  clear hw0 hq hT
  rcases h with rfl | ⟨rfl, h | ⟨h, h4⟩⟩
  · go_enter Tryd.func3, Tryd.ntmps3
    go_upto_region 4 with (first
      | (go_at_call 7; refine (few_any _ _).mono ?_; rintro e w0 ⟨rfl, hw0⟩; rw [hw0]; clear hw0; rw [HU.out])
      | (go_at_call 8; rw [HW0.out]; refine (fb _).mono ?_; rintro e w1 ⟨rfl, b1⟩; replace HQ := Hid.mk (HQ.out.call b1); clear b1; obtain ⟨c0, c1, c2, c3, c4⟩ := HQ.out.1)
      | (go_at_call 9; refine (refCheck_any _ _ _ _ _ hW _).mono ?_; rintro e w2 ⟨rfl, b2⟩; rw [hc]; replace HQ := Hid.mk (HQ.out.call b2); clear b2 c0 c1 c2 c3 c4; obtain ⟨c0, c1, c2, c3, c4⟩ := HQ.out.1))
    have hS1 : Hid (w2.drew.cell? ⟨w.heap.size, 0, none⟩ = some (.int .i64 K) ∧ w2.drew.cell? ⟨w.heap.size, 1, none⟩ = some (.int .u64 S) ∧ w2.drew.cell? ⟨w.heap.size, 2, none⟩ = some (.int .i64 I) ∧ w2.drew.cell? ⟨w.heap.size, 3, none⟩ = some (.int .i64 O) ∧ w2.drew.cell? ⟨w.heap.size, 4, none⟩ = some (.int .i64 W) ∧ FrS w w.heap.size K S I O W w2.drew) := ⟨c0, c1, c2, c3, c4, HQ.out.drew⟩
    go_region_held3 (fun w' => w'.cell? ⟨w.heap.size, 0, none⟩ = some (.int .i64 K) ∧ w'.cell? ⟨w.heap.size, 1, none⟩ = some (.int .u64 S) ∧ w'.cell? ⟨w.heap.size, 2, none⟩ = some (.int .i64 I) ∧ w'.cell? ⟨w.heap.size, 3, none⟩ = some (.int .i64 O) ∧ w'.cell? ⟨w.heap.size, 4, none⟩ = some (.int .i64 W) ∧ FrS w w.heap.size K S I O W w') (first | assumption | exact hS1.out | exact frs_keep (by assumption) (by assumption) | fail)
      (first | (go_at_call 10; refine (awake_any _ (by assumption : _ ∧ _ ∧ _ ∧ _ ∧ _ ∧ FrS w w.heap.size K S I O W _).2.2.2.2.2.2.2).mono ?_; rintro e w3 ⟨rfl, b3⟩) | (go_at_call 11; refine (check_any _ _ _ _ _ hW _).mono ?_; rintro e w3 ⟨rfl, b3⟩; rw [hc]) | (go_at_call 9; refine (refCheck_any _ _ _ _ _ hW _).mono ?_; rintro e w3 ⟨rfl, b3⟩; rw [hc]))
    have HX : Hid (w3.cell? ⟨w.heap.size, 0, none⟩ = some (.int .i64 K) ∧ w3.cell? ⟨w.heap.size, 1, none⟩ = some (.int .u64 S) ∧ w3.cell? ⟨w.heap.size, 2, none⟩ = some (.int .i64 I) ∧ w3.cell? ⟨w.heap.size, 3, none⟩ = some (.int .i64 O) ∧ w3.cell? ⟨w.heap.size, 4, none⟩ = some (.int .i64 W) ∧ FrS w w.heap.size K S I O W w3) := Hid.mk (by assumption)
    replace HQ := Hid.mk HX.out.2.2.2.2.2
    clear HX hS1 c0 c1 c2 c3 c4
    obtain ⟨c0, c1, c2, c3, c4⟩ := HQ.out.1
    go_wp2_with fail
    go_ret
    exact ⟨rfl, HQ.out.2.1.2⟩
  · go_enter Tryd.func3, Tryd.ntmps3
    go_upto_region 4 with (first
      | (go_at_call 7; refine (few_any _ _).mono ?_; rintro e w0 ⟨rfl, hw0⟩; rw [hw0]; clear hw0; rw [HU.out])
      | (go_at_call 8; rw [HW0.out]; refine (fb _).mono ?_; rintro e w1 ⟨rfl, b1⟩; replace HQ := Hid.mk (HQ.out.call b1); clear b1; obtain ⟨c0, c1, c2, c3, c4⟩ := HQ.out.1)
      | (go_at_call 9; refine (refCheck_any _ _ _ _ _ hW _).mono ?_; rintro e w2 ⟨rfl, b2⟩; rw [hc]; replace HQ := Hid.mk (HQ.out.call b2); clear b2 c0 c1 c2 c3 c4; obtain ⟨c0, c1, c2, c3, c4⟩ := HQ.out.1))
    have hS1 : Hid (w2.drew.cell? ⟨w.heap.size, 0, none⟩ = some (.int .i64 K) ∧ w2.drew.cell? ⟨w.heap.size, 1, none⟩ = some (.int .u64 S) ∧ w2.drew.cell? ⟨w.heap.size, 2, none⟩ = some (.int .i64 I) ∧ w2.drew.cell? ⟨w.heap.size, 3, none⟩ = some (.int .i64 O) ∧ w2.drew.cell? ⟨w.heap.size, 4, none⟩ = some (.int .i64 W) ∧ FrS w w.heap.size K S I O W w2.drew) := ⟨c0, c1, c2, c3, c4, HQ.out.drew⟩
    go_region_held3 (fun w' => w'.cell? ⟨w.heap.size, 0, none⟩ = some (.int .i64 K) ∧ w'.cell? ⟨w.heap.size, 1, none⟩ = some (.int .u64 S) ∧ w'.cell? ⟨w.heap.size, 2, none⟩ = some (.int .i64 I) ∧ w'.cell? ⟨w.heap.size, 3, none⟩ = some (.int .i64 O) ∧ w'.cell? ⟨w.heap.size, 4, none⟩ = some (.int .i64 W) ∧ FrS w w.heap.size K S I O W w') (first | assumption | exact hS1.out | exact frs_keep (by assumption) (by assumption) | fail)
      (first | (go_at_call 10; refine (awake_any _ (by assumption : _ ∧ _ ∧ _ ∧ _ ∧ _ ∧ FrS w w.heap.size K S I O W _).2.2.2.2.2.2.2).mono ?_; rintro e w3 ⟨rfl, b3⟩) | (go_at_call 11; refine (check_any _ _ _ _ _ hW _).mono ?_; rintro e w3 ⟨rfl, b3⟩; rw [hc]) | (go_at_call 9; refine (refCheck_any _ _ _ _ _ hW _).mono ?_; rintro e w3 ⟨rfl, b3⟩; rw [hc]))
    have HX : Hid (w3.cell? ⟨w.heap.size, 0, none⟩ = some (.int .i64 K) ∧ w3.cell? ⟨w.heap.size, 1, none⟩ = some (.int .u64 S) ∧ w3.cell? ⟨w.heap.size, 2, none⟩ = some (.int .i64 I) ∧ w3.cell? ⟨w.heap.size, 3, none⟩ = some (.int .i64 O) ∧ w3.cell? ⟨w.heap.size, 4, none⟩ = some (.int .i64 W) ∧ FrS w w.heap.size K S I O W w3) := Hid.mk (by assumption)
    replace HQ := Hid.mk HX.out.2.2.2.2.2
    clear HX hS1 c0 c1 c2 c3 c4
    obtain ⟨c0, c1, c2, c3, c4⟩ := HQ.out.1
    go_wp2_with fail
    go_ret
    exact ⟨rfl, HQ.out.2.1.2⟩
  · have h4d : decide ((U.size : Int) ≤ n) = false := decide_eq_false (by omega)
    clear h4
    go_enter Tryd.func3, Tryd.ntmps3
    go_upto_region 4 with (first
      | (go_at_call 7; refine (few_any _ _).mono ?_; rintro e w0 ⟨rfl, hw0⟩; rw [hw0]; clear hw0; rw [HU.out])
      | (go_at_call 8; rw [HW0.out]; refine (fb _).mono ?_; rintro e w1 ⟨rfl, b1⟩; replace HQ := Hid.mk (HQ.out.call b1); clear b1; obtain ⟨c0, c1, c2, c3, c4⟩ := HQ.out.1)
      | (go_at_call 9; refine (refCheck_any _ _ _ _ _ hW _).mono ?_; rintro e w2 ⟨rfl, b2⟩; rw [hc]; replace HQ := Hid.mk (HQ.out.call b2); clear b2 c0 c1 c2 c3 c4; obtain ⟨c0, c1, c2, c3, c4⟩ := HQ.out.1))
    have hS1 : Hid (w2.drew.cell? ⟨w.heap.size, 0, none⟩ = some (.int .i64 K) ∧ w2.drew.cell? ⟨w.heap.size, 1, none⟩ = some (.int .u64 S) ∧ w2.drew.cell? ⟨w.heap.size, 2, none⟩ = some (.int .i64 I) ∧ w2.drew.cell? ⟨w.heap.size, 3, none⟩ = some (.int .i64 O) ∧ w2.drew.cell? ⟨w.heap.size, 4, none⟩ = some (.int .i64 W) ∧ FrS w w.heap.size K S I O W w2.drew) := ⟨c0, c1, c2, c3, c4, HQ.out.drew⟩
    go_region_held3 (fun w' => w'.cell? ⟨w.heap.size, 0, none⟩ = some (.int .i64 K) ∧ w'.cell? ⟨w.heap.size, 1, none⟩ = some (.int .u64 S) ∧ w'.cell? ⟨w.heap.size, 2, none⟩ = some (.int .i64 I) ∧ w'.cell? ⟨w.heap.size, 3, none⟩ = some (.int .i64 O) ∧ w'.cell? ⟨w.heap.size, 4, none⟩ = some (.int .i64 W) ∧ FrS w w.heap.size K S I O W w') (first | assumption | exact hS1.out | exact frs_keep (by assumption) (by assumption) | fail)
      (first | (go_at_call 10; refine (awake_any _ (by assumption : _ ∧ _ ∧ _ ∧ _ ∧ _ ∧ FrS w w.heap.size K S I O W _).2.2.2.2.2.2.2).mono ?_; rintro e w3 ⟨rfl, b3⟩) | (go_at_call 11; refine (check_any _ _ _ _ _ hW _).mono ?_; rintro e w3 ⟨rfl, b3⟩; rw [hc]) | (go_at_call 9; refine (refCheck_any _ _ _ _ _ hW _).mono ?_; rintro e w3 ⟨rfl, b3⟩; rw [hc]))
    have HX : Hid (w3.cell? ⟨w.heap.size, 0, none⟩ = some (.int .i64 K) ∧ w3.cell? ⟨w.heap.size, 1, none⟩ = some (.int .u64 S) ∧ w3.cell? ⟨w.heap.size, 2, none⟩ = some (.int .i64 I) ∧ w3.cell? ⟨w.heap.size, 3, none⟩ = some (.int .i64 O) ∧ w3.cell? ⟨w.heap.size, 4, none⟩ = some (.int .i64 W) ∧ FrS w w.heap.size K S I O W w3) := Hid.mk (by assumption)
    replace HQ := Hid.mk HX.out.2.2.2.2.2
    clear HX hS1 c0 c1 c2 c3 c4
    obtain ⟨c0, c1, c2, c3, c4⟩ := HQ.out.1
    go_wp2_with fail
    go_ret
    exact ⟨rfl, HQ.out.2.1.2⟩
set_option maxHeartbeats 4000000 in
theorem pageFrames_ok (K S I O W : Nat) (hm : mayB K I O W) (hS : S < 18446744073709551616) (s : ByteArray) (z : Int) (n : Nat) (hn : z.tmod 400 = n) (hle : (cut s).size ≤ n) (w : World) (hT : Tab w) :
    Calls Tryd.prog 3 #[tagV K S I O W, .string s, .int .i64 z] w fun e w' => e = .returned (.bool true) ∧ Below w.heap.size w w' := by
  have hu := cut_size s
  have hnb : (n : Int) < 400 := by rw [← hn]; exact Int.tmod_lt_of_pos z (by omega)
  have hc := chk_iff.2 hm
  have fb := fun w hT => frame_ok K S I O W hm (cut s) n hle (by omega) w hT
  have hV := Val.framed K S I O W hm hS (cut s) n hle (by omega)
  have lk := fun w hT => look_v hV w hT
  have hm2 := hm
  unfold mayB at hm2
  have hW : (W : Int) ≤ 9223372036854775807 := by omega
  have rf := fun w => refFrame_any K S I O W (by omega) hS (by omega) (by omega) (by omega) (cut s) n hle (by omega) w
  clear hV hm hm2
  generalize padB (cut s) n = D at *
  generalize spareB K S I O W (cut s) n = P at *
  generalize hU : cut s = U at *
  have HU := Hid.mk hU
  clear hU
  unfold tagV at fb rf lk ⊢
  have hq := frs_fresh w K S I O W hT
  generalize hw0 : w.alloc (.cells #[.int .i64 K, .int .u64 S, .int .i64 I, .int .i64 O, .int .i64 W] 24) = V0 at hq
  have HQ := Hid.mk hq
  have HW0 := Hid.mk hw0
  have hleI : (U.size : Int) ≤ (n : Int) := by omega
  have hled : decide ((U.size : Int) ≤ (n : Int)) = true := decide_eq_true hleI
  clear hw0 hq hT hle
  go_enter Tryd.func3, Tryd.ntmps3
  go_upto_region 4 with (first
    | (go_at_call 7; refine (few_any _ _).mono ?_; rintro e w0 ⟨rfl, hw0⟩; rw [hw0]; clear hw0; rw [HU.out])
    | (go_at_call 8; rw [HW0.out]; refine (fb _ HQ.out.2.2).mono ?_; rintro e w1 ⟨rfl, b1⟩; replace HQ := Hid.mk (HQ.out.call b1); clear b1; obtain ⟨c0, c1, c2, c3, c4⟩ := HQ.out.1)
    | (go_at_call 9; refine (refCheck_any _ _ _ _ _ hW _).mono ?_; rintro e w2 ⟨rfl, b2⟩; rw [hc]; replace HQ := Hid.mk (HQ.out.call b2); clear b2 c0 c1 c2 c3 c4; obtain ⟨c0, c1, c2, c3, c4⟩ := HQ.out.1))
  have hS1 : Hid (w2.drew.cell? ⟨w.heap.size, 0, none⟩ = some (.int .i64 K) ∧ w2.drew.cell? ⟨w.heap.size, 1, none⟩ = some (.int .u64 S) ∧ w2.drew.cell? ⟨w.heap.size, 2, none⟩ = some (.int .i64 I) ∧ w2.drew.cell? ⟨w.heap.size, 3, none⟩ = some (.int .i64 O) ∧ w2.drew.cell? ⟨w.heap.size, 4, none⟩ = some (.int .i64 W) ∧ FrS w w.heap.size K S I O W w2.drew) := ⟨c0, c1, c2, c3, c4, HQ.out.drew⟩
  go_region_held3 (fun w' => w'.cell? ⟨w.heap.size, 0, none⟩ = some (.int .i64 K) ∧ w'.cell? ⟨w.heap.size, 1, none⟩ = some (.int .u64 S) ∧ w'.cell? ⟨w.heap.size, 2, none⟩ = some (.int .i64 I) ∧ w'.cell? ⟨w.heap.size, 3, none⟩ = some (.int .i64 O) ∧ w'.cell? ⟨w.heap.size, 4, none⟩ = some (.int .i64 W) ∧ FrS w w.heap.size K S I O W w') (first | assumption | exact hS1.out | exact frs_keep (by assumption) (by assumption) | fail)
    (first | (go_at_call 10; refine (awake_any _ (by assumption : _ ∧ _ ∧ _ ∧ _ ∧ _ ∧ FrS w w.heap.size K S I O W _).2.2.2.2.2.2.2).mono ?_; rintro e w3 ⟨rfl, b3⟩) | (go_at_call 11; refine (check_any _ _ _ _ _ hW _).mono ?_; rintro e w3 ⟨rfl, b3⟩; rw [hc]) | (go_at_call 9; refine (refCheck_any _ _ _ _ _ hW _).mono ?_; rintro e w3 ⟨rfl, b3⟩; rw [hc]))
  have HX : Hid (w3.cell? ⟨w.heap.size, 0, none⟩ = some (.int .i64 K) ∧ w3.cell? ⟨w.heap.size, 1, none⟩ = some (.int .u64 S) ∧ w3.cell? ⟨w.heap.size, 2, none⟩ = some (.int .i64 I) ∧ w3.cell? ⟨w.heap.size, 3, none⟩ = some (.int .i64 O) ∧ w3.cell? ⟨w.heap.size, 4, none⟩ = some (.int .i64 W) ∧ FrS w w.heap.size K S I O W w3) := Hid.mk (by assumption)
  replace HQ := Hid.mk HX.out.2.2.2.2.2
  clear HX hS1 c0 c1 c2 c3 c4
  obtain ⟨c0, c1, c2, c3, c4⟩ := HQ.out.1
  go_upto_region 9 with (first
    | (go_at_call 12; refine (rf _).mono ?_; rintro e w5 ⟨rfl, b5⟩; replace HQ := Hid.mk (HQ.out.call b5); clear b5))
  go_upto_region 10 with (first
    | (go_at_call 13; refine (lk _ HQ.out.2.2).mono ?_; rintro e w6 ⟨rfl, b6⟩; replace HQ := Hid.mk (HQ.out.call b6); clear b6))
  have hN := (TB.fresh w6 K S I O W).five
  have hO := HQ.out.call (below_one w6 (.cells #[.int .i64 K, .int .u64 S, .int .i64 I, .int .i64 O, .int .i64 W] 24))
  clear c0 c1 c2 c3 c4 HQ
  generalize w6.heap.size = G at *
  generalize (w6.alloc (.cells #[.int .i64 K, .int .u64 S, .int .i64 I, .int .i64 O, .int .i64 W] 24)) = V at *
  obtain ⟨c0, c1, c2, c3, c4⟩ := hN
  obtain ⟨d0, d1, d2, d3, d4⟩ := hO.1
  have HQ := Hid.mk hO
  clear hO fb rf lk
  go_wp2_with fail
  go_ret
  exact ⟨rfl, HQ.out.2.1.2⟩
/- THE LAW PageFrames -/
theorem pageFrames_any (K S I O W : Int) (hW : W ≤ 9223372036854775807) (hS0 : 0 ≤ S) (hS : S ≤ 18446744073709551615) (s : ByteArray) (z : Int) (w : World) (hT : Tab w) :
    Calls Tryd.prog 3 #[tagV K S I O W, .string s, .int .i64 z] w fun e w' => e = .returned (.bool true) ∧ Below w.heap.size w w' := by
  cases hc : chk K I O W with
  | false => exact pageFrames_bad K S I O W hW s z _ rfl false hc (.inl rfl) w hT
  | true =>
    by_cases h0 : z.tmod 400 < 0
    · exact pageFrames_bad K S I O W hW s z _ rfl true hc (.inr ⟨rfl, .inl h0⟩) w hT
    · by_cases h1 : z.tmod 400 < ((cut s).size : Int)
      · exact pageFrames_bad K S I O W hW s z _ rfl true hc (.inr ⟨rfl, .inr ⟨by omega, h1⟩⟩) w hT
      · have hm := chk_iff.1 hc
        have hm2 := hm
        unfold mayB at hm2
        obtain ⟨k, rfl⟩ := Int.eq_ofNat_of_zero_le (show 0 ≤ K by omega)
        obtain ⟨q, rfl⟩ := Int.eq_ofNat_of_zero_le hS0
        obtain ⟨i, rfl⟩ := Int.eq_ofNat_of_zero_le (show 0 ≤ I by omega)
        obtain ⟨o, rfl⟩ := Int.eq_ofNat_of_zero_le (show 0 ≤ O by omega)
        obtain ⟨x, rfl⟩ := Int.eq_ofNat_of_zero_le (show 0 ≤ W by omega)
        obtain ⟨n, hn⟩ := Int.eq_ofNat_of_zero_le (show 0 ≤ z.tmod 400 by omega)
        exact pageFrames_ok k q i o x hm (by omega) s z n hn (by omega) w hT
end Go.Proofs.YtaagnlgaadgpdaaDoor
