/-
  The laws' own 'awake'; the walk of PageLooks. Condition: the table's cells hold what the text lays.
-/
import Derived.Test.YtaagnlgaadgpdaaDoorVal
namespace Go.Proofs.YtaagnlgaadgpdaaDoor
open Go Go.RowKit

theorem awake_any (w : World) (hT : Tab w) : Calls Tryd.prog 10 #[] w fun e w' => e = .returned (.bool true) ∧ Below w.heap.size w w' := by
  have hm : mayB ((2 : Nat) : Int) ((1 : Nat) : Int) ((3 : Nat) : Int) ((4 : Nat) : Int) := by unfold mayB; omega
  have hs : (⟨#[116, 101, 120, 116]⟩ : ByteArray).size ≤ 64 := by decide
  have hV := Val.framed 2 9 1 3 4 hm (by omega) ⟨#[116, 101, 120, 116]⟩ 64 hs (by omega)
  have h8 := fun w hT => frame_ok 2 9 1 3 4 hm ⟨#[116, 101, 120, 116]⟩ 64 hs (by omega) w hT
  have h13 := fun w hT => look_v hV w hT
  have hz := spareB_size 2 9 1 3 4 ⟨#[116, 101, 120, 116]⟩ 64
  generalize padB ⟨#[116, 101, 120, 116]⟩ 64 = D at *
  generalize spareB 2 9 1 3 4 ⟨#[116, 101, 120, 116]⟩ 64 = P at *
  unfold tagV at h8 h13
  have HQ := Hid.mk (And.intro (TB.fresh w 2 9 1 3 4) (And.intro (below_one w (.cells #[.int .i64 2, .int .u64 9, .int .i64 1, .int .i64 3, .int .i64 4] 24)) (hT.alloc (.cells #[.int .i64 2, .int .u64 9, .int .i64 1, .int .i64 3, .int .i64 4] 24))))
  clear hV hm hs hT
  go_enter Tryd.func10, Tryd.ntmps10
  go_upto_region 4 with (first
    | (go_at_call 8; refine (h8 _ HQ.out.2.2).mono ?_; rintro e w1 ⟨rfl, b1⟩; replace HQ := Hid.mk (And.intro (HQ.out.1.call b1) (And.intro (below3 HQ.out.2.1 b1) (HQ.out.2.2.call b1))); clear b1)
    | (go_at_call 13; refine (h13 _ HQ.out.2.2).mono ?_; rintro e w2 ⟨rfl, b1⟩; replace HQ := Hid.mk (And.intro (HQ.out.1.call b1) (And.intro (below3 HQ.out.2.1 b1) (HQ.out.2.2.call b1))); clear b1))
  have hN := TB.fresh w2 2 9 1 3 4
  have hb := HQ.out.2.1.alloc HQ.out.2.1.size (.cells #[.int .i64 2, .int .u64 9, .int .i64 1, .int .i64 3, .int .i64 4] 24)
  have hO := HQ.out.1.alloc (.cells #[.int .i64 2, .int .u64 9, .int .i64 1, .int .i64 3, .int .i64 4] 24)
  clear HQ h8 h13
  generalize w2.heap.size = G at *
  generalize (w2.alloc (.cells #[.int .i64 2, .int .u64 9, .int .i64 1, .int .i64 3, .int .i64 4] 24)) = V at *
  obtain ⟨c0, c1, c2, c3, c4⟩ := hN.five
  obtain ⟨d0, d1, d2, d3, d4⟩ := hO.five
  clear hN hO
  go_wp2_with fail
  go_ret
  exact ⟨rfl, hb⟩
/-- what a law that holds two tags and the table holds -/
theorem pageLooks_aux (a b : ByteArray) (c K S I O W : Int) (t : ByteArray)
    (h13 : ∀ w, Tab w → Calls Tryd.prog 13 #[.string (cut a), .string (cut b)] w fun e w' => e = .returned (.tuple #[.int .i64 c, tagV K S I O W, .string t]) ∧ Below w.heap.size w w')
    (h14 : ∀ w, Calls Tryd.prog 14 #[.string (cut a), .string (cut b)] w fun e w' => e = .returned (.tuple #[.int .i64 c, tagV K S I O W, .string t]) ∧ Below w.heap.size w w') (w : World) (hT : Tab w) :
    Calls Tryd.prog 4 #[.string a, .string b] w fun e w' => e = .returned (.bool true) ∧ Below w.heap.size w w' := by
  generalize hA : cut a = A at *
  generalize hB : cut b = B at *
  have HC := Hid.mk (And.intro hA hB)
  clear hA hB
  unfold tagV at h13 h14
  have HT := Hid.mk hT
  clear hT
  go_enter Tryd.func4, Tryd.ntmps4
  go_upto_region 3 with (first
    | (go_at_call 7; refine (few_any _ _).mono ?_; rintro e w0 ⟨rfl, hw0⟩; rw [hw0]; clear hw0; (first | rw [HC.out.1] | rw [HC.out.2]))
    | (go_at_call 13; refine (h13 _ HT.out).mono ?_; rintro e w1 ⟨rfl, b1⟩; have HQ := Hid.mk (And.intro (TB.fresh w1 K S I O W) (And.intro (b1.alloc b1.size (.cells #[.int .i64 K, .int .u64 S, .int .i64 I, .int .i64 O, .int .i64 W] 24)) ((HT.out.call b1).alloc (.cells #[.int .i64 K, .int .u64 S, .int .i64 I, .int .i64 O, .int .i64 W] 24)))); clear b1))
  generalize w1.heap.size = G at *
  generalize (w1.alloc (.cells #[.int .i64 K, .int .u64 S, .int .i64 I, .int .i64 O, .int .i64 W] 24)) = V at *
  go_upto_region 4 with (first
    | (go_at_call 14; refine (h14 _).mono ?_; rintro e w2 ⟨rfl, b1⟩; replace HQ := Hid.mk (And.intro (TB.fresh w2 K S I O W) (And.intro ((HQ.out.1.call b1).alloc (.cells #[.int .i64 K, .int .u64 S, .int .i64 I, .int .i64 O, .int .i64 W] 24)) (And.intro ((below3 HQ.out.2.1 b1).alloc (below3 HQ.out.2.1 b1).size (.cells #[.int .i64 K, .int .u64 S, .int .i64 I, .int .i64 O, .int .i64 W] 24)) ((HQ.out.2.2.call b1).alloc (.cells #[.int .i64 K, .int .u64 S, .int .i64 I, .int .i64 O, .int .i64 W] 24))))); clear b1))
  generalize w2.heap.size = G2 at *
  generalize (w2.alloc (.cells #[.int .i64 K, .int .u64 S, .int .i64 I, .int .i64 O, .int .i64 W] 24)) = V2 at *
  clear h13 h14
  go_wp2_with (first | (go_at_call 10; refine (awake_any _ HQ.out.2.2.2).mono ?_; rintro e w3 ⟨rfl, b1⟩; obtain ⟨c0, c1, c2, c3, c4⟩ := (HQ.out.1.call b1).five; obtain ⟨d0, d1, d2, d3, d4⟩ := (HQ.out.2.1.call b1).five; replace HQ := Hid.mk (below3 HQ.out.2.2.1 b1); clear b1))
  go_ret
  exact ⟨rfl, HQ.out⟩
/- THE LAW PageLooks -/
theorem pageLooks_any (a b : ByteArray) (w : World) (hT : Tab w) : Calls Tryd.prog 4 #[.string a, .string b] w fun e w' => e = .returned (.bool true) ∧ Below w.heap.size w w' := by
  have za := cut_size a
  have zb := cut_size b
  by_cases hE : allF (cut a) = true ∧ allF (cut b) = true
  · exact pageLooks_aux a b 0 0 0 0 0 0 ⟨#[]⟩ (fun w _ => look_erased _ _ (by omega) (by omega) hE.1 hE.2 w) (fun w => rlook_e _ _ (by omega) (by omega) hE.1 hE.2 w) w hT
  · by_cases hV : ∃ t K S I O W, Val (cut a) (cut b) t K S I O W
    · obtain ⟨t, K, S, I, O, W, hV⟩ := hV
      exact pageLooks_aux a b 1 K S I O W t (fun w hT => look_v hV w hT) (fun w => rlook_val hV w) w hT
    · exact pageLooks_aux a b 2 0 0 0 0 0 ⟨#[]⟩ (fun w hT => look_t _ _ (by omega) (by omega) hE hV w hT) (fun w => rlook_t _ _ (by omega) (by omega) hE hV w) w hT
end Go.Proofs.YtaagnlgaadgpdaaDoor
