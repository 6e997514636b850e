/-
  Reading a page, marking a block: the walks of Read and Mark. No condition.
-/
import Derived.Test.YtbcnocbdifbocaaDoorNow
import Derived.Deep.RegionHeld3
namespace Go.Proofs.YtbcnocbdifbocaaDoor
open Go Go.RowKit

theorem notEmpty {R : ByteArray} (h : ¬ R = ⟨#[]⟩) : R.toList.isEmpty = false := by
  rw [ByteArray.toList_eq]
  cases hl : R.data.toList with
  | nil => exact absurd (ByteArray.ext (by simpa using hl)) h
  | cons => rfl
/-- what a page has -/
def seen (C : Ch) (b p : Nat) : ByteArray := if C.pg b p = ⟨#[]⟩ then rep (C.Z + 32) 255 else C.pg b p
theorem seen_size {w : World} {L C} (h : Chip w L C) (b p : Nat) : (seen C b p).size = C.Z + 32 := by
  unfold seen
  split
  · exact rep_size _ _
  · rename_i hne
    rcases h.len b p with h0 | h0
    · exact absurd (ByteArray.ext (Array.eq_empty_of_size_eq_zero h0)) hne
    · exact h0
/-- what Read answers -/
def rdV (C : Ch) (b p : Int) : Value := if refP C b p = 0 then .tuple #[.string ((seen C b.toNat p.toNat).extract 0 C.Z), .string ((seen C b.toNat p.toNat).extract C.Z (C.Z + 32)), .int .i64 0] else .tuple #[.string ⟨#[]⟩, .string ⟨#[]⟩, .int .i64 (refP C b p)]
theorem read_any {w : World} {L C} (h : Chip w L C) (b p : Int) : Calls Tryd.prog 42 #[.pointer (some ⟨L.a, 0, none⟩), .int .i64 b, .int .i64 p] w fun e w' => e = .returned (rdV C b p) ∧ Below w.heap.size w w' := by
  unfold rdV
  by_cases h0 : refP C b p = 0
  · rw [if_pos h0]
    have hr0 := Hid.mk h0
    obtain ⟨_, ⟨b, rfl, hb⟩, p, rfl, hp⟩ := refP_zero h0
    rw [Int.toNat_natCast, Int.toNat_natCast]
    obtain ⟨mc, mf, n, k, _, _, c0, c1, c2, c3, c4, c5, c6, c7, _⟩ := h.cellA
    obtain ⟨b0, b1, b2, b3⟩ := h.cellB b hb
    have p0 := h.cellP b p hb hp
    have hs := seen_size h b p
    have hg := h.geo
    have HH := Hid.mk h
    have HG := Hid.mk hg
    have hb1 : (b : Int) < C.B := by omega
    have hp1 : (p : Int) < C.P := by omega
    clear h h0 hg
    by_cases he : C.pg b p = ⟨#[]⟩
    · have es : seen C b p = rep (C.Z + 32) 255 := by unfold seen; rw [if_pos he]
      rw [es] at hs
      rw [es]
      rw [he] at p0
      generalize hR : rep (C.Z + 32) 255 = R at *
      have HR := Hid.mk (And.intro hR es)
      clear hR es
      go_enter Tryd.func42, Tryd.ntmps42
      go_upto_region 7 with (first
        | (go_at_call 67; refine (refusep_any HH.out _ _).mono ?_; rintro e w' ⟨rfl, rfl⟩; rw [hr0.out])
        | (go_at_call 52; refine (filled_any HH.out _).mono ?_; rintro e w1 ⟨rfl, b1⟩; rw [HR.out.1]))
      obtain ⟨_, _, _, _, _, _, _, _, d2, _⟩ := (HH.out.call b1).cellA
      have HB := Hid.mk b1
      clear b1 c0 c1 c2 c3 c4 c5 c6 c7 b0 b2 b3 p0
      go_region
      go_wp2_with fail
      go_ret3
      exact ⟨rfl, HB.out.drew⟩
    · have es : seen C b p = C.pg b p := by unfold seen; rw [if_neg he]
      rw [es] at hs
      rw [es]
      generalize hR : C.pg b p = R at *
      have HR := Hid.mk (And.intro hR es)
      have hne := notEmpty he
      clear hR es he
      go_enter Tryd.func42, Tryd.ntmps42
      go_upto_region 7 with (first
        | (go_at_call 67; refine (refusep_any HH.out _ _).mono ?_; rintro e w' ⟨rfl, rfl⟩; rw [hr0.out]))
      clear c0 c1 c3 c4 c5 c6 c7 b0 b1 b2 b3 p0
      go_region
      go_wp2_with fail
      go_ret3
      exact ⟨rfl, (Below.refl _ _).drew⟩
  · rw [if_neg h0]
    have HH := Hid.mk h
    clear h
    go_enter Tryd.func42, Tryd.ntmps42
    go_wp2_with (go_at_call 67; refine (refusep_any HH.out _ _).mono ?_; rintro e w' ⟨rfl, rfl⟩)
    go_ret3
    exact ⟨rfl, Below.refl _ _⟩
/-- a block is marked -/
def markC (C : Ch) (b : Int) : Ch × Int :=
  if refB C b = 0 then
    match C.cuts (C.did + 1) with
    | some x => ({ C with did := C.did + 1, off := true, mark := upd C.mark b.toNat (C.mark b.toNat || decide (0 < x.1)) }, 51)
    | none => ({ C with did := C.did + 1, mark := upd C.mark b.toNat true }, 0)
  else (C, refB C b)
theorem mark_any {w : World} {L C} (h : Chip w L C) (b : Int) (hd : C.did < 999999) : Calls Tryd.prog 56 #[.pointer (some ⟨L.a, 0, none⟩), .int .i64 b] w fun e w' =>
    e = .returned (.int .i64 (markC C b).2) ∧ Chip w' L (markC C b).1 ∧ Kp (L.own C.B) w w' := by
  unfold markC
  by_cases h0 : refB C b = 0
  · rw [if_pos h0]
    have hr0 := Hid.mk h0
    obtain ⟨hoff, b, rfl, hb⟩ := refB_zero h0
    have HO := Hid.mk hoff
    clear hoff
    rw [Int.toNat_natCast]
    obtain ⟨mc, mf, n, k, _, _, c0, c1, c2, c3, c4, c5, c6, c7, hf⟩ := h.cellA
    obtain ⟨b0, b1, b2, b3⟩ := h.cellB b hb
    have f6 := hf 6
    have hdr := h.didr
    have HD := Hid.mk (h.setDid (C.did + 1) (by omega))
    have HK := Hid.mk ((Kp.refl (L.own C.B) w).setCell (p := ⟨L.a, 6, none⟩) (Or.inl rfl) (.int .i64 (C.did + 1)))
    have HH := Hid.mk h
    have hb1 : (b : Int) < C.B := by omega
    clear h h0 hf
    cases hc : C.cuts (C.did + 1) with
    | none =>
      simp only
      go_enter Tryd.func56, Tryd.ntmps56
      go_upto_region 9 with (first
        | (go_at_call 44; refine (refuse_any HH.out _).mono ?_; rintro e w' ⟨rfl, rfl⟩; rw [hr0.out])
        | (go_at_call 50; refine (cutnow_none HD.out hc).mono ?_; rintro e w1 ⟨rfl, b1⟩; unfold cut0))
      have HW := Hid.mk ((HD.out.call b1).alloc (.cells #[.int .i64 0, .int .i64 0, .int .u8 0] 64))
      have HQ := Hid.mk ((HK.out.call b1).alloc (.cells #[.int .i64 0, .int .i64 0, .int .u8 0] 64))
      generalize w1.alloc (.cells #[.int .i64 0, .int .i64 0, .int .u8 0] 64) = W at *
      clear b1 HD HK HH c0 c1 c2 c3 c4 c5 c6 c7 b0 b2 b3 f6
      obtain ⟨_, _, _, _, _, _, _, _, _, c3, _⟩ := HW.out.cellA
      obtain ⟨b0, b1, b2, b3⟩ := HW.out.cellB b hb
      have f3 := HW.out.frozenB (b * 4 + 3)
      go_wp2_with fail
      go_ret
      exact ⟨rfl, HW.out.setMark b true, HQ.out.setCell (p := ⟨L.bs, b * 4 + 3, none⟩) (Or.inr (Or.inl rfl)) _⟩
    | some x =>
      obtain ⟨k0, f⟩ := x
      simp only
      generalize hv : (C.mark b || decide (0 < k0)) = v
      have HV := Hid.mk hv
      clear hv
      go_enter Tryd.func56, Tryd.ntmps56
      go_upto_region 7 with (first
        | (go_at_call 44; refine (refuse_any HH.out _).mono ?_; rintro e w' ⟨rfl, rfl⟩; rw [hr0.out])
        | (go_at_call 50; refine (cutnow_some HD.out hc).mono ?_; rintro e w1 ⟨rfl, h1, q1⟩; unfold cutV))
      have cv : (w1.alloc (.cells #[.int .i64 (C.did + 1), .int .i64 k0, .int .u8 f] 64)).cell? ⟨w1.heap.size, 1, none⟩ = some (.int .i64 k0) := cell_of_row _ _ 1 _ 64 _ (heap_alloc_new w1 _)
      have HW := Hid.mk (h1.alloc (.cells #[.int .i64 (C.did + 1), .int .i64 k0, .int .u8 f] 64))
      have HQ := Hid.mk ((HK.out.trans q1).alloc (.cells #[.int .i64 (C.did + 1), .int .i64 k0, .int .u8 f] 64))
      generalize w1.alloc (.cells #[.int .i64 (C.did + 1), .int .i64 k0, .int .u8 f] 64) = W at *
      generalize w1.heap.size = G at *
      clear h1 q1 HD HK HH c0 c1 c2 c3 c4 c5 c6 c7 b0 b1 b2 b3 f6
      obtain ⟨_, _, _, _, _, _, _, _, _, c3, _⟩ := HW.out.cellA
      obtain ⟨b0, b1, b2, b3⟩ := HW.out.cellB b hb
      have f3 := HW.out.frozenB (b * 4 + 3)
      have hq : ∀ v, Chip (W.setCell ⟨L.bs, b * 4 + 3, none⟩ (.bool v)).drew L _ ∧ Kp (L.own C.B) w' (W.setCell ⟨L.bs, b * 4 + 3, none⟩ (.bool v)).drew := fun v => ⟨(HW.out.setMark b v).drew, (HQ.out.setCell (p := ⟨L.bs, b * 4 + 3, none⟩) (Or.inr (Or.inl rfl)) _).drew⟩
      have HX := Hid.mk hq
      clear hq
      simp only at b3
      cases hm : C.mark b
      · rw [hm] at b3
        by_cases hk : 0 < k0
        · obtain rfl : v = true := by rw [← HV.out, hm]; simp [hk]
          go_region
          go_wp2_with fail
          go_ret
          exact ⟨rfl, HX.out true⟩
        · obtain rfl : v = false := by rw [← HV.out, hm]; simp [hk]
          go_region
          go_wp2_with fail
          go_ret
          exact ⟨rfl, HX.out false⟩
      · rw [hm] at b3
        obtain rfl : v = true := by rw [← HV.out, hm]; rfl
        go_region
        go_wp2_with fail
        go_ret
        exact ⟨rfl, HX.out true⟩
  · rw [if_neg h0]
    have HH := Hid.mk h
    clear h
    go_enter Tryd.func56, Tryd.ntmps56
    go_wp2_with (go_at_call 44; refine (refuse_any HH.out _).mono ?_; rintro e w' ⟨rfl, rfl⟩)
    go_ret
    exact ⟨rfl, HH.out, Kp.refl _ _⟩
end Go.Proofs.YtbcnocbdifbocaaDoor
