/-
  The law's same: the chip has what the model has. No condition.
-/
import Derived.Test.YtkfkepjegdaadaaMd4
import Derived.Test.YtkfkepjegdaadaaRest
namespace Go.Proofs.Ytkfkepjegdaadaa
open Go Go.RowKit

/-- what same holds -/
structure Sm (w : World) (L : Ly) (X : Mx) (C : Ch) (gw gd : Nat) (wx : World) : Prop where
  kp : Kp (L.own C.B) w wx
  own : MdAt wx w.heap.size X C
  chip : Chip wx L { C with off := false }
  md : Md wx (L.own C.B) X C
  ww : wx.rowIs gw 3 C.B (fun b => .int .i64 (C.worn b))
  dd : wx.rowIs gd 4 C.B (fun b => .bool (C.dead b))
theorem Sm.call {w : World} {L X C gw gd} {wx w2 : World} (h : Sm w L X C gw gd wx) (k : Below wx.heap.size wx w2) : Sm w L X C gw gd w2 :=
  ⟨h.kp.call k, h.own.call k, h.chip.call k, h.md.call k, h.ww.of_block (k.block _ h.ww.lt), h.dd.of_block (k.block _ h.dd.lt)⟩
theorem Sm.drew {w : World} {L X C gw gd} {wx : World} (h : Sm w L X C gw gd wx) : Sm w L X C gw gd wx.drew := h.call (Below.refl _ wx).drew
theorem refB_on {C : Ch} {b : Nat} (h : b < C.B) : refB { C with off := false } (b : Int) = 0 := by
  unfold refB
  rw [if_neg (by simp), if_pos ⟨by omega, by show (b : Int) < C.B; omega⟩]
theorem refP_on {C : Ch} {b p : Nat} (h : b < C.B) (hp : p < C.P) : refP { C with off := false } (b : Int) (p : Int) = 0 := by
  unfold refP
  rw [if_pos (refB_on h), if_pos ⟨by omega, by show (p : Int) < C.P; omega⟩]
theorem marked_on {w : World} {L : Ly} {C : Ch} (h : Chip w L { C with off := false }) (b : Nat) (hb : b < C.B) : Calls Try.prog 24 #[.pointer (some ⟨L.a, 0, none⟩), .int .i64 b] w fun e w' => e = .returned (.tuple #[.bool (C.mark b), .int .i64 0]) ∧ w' = w := by
  have := marked_any h (b : Int)
  rw [refB_on hb] at this
  exact this
theorem read_on {w : World} {L : Ly} {C : Ch} (h : Chip w L { C with off := false }) (b p : Nat) (hb : b < C.B) (hp : p < C.P) : Calls Try.prog 20 #[.pointer (some ⟨L.a, 0, none⟩), .int .i64 b, .int .i64 p] w fun e w' => e = .returned (.tuple #[.string ((seen C b p).extract 0 C.Z), .string ((seen C b p).extract C.Z (C.Z + 32)), .int .i64 0]) ∧ Below w.heap.size w w' := by
  have := read_any h (b : Int) (p : Int)
  unfold rdV at this
  rw [if_pos (refP_on hb hp)] at this
  exact this
theorem geom_on {w : World} {L : Ly} {C : Ch} (h : Chip w L { C with off := false }) : Calls Try.prog 27 #[.pointer (some ⟨L.a, 0, none⟩)] w fun e w' => e = .returned (.agg #[.int .i64 C.B, .int .i64 C.P, .int .i64 C.Z]) ∧ Below w.heap.size w w' := by
  have := geom_any h
  exact this
set_option maxRecDepth 100000 in
set_option maxHeartbeats 4000000 in
theorem same_any {w : World} {L X C} (hc : Chip w L C) (hm : Md w (L.own C.B) X C) :
    Calls Try.prog 16 #[.pointer (some ⟨L.a, 0, none⟩), .agg (mdA X C)] w fun e w' => e = .returned (.bool true) ∧ Kp (L.own C.B) w w' := by
  have hgeo := hm.geo
  have HC := Hid.mk (And.intro hc hm)
  clear hc hm
  go_enter Try.func16, Try.ntmps16
  go_upto_region 4 with (first | (go_at_call 23; refine (power_any (HC.out.1.alloc _)).mono ?_; rintro e w1 ⟨rfl, c1, k1⟩; have HP := Hid.mk (And.intro c1 k1); clear c1 k1) | (go_at_call 26; refine (worn_any HP.out.1).mono ?_; rintro e w2 ⟨rfl, r2, b2⟩; have HW := Hid.mk (And.intro r2 b2); clear r2 b2) | (go_at_call 21; refine (dead_any (HP.out.1.call HW.out.2)).mono ?_; rintro e w3 ⟨rfl, r3, b3⟩; have HD := Hid.mk (And.intro r3 b3); clear r3 b3))
  have hS0 : Sm w L X C w1.heap.size w2.heap.size w3 := by
    have k1 := (Kp.ofBelow (S := L.own C.B) ((Below.refl _ w).alloc (Nat.le_refl _) (.cells (mdA X C) 39))).trans HP.out.2
    have hn : ¬ L.own C.B w.heap.size := fun x => by have := HC.out.1.lt x; omega
    have m1 : MdAt w1 w.heap.size X C := MdAt.kept (heap_alloc_new w _) HP.out.2 hn
    exact ⟨(k1.call HW.out.2).call HD.out.2, (m1.call HW.out.2).call HD.out.2, (HP.out.1.call HW.out.2).call HD.out.2, ((HC.out.2.kept k1).call HW.out.2).call HD.out.2, HW.out.1.of_block (HD.out.2.block _ HW.out.1.lt), HD.out.1⟩
  generalize w1.heap.size = gw at *
  generalize w2.heap.size = gd at *
  have HS0 := Hid.mk hS0
  clear hS0 HP HW HD
  go_loopw [7] (fun i wr => ∃ k : Nat, k ≤ C.B ∧ i = .int .i64 k ∧ Sm w L X C gw gd wr) (fun i _ => C.B - (intOf i).toNat)
  case atStart => exact ⟨0, Nat.zero_le _, rfl, HS0.out⟩
  case round =>
    obtain ⟨k, hk, rfl, hS⟩ := hrel
    clear HS0
    obtain ⟨p0, p1, p2, p3, p4, p5, p6, p7, p8, p9, p10, p11⟩ := hS.own.cells
    by_cases hkB : k < C.B
    · have hk1 : (k : Int) < C.B := by omega
      have c1 := hS.md.mark k hkB
      have c2 := hS.md.worn k hkB
      have c3 := hS.md.dead k hkB
      have c4 := hS.ww.cell hkB
      have c5 := hS.dd.cell hkB
      have hmk := marked_on hS.chip k hkB
      obtain ⟨bp, hbp, hbi, hbl, hb5⟩ := bp_of C k hkB ⟨hgeo.2.1, hgeo.2.2.2.1⟩
      have HBP := Hid.mk (And.intro hbp (And.intro hbl hb5))
      have HS := Hid.mk hS
      clear hS hbp hbl hb5
      generalize C.mark k = MK at *
      generalize C.worn k = WK at *
      generalize C.dead k = DK at *
      have HMk := Hid.mk hmk
      clear hmk
      go_upto_region 7 with (go_at_call 24; refine HMk.out.mono ?_; rintro e w' ⟨rfl, hw'⟩; rw [hw']; clear hw')
      go_region
      go_upto_region 10 with fail
      have hz1 : (C.Z : Int) ≤ 256 := by omega
      have HM0 := Hid.mk (And.intro c1 c2)
      clear c1 c2 c3 c4 c5
      have HW0 := Hid.mk HS.out.drew
      clear HS HMk
      go_loopw [10] (fun i wr => ∃ q : Nat, q ≤ C.P ∧ i = .int .i64 q ∧ Sm w L X C gw gd wr) (fun i _ => C.P - (intOf i).toNat)
      case atStart => exact ⟨0, Nat.zero_le _, rfl, HW0.out⟩
      case round =>
        obtain ⟨q, hq, rfl, hS⟩ := hrel
        clear HW0
        clear p0 p1 p2 p3 p4 p5 p6 p7 p8 p9 p10 p11
        obtain ⟨p0, p1, p2, p3, p4, p5, p6, p7, p8, p9, p10, p11⟩ := hS.own.cells
        by_cases hqP : q < C.P
        · have hq1 : (q : Int) < C.P := by omega
          obtain ⟨ix, hix⟩ : ∃ ix : Nat, ix = bp + q := ⟨_, rfl⟩
          have hpI : (bp : Int) + q = (ix : Int) := by omega
          have hbl := HBP.out.2.1
          have hb5 := HBP.out.2.2
          have hiB : (ix : Int) < ((C.B * C.P : Nat) : Int) := by omega
          have hi5 : (ix : Int) ≤ 512 := by omega
          have hbp5 : (bp : Int) ≤ 512 := by omega
          have hiB2 : (ix : Int) < (C.B : Int) * (C.P : Int) := by rw [← Int.natCast_mul]; exact hiB
          have hq16 : (q : Int) ≤ 16 := by omega
          have cP := hS.md.pg ix (by omega)
          have e1 : ix / C.P = k ∧ ix % C.P = q := (page_at hqP).1 (by rw [hix, HBP.out.1])
          rw [e1.1, e1.2] at cP
          obtain ⟨V, hV⟩ : ∃ V, V = seen C k q := ⟨_, rfl⟩
          have zV : V.size = C.Z + 32 := by rw [hV]; exact seen_size HC.out.1 k q
          obtain ⟨xx, hxx⟩ : ∃ xx, xx = V.extract 0 C.Z := ⟨_, rfl⟩
          obtain ⟨yy, hyy⟩ : ∃ yy, yy = V.extract C.Z (C.Z + 32) := ⟨_, rfl⟩
          have hxy : xx ++ yy = V := by rw [hxx, hyy]; exact ext_join V C.Z (C.Z + 32) zV (by omega)
          have zx : xx.size = C.Z := by rw [hxx, ByteArray.size_extract]; omega
          have zy : yy.size = 32 := by rw [hyy, ByteArray.size_extract]; omega
          have hrd : ∀ W, Sm w L X C gw gd W → Calls Try.prog 20 #[.pointer (some ⟨L.a, 0, none⟩), .int .i64 k, .int .i64 q] W fun e w' => e = .returned (.tuple #[.string xx, .string yy, .int .i64 0]) ∧ Below W.heap.size W w' := fun W hW => by
            rw [hxx, hyy, hV]
            exact read_on hW.chip k q hkB hqP
          have HRd := Hid.mk hrd
          have HS := Hid.mk hS
          have HV := Hid.mk hV
          clear hrd hS hV hxx hyy e1 hix hbl hb5
          by_cases he : C.pg k q = ⟨#[]⟩
          · have hVF : V = rep (C.Z + 32) 255 := by
              rw [HV.out]
              unfold seen
              rw [if_pos he]
            rw [he] at cP
            have htx : ∀ W, Calls Try.prog 18 #[.int .i64 ((C.Z : Int) + 32), .int .u8 255] W fun e w' => e = .returned (.string V) ∧ Below W.heap.size W w' := fun W => by
              rw [hVF]
              exact text_any (C.Z + 32) (by omega) 255 (by decide) W
            have HTx := Hid.mk htx
            clear htx hVF he
            go_wp2_with (first | (go_at_call 18; refine (HTx.out _).mono ?_; rintro e w5 ⟨rfl, b5⟩; have H5 := Hid.mk (HS.out.call b5); clear b5) | (go_at_call 20; refine (HRd.out _ H5.out).mono ?_; rintro e w6 ⟨rfl, b6⟩; have H6 := Hid.mk (H5.out.call b6); clear b6))
            exact ⟨⟨q + 1, by omega, by go_num, H6.out⟩, by simp [intOf]; omega⟩
          · have hVF : C.pg k q = V := by
              rw [HV.out]
              unfold seen
              rw [if_neg he]
            rw [hVF] at cP
            have hne : ¬ V = ⟨#[]⟩ := by rw [← hVF]; exact he
            have hne2 := notEmpty hne
            clear hVF he
            go_wp2_with (go_at_call 20; refine (HRd.out _ HS.out).mono ?_; rintro e w6 ⟨rfl, b6⟩; have H6 := Hid.mk (HS.out.call b6); clear b6)
            exact ⟨⟨q + 1, by omega, by go_num, H6.out⟩, by simp [intOf]; omega⟩
        · have hq1 : ¬ (q : Int) < C.P := by omega
          have HS := Hid.mk hS
          clear hS
          go_wp2_with fail
          exact ⟨⟨k + 1, by omega, by go_num, HS.out⟩, by simp [intOf]; omega⟩
    · have hk1 : ¬ (k : Int) < C.B := by omega
      have HS := Hid.mk hS
      clear hS
      go_upto_region 18 with fail
      go_region_with (go_at_call 27; refine (geom_on HS.out.drew.chip).mono ?_; rintro e w4 ⟨rfl, b4⟩; have h4 := HS.out.drew.call b4; obtain ⟨r0, r1, r2, r3, r4, r5, r6, r7, r8, r9, r10, r11⟩ := h4.own.cells; have H4 := Hid.mk h4; clear h4 b4)
      all_goals (go_wp2_with fail; go_ret; exact ⟨rfl, H4.out.kp⟩)
end Go.Proofs.Ytkfkepjegdaadaa
