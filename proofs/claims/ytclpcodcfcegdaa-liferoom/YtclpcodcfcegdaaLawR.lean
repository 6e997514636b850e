/-
  The walk of the law LifeRoom. No condition.
-/
import Derived.Test.YtclpcodcfcegdaaRm
import Derived.Deep.CutBlock
import Derived.Deep.DeepCutAuto
namespace Go.Proofs.Ytclpcodcfcegdaa
open Go Go.RowKit

/-- a law's Life, whatever is done to it -/
def HdE (w0 : World) (a g n k : Nat) (w : World) : Prop := ∃ (xs : List Int) (o nx : Int), Hd w0 a g n k xs o nx w
theorem HdE.open {w0 : World} {a g n k : Nat} {w : World} (h : HdE w0 a g n k w) (b : Int) : Calls Try.prog 8 #[.pointer (some ⟨a, 0, none⟩), .int .i64 b] w fun e w' => ∃ r, e = .returned (.bool r) ∧ HdE w0 a g n k w' := by
  obtain ⟨xs, o, nx, h⟩ := h
  by_cases hx : isL xs b ≠ 0 ∨ 0 ≤ o
  · exact (open_no h.life b hx).mono (fun e w' ⟨h1, h2⟩ => ⟨false, h1, xs, o, nx, h2 ▸ h⟩)
  · have ho := h.life.ok.or
    have h2 : isL xs b = 0 := Decidable.byContradiction fun e => hx (.inl e)
    have h3 : 0 ≤ b ∧ b < xs.length := Decidable.byContradiction fun e => by rw [isL_out xs b e] at h2; omega
    obtain ⟨j, rfl⟩ := Int.eq_ofNat_of_zero_le h3.1
    rw [isL_in xs j (by omega)] at h2
    exact (open_yes h.life j (by have := h.life.ok.len; omega) h2 (by omega)).mono (fun e w' ⟨h4, h5, h6⟩ => ⟨true, h4, _, _, _, h.act h5 h6⟩)
theorem HdE.lt {w0 : World} {a g n k : Nat} {w : World} (h : HdE w0 a g n k w) (b v : Int) (hv : 0 ≤ v ∧ v ≤ 3) (hv1 : v ≠ 1) : Calls Try.prog 18 #[.pointer (some ⟨a, 0, none⟩), .int .i64 b, .int .i64 v] w fun e w' => ∃ r, e = .returned (.bool r) ∧ HdE w0 a g n k w' := by
  obtain ⟨xs, o, nx, h⟩ := h
  by_cases hx : isL xs b < 0 ∨ isL xs b = 3
  · exact (let_no h.life b hx v).mono (fun e w' ⟨h1, h2⟩ => ⟨false, h1, xs, o, nx, h2 ▸ h⟩)
  · have h3 : 0 ≤ b ∧ b < xs.length := Decidable.byContradiction fun e => hx (.inl (by rw [isL_out xs b e]; omega))
    obtain ⟨j, rfl⟩ := Int.eq_ofNat_of_zero_le h3.1
    rw [isL_in xs j (by omega)] at hx
    exact (let_yes h.life j (by have := h.life.ok.len; omega) (fun e => hx (.inr e)) v hv hv1).mono (fun e w' ⟨h4, h5, h6⟩ => ⟨true, h4, _, _, _, h.act h5 h6⟩)
theorem HdE.full {w0 : World} {a g n k : Nat} {w : World} (h : HdE w0 a g n k w) (b : Int) : Calls Try.prog 9 #[.pointer (some ⟨a, 0, none⟩), .int .i64 b] w fun e w' => ∃ r, e = .returned (.bool r) ∧ HdE w0 a g n k w' := by
  have H := Hid.mk (h.lt b 2 (by omega) (by omega))
  clear h
  go_enter Try.func9, Try.ntmps9
  go_wp2_with (go_at_call 18; refine H.out.mono ?_; rintro e w' ⟨r, rfl, hq⟩)
  go_ret
  exact ⟨r, rfl, hq⟩
theorem HdE.bad {w0 : World} {a g n k : Nat} {w : World} (h : HdE w0 a g n k w) (b : Int) : Calls Try.prog 11 #[.pointer (some ⟨a, 0, none⟩), .int .i64 b] w fun e w' => ∃ r, e = .returned (.bool r) ∧ HdE w0 a g n k w' := by
  have H := Hid.mk (h.lt b 3 (by omega) (by omega))
  clear h
  go_enter Try.func11, Try.ntmps11
  go_wp2_with (go_at_call 18; refine H.out.mono ?_; rintro e w' ⟨r, rfl, hq⟩)
  go_ret
  exact ⟨r, rfl, hq⟩
theorem HdE.take {w0 : World} {a g n k : Nat} {w : World} (h : HdE w0 a g n k w) : Calls Try.prog 12 #[.pointer (some ⟨a, 0, none⟩)] w fun e w' => ∃ (x p : Int) (r : Bool), e = .returned (.tuple #[.int .i64 x, .int .i64 p, .bool r]) ∧ HdE w0 a g n k w' := by
  obtain ⟨xs, o, nx, h⟩ := h
  have ho := h.life.ok.or
  by_cases hx : o = -1
  · exact (take_none h.life hx).mono (fun e w' ⟨h1, h2⟩ => ⟨0, 0, false, h1, xs, o, nx, h2 ▸ h⟩)
  · obtain ⟨j, rfl⟩ := Int.eq_ofNat_of_zero_le (show 0 ≤ o by omega)
    exact (take_some h.life j rfl).mono (fun e w' ⟨h4, h5, h6⟩ => ⟨_, _, true, h4, _, _, _, h.act h5 h6⟩)
set_option maxRecDepth 100000 in
set_option maxHeartbeats 4000000 in
theorem lifeRoom_any (x0 x1 : Int) (aa : Option Addr) (len cap : Nat) (f : Nat → Int × Int) (w : World) (hx : ActsF w aa len f) : Calls Try.prog 4 #[.int .i64 x0, .int .i64 x1, .slice aa len cap] w fun e w' => e = .returned (.bool true) ∧ Below w.heap.size w w' := by
  obtain ⟨n0, hn, hn1⟩ := low x0 15 (by omega)
  obtain ⟨k0, hk, hk1⟩ := low x1 7 (by omega)
  replace hn : bits .and .i64 x0 15 = (n0 : Int) := hn
  replace hk : bits .and .i64 x1 7 = (k0 : Int) := hk
  obtain ⟨n, hnn⟩ : ∃ n : Nat, (1 + (n0 : Int)) = n := ⟨1 + n0, by omega⟩
  obtain ⟨k, hkk⟩ : ∃ k : Nat, (1 + (k0 : Int)) = k := ⟨1 + k0, by omega⟩
  have hnb : 1 ≤ n ∧ n ≤ 16 := by omega
  have hkb : 1 ≤ k ∧ k ≤ 8 := by omega
  have HN := Hid.mk (new_any n k (by omega) (by omega) w)
  have HX := Hid.mk hx
  clear hx
  go_enter Try.func4, Try.ntmps4
  go_upto_region 2 with fail
  clear hn hk hnn hkk hn1 hk1
  go_upto_region 6 with (first
    | (go_at_call 6; refine HN.out.mono ?_; rintro e w1 ⟨a, g, rfl, h1, b1, o1⟩; have HP0 : Hid (HdE w a g n k w1) := ⟨_, _, _, h1, b1, o1⟩; clear h1 b1 o1)
    | (go_at_call 7; refine (awake_any _).mono ?_; rintro e w2 ⟨rfl, b2⟩; replace HP0 : Hid (HdE w a g n k w2) := HP0.out.elim (fun xs h => h.elim (fun o h => h.elim (fun nx h => ⟨xs, o, nx, h.call b2⟩))); clear b2))
  clear HN
  go_loopw [11] (fun i wr => ∃ (q : Nat), q ≤ len ∧ q ≤ 40 ∧ i = .int .i64 q ∧ HdE w a g n k wr) (fun i _ => 40 - (intOf i).toNat)
  case atStart => exact ⟨0, Nat.zero_le _, Nat.zero_le _, rfl, HP0.out⟩
  case round =>
    clear HP0
    obtain ⟨q, hql, hq40, rfl, hP⟩ := hrel
    by_cases hq : q < len ∧ q < 40
    · obtain ⟨hq1, hq2⟩ := hq
      have hq3 : (q : Int) < len := by omega
      have hq4 : (q : Int) < 40 := by omega
      have hbl : Below w.heap.size w wr := by obtain ⟨_, _, _, h⟩ := hP; exact h.below
      obtain ⟨ga, oa, rfl, hga, ck, cb⟩ := (HX.out.call hbl) q hq1
      clear HX hbl
      generalize (f q).1 = K at *
      generalize (f q).2 = b at *
      have HP := Hid.mk hP
      clear hP
      by_cases hK0 : K = 0
      · subst hK0
        go_wp2_with (go_at_call 8; refine (HP.out.open _).mono ?_; rintro e w3 ⟨r, rfl, h3⟩; have HQ := Hid.mk h3; clear h3)
        exact ⟨⟨q + 1, by omega, by omega, by go_num, HQ.out⟩, by simp [intOf]; omega⟩
      · replace hK0 : (K == 0) = false := by simpa using hK0
        by_cases hK4 : K = 4
        · subst hK4
          go_wp2_with (go_at_call 9; refine (HP.out.full _).mono ?_; rintro e w3 ⟨r, rfl, h3⟩; have HQ := Hid.mk h3; clear h3)
          exact ⟨⟨q + 1, by omega, by omega, by go_num, HQ.out⟩, by simp [intOf]; omega⟩
        · replace hK4 : (K == 4) = false := by simpa using hK4
          by_cases hK6 : K = 6
          · subst hK6
            go_wp2_with (go_at_call 11; refine (HP.out.bad _).mono ?_; rintro e w3 ⟨r, rfl, h3⟩; have HQ := Hid.mk h3; clear h3)
            exact ⟨⟨q + 1, by omega, by omega, by go_num, HQ.out⟩, by simp [intOf]; omega⟩
          · replace hK6 : (K == 6) = false := by simpa using hK6
            go_wp2_with (go_at_call 12; refine (HP.out.take).mono ?_; rintro e w3 ⟨x, p, r, rfl, h3⟩; have HQ := Hid.mk h3; clear h3)
            exact ⟨⟨q + 1, by omega, by omega, by go_num, HQ.out⟩, by simp [intOf]; omega⟩
    · clear HX
      obtain ⟨xs, o, nx, hP⟩ := hP
      have hrr := room_range hP.life.ok hnb.2 hkb.2
      have HRM := Hid.mk (room_any hP.life)
      obtain ⟨R, hR⟩ : ∃ R, roomL k xs o nx = R := ⟨_, rfl⟩
      rw [hR] at HRM hrr
      have HR := Hid.mk hR
      have HP := Hid.mk hP
      clear hP hR
      have hq5 : ¬ (q : Int) < len ∨ (q : Int) < len ∧ ¬ (q : Int) < 40 := by omega
      clear hq
      rcases hq5 with hq2 | ⟨hq2, hq3⟩
      all_goals
        go_upto_region 18 with (go_at_call 15; refine HRM.out.mono ?_; rintro e w4 ⟨rfl, m4, rfl⟩)
        clear HRM
        go_loopw [13, 14] (fun t i wr => ∃ (q : Nat) (xs : List Int) (o nx : Int), i = .int .i64 q ∧ t = .int .i64 q ∧ Hd w a g n k xs o nx wr ∧ (q : Int) + roomL k xs o nx = R) (fun _ i _ => 200 - (intOf i).toNat)
        case atStart => exact ⟨0, xs, o, nx, rfl, rfl, HP.out.drewN m4, by rw [HR.out]; omega⟩
        case round =>
          clear HP HR
          obtain ⟨q2, ys, p, ny, rfl, rfl, hP, hR⟩ := hrel
          have hrg := room_range hP.life.ok hnb.2 hkb.2
          have hq6 : (q2 : Int) < 200 := by omega
          have hor := hP.life.ok.or
          have hokk := Hid.mk hP.life.ok
          have HP := Hid.mk hP
          have HR := Hid.mk hR
          clear hP hR hrg
          by_cases ho : 0 ≤ p
          · obtain ⟨jj, rfl⟩ := Int.eq_ofNat_of_zero_le ho
            have hnx := HP.out.life.ok.nxr
            have HT := Hid.mk (room_taken jj hokk.out)
            go_wp2_with (first
              | (go_at_call 16; refine (at_some HP.out.life ho).mono ?_; rintro e w5 ⟨rfl, m5, rfl⟩; replace HP := Hid.mk (HP.out.drewN m5))
              | (go_at_call 12; refine (take_some HP.out.life jj rfl).mono ?_; rintro e w6 ⟨rfl, h6, k6⟩; have HQ := Hid.mk (HP.out.act h6 k6); clear h6 k6))
            exact ⟨⟨q2 + 1, _, _, _, by go_num, by go_num, HQ.out, by have := HT.out; have := HR.out; omega⟩, by simp [intOf]; omega⟩
          · obtain rfl : p = -1 := by omega
            go_upto_region 23 with (go_at_call 16; refine (at_none HP.out.life rfl).mono ?_; rintro e w5 ⟨rfl, rfl⟩)
            go_loopw [18] (fun i wr => ∃ (b : Nat), b ≤ n ∧ i = .int .i64 b ∧ Hd w a g n k ys (-1) ny wr ∧ ∀ i, i < b → ys.getD i 0 ≠ 0) (fun i _ => n - (intOf i).toNat)
            case atStart => exact ⟨0, Nat.zero_le _, rfl, HP.out, fun i hi => absurd hi (by omega)⟩
            case round =>
              clear HP
              obtain ⟨b, hb, rfl, hP, hno⟩ := hrel
              have HP := Hid.mk hP
              have HNo := Hid.mk hno
              clear hP hno
              by_cases hbn : b < n
              · have hbn1 : (b : Int) < n := by omega
                by_cases hb0 : ys.getD b 0 = 0
                · have HY := Hid.mk (open_yes HP.out.life b hbn hb0 rfl)
                  have HRO := Hid.mk (room_opened hokk.out b hbn hb0)
                  have HRT := Hid.mk (room_taken b (hokk.out.opened b hbn))
                  clear hb0
                  go_wp2_with (first
                    | (go_at_call 8; refine HY.out.mono ?_; rintro e w6 ⟨rfl, h6, k6⟩; have HQ := Hid.mk (HP.out.act h6 k6); clear h6 k6)
                    | (go_at_call 12; refine (take_some HQ.out.life b rfl).mono ?_; rintro e w7 ⟨rfl, h7, k7⟩; have HQ2 := Hid.mk (HQ.out.act h7 k7); clear h7 k7))
                  exact ⟨⟨q2 + 1, _, _, _, by go_num, by go_num, HQ2.out, by have := HRO.out; have := HRT.out; have := HR.out; omega⟩, by simp [intOf]; omega⟩
                · have HY := Hid.mk (open_no HP.out.life (b : Int) (.inl (by rw [isL_in ys b (by rw [hokk.out.len]; exact hbn)]; exact hb0)))
                  have HB0 := Hid.mk hb0
                  clear hb0
                  go_wp2_with (go_at_call 8; refine HY.out.mono ?_; rintro e w6 ⟨rfl, rfl⟩)
                  refine ⟨⟨b + 1, by omega, by go_num, HP.out, fun i hi => ?_⟩, by simp [intOf]; omega⟩
                  by_cases he : i = b
                  · rw [he]; exact HB0.out
                  · exact HNo.out i (by omega)
              · have hbn1 : ¬ (b : Int) < n := by omega
                have hz := room_none hokk.out (fun i hi => HNo.out i (by omega))
                have HRM := room_any HP.out.life
                rw [hz] at HR HRM
                replace HRM := Hid.mk HRM
                have hqR : (q2 : Int) = R := by have := HR.out; omega
                clear hz
                subst hqR
                go_wp2_with (first
                  | (go_at_call 12; refine (take_none HP.out.life rfl).mono ?_; rintro e w6 ⟨rfl, rfl⟩)
                  | (go_at_call 15; refine HRM.out.mono ?_; rintro e w7 ⟨rfl, m7, rfl⟩))
                go_ret
                exact ⟨rfl, below_drewN HP.out.below⟩
end Go.Proofs.Ytclpcodcfcegdaa
