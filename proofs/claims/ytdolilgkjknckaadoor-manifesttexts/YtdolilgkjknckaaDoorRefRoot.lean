/-
  The answer's roots.
-/
import Derived.Test.YtdolilgkjknckaaDoorTimes
import Derived.Deep.DeepCutAuto
namespace Go.Proofs.YtdolilgkjknckaaDoor.Sh
set_option maxRecDepth 100000
open Go Go.RowKit

def wantAt (p part : Int) (i : Nat) : Int := if (i : Int) = part then p else 0
def mGo (a : List Int) (p part : Int) : Nat → Bool
  | 0 => true
  | i + 1 => if a.getD i 0 = wantAt p part i then mGo a p part i else decide (a.getD i 0 < wantAt p part i)

theorem most_any (a : List Int) (p part : Int) (ha : a.length = 4) (w : World) :
    Calls Tryd.prog 64 #[.agg (cellsOf .u64 a), .int .u64 p, .int .i64 part] w fun e w' => e = .returned (.bool (mGo a p part 4)) ∧ Below w.heap.size w w' := by
  generalize hR : mGo a p part 4 = R
  have HR := Hid.mk hR
  clear hR
  go_enter Tryd.func64, Tryd.ntmps64
  go_wp2_with fail
  have r0 := Row.fresh w 91 .u64 a
  have b0 := (Below.refl w.heap.size w).alloc (Nat.le_refl _) (.cells (cellsOf .u64 a) 91)
  generalize w.alloc (.cells (cellsOf .u64 a) 91) = wb at *
  have HB := Hid.mk (And.intro r0 b0)
  clear r0 b0
  go_loop [7] (fun i => ∃ n : Nat, n ≤ 4 ∧ i = .int .i64 ((n : Int) - 1) ∧ mGo a p part n = R) (fun i => (intOf i + 1).toNat)
  case atStart => exact ⟨4, Nat.le_refl _, rfl, HR.out⟩
  case round =>
    clear HR
    obtain ⟨n, hn, rfl, hm⟩ := hrel
    cases n with
    | zero =>
      have hR : R = true := hm.symm
      clear hm
      subst hR
      go_wp2_with fail
      go_ret
      exact ⟨rfl, HB.out.2⟩
    | succ n =>
      have e1 : (((n + 1 : Nat) : Int) - 1) = (n : Int) := by omega
      rw [e1]
      rw [mGo] at hm
      have c0 := HB.out.1.cell n (by omega)
      unfold wantAt at hm
      generalize hx : a.getD n 0 = x at *
      clear e1 hx
      by_cases hp : (n : Int) = part
      · rw [if_pos hp] at hm
        by_cases hxp : x = p
        · rw [if_pos hxp] at hm
          have HM := Hid.mk hm
          clear hm
          subst hxp
          subst hp
          go_wp2_with fail
          exact ⟨⟨n, by omega, rfl, HM.out⟩, by simp [intOf]⟩
        · rw [if_neg hxp] at hm
          have HM := Hid.mk hm
          clear hm
          subst hp
          go_wp2_with fail
          go_ret
          rw [← HM.out]
          exact ⟨rfl, HB.out.2⟩
      · rw [if_neg hp] at hm
        by_cases hxp : x = 0
        · rw [if_pos hxp] at hm
          have HM := Hid.mk hm
          clear hm
          go_wp2_with fail
          exact ⟨⟨n, by omega, rfl, HM.out⟩, by simp [intOf]⟩
        · rw [if_neg hxp] at hm
          have HM := Hid.mk hm
          clear hm
          go_wp2_with fail
          go_ret
          rw [← HM.out]
          exact ⟨rfl, HB.out.2⟩

/-- a number's parts -/
def partsOf (m : Int) : List Int := [m % 4294967296, m / 4294967296, 0, 0]
theorem partsOf_small (m : Int) (h0 : 0 ≤ m) (h1 : m < 18446744073709551616) : Small (partsOf m) := by
  intro j
  unfold partsOf
  rcases (by omega : j = 0 ∨ j = 1 ∨ j = 2 ∨ j = 3 ∨ 4 ≤ j) with rfl | rfl | rfl | rfl | h
  · show 0 ≤ m % 4294967296 ∧ m % 4294967296 < 4294967296
    omega
  · show 0 ≤ m / 4294967296 ∧ m / 4294967296 < 4294967296
    omega
  · show (0 : Int) ≤ 0 ∧ (0 : Int) < 4294967296
    omega
  · show (0 : Int) ≤ 0 ∧ (0 : Int) < 4294967296
    omega
  · rw [List.getD_eq_getElem?_getD, List.getElem?_eq_none (by simpa using h)]
    show (0 : Int) ≤ 0 ∧ (0 : Int) < 4294967296
    omega
@[irreducible] def powL (power m : Int) : List Int := if power = 3 then timesL (timesL (partsOf m) (partsOf m)) (partsOf m) else timesL (partsOf m) (partsOf m)
@[irreducible] def rTest (p power m : Int) : Bool := mGo (powL power m) p power 4
def rGo (p power : Int) : Nat → Int → Int → Int
  | 0, n, _ => n
  | f + 1, n, b => if 0 < b then (if rTest p power (n + b) = true then rGo p power f (n + b) (b / 2) else rGo p power f n (b / 2)) else n
theorem rGo_zero (p power : Int) (f : Nat) (n : Int) : rGo p power f n 0 = n := by cases f <;> rfl
@[irreducible] def rootL (p power : Int) : Int := rGo p power 37 0 68719476736 % 4294967296

theorem rTest_two (p m : Int) (Y : List Int) (h : timesL (partsOf m) (partsOf m) = Y) : rTest p 2 m = mGo Y p 2 4 := by rw [rTest, powL, if_neg (by decide), h]
theorem rTest_three (p m : Int) (Y Z : List Int) (h : timesL (partsOf m) (partsOf m) = Y) (h2 : timesL Y (partsOf m) = Z) : rTest p 3 m = mGo Z p 3 4 := by rw [rTest, powL, if_pos rfl, h, h2]
theorem root_any (p power : Int) (hp : power = 2 ∨ power = 3) (w : World) :
    Calls Tryd.prog 44 #[.int .u64 p, .int .i64 power] w fun e w' => e = .returned (.int .u32 (rootL p power)) ∧ Below w.heap.size w w' := by
  obtain ⟨T, hT⟩ : ∃ T, rGo p power 37 0 68719476736 = T := ⟨_, rfl⟩
  have eT : rootL p power = T % 4294967296 := by rw [rootL, hT]
  rw [eT]
  have HT := Hid.mk hT
  clear eT hT
  go_enter Tryd.func44, Tryd.ntmps44
  go_wp2_with fail
  go_loopw [5, 6] (fun a b wr => ∃ (x y : Int) (f : Nat), 0 ≤ x ∧ a = .int .u64 x ∧ b = .int .u64 y ∧ 0 ≤ y ∧ x + 2 * y ≤ 137438953472 ∧ y < 2 ^ f ∧ rGo p power f x y = T ∧ Below w.heap.size w wr) (fun _ b _ => (intOf b).toNat)
  case atStart => exact ⟨_, _, 37, by omega, rfl, rfl, by omega, by omega, by decide, HT.out, Below.refl _ _⟩
  case round =>
    clear HT
    obtain ⟨x, y, f, x0, rfl, rfl, y0, y1, y2, hT, qb⟩ := hrel
    by_cases hy : 0 < y
    · cases f with
      | zero => omega
      | succ f =>
        rw [rGo, if_pos hy] at hT
        have y3 : y / 2 < 2 ^ f := by
          rw [Int.pow_succ] at y2
          omega
        have hps := partsOf_small (x + y) (by omega) (by omega)
        have HT := Hid.mk (And.intro hT (And.intro y3 (And.intro qb hps)))
        clear hT y2 y3 qb hps
        have i56 : ∀ A B, (Tryd.prog.info? 91).map (·.size) = some (timesL A B).length := fun A B => by rw [timesL_length]; exact info91
        have hps := HT.out.2.2.2
        have HPS := Hid.mk hps
        clear hps
        rcases hp with rfl | rfl
        · go_upto_region 5 with (first
            | (go_at_call 63; refine (times_any (partsOf (x + y)) (partsOf (x + y)) rfl rfl HPS.out HPS.out _).mono ?_; rintro e w1 ⟨rfl, b1⟩)
            | (refine wpList_storeFresh rfl 91 _ _ rfl w1 _ rfl rfl rfl (i56 _ _) (by rw [timesL_length]; rfl) rfl ?_))
          obtain ⟨Y, hY⟩ : ∃ Y, timesL (partsOf (x + y)) (partsOf (x + y)) = Y := ⟨_, rfl⟩
          have hYl : Y.length = 4 := by rw [← hY, timesL_length]
          have i5 : (Tryd.prog.info? 91).map (·.size) = some Y.length := by rw [hYl]; exact info91
          rw [hY]
          have HY := Hid.mk hY
          clear hY
          cases hm : mGo Y p 2 4
          · go_wp2_with (first
              | (refine wpList_loadRow rfl 91 _ rfl _ rfl (Row.fresh w1 91 .u64 Y) Tryd.underlying91 i5 ?_)
              | (go_at_call 64; refine (most_any Y p 2 hYl _).mono ?_; rintro e w3 ⟨rfl, b3⟩))
            obtain ⟨hT, y3, qb, _⟩ := HT.out
            rw [rTest_two p (x + y) Y HY.out, hm, if_neg (by simp)] at hT
            have q0 := below3 (qb.alloc qb.size (.cells (cellsOf .u64 (partsOf (x + y))) 91)) b1
            have q1 := q0.alloc q0.size (.cells (cellsOf .u64 Y) 91)
            exact ⟨⟨x, y / 2, f, by omega, rfl, rfl, by omega, by omega, y3, hT, below3 q1 b3⟩, by simp [intOf]; omega⟩
          · go_wp2_with (first
              | (refine wpList_loadRow rfl 91 _ rfl _ rfl (Row.fresh w1 91 .u64 Y) Tryd.underlying91 i5 ?_)
              | (go_at_call 64; refine (most_any Y p 2 hYl _).mono ?_; rintro e w3 ⟨rfl, b3⟩))
            obtain ⟨hT, y3, qb, _⟩ := HT.out
            rw [rTest_two p (x + y) Y HY.out, hm, if_pos rfl] at hT
            have q0 := below3 (qb.alloc qb.size (.cells (cellsOf .u64 (partsOf (x + y))) 91)) b1
            have q1 := q0.alloc q0.size (.cells (cellsOf .u64 Y) 91)
            exact ⟨⟨x + y, y / 2, f, by omega, rfl, rfl, by omega, by omega, y3, hT, below3 q1 b3⟩, by simp [intOf]; omega⟩
        · go_upto_region 5 with (first
            | (go_at_call 63; refine (times_any (partsOf (x + y)) (partsOf (x + y)) rfl rfl HPS.out HPS.out _).mono ?_; rintro e w1 ⟨rfl, b1⟩)
            | (refine wpList_storeFresh rfl 91 _ _ rfl w1 _ rfl rfl rfl (i56 _ _) (by rw [timesL_length]; rfl) rfl ?_))
          obtain ⟨Y, hY⟩ : ∃ Y, timesL (partsOf (x + y)) (partsOf (x + y)) = Y := ⟨_, rfl⟩
          have hYl : Y.length = 4 := by rw [← hY, timesL_length]
          have hYs : Small Y := by rw [← hY]; exact timesL_small _ _ HPS.out HPS.out
          have i5 : (Tryd.prog.info? 91).map (·.size) = some Y.length := by rw [hYl]; exact info91
          have i5p : (Tryd.prog.info? 91).map (·.size) = some (partsOf (x + y)).length := info91
          have rX : Row (w1.alloc (.cells (cellsOf .u64 Y) 91)) wr.heap.size 91 .u64 (partsOf (x + y)) := ((Row.fresh wr 91 .u64 (partsOf (x + y))).call b1).alloc _
          rw [hY]
          have HY := Hid.mk hY
          clear hY
          go_upto_region 7 with (first
            | (refine wpList_loadRow rfl 91 _ rfl _ rfl (Row.fresh w1 91 .u64 Y) Tryd.underlying91 i5 ?_)
            | (refine wpList_loadRow rfl 91 _ rfl _ rfl rX Tryd.underlying91 i5p ?_)
            | (go_at_call 63; refine (times_any Y (partsOf (x + y)) hYl rfl hYs HPS.out _).mono ?_; rintro e w2 ⟨rfl, b2⟩)
            | (refine wpList_storeRow rfl 91 _ _ rfl _ rfl rfl ((Row.fresh w1 91 .u64 Y).call b2) (i56 _ _) (by rw [timesL_length]; exact hYl) rfl ?_))
          obtain ⟨Z, hZ⟩ : ∃ Z, timesL Y (partsOf (x + y)) = Z := ⟨_, rfl⟩
          have hZl : Z.length = 4 := by rw [← hZ, timesL_length]
          have i6 : (Tryd.prog.info? 91).map (·.size) = some Z.length := by rw [hZl]; exact info91
          rw [hZ]
          have HZ := Hid.mk hZ
          clear hZ
          cases hm : mGo Z p 3 4
          · go_wp2_with (first
              | (refine wpList_loadRow rfl 91 _ rfl _ rfl (((Row.fresh w1 91 .u64 Y).call b2).whole Z) Tryd.underlying91 i6 ?_)
              | (go_at_call 64; refine (most_any Z p 3 hZl _).mono ?_; rintro e w3 ⟨rfl, b3⟩))
            obtain ⟨hT, y3, qb, _⟩ := HT.out
            rw [rTest_three p (x + y) Y Z HY.out HZ.out, hm, if_neg (by simp)] at hT
            have q0 := below3 (qb.alloc qb.size (.cells (cellsOf .u64 (partsOf (x + y))) 91)) b1
            have qy := below3 (q0.alloc q0.size (.cells (cellsOf .u64 Y) 91)) b2
            have q1 := below_setRow qy q0.size (cellsOf .u64 Z)
            exact ⟨⟨x, y / 2, f, by omega, rfl, rfl, by omega, by omega, y3, hT, below3 q1 b3⟩, by simp [intOf]; omega⟩
          · go_wp2_with (first
              | (refine wpList_loadRow rfl 91 _ rfl _ rfl (((Row.fresh w1 91 .u64 Y).call b2).whole Z) Tryd.underlying91 i6 ?_)
              | (go_at_call 64; refine (most_any Z p 3 hZl _).mono ?_; rintro e w3 ⟨rfl, b3⟩))
            obtain ⟨hT, y3, qb, _⟩ := HT.out
            rw [rTest_three p (x + y) Y Z HY.out HZ.out, hm, if_pos rfl] at hT
            have q0 := below3 (qb.alloc qb.size (.cells (cellsOf .u64 (partsOf (x + y))) 91)) b1
            have qy := below3 (q0.alloc q0.size (.cells (cellsOf .u64 Y) 91)) b2
            have q1 := below_setRow qy q0.size (cellsOf .u64 Z)
            exact ⟨⟨x + y, y / 2, f, by omega, rfl, rfl, by omega, by omega, y3, hT, below3 q1 b3⟩, by simp [intOf]; omega⟩
    · obtain rfl : y = 0 := by omega
      rw [rGo_zero] at hT
      subst hT
      have HB := Hid.mk qb
      clear y2 qb
      go_wp2_with fail
      go_ret
      exact ⟨rfl, HB.out⟩
end Go.Proofs.YtdolilgkjknckaaDoor.Sh
