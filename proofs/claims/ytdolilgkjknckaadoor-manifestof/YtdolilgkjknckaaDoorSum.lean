/-
  The digest.
-/
import Derived.Test.YtdolilgkjknckaaDoorFilled
import Derived.Deep.RegionWith
namespace Go.Proofs.YtdolilgkjknckaaDoor.Sh
set_option maxRecDepth 100000
open Go Go.RowKit

/-- the words behind so many blocks -/
def absorb (ws : List Int) (l : List UInt8) : Nat → List Int
  | 0 => ws
  | k + 1 => mix K0 (schedule ((l.drop (64 * k)).take 64)) (absorb ws l k)
theorem H0_length : H0.length = 8 := by simp [H0, primes64]
theorem K0_length : K0.length = 64 := by simp [K0, primes64]
theorem primes64_length : primes64.length = 64 := rfl
theorem absorb_length (ws : List Int) (h : ws.length = 8) (l : List UInt8) (k : Nat) : (absorb ws l k).length = 8 := by
  cases k with
  | zero => exact h
  | succ k => rw [absorb, mix_length]
attribute [local irreducible] H0 K0 primes64

theorem extract_rest (r : ByteArray) : (r.extract 64 r.size).data.toList = r.data.toList.drop 64 := by
  have h1 : (r.extract 64 r.size).data = r.data.extract 64 r.size := by simp
  rw [h1, Array.toList_extract]
  have e : r.data.toList.length = r.size := Array.length_toList
  exact List.take_of_length_le (by rw [List.length_drop, e]; exact Nat.le_refl _)
theorem filledL_length (l : List UInt8) (n : Nat) (h : l.length < 64) : (filledL l n).length = lastOf l.length := by
  have hl : lastOf l.length ≤ 128 := by unfold lastOf; split <;> omega
  rw [filledL, List.length_take, fillLen_length, List.length_set, headed_length _ (by omega)]
  omega
theorem isEmpty_of (x : ByteArray) : x.toList.isEmpty = decide (x.size = 0) := by
  rw [ByteArray.toList_eq]
  have e : x.data.toList.length = x.size := Array.length_toList
  cases h : x.data.toList with
  | nil => rw [h] at e; simp at e; simp [← e]
  | cons a l => rw [h] at e; simp at e; simp [← e]
/-- the digest -/
@[irreducible] def sumL (l : List UInt8) : List UInt8 :=
  bytesOf (absorb (absorb H0 l (l.length / 64)) (filledL (l.drop (64 * (l.length / 64))) l.length) (lastOf (l.length % 64) / 64))

/-- a text's length, for a measure -/
def lenOf : Value → Nat | .string s => s.size | _ => 0
set_option maxHeartbeats 2000000 in
theorem sum_any (t : ByteArray) (ht : t.size ≤ 1000) (w : World) :
    Calls Tryd.prog 42 #[.string t] w fun e w' => e = .returned (.string ⟨(sumL t.data.toList).toArray⟩) ∧ Below w.heap.size w w' := by
  generalize hR : sumL t.data.toList = R
  have HR := Hid.mk hR
  clear hR
  have i31 : (Tryd.prog.info? 80).map (·.size) = some primes64.length := by rw [primes64_length]; exact info80
  have i34 : (Tryd.prog.info? 82).map (·.size) = some K0.length := by rw [K0_length]; exact info82
  have i36 : (Tryd.prog.info? 84).map (·.size) = some H0.length := by rw [H0_length]; exact info84
  go_enter Tryd.func42, Tryd.ntmps42
  go_upto_region 4 with (first
    | (go_at_call 57; refine (primes_any _).mono ?_; rintro e wA ⟨rfl, hA⟩)
    | (go_at_call 58; refine (numbers_any _).mono ?_; rintro e wB ⟨rfl, hB⟩)
    | (go_at_call 59; refine (words_any _).mono ?_; rintro e wC ⟨rfl, hC⟩)
    | (refine wpList_storeFresh rfl 80 _ _ rfl wA _ rfl rfl rfl i31 (by rw [primes64_length]; rfl) rfl ?_)
    | (refine wpList_storeFresh rfl 82 _ _ rfl wB _ rfl rfl rfl i34 (by rw [K0_length]; rfl) rfl ?_)
    | (refine wpList_storeFresh rfl 84 _ _ rfl wC _ rfl rfl rfl i36 (by rw [H0_length]; rfl) rfl ?_)
    | (refine wpList_loadRow rfl 80 _ rfl _ rfl (((Row.fresh wA 80 .u64 primes64).call hB).alloc _) Tryd.underlying80 i31 ?_)
    | (refine wpList_loadRow rfl 80 _ rfl _ rfl (Row.fresh wA 80 .u64 primes64) Tryd.underlying80 i31 ?_))
  have rK : Row (wC.alloc (.cells (cellsOf .u32 H0) 84)) wB.heap.size 82 .u32 K0 := ((Row.fresh wB 82 .u32 K0).call hC).alloc _
  have rH : Row (wC.alloc (.cells (cellsOf .u32 H0) 84)) wC.heap.size 84 .u32 H0 := Row.fresh wC 84 .u32 H0
  have zB := hB.size
  have zC := hC.size
  rw [size_alloc] at zB zC
  have zA := hA.size
  have bB : Below w.heap.size w wB := (hA.alloc hA.size _).trans (hB.mono (by rw [size_alloc]; omega))
  have bC : Below w.heap.size w wC := (bB.alloc bB.size _).trans (hC.mono (by rw [size_alloc]; omega))
  have bD := bC.alloc bC.size (.cells (cellsOf .u32 H0) 84)
  clear hA hB hC bB bC
  generalize wC.alloc (.cells (cellsOf .u32 H0) 84) = wD at *
  generalize wC.heap.size = gH at *
  generalize wB.heap.size = gK at *
  generalize wA.heap.size = gP at *
  go_wp2_with fail
  go_loopw [6] (fun s6 wr => ∃ (r : ByteArray) (k : Nat), s6 = .string r ∧ r.data.toList = t.data.toList.drop (64 * k) ∧ r.size + 64 * k = t.size ∧ Row wr gK 82 .u32 K0 ∧ Row wr gH 84 .u32 (absorb H0 t.data.toList k) ∧ Below w.heap.size w wr)
    (fun s6 _ => lenOf s6)
  case atStart => exact ⟨t, 0, rfl, rfl, rfl, rK, rH, bD⟩
  case round =>
    clear rK rH bD
    obtain ⟨r, k, rfl, hr, hrs, q0, q1, qb⟩ := hrel
    by_cases h64 : 64 ≤ r.size
    · have hal := absorb_length H0 H0_length t.data.toList k
      obtain ⟨v0, v1, v2, v3, v4, v5, v6, v7, hv⟩ := eight _ hal
      rw [hv] at q1
      have c0 := q1.cell 0 (by simp)
      have c1 := q1.cell 1 (by simp)
      have c2 := q1.cell 2 (by simp)
      have c3 := q1.cell 3 (by simp)
      have c4 := q1.cell 4 (by simp)
      have c5 := q1.cell 5 (by simp)
      have c6 := q1.cell 6 (by simp)
      have c7 := q1.cell 7 (by simp)
      simp only [List.getD_cons_zero, List.getD_cons_succ] at c0 c1 c2 c3 c4 c5 c6 c7
      have hms : ∀ S, (cellsOf .u32 (mix K0 S [v0, v1, v2, v3, v4, v5, v6, v7])).size = 8 := fun S => by rw [cellsOf_size, mix_length]
      have hex : (r.extract 0 64).size = 64 := by rw [ByteArray.size_extract]; omega
      have HQ := Hid.mk (And.intro hr (And.intro q0 (And.intro q1 (And.intro qb hv))))
      clear hr q0 q1 qb hal hv
      go_wp2_with fail
      go_region_with (first | (go_at_call 60; refine (mixed_any [v0, v1, v2, v3, v4, v5, v6, v7] K0 _ gK hex rfl K0_length _ (HQ.out.2.1.drew)).mono ?_; rintro e w2 ⟨rfl, hm⟩; have hst := fun S => (HQ.out.2.2.1.drew.call hm).storeCells (P := Tryd.prog) (mix K0 S [v0, v1, v2, v3, v4, v5, v6, v7]) (by rw [mix_length]; rfl)))
      go_wp2_with fail
      go_roundw
      case rel =>
        obtain ⟨hr, q0, q1, qb, hv⟩ := HQ.out
        refine ⟨r.extract 64 r.size, k + 1, ?_, ?_, ?_, (q0.drew.call hm).wholeOther (by omega) _, ?_, below_setRow (qb.drew.trans (hm.mono qb.size)) (by omega) _⟩
        · rfl
        · rw [extract_rest, hr, List.drop_drop]
          rfl
        · rw [ByteArray.size_extract]
          omega
        · rw [absorb, hv, ← hr]
          exact (q1.drew.call hm).whole _
      case measure =>
        simp [lenOf]
        omega
    · have htl : t.data.toList.length = t.size := Array.length_toList
      have hrl : r.data.toList.length = r.size := Array.length_toList
      have hk : k = t.size / 64 := by omega
      have hEl : (filledL r.data.toList t.size).length = lastOf r.size := by rw [filledL_length _ _ (by omega), hrl]
      have hE64 : lastOf r.size = 64 ∨ lastOf r.size = 128 := by unfold lastOf; split <;> omega
      have hRe : bytesOf (absorb (absorb H0 t.data.toList k) (filledL r.data.toList t.size) (lastOf r.size / 64)) = R := by
        rw [← HR.out, sumL, htl, ← hk, ← hr, show t.size % 64 = r.size by omega]
      have HQ := Hid.mk (And.intro q0 (And.intro q1 (And.intro qb hRe)))
      have hal := absorb_length H0 H0_length t.data.toList k
      clear q0 q1 qb hRe HR hr htl hk
      generalize absorb H0 t.data.toList k = A at *
      have hfl := fun w => filled_any r t.size (by omega) (by omega) w
      generalize filledL r.data.toList t.size = E at *
      generalize lastOf r.size = N at *
      clear hrl
      have hdec : decide ((64 : Int) ≤ (r.size : Int)) = false := by
        rw [decide_eq_false_iff_not]
        omega
      go_wp2_with (first | (go_at_call 61; refine (hfl _).mono ?_; rintro e wE ⟨rfl, hbE⟩))
      clear hfl
      have rK : Row wE gK 82 .u32 K0 := HQ.out.1.call hbE
      have rH : Row wE gH 84 .u32 A := HQ.out.2.1.call hbE
      have bE : Below w.heap.size w wE := HQ.out.2.2.1.trans (hbE.mono HQ.out.2.2.1.size)
      have hRe := HQ.out.2.2.2
      have HRE := Hid.mk hRe
      clear HQ hRe hbE
      go_loopw [7] (fun s7 wr => ∃ (x : ByteArray) (j : Nat), s7 = .string x ∧ x.data.toList = E.drop (64 * j) ∧ x.size + 64 * j = N ∧ Row wr gK 82 .u32 K0 ∧ Row wr gH 84 .u32 (absorb A E j) ∧ Below w.heap.size w wr)
        (fun s7 _ => lenOf s7)
      case atStart => exact ⟨⟨E.toArray⟩, 0, rfl, rfl, by rw [← hEl]; simp [ByteArray.size], rK, rH, bE⟩
      case round =>
        clear rK rH bE
        obtain ⟨x, j, rfl, hx, hxs, q0, q1, qb⟩ := hrel
        have hal := absorb_length A hal E j
        by_cases h0 : x.size = 0
        · have hem : x.toList.isEmpty = true := by rw [isEmpty_of, h0]; rfl
          have hjN : j = N / 64 := by omega
          have hRe := HRE.out
          rw [← hjN] at hRe
          have i36 : (Tryd.prog.info? 84).map (·.size) = some (absorb A E j).length := by rw [hal]; exact info84
          have HQ := Hid.mk (And.intro q1 (And.intro qb hRe))
          clear q0 q1 qb hRe hjN HRE hx
          go_wp2_with (first | (refine wpList_loadRow rfl 84 _ rfl _ rfl HQ.out.1 Tryd.underlying84 i36 ?_) | (go_at_call 62; refine (asBytes_any _ hal _).mono ?_; rintro e wF ⟨rfl, hbF⟩))
          go_ret
          obtain ⟨q1, qb, hRe⟩ := HQ.out
          rw [hRe]
          exact ⟨rfl, qb.trans (hbF.mono qb.size)⟩
        · obtain ⟨v0, v1, v2, v3, v4, v5, v6, v7, hv⟩ := eight _ hal
          rw [hv] at q1
          have c0 := q1.cell 0 (by simp)
          have c1 := q1.cell 1 (by simp)
          have c2 := q1.cell 2 (by simp)
          have c3 := q1.cell 3 (by simp)
          have c4 := q1.cell 4 (by simp)
          have c5 := q1.cell 5 (by simp)
          have c6 := q1.cell 6 (by simp)
          have c7 := q1.cell 7 (by simp)
          simp only [List.getD_cons_zero, List.getD_cons_succ] at c0 c1 c2 c3 c4 c5 c6 c7
          have hms : ∀ S, (cellsOf .u32 (mix K0 S [v0, v1, v2, v3, v4, v5, v6, v7])).size = 8 := fun S => by rw [cellsOf_size, mix_length]
          have hx64 : 64 ≤ x.size := by omega
          have hex : (x.extract 0 64).size = 64 := by rw [ByteArray.size_extract]; omega
          have HQ := Hid.mk (And.intro hx (And.intro q0 (And.intro q1 (And.intro qb hv))))
          clear hx q0 q1 qb hal hv
          have hem : x.toList.isEmpty = false := by
            rw [isEmpty_of, decide_eq_false_iff_not]
            exact h0
          go_wp2_with fail
          go_region_with (first | (go_at_call 60; refine (mixed_any [v0, v1, v2, v3, v4, v5, v6, v7] K0 _ gK hex rfl K0_length _ (HQ.out.2.1.drew)).mono ?_; rintro e w2 ⟨rfl, hm⟩; have hst := fun S => (HQ.out.2.2.1.drew.call hm).storeCells (P := Tryd.prog) (mix K0 S [v0, v1, v2, v3, v4, v5, v6, v7]) (by rw [mix_length]; rfl)))
          go_wp2_with fail
          all_goals (
            obtain ⟨hx, q0, q1, qb, hv⟩ := HQ.out
            refine ⟨⟨x.extract 64 x.size, j + 1, rfl, ?_, ?_, (q0.drew.call hm).wholeOther (by omega) _, ?_, below_setRow (qb.drew.trans (hm.mono qb.size)) (by omega) _⟩, ?_⟩
            · rw [extract_rest, hx, List.drop_drop]
              rfl
            · rw [ByteArray.size_extract]
              omega
            · rw [absorb, hv, ← hx]
              exact (q1.drew.call hm).whole _
            · simp [lenOf]
              omega)
end Go.Proofs.YtdolilgkjknckaaDoor.Sh
