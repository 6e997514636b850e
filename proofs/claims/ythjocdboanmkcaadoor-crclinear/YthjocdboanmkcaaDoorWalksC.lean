/-
  The walk of the law CrcLinear: the check of the sum (by exclusive or) of three texts of one length is that of their checks. Condition: the table's sixteen cells hold what the text lays.
-/
import Derived.Test.YthjocdboanmkcaaDoorWalksA
import Derived.Test.YthjocdboanmkcaaDoorWalksB
import Derived.OpenShut
import Derived.RegionTactic
import Derived.BigQuiet
import Derived.Deep.OwnRows
import Derived.Deep.DeepCutAuto
namespace Go.Proofs.YthjocdboanmkcaaDoor
open Go.RowKit
open Crc

theorem info5 : (Tryd.prog.info? 5).map (fun i => (i.zero, i.size, i.bytes)) = some (some (.int .u8 0), 1, 1) := by kernel_rfl

/-- what 'make' of so many bytes lays -/
theorem HasBytes.made (w : World) (n e : Nat) : HasBytes (w.alloc (.cells (madeCells #[.int .u8 0] n) e)) w.heap.size (List.replicate n 0) := by
  intro j hj
  rw [List.length_replicate] at hj
  have h1 := World.cell?_alloc_mark w (madeCells #[.int .u8 0] n) e (0, 0) j
  have h2 := World.frozen?_alloc_mark w (madeCells #[.int .u8 0] n) e 0 0 j
  refine ⟨?_, by rw [h2]; simp⟩
  rw [h1]
  simp [madeCells, hj, List.getD_eq_getElem?_getD, Nat.mod_one]

/-- the sum behind k rounds -/
def part (x y : List UInt8) (n : Nat) : Nat → List UInt8
  | 0 => List.replicate n 0
  | k + 1 => (part x y n k).set k (x.getD k 0 ^^^ y.getD k 0)
theorem part_length (x y : List UInt8) (n k : Nat) : (part x y n k).length = n := by
  induction k with
  | zero => simp [part]
  | succ k ih => rw [part, List.length_set, ih]
theorem part_at (x y : List UInt8) (n k i : Nat) (hi : i < n) : (part x y n k)[i]? = some (if i < k then x.getD i 0 ^^^ y.getD i 0 else 0) := by
  induction k with
  | zero => simp [part, hi]
  | succ k ih =>
    rw [part, List.getElem?_set, ih, part_length]
    by_cases e : k = i
    · subst e
      rw [if_pos rfl, if_pos hi, if_pos (by omega)]
    · rw [if_neg e]
      by_cases h : i < k
      · rw [if_pos h, if_pos (by omega)]
      · rw [if_neg h, if_neg (by omega)]
theorem xors_at (x y : List UInt8) (i : Nat) (hl : x.length = y.length) (hi : i < x.length) : (xors x y)[i]? = some (x.getD i 0 ^^^ y.getD i 0) := by
  induction x generalizing y i with
  | nil => simp at hi
  | cons a x ih =>
    cases y with
    | nil => simp at hl
    | cons b y =>
      cases i with
      | zero => rfl
      | succ i =>
        have := ih y i (by simpa using hl) (by simpa using hi)
        simpa [xors, List.getD_eq_getElem?_getD] using this
theorem xors_length (x y : List UInt8) (hl : x.length = y.length) : (xors x y).length = x.length := by
  induction x generalizing y with
  | nil => cases y <;> rfl
  | cons a x ih =>
    cases y with
    | nil => simp at hl
    | cons b y => simp [xors, ih y (by simpa using hl)]
theorem part_all (x y : List UInt8) (n : Nat) (hx : n ≤ x.length) (hy : n ≤ y.length) : part x y n n = xors (x.take n) (y.take n) := by
  have l1 : (x.take n).length = n := by simp; omega
  have l2 : (y.take n).length = n := by simp; omega
  apply List.ext_getElem?
  intro i
  by_cases hi : i < n
  · rw [part_at _ _ _ _ _ hi, xors_at _ _ _ (by rw [l1, l2]) (by omega), if_pos hi]
    simp [List.getD_eq_getElem?_getD, hi]
  · rw [List.getElem?_eq_none (by rw [part_length]; omega), List.getElem?_eq_none (by rw [xors_length _ _ (by rw [l1, l2]), l1]; omega)]

theorem byte_at (s : ByteArray) (k : Nat) (h : k < s.size) : s.data.toList.getD k 0 = s[k] := by
  rw [List.getD_eq_getElem?_getD, Array.getElem?_toList, Array.getElem?_eq_getElem h]
  rfl

theorem moreI_zero (l : List UInt8) : moreI 0 l = ((more 0#32 l).toNat : Int) := rfl
theorem linear_fin (x y : List UInt8) (k : Nat) (hx : k ≤ x.length) (hy : k ≤ y.length) :
    moreI 0 (part x y k k) = bits .xor .u32 (bits .xor .u32 (moreI 0 (x.take k)) (moreI 0 (y.take k))) (moreI 0 (List.replicate k 0)) := by
  have l1 : (x.take k).length = k := by simp; omega
  have l2 : (y.take k).length = k := by simp; omega
  have h := more_xors (x.take k) (y.take k) (by rw [l1, l2])
  rw [l1] at h
  rw [part_all x y k hx hy, moreI_zero, moreI_zero, moreI_zero, moreI_zero, h, bxor, bxor]
theorem below_drewN {B n : Nat} {w w' : World} (h : Below B w w') : Below B w (w'.drewN n) := ⟨h.os, h.tape, h.output, h.size, h.block⟩

set_option maxHeartbeats 400000 in
theorem crcLinear_any (a b : ByteArray) (w : World)
    (ht : ∀ i : Nat, i < 16 → w.cell? ⟨0, i, none⟩ = some (.int .u32 (tab.getD i 0))) :
    Calls Tryd.prog 6 #[.string a, .string b] w fun e w' => e = .returned (.bool true) ∧ Below w.heap.size w w' := by
  have ha := cut_size a
  have hb := cut_size b
  obtain ⟨n, hn⟩ : ∃ n, n = min (cut a).size (cut b).size := ⟨_, rfl⟩
  have HN : Hid (n = min (cut a).size (cut b).size) := hn
  have n5 : n ≤ 500 := by omega
  have na : n ≤ (cut a).size := by omega
  have nb : n ≤ (cut b).size := by omega
  clear hn
  have hmk := Go.run_make_row' (P := Tryd.prog) 29 5 (.int .u8 0) 1 Tryd.underlying29 info5 rfl .i64 .i64 n (by omega) (by omega)
  go_enter Tryd.func6, Tryd.ntmps6
  go_upto_region 2 with (first | (go_at_call 9; refine (few_any _ _).mono ?_; rintro e w' ⟨rfl, rfl⟩))
  go_cut [7] (fun s7 wx => s7 = .int .i64 n ∧ wx = w')
  case first =>
    go_wp2_with fail
    all_goals go_meet
    all_goals (have hn := HN.out; refine ⟨?_, rfl⟩; congr 1; omega)
  case rest =>
    obtain ⟨rfl, rfl⟩ := hcut
    obtain ⟨w0, rfl⟩ : ∃ x : World, x = wc := ⟨_, rfl⟩
    go_upto_region 3 with fail
    go_cut [8, 9] (fun s8 s9 wx => ∃ g1 g2 : Nat, s8 = .slice (some ⟨g1, 0, none⟩) n n ∧ s9 = .slice (some ⟨g2, 0, none⟩) n n ∧ g1 ≠ g2 ∧ w0.heap.size ≤ g1 ∧ w0.heap.size ≤ g2 ∧ HasBytes wx g1 (List.replicate n 0) ∧ HasBytes wx g2 (List.replicate n 0) ∧ Below w0.heap.size w0 wx)
    case first =>
      go_region
      all_goals go_wp2_with fail
      all_goals go_meet
      all_goals (
        have m1 := (HasBytes.made w0 n 5).alloc (by simp) (.cells (madeCells #[.int .u8 0] n) 5)
        have m2 := HasBytes.made (w0.alloc (.cells (madeCells #[.int .u8 0] n) 5)) n 5
        have e : (w0.alloc (.cells (madeCells #[.int .u8 0] n) 5)).heap.size = w0.heap.size + 1 := by simp
        rw [e] at m2
        have bel := (((Below.refl w0.heap.size w0).alloc (Nat.le_refl _) (.cells (madeCells #[.int .u8 0] n) 5)).alloc (by simp) (.cells (madeCells #[.int .u8 0] n) 5)).drew
        first
        | exact ⟨w0.heap.size, w0.heap.size + 1, rfl, rfl, by omega, by omega, by omega, m1, m2, bel⟩
        | exact ⟨w0.heap.size + 1, w0.heap.size, rfl, rfl, by omega, by omega, by omega, m2, m1, bel⟩)
    case rest =>
      obtain ⟨g1, g2, rfl, rfl, hg, hg1, hg2, hB1, hB2, hBel⟩ := hcut
      go_wp2_with fail
      have la : Hid ((cut a).data.toList.length = (cut a).size) := Array.length_toList
      have lb : Hid ((cut b).data.toList.length = (cut b).size) := Array.length_toList
      go_loopw [10] (fun i wr => ∃ k : Nat, k ≤ n ∧ i = .int .i64 k ∧ HasBytes wr g1 (part (cut a).data.toList (cut b).data.toList n k) ∧ HasBytes wr g2 (List.replicate n 0) ∧ Below w0.heap.size w0 wr)
        (fun i _ => n - (intOf i).toNat)
      case atStart => exact ⟨0, Nat.zero_le _, rfl, hB1, hB2, hBel⟩
      case round =>
        clear hB1 hB2 hBel
        obtain ⟨k, hk, rfl, hB1, hB2, hBel⟩ := hrel
        by_cases hkn : k < n
        · have hlt : k < (part (cut a).data.toList (cut b).data.toList n k).length := by rw [part_length]; omega
          obtain ⟨hcell, hfr⟩ := hB1 k hlt
          have H1 : Hid (HasBytes wr g1 (part (cut a).data.toList (cut b).data.toList n k)) := hB1
          have H2 : Hid (HasBytes wr g2 (List.replicate n 0)) := hB2
          have HL : Hid (Below w0.heap.size w0 wr) := hBel
          clear hB1 hB2 hBel hlt
          have ka : k < (cut a).size := by omega
          have kb : k < (cut b).size := by omega
          go_wp2_with fail
          go_region
          go_wp2
          go_roundw
          case rel =>
            have hB1 := H1.out
            refine ⟨k + 1, by omega, by go_num, ?_, ?_, ?_⟩
            · rw [xor8, part, ← byte_at _ _ ka, ← byte_at _ _ kb]
              exact (hB1.stored k (by rw [part_length]; omega) _).drew
            · exact ((H2.out).other (by simpa using hg) _).drew
            · exact ((HL.out).setCell hg1 _).drew
          case measure => simp [intOf]; omega
        · have hk2 : k = n := by omega
          subst hk2
          have ht2 : ∀ i : Nat, i < 16 → wr.cell? ⟨0, i, none⟩ = some (.int .u32 (tab.getD i 0)) := fun i hi => (hBel.cell (p := ⟨0, i, none⟩) (size_of_cell (ht i hi))).trans (ht i hi)
          have hbk1 := fun m : Nat => HasBytes.back (P := Tryd.prog) (w := wr.drewN m) (g := g1) (l := part (cut a).data.toList (cut b).data.toList k k) hB1 29 9 5 k k (by rw [part_length]) Tryd.underlying29 Tryd.underlying5 Tryd.underlying9
          have hbk2 := fun m : Nat => HasBytes.back (P := Tryd.prog) (w := wr.drewN m) (g := g2) (l := List.replicate k 0) hB2 29 9 5 k k (by simp) Tryd.underlying29 Tryd.underlying5 Tryd.underlying9
          have ht3 : ∀ (m i : Nat), i < 16 → (wr.drewN m).cell? ⟨0, i, none⟩ = some (.int .u32 (tab.getD i 0)) := fun m => ht2
          have s1 : (⟨(part (cut a).data.toList (cut b).data.toList k k).toArray⟩ : ByteArray).size ≤ maxLen := by
            show (part (cut a).data.toList (cut b).data.toList k k).toArray.size ≤ maxLen
            rw [List.size_toArray, part_length]
            unfold maxLen
            omega
          have s2 : (⟨(List.replicate k (0 : UInt8)).toArray⟩ : ByteArray).size ≤ maxLen := by
            show (List.replicate k (0 : UInt8)).toArray.size ≤ maxLen
            rw [List.size_toArray, List.length_replicate]
            unfold maxLen
            omega
          have s3 : ((cut a).extract 0 k).size ≤ maxLen := by
            rw [ByteArray.size_extract]
            unfold maxLen
            omega
          have s4 : ((cut b).extract 0 k).size ≤ maxLen := by
            rw [ByteArray.size_extract]
            unfold maxLen
            omega
          have HL : Hid (Below w0.heap.size w0 wr) := hBel
          clear hB1 hB2 hBel ht ht2 hmk
          generalize hq : part (cut a).data.toList (cut b).data.toList k k = q at *
          generalize hz : List.replicate k (0 : UInt8) = z at *
          have HQ : Hid (part (cut a).data.toList (cut b).data.toList k k = q) := hq
          have HZ : Hid (List.replicate k (0 : UInt8) = z) := hz
          clear hq hz
          go_wp2_with fail
          go_quiet (first | (go_at_call 7; refine Calls.quiet_of_same (awake_any _ (ht3 _))) | (go_at_call 8; refine Calls.quiet_of_same (sum_any _ _ (by assumption) (ht3 _))))
          go_wp2_with fail
          go_ret
          have hfin := linear_fin (cut a).data.toList (cut b).data.toList k (by rw [la.out]; omega) (by rw [lb.out]; omega)
          rw [HQ.out, HZ.out] at hfin
          refine ⟨?_, ?_⟩
          · show Ending.returned (Value.bool (moreI 0 q == _)) = _
            rw [hfin]
            simp
          · exact below_drewN HL.out
end Go.Proofs.YthjocdboanmkcaaDoor
