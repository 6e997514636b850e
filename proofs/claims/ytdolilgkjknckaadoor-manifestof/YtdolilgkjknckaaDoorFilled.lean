/-
  The text's rest, filled up; and the words as bytes.
-/
import Derived.Test.YtdolilgkjknckaaDoorMixed
import Derived.Lib.BufferWrite
namespace Go.Proofs.YtdolilgkjknckaaDoor.Sh
set_option maxRecDepth 100000
open Go Go.RowKit

/-- bytes as numbers -/
def toI (l : List UInt8) : List Int := l.map fun b => (b.toNat : Int)
theorem toI_length (l : List UInt8) : (toI l).length = l.length := by simp [toI]
theorem toI_getD (l : List UInt8) (j : Nat) : (toI l).getD j 0 = ((l.getD j 0).toNat : Int) := by
  by_cases h : j < l.length
  · simp [toI, List.getD_eq_getElem?_getD, h]
  · simp [toI, List.getD_eq_getElem?_getD, List.getElem?_eq_none (by omega : l.length ≤ j)]
theorem toI_set (l : List UInt8) (j : Nat) (b : UInt8) : (toI l).set j (b.toNat : Int) = toI (l.set j b) := by simp [toI, List.map_set]
theorem rowBytes {w : World} {g : Nat} {t : TypeId} {l : List UInt8} (h : Row w g t .u8 (toI l)) (n : Nat) : HasBytes w g (l.take n) := by
  intro j hj
  have hj1 : j < l.length := by simp at hj; omega
  refine ⟨?_, h.frozen j⟩
  rw [h.cell j (by rw [toI_length]; exact hj1), toI_getD]
  have hj2 : j < n := by simp at hj; omega
  simp [List.getD_eq_getElem?_getD, hj1, hj2]

/-- noughts -/
def zerosI (n : Nat) : List Int := toI (List.replicate n 0)
theorem zero53 (w : World) : (zeroValue 105).run Tryd.prog w = .ok (.agg (cellsOf .u8 (zerosI 128))) w := by
  have h : (Tryd.prog.info? 105).map (fun i => (i.zero, i.size)) = some (some (.agg (cellsOf .u8 (zerosI 128))), 128) := by kernel_rfl
  exact (zero_of_info h).1 w
theorem info5 : (Tryd.prog.info? 5).map (·.size) = some 1 := by kernel_rfl

/-- a text at the head of the noughts -/
def headed (l : List UInt8) : List UInt8 := l ++ List.replicate (128 - l.length) 0
theorem headed_length (l : List UInt8) (h : l.length ≤ 128) : (headed l).length = 128 := by simp [headed]; omega
theorem run_copy_text (w : World) (s : ByteArray) (hs : s.size ≤ 128) :
    (Builtin.copy_ #[50, 9] 3 #[.slice (some ⟨w.heap.size, 0, none⟩) 128 128, .string s]).run Tryd.prog (w.alloc (.cells (cellsOf .u8 (zerosI 128)) 105)) =
      .ok (.int .i64 s.size) (w.alloc (.cells (cellsOf .u8 (toI (headed s.data.toList))) 105)) := by
  have hz : (cellsOf .u8 (zerosI 128)).size = 128 := by rw [cellsOf_size, zerosI, toI_length]; simp
  have hsz : s.data.toList.length = s.size := Array.length_toList
  have h := Lib.run_copy_row_string (P := Tryd.prog) (w.alloc (.cells (cellsOf .u8 (zerosI 128)) 105)) 50 9 3 5 w.heap.size 0 128 128 s (cellsOf .u8 (zerosI 128)) 105 Tryd.underlying50 info5 (heap_alloc_new w _) (by omega) (by rw [hz]; omega)
  rw [h, World.setRow_alloc_new]
  have e : ((cellsOf .u8 (zerosI 128)).toList.take 0 ++ Lib.byteCells s.data.toList ++ (cellsOf .u8 (zerosI 128)).toList.drop (0 + s.size)).toArray = cellsOf .u8 (toI (headed s.data.toList)) := by
    unfold cellsOf headed zerosI toI Lib.byteCells
    rw [List.take_zero, List.nil_append, List.map_append, List.map_append, List.toList_toArray]
    congr 2
    · simp
    · rw [← List.map_drop, ← List.map_drop, List.drop_replicate, hsz]
      simp
  rw [e]
  rfl
/-- the length's bytes, from the end on -/
def fillLen (l : List UInt8) (last : Nat) (n : Nat) : Nat → List UInt8
  | 0 => l
  | j + 1 => (fillLen l last n j).set (last - 1 - j) (UInt8.ofNat (n / 256 ^ j))
theorem fillLen_length (l : List UInt8) (last n j : Nat) : (fillLen l last n j).length = l.length := by
  induction j with
  | zero => rfl
  | succ j ih => rw [fillLen, List.length_set, ih]
/-- where the filling ends -/
def lastOf (n : Nat) : Nat := if 64 < n + 1 + 8 then 128 else 64
/-- the rest, filled up -/
@[irreducible] def filledL (l : List UInt8) (n : Nat) : List UInt8 := (fillLen ((headed l).set l.length 128) (lastOf l.length) (n * 8) 8).take (lastOf l.length)

theorem lenByte (n j : Nat) : ((n : Int) * 8 / 2 ^ (8 * j) % 256) = ((UInt8.ofNat (n * 8 / 256 ^ j)).toNat : Int) := by
  rw [UInt8.toNat_ofNat']
  have e : (256 : Nat) ^ j = 2 ^ (8 * j) := by rw [Nat.pow_mul]
  rw [e]
  have h : ((n : Int) * 8 / 2 ^ (8 * j)) = ((n * 8 / 2 ^ (8 * j) : Nat) : Int) := by
    rw [Int.natCast_ediv, Int.natCast_mul, Int.natCast_pow]
    rfl
  rw [h]
  omega

theorem filled_any (s : ByteArray) (n : Nat) (hs : s.size < 64) (n1 : n < 1152921504606846976) (w : World) :
    Calls Tryd.prog 61 #[.string s, .int .i64 n] w fun e w' => e = .returned (.string ⟨(filledL s.data.toList n).toArray⟩) ∧ Below w.heap.size w w' := by
  generalize hR : filledL s.data.toList n = R
  have HR := Hid.mk hR
  clear hR
  have hz := zero53
  have hcp := run_copy_text w s (by omega)
  have hsl : s.data.toList.length = s.size := Array.length_toList
  have hL : (headed s.data.toList).length = 128 := headed_length _ (by omega)
  have r0 := Row.fresh w 105 .u8 (toI (headed s.data.toList))
  have c0 := r0.cell s.size (by rw [toI_length, hL]; omega)
  have f0 := r0.frozen s.size
  have est : (cellsOf .u8 (toI (headed s.data.toList))).setIfInBounds s.size (.int .u8 128) = cellsOf .u8 (toI ((headed s.data.toList).set s.size 128)) := by
    rw [← toI_set, ← cellsOf_set]
    rfl
  have HL := Hid.mk hL
  have HSL := Hid.mk hsl
  clear r0 hL hsl
  go_enter Tryd.func61, Tryd.ntmps61
  go_upto_if 19 with fail
  go_cut [6] (fun s6 wx => s6 = .int .i64 (lastOf s.size) ∧ wx = w.alloc (.cells (cellsOf .u8 (toI ((headed s.data.toList).set s.size 128))) 105))
  case first =>
    by_cases hl : 64 < s.size + 1 + 8
    · have e : lastOf s.size = 128 := by unfold lastOf; rw [if_pos hl]
      go_wp2_with fail
      go_meet
      exact ⟨by rw [e]; rfl, rfl⟩
    · have e : lastOf s.size = 64 := by unfold lastOf; rw [if_neg hl]
      go_wp2_with fail
      go_meet
      exact ⟨by rw [e]; rfl, rfl⟩
  case rest =>
    obtain ⟨rfl, rfl⟩ := hcut
    clear hz hcp c0 f0 est
    go_wp2_with fail
    have hL2 : ((headed s.data.toList).set s.size 128).length = 128 := by rw [List.length_set]; exact HL.out
    have r0 := Row.fresh w 105 .u8 (toI ((headed s.data.toList).set s.size 128))
    have b0 := (Below.refl w.heap.size w).alloc (Nat.le_refl _) (.cells (cellsOf .u8 (toI ((headed s.data.toList).set s.size 128))) 105)
    have hlast : 64 ≤ lastOf s.size ∧ lastOf s.size ≤ 128 := by unfold lastOf; split <;> omega
    have hRe : (fillLen ((headed s.data.toList).set s.size 128) (lastOf s.size) (n * 8) 8).take (lastOf s.size) = R := by
      rw [← HR.out, filledL, HSL.out]
    have HRE := Hid.mk hRe
    clear hRe HR HL HSL
    generalize (headed s.data.toList).set s.size 128 = L2 at *
    generalize lastOf s.size = L at *
    obtain ⟨l1, l2⟩ := hlast
    go_loopw [23] (fun i wr => ∃ j : Nat, j ≤ 8 ∧ i = .int .i64 j ∧ Row wr w.heap.size 105 .u8 (toI (fillLen L2 L (n * 8) j)) ∧ Below w.heap.size w wr)
      (fun i _ => 8 - (intOf i).toNat)
    case atStart => exact ⟨0, Nat.zero_le _, rfl, r0, b0⟩
    case round =>
      clear r0 b0
      obtain ⟨j, hj, rfl, q0, qb⟩ := hrel
      by_cases hj8 : j < 8
      · have c0 := q0.cell (L - 1 - j) (by rw [toI_length, fillLen_length, hL2]; omega)
        have f0 := q0.frozen (L - 1 - j)
        have HQ := Hid.mk (And.intro q0 qb)
        clear q0 qb
        go_wp2_with fail
        obtain ⟨q0, qb⟩ := HQ.out
        refine ⟨⟨j + 1, by omega, by go_num, ?_, qb.setCell (Nat.le_refl _) _⟩, by simp [intOf]; omega⟩
        rw [lenByte, fillLen, ← toI_set]
        exact q0.stored _ _
      · have hj2 : j = 8 := by omega
        rw [hj2] at q0
        clear hj2
        have hsl := fun w' => sliceTo (P := Tryd.prog) (t := 105) Tryd.underlying105 info5 w.heap.size L (by omega) w'
        have hbk := (rowBytes q0 L).back (P := Tryd.prog) 50 9 5 L 128 (by rw [List.length_take, fillLen_length, hL2]; omega) Tryd.underlying50 Tryd.underlying5 Tryd.underlying9
        rw [HRE.out] at hbk
        have HQ := Hid.mk qb
        clear qb q0 HRE
        go_wp2_with fail
        go_ret
        exact ⟨rfl, HQ.out⟩

/-- a byte of a word -/
def byteW (x : Int) (a : Nat) : UInt8 := UInt8.ofNat (x / 2 ^ a % 256).toNat
theorem byteW_val (x : Int) (a : Nat) : ((byteW x a).toNat : Int) = x / 2 ^ a % 256 := by
  unfold byteW
  rw [UInt8.toNat_ofNat']
  have h0 := Int.emod_nonneg (x / 2 ^ a) (by omega : (256 : Int) ≠ 0)
  have h1 := Int.emod_lt_of_pos (x / 2 ^ a) (by omega : (0 : Int) < 256)
  omega
def bytesTo (ws : List Int) (k : Nat) : List UInt8 := (List.range k).map fun i => byteW (ws.getD (i / 4) 0) (24 - i % 4 * 8)
@[irreducible] def bytesOf (ws : List Int) : List UInt8 := bytesTo ws 32

theorem bytesTo_length (ws : List Int) (k : Nat) : (bytesTo ws k).length = k := by simp [bytesTo]
theorem bytesTo_succ (ws : List Int) (k : Nat) : bytesTo ws (k + 1) = bytesTo ws k ++ [byteW (ws.getD (k / 4) 0) (24 - k % 4 * 8)] := by simp [bytesTo, List.range_succ]
theorem bytesOf_eq (ws : List Int) : bytesOf ws = bytesTo ws 32 := by unfold bytesOf; rfl
/-- bytes, and noughts behind them -/
def padB (n : Nat) (l : List UInt8) : List UInt8 := l ++ List.replicate (n - l.length) 0
theorem padB_length (n : Nat) (l : List UInt8) (h : l.length ≤ n) : (padB n l).length = n := by simp [padB]; omega
theorem padB_full (n : Nat) (l : List UInt8) (h : l.length = n) : padB n l = l := by simp [padB, h]
theorem padB_set (n : Nat) (l : List UInt8) (b : UInt8) (h : l.length < n) : (padB n l).set l.length b = padB n (l ++ [b]) := by
  have e : List.replicate (n - l.length) (0 : UInt8) = 0 :: List.replicate (n - (l.length + 1)) 0 := by
    rw [← List.replicate_succ]
    congr 1
    omega
  unfold padB
  rw [e, List.set_append_right _ _ (by omega), Nat.sub_self, List.set_cons_zero]
  simp

theorem asBytes_any (ws : List Int) (hw : ws.length = 8) (w : World) :
    Calls Tryd.prog 62 #[.agg (cellsOf .u32 ws)] w fun e w' => e = .returned (.string ⟨(bytesOf ws).toArray⟩) ∧ Below w.heap.size w w' := by
  generalize hR : bytesOf ws = R
  have HR := Hid.mk hR
  clear hR
  go_enter Tryd.func62, Tryd.ntmps62
  go_wp2_with fail
  go_loopw [5] (fun i wr => ∃ k : Nat, k ≤ 32 ∧ i = .int .i64 k ∧ Row wr w.heap.size 84 .u32 ws ∧ Row wr (w.heap.size + 1) 106 .u8 (toI (padB 32 (bytesTo ws k))) ∧ Below w.heap.size w wr)
    (fun i _ => 32 - (intOf i).toNat)
  case atStart =>
    exact ⟨0, Nat.zero_le _, rfl, (Row.fresh w 84 .u32 ws).alloc _, Row.fresh1 w _ 106 .u8 (toI (List.replicate 32 0)), ((Below.refl w.heap.size w).alloc (Nat.le_refl _) _).alloc (by simp only [size_alloc]; omega) _⟩
  case round =>
    obtain ⟨k, hk, rfl, q0, q1, qb⟩ := hrel
    by_cases hk32 : k < 32
    · have hl := bytesTo_length ws k
      have c0 := q0.cell (k / 4) (by omega)
      have c1 := q1.cell k (by rw [toI_length, padB_length _ _ (by omega)]; omega)
      have f1 := q1.frozen k
      generalize hx : ws.getD (k / 4) 0 = x at *
      have HQ := Hid.mk (And.intro hl (And.intro hx (And.intro q0 (And.intro q1 qb))))
      clear hl hx q0 q1 qb
      go_wp2_with fail
      obtain ⟨hl, hx, q0, q1, qb⟩ := HQ.out
      refine ⟨⟨k + 1, by omega, by go_num, q0.other (by show w.heap.size + 1 ≠ w.heap.size; omega) _, ?_, qb.setCell (by show w.heap.size ≤ w.heap.size + 1; omega) _⟩, by simp [intOf]; omega⟩
      have e := padB_set 32 (bytesTo ws k) (byteW x (24 - k % 4 * 8)) (by omega)
      rw [hl] at e
      rw [bytesTo_succ, hx, ← e, ← toI_set, byteW_val]
      exact q1.stored k _
    · have hk2 : k = 32 := by omega
      rw [hk2, padB_full _ _ (bytesTo_length ws 32), ← bytesOf_eq, HR.out] at q1
      have hRl : R.length = 32 := by rw [← HR.out, bytesOf_eq, bytesTo_length]
      clear hk2
      have hbk := (rowBytes q1 32).back (P := Tryd.prog) 50 9 5 32 32 (by rw [List.length_take]; omega) Tryd.underlying50 Tryd.underlying5 Tryd.underlying9
      rw [List.take_of_length_le (by omega)] at hbk
      have HQ := Hid.mk qb
      clear qb q0 q1 HR
      go_wp2_with fail
      go_ret
      exact ⟨rfl, HQ.out⟩
end Go.Proofs.YtdolilgkjknckaaDoor.Sh
