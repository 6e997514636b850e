/-
  Bytes by digits, and back: the walks of Hex and Bytes, and of the answer's Hex.
-/
import Derived.Test.YtdolilgkjknckaaDoorFilled
import Derived.Deep.RegionLaw
namespace Go.Proofs.YtdolilgkjknckaaDoor.Sh
set_option maxRecDepth 100000
open Go Go.RowKit

theorem info5z : (Tryd.prog.info? 5).map (fun i => (i.zero, i.size, i.bytes)) = some (some (.int .u8 0), 1, 1) := by kernel_rfl
theorem made_zeros (n : Nat) : madeCells #[.int .u8 0] n = cellsOf .u8 (zerosI n) := by
  apply Array.ext'
  rw [toList_madeCells_one]
  simp [cellsOf, zerosI, toI]
theorem run_make_bytes (l c : Nat) (h : l ≤ c) (hc : c ≤ 1000000) (w : World) :
    (Instr.makeSlice 50 (.int .i64 l) (.int .i64 c)).run Tryd.prog w = .ok (.slice (some ⟨w.heap.size, 0, none⟩) l c) (w.alloc (.cells (cellsOf .u8 (zerosI c)) 5)) := by
  obtain ⟨i, hi, hzz⟩ := Option.map_eq_some_iff.1 info5z
  simp only [Prod.mk.injEq] at hzz
  obtain ⟨hz, hs, hb⟩ := hzz
  have hr := run_make (P := Tryd.prog) w 50 5 i (.int .u8 0) Tryd.underlying50 hi hz .i64 .i64 l c (by omega) (by omega) (by rw [hb]; omega) (by omega)
  simp only [Int.toNat_natCast, hs, Nat.mul_one] at hr
  rw [hr]
  have e : (Value.int .u8 0).cells = #[.int .u8 0] := rfl
  rw [e, made_zeros]

/-- a digit -/
def dig (n : Nat) : UInt8 := if n < 10 then UInt8.ofNat (48 + n) else UInt8.ofNat (87 + n)
def digitsB : ByteArray := { data := #[48, 49, 50, 51, 52, 53, 54, 55, 56, 57, 97, 98, 99, 100, 101, 102] }
theorem dig_at (n : Nat) (hn : n < 16) (h : n < digitsB.size) : digitsB[n] = dig n := by
  have : ∀ m : Fin 16, digitsB[m.val]'(m.isLt) = dig m.val := by decide
  exact this ⟨n, hn⟩
theorem dig_hi (a : Nat) (ha : a < 256) (h : ((a : Int) / 16).toNat < digitsB.size) : digitsB[((a : Int) / 16).toNat] = dig (a / 16) := by
  have e : ((a : Int) / 16).toNat = a / 16 := by omega
  simp only [e]
  exact dig_at _ (by omega) _
theorem dig_lo (a : Nat) (h : ((a : Int) % 16).toNat < digitsB.size) : digitsB[((a : Int) % 16).toNat] = dig (a % 16) := by
  have e : ((a : Int) % 16).toNat = a % 16 := by omega
  simp only [e]
  exact dig_at _ (by omega) _
theorem and15 (a : UInt8) : bits .and .u8 (a.toNat : Int) 15 = (a.toNat : Int) % 16 := by
  have h := u8_and_nat a.toNat 15 a.toNat_lt (by omega)
  have e : a.toNat &&& 15 = a.toNat % 16 := Nat.and_two_pow_sub_one_eq_mod a.toNat 4
  rw [e] at h
  exact h
@[irreducible] def hexL (l : List UInt8) : List UInt8 := l.flatMap fun b => [dig (b.toNat / 16), dig (b.toNat % 16)]

theorem hexL_length (l : List UInt8) : (hexL l).length = 2 * l.length := by
  unfold hexL
  induction l with
  | nil => rfl
  | cons a l ih => rw [List.flatMap_cons, List.length_append, ih]; simp; omega
theorem hexL_append (l r : List UInt8) : hexL (l ++ r) = hexL l ++ hexL r := by
  unfold hexL
  rw [List.flatMap_append]
theorem hexL_one (b : UInt8) : hexL [b] = [dig (b.toNat / 16), dig (b.toNat % 16)] := by
  unfold hexL
  simp
theorem hexL_nil : hexL [] = [] := by unfold hexL; rfl
theorem take_succ_at (s : ByteArray) (k : Nat) (h : k < s.size) : s.data.toList.take (k + 1) = s.data.toList.take k ++ [s[k]] := by
  have hl : k < s.data.toList.length := by rw [Array.length_toList]; exact h
  rw [List.take_succ_eq_append_getElem hl]
  rfl

theorem hex_any (s : ByteArray) (hs : s.size ≤ 1000) (w : World) :
    Calls Tryd.prog 31 #[.string s] w fun e w' => e = .returned (.string ⟨(hexL s.data.toList).toArray⟩) ∧ Below w.heap.size w w' := by
  generalize hR : hexL s.data.toList = R
  have HR := Hid.mk hR
  clear hR
  have hmk : ∀ w, (Instr.makeSlice 50 (.int .i64 0) (.int .i64 (2 * (s.size : Int)))).run Tryd.prog w = .ok (.slice (some ⟨w.heap.size, 0, none⟩) 0 (2 * s.size)) (w.alloc (.cells (cellsOf .u8 (zerosI (2 * s.size))) 5)) :=
    run_make_bytes 0 (2 * s.size) (by omega) (by omega)
  go_enter Tryd.func31, Tryd.ntmps31
  go_wp2_with fail
  clear hmk
  go_loopw [3, 11] (fun v i wr => ∃ k : Nat, k ≤ s.size ∧ i = .int .i64 k ∧ v = .slice (some ⟨w.heap.size, 0, none⟩) (2 * k) (2 * s.size) ∧ Row wr w.heap.size 5 .u8 (toI (padB (2 * s.size) (hexL (s.data.toList.take k)))) ∧ Below w.heap.size w wr)
    (fun _ i _ => s.size - (intOf i).toNat)
  case atStart =>
    refine ⟨0, Nat.zero_le _, rfl, rfl, ?_, (Below.refl w.heap.size w).alloc (Nat.le_refl _) _⟩
    rw [List.take_zero, hexL_nil]
    exact Row.fresh w 5 .u8 (zerosI (2 * s.size))
  case round =>
    obtain ⟨k, hk, rfl, rfl, q0, qb⟩ := hrel
    by_cases hks : k < s.size
    · have HQ := Hid.mk (And.intro q0 qb)
      clear q0 qb
      have b1 : 0 ≤ (s[k].toNat : Int) / 16 ∧ (s[k].toNat : Int) / 16 < 16 := by have := s[k].toNat_lt; omega
      have b2 := and15 s[k]
      have b3 : 0 ≤ (s[k].toNat : Int) % 16 ∧ (s[k].toNat : Int) % 16 < 16 := by omega
      have d1 := dig_hi s[k].toNat s[k].toNat_lt
      have d2 := dig_lo s[k].toNat
      unfold digitsB at d1 d2
      have hlen : (hexL (s.data.toList.take k)).length = 2 * k := by
        rw [hexL_length, List.length_take, Array.length_toList]
        have : s.data.size = s.size := rfl
        omega
      have hroom : 2 * k + 2 ≤ 2 * s.size := by omega
      have hpl : (padB (2 * s.size) (hexL (s.data.toList.take k))).length = 2 * s.size := padB_length _ _ (by omega)
      have ca := fun o => (HQ.out.1.alloc o).cell (2 * k) (by rw [toI_length, hpl]; omega)
      have cb := fun o => (HQ.out.1.alloc o).cell (2 * k + 1) (by rw [toI_length, hpl]; omega)
      have fa := fun o => (HQ.out.1.alloc o).frozen (2 * k)
      have fb := fun o => (HQ.out.1.alloc o).frozen (2 * k + 1)
      have HL := Hid.mk hlen
      clear hlen hpl
      go_wp2_with fail
      go_region
      go_wp2_with fail
      obtain ⟨q0, qb⟩ := HQ.out
      have hlen := HL.out
      refine ⟨⟨k + 1, by omega, by go_num, rfl, ?_, (((qb.alloc qb.size _).setCell (Nat.le_refl _) _).setCell (Nat.le_refl _) _).drew⟩, by simp [intOf]; omega⟩
      have e1 := padB_set (2 * s.size) (hexL (s.data.toList.take k)) (dig (s[k].toNat / 16)) (by omega)
      have e2 := padB_set (2 * s.size) (hexL (s.data.toList.take k) ++ [dig (s[k].toNat / 16)]) (dig (s[k].toNat % 16)) (by simp; omega)
      rw [List.length_append, List.length_singleton, hlen] at e2
      rw [hlen] at e1
      rw [take_succ_at s k hks, hexL_append, hexL_one, show ([dig (s[k].toNat / 16), dig (s[k].toNat % 16)] : List UInt8) = [dig (s[k].toNat / 16)] ++ [dig (s[k].toNat % 16)] from rfl, ← List.append_assoc, ← e2, ← e1, ← toI_set, ← toI_set]
      exact (((q0.alloc _).stored (2 * k) _).stored (2 * k + 1) _).drew
    · have hk2 : k = s.size := by omega
      have htk : s.data.toList.take s.size = s.data.toList := List.take_of_length_le (by rw [Array.length_toList]; exact Nat.le_refl _)
      have hl2 : (hexL s.data.toList).length = 2 * s.size := by rw [hexL_length, Array.length_toList]; rfl
      rw [hk2, htk, padB_full _ _ hl2] at q0
      clear htk
      have hbk := (rowBytes q0 (2 * s.size)).back (P := Tryd.prog) 50 9 5 (2 * s.size) (2 * s.size) (by rw [List.length_take, hl2]; omega) Tryd.underlying50 Tryd.underlying5 Tryd.underlying9
      rw [List.take_of_length_le (by omega)] at hbk
      have HB := Hid.mk qb
      clear qb q0 hl2
      subst hk2
      rw [HR.out] at hbk
      go_wp2_with fail
      go_ret
      exact ⟨rfl, HB.out⟩
end Go.Proofs.YtdolilgkjknckaaDoor.Sh
