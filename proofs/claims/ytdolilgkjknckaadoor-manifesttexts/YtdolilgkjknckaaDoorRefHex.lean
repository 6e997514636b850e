/-
  The answer's Hex.
-/
import Derived.Test.YtdolilgkjknckaaDoorUnhex
namespace Go.Proofs.YtdolilgkjknckaaDoor.Sh
set_option maxRecDepth 100000
open Go Go.RowKit

/-- a text of one byte -/
theorem run_one (W : World) (b : UInt8) (v : Int) (hv : v = (b.toNat : Int)) :
    (convert 50 9 (.slice (some ⟨W.heap.size, 0, none⟩) 1 1)).run Tryd.prog (W.alloc (.cells #[.int .u8 v] 5)) = .ok (.string ⟨#[b]⟩) (W.alloc (.cells #[.int .u8 v] 5)) := by
  subst hv
  have h : HasBytes (W.alloc (.cells #[.int .u8 (b.toNat : Int)] 5)) W.heap.size [b] := rowBytes (Row.fresh W 5 .u8 (toI [b])) 1
  exact h.back 50 9 5 1 1 rfl Tryd.underlying50 Tryd.underlying5 Tryd.underlying9

theorem refHex_any (s : ByteArray) (hs : s.size ≤ 1000) (w : World) :
    Calls Tryd.prog 35 #[.string s] w fun e w' => e = .returned (.string ⟨(hexL s.data.toList).toArray⟩) ∧ Below w.heap.size w w' := by
  generalize hR : hexL s.data.toList = R
  have HR := Hid.mk hR
  clear hR
  go_enter Tryd.func35, Tryd.ntmps35
  go_wp2_with fail
  go_loopw [3, 4] (fun o i wr => ∃ (k : Nat) (x : ByteArray), k ≤ s.size ∧ i = .int .i64 k ∧ o = .string x ∧ x.data.toList = hexL (s.data.toList.take k) ∧ x.size = 2 * k ∧ Below w.heap.size w wr)
    (fun _ i _ => s.size - (intOf i).toNat)
  case atStart =>
    refine ⟨0, ⟨#[]⟩, Nat.zero_le _, rfl, rfl, ?_, rfl, Below.refl _ _⟩
    rw [List.take_zero, hexL_nil]
  case round =>
    obtain ⟨k, x, hk, rfl, rfl, hx, hxs, qb⟩ := hrel
    by_cases hks : k < s.size
    · have HQ := Hid.mk (And.intro hx qb)
      clear hx qb
      have l0 := s[k].toNat_lt
      go_wp2_with fail
      go_region
      go_wp2_with fail
      have r0 : Row (wr.alloc (.cells #[.int .u8 (s[k].toNat / 16), .int .u8 (s[k].toNat % 16)] 5)).drew wr.heap.size 5 .u8 [(s[k].toNat : Int) / 16, (s[k].toNat : Int) % 16] := (Row.fresh wr 5 .u8 [(s[k].toNat : Int) / 16, (s[k].toNat : Int) % 16]).drew
      have b0 : Below w.heap.size w (wr.alloc (.cells #[.int .u8 (s[k].toNat / 16), .int .u8 (s[k].toNat % 16)] 5)).drew := (HQ.out.2.alloc HQ.out.2.size _).drew
      obtain ⟨w0, rfl⟩ : ∃ z : World, z = wr := ⟨_, rfl⟩
      have hz := HQ.out.2.size
      go_loopw [3, 23] (fun o i wx => ∃ (j : Nat) (y : ByteArray), j ≤ 2 ∧ i = .int .i64 j ∧ o = .string y ∧ y.data.toList = x.data.toList ++ [dig (s[k].toNat / 16), dig (s[k].toNat % 16)].take j ∧ y.size = 2 * k + j ∧
          Row wx w0.heap.size 5 .u8 [(s[k].toNat : Int) / 16, (s[k].toNat : Int) % 16] ∧ Below w.heap.size w wx) (fun _ i _ => 2 - (intOf i).toNat)
      case atStart => exact ⟨0, x, by omega, rfl, rfl, by simp, hxs, r0, b0⟩
      case round =>
        clear r0 b0
        obtain ⟨j, y, hj, rfl, rfl, hy, hys, q0, qb⟩ := hrel
        by_cases hj2 : j < 2
        · obtain ⟨n, hn, hn16, hnd⟩ : ∃ n : Nat, ([(s[k].toNat : Int) / 16, (s[k].toNat : Int) % 16] : List Int).getD j 0 = (n : Int) ∧ n < 16 ∧ [dig (s[k].toNat / 16), dig (s[k].toNat % 16)].take (j + 1) = [dig (s[k].toNat / 16), dig (s[k].toNat % 16)].take j ++ [dig n] := by
            rcases (by omega : j = 0 ∨ j = 1) with rfl | rfl
            · exact ⟨s[k].toNat / 16, rfl, by omega, rfl⟩
            · exact ⟨s[k].toNat % 16, rfl, by omega, rfl⟩
          have c0 := q0.cell j (by simp; omega)
          rw [hn] at c0
          have HQ2 := Hid.mk (And.intro hnd (And.intro hy (And.intro q0 qb)))
          clear hn hnd hy q0 qb
          by_cases h10 : n < 10
          · have hone := fun W => run_one W (dig n) (48 + (n : Int)) (by
              unfold dig
              rw [if_pos h10, UInt8.toNat_ofNat']
              omega)
            go_wp2_with fail
            obtain ⟨hnd, hy, q0, qb⟩ := HQ2.out
            refine ⟨⟨j + 1, y ++ ⟨#[dig n]⟩, by omega, by go_num, rfl, ?_, ?_, q0.alloc _, qb.alloc qb.size _⟩, by simp [intOf]; omega⟩
            · rw [hnd, ByteArray.data_append, Array.toList_append, hy, List.append_assoc]
            · rw [ByteArray.size_append, hys]
              rfl
          · have hone := fun W => run_one W (dig n) (97 + (n : Int) - 10) (by
              unfold dig
              rw [if_neg h10, UInt8.toNat_ofNat']
              omega)
            go_wp2_with fail
            obtain ⟨hnd, hy, q0, qb⟩ := HQ2.out
            refine ⟨⟨j + 1, y ++ ⟨#[dig n]⟩, by omega, by go_num, rfl, ?_, ?_, q0.alloc _, qb.alloc qb.size _⟩, by simp [intOf]; omega⟩
            · rw [hnd, ByteArray.data_append, Array.toList_append, hy, List.append_assoc]
            · rw [ByteArray.size_append, hys]
              rfl
        · have hj3 : j = 2 := by omega
          rw [hj3] at hy hys
          obtain ⟨hx, _⟩ := HQ.out
          have hyL : y.data.toList = hexL (s.data.toList.take (k + 1)) := by
            rw [hy, hx, take_succ_at s k hks, hexL_append, hexL_one]
            rfl
          have HQ2 := Hid.mk (And.intro hyL (And.intro hys qb))
          clear hj3 hy hys hx hyL q0 qb hxs
          go_wp2_with fail
          obtain ⟨hyL, hys, qb⟩ := HQ2.out
          exact ⟨⟨k + 1, y, by omega, by go_num, rfl, hyL, by omega, qb⟩, by simp [intOf]; omega⟩
    · have hk2 : k = s.size := by omega
      have htk : s.data.toList.take s.size = s.data.toList := List.take_of_length_le (by rw [Array.length_toList]; exact Nat.le_refl _)
      rw [hk2, htk, HR.out] at hx
      have HX := Hid.mk (And.intro hx qb)
      clear hx qb htk hk2 hxs
      go_wp2_with fail
      go_ret
      obtain ⟨hx, qb⟩ := HX.out
      refine ⟨?_, qb⟩
      rw [← hx, Array.toArray_toList]
      rfl
end Go.Proofs.YtdolilgkjknckaaDoor.Sh
