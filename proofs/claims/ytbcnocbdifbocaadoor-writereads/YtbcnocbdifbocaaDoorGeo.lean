/-
  A chip that may be, out of whatever numbers: the walk of the law's Geometry; what an erasure does where nothing happens. No condition.
-/
import Derived.Test.YtbcnocbdifbocaaDoorNow
import Derived.Test.YtbcnocbdifbocaaDoorActC
import Derived.Test.YtbcnocbdifbocaaDoorRest
namespace Go.Proofs.YtbcnocbdifbocaaDoor
open Go Go.RowKit

theorem wrap_small (x : Nat) (hx : x ≤ 1000000) : IntKind.i64.wrap (x : Int) = x := by rw [IntKind.wrap_i64]; omega
theorem low (n : Int) (m : Nat) (hm : m ≤ 1000000) : ∃ k : Nat, bits .and .i64 n (m : Int) = (k : Int) ∧ k ≤ m := by
  unfold bits
  simp only []
  have h : (BitVec.ofInt IntKind.i64.bits n &&& BitVec.ofInt IntKind.i64.bits (m : Int)).toNat ≤ m := by
    rw [BitVec.toNat_and]
    refine Nat.le_trans Nat.and_le_right ?_
    rw [BitVec.toNat_ofInt]
    show ((m : Int) % ((2 ^ 64 : Nat) : Int)).toNat ≤ m
    omega
  exact ⟨_, wrap_small _ (by omega), h⟩
theorem geo_any (B P Z : Int) (w : World) : Calls Tryd.prog 30 #[.agg #[.int .i64 B, .int .i64 P, .int .i64 Z]] w fun e w' => ∃ b p z : Nat, e = .returned (.agg #[.int .i64 b, .int .i64 p, .int .i64 z]) ∧ (8 ≤ b ∧ b ≤ 15 ∧ 4 ≤ p ∧ p ≤ 11 ∧ 64 ≤ z ∧ z ≤ 127) ∧ Below w.heap.size w w' := by
  obtain ⟨b, hb, hb7⟩ := low B 7 (by omega)
  obtain ⟨p, hp, hp7⟩ := low P 7 (by omega)
  obtain ⟨z, hz, hz7⟩ := low Z 63 (by omega)
  replace hb : bits .and .i64 B 7 = (b : Int) := hb
  replace hp : bits .and .i64 P 7 = (p : Int) := hp
  replace hz : bits .and .i64 Z 63 = (z : Int) := hz
  go_enter Tryd.func30, Tryd.ntmps30
  go_wp2_with fail
  exact bodyPost_ret (v := .agg #[.int .i64 (8 + b), .int .i64 (4 + p), .int .i64 (64 + z)]) (by rw [results_cell1 rfl]; go_simp) rfl ⟨8 + b, 4 + p, 64 + z, by simp, by omega, below_two w _ _⟩
/-- a block is erased, and nothing happens to it -/
theorem erase_plain {C : Ch} {b : Nat} (h0 : refB C b = 0) (hc : C.cuts (C.did + 1) = none) (hd : C.dead b = false) (hf : C.fails (C.did + 1) = false) :
    eraseC C b = ({ C with did := C.did + 1, worn := upd C.worn b (C.worn b + 1), pg := upd C.pg b (fun p => if p < C.P then ⟨#[]⟩ else C.pg b p) }, 0) := by
  unfold eraseC
  rw [if_pos h0, hc, Int.toNat_natCast]
  simp only
  rw [hd, hf, if_neg (by decide)]
theorem refB_ok {C : Ch} {b : Nat} (ho : C.off = false) (hb : b < C.B) : refB C b = 0 := by
  unfold refB
  rw [ho, if_neg (by decide), if_pos (by omega)]
theorem refP_ok {C : Ch} {b p : Nat} (ho : C.off = false) (hb : b < C.B) (hp : p < C.P) : refP C b p = 0 := by
  unfold refP
  rw [refB_ok ho hb, if_pos rfl, if_pos (by omega)]
theorem upd_range {f : Nat → Int} {b : Nat} {v : Int} {lo hi : Int} (h : ∀ n, lo ≤ f n ∧ f n ≤ hi) (hv : lo ≤ v ∧ v ≤ hi) : ∀ n, lo ≤ upd f b v n ∧ upd f b v n ≤ hi := by
  intro n
  unfold upd
  split
  · exact hv
  · exact h n
/-- one cut that a call lays -/
theorem one_cut (w : World) (x : Int) : CutsAt (w.alloc (.cells #[.int .i64 x, .int .i64 0, .int .u8 0] 64)) (fun _ => False) (some ⟨w.heap.size, 0, none⟩) [(x, 0, 0)] := by
  intro i hi
  have hi0 : i = 0 := by simpa using hi
  subst hi0
  have hb := heap_alloc_new w (.cells #[.int .i64 x, .int .i64 0, .int .u8 0] 64)
  exact ⟨w.heap.size, 0, rfl, by rw [size_alloc]; omega, fun h => h, cell_of_row _ _ 0 _ 64 _ hb, cell_of_row _ _ 1 _ 64 _ hb, cell_of_row _ _ 2 _ 64 _ hb⟩
theorem one_int (w : World) (x : Int) : IntsAt (w.alloc (.cells #[.int .i64 x] 3)) (fun _ => False) (some ⟨w.heap.size, 0, none⟩) [x] := by
  intro i hi
  have hi0 : i = 0 := by simpa using hi
  subst hi0
  have hb := heap_alloc_new w (.cells #[.int .i64 x] 3)
  exact ⟨w.heap.size, 0, rfl, by rw [size_alloc]; omega, fun h => h, cell_of_row _ _ 0 _ 3 _ hb⟩
end Go.Proofs.YtbcnocbdifbocaaDoor
