/-
  A chip that may be, out of whatever numbers: the walk of the law's Geometry; what an erasure does where nothing happens. No condition.
-/
import Derived.Test.YtkfkepjegdaadaaAwake
namespace Go.Proofs.Ytkfkepjegdaadaa
open Go Go.RowKit

theorem wrap_small (x : Nat) (hx : x ≤ 1000000) : IntKind.i64.wrap (x : Int) = x := by rw [IntKind.wrap_i64]; omega
theorem low (n : Int) (m : Nat) (hm : m ≤ 1000000) : ∃ k : Nat, bits .and .i64 n (m : Int) = (k : Int) ∧ k ≤ m := by
  unfold bits
  simp only []
  have h : (BitVec.ofInt IntKind.i64.bits n &&& BitVec.ofInt IntKind.i64.bits (m : Int)).toNat ≤ m := by
    rw [BitVec.toNat_and]
    refine Nat.le_trans Nat.and_le_right ?_
    rw [BitVec.toNat_ofInt]
    show ((m : Int) % ((2 ^ 64 : Nat) : Int)).toNat ≤ m
    omega
  exact ⟨_, wrap_small _ (by omega), h⟩
theorem geo_any (B P Z : Int) (w : World) : Calls Try.prog 8 #[.agg #[.int .i64 B, .int .i64 P, .int .i64 Z]] w fun e w' => ∃ b p z : Nat, e = .returned (.agg #[.int .i64 b, .int .i64 p, .int .i64 z]) ∧ (8 ≤ b ∧ b ≤ 15 ∧ 4 ≤ p ∧ p ≤ 11 ∧ 64 ≤ z ∧ z ≤ 127) ∧ Below w.heap.size w w' := by
  obtain ⟨b, hb, hb7⟩ := low B 7 (by omega)
  obtain ⟨p, hp, hp7⟩ := low P 7 (by omega)
  obtain ⟨z, hz, hz7⟩ := low Z 63 (by omega)
  replace hb : bits .and .i64 B 7 = (b : Int) := hb
  replace hp : bits .and .i64 P 7 = (p : Int) := hp
  replace hz : bits .and .i64 Z 63 = (z : Int) := hz
  go_enter Try.func8, Try.ntmps8
  go_wp2_with fail
  exact bodyPost_ret (v := .agg #[.int .i64 (8 + b), .int .i64 (4 + p), .int .i64 (64 + z)]) (by rw [results_cell1 rfl]; go_simp) rfl ⟨8 + b, 4 + p, 64 + z, by simp, by omega, below_two w _ _⟩
/-- a block is erased, and nothing happens to it -/
theorem erase_plain {C : Ch} {b : Nat} (h0 : refB C b = 0) (hc : C.cuts (C.did + 1) = none) (hd : C.dead b = false) (hf : C.fails (C.did + 1) = false) :
    eraseC C b = ({ C with did := C.did + 1, worn := upd C.worn b (C.worn b + 1), pg := upd C.pg b (fun p => if p < C.P then ⟨#[]⟩ else C.pg b p) }, 0) := by
  unfold eraseC
  rw [if_pos h0, hc, Int.toNat_natCast]
  simp only
  rw [hd, hf, if_neg (by decide)]
theorem refB_ok {C : Ch} {b : Nat} (ho : C.off = false) (hb : b < C.B) : refB C b = 0 := by
  unfold refB
  rw [ho, if_neg (by decide), if_pos (by omega)]
theorem refP_ok {C : Ch} {b p : Nat} (ho : C.off = false) (hb : b < C.B) (hp : p < C.P) : refP C b p = 0 := by
  unfold refP
  rw [refB_ok ho hb, if_pos rfl, if_pos (by omega)]
theorem upd_range {f : Nat → Int} {b : Nat} {v : Int} {lo hi : Int} (h : ∀ n, lo ≤ f n ∧ f n ≤ hi) (hv : lo ≤ v ∧ v ≤ hi) : ∀ n, lo ≤ upd f b v n ∧ upd f b v n ≤ hi := by
  intro n
  unfold upd
  split
  · exact hv
  · exact h n
/-- a geometry in a block of the law's own, and its chip -/
structure Gc (w0 : World) (G : Nat) (L : Ly) (C : Ch) (w : World) : Prop where
  hd : Hd w0 L C w
  box : w.heap[G]? = some (.cells #[.int .i64 C.B, .int .i64 C.P, .int .i64 C.Z] 23 (0, 0))
  out : ¬ L.own C.B G
theorem Gc.call {w0 : World} {G L C} {w w' : World} (h : Gc w0 G L C w) (b : Below w.heap.size w w') : Gc w0 G L C w' :=
  ⟨h.hd.call b, (b.block _ (Array.getElem?_eq_some_iff.1 h.box).1).trans h.box, h.out⟩
theorem Gc.act {w0 : World} {G L C C'} {w w' : World} (h : Gc w0 G L C w) (h2 : Hd w0 L C' w') (hk : Kp (L.own C.B) w w') (e : C'.B = C.B ∧ C'.P = C.P ∧ C'.Z = C.Z) : Gc w0 G L C' w' :=
  ⟨h2, by rw [e.1, e.2.1, e.2.2]; exact (hk.block _ (Array.getElem?_eq_some_iff.1 h.box).1 h.out).trans h.box, by rw [e.1]; exact h.out⟩
theorem Gc.cells {w0 : World} {G L C} {w : World} (h : Gc w0 G L C w) : w.cell? ⟨G, 0, none⟩ = some (.int .i64 C.B) ∧ w.cell? ⟨G, 1, none⟩ = some (.int .i64 C.P) ∧ w.cell? ⟨G, 2, none⟩ = some (.int .i64 C.Z) :=
  ⟨cell_of_row _ _ 0 _ 23 _ h.box, cell_of_row _ _ 1 _ 23 _ h.box, cell_of_row _ _ 2 _ 23 _ h.box⟩
theorem Gc.drew {w0 : World} {G L C} {w : World} (h : Gc w0 G L C w) : Gc w0 G L C w.drew := h.call (Below.refl _ w).drew
/-- one cut that a call lays -/
theorem one_cut (w : World) (x : Int) : CutsAt (w.alloc (.cells #[.int .i64 x, .int .i64 0, .int .u8 0] 57)) (fun _ => False) (some ⟨w.heap.size, 0, none⟩) [(x, 0, 0)] := by
  intro i hi
  have hi0 : i = 0 := by simpa using hi
  subst hi0
  have hb := heap_alloc_new w (.cells #[.int .i64 x, .int .i64 0, .int .u8 0] 57)
  exact ⟨w.heap.size, 0, rfl, by rw [size_alloc]; omega, fun h => h, cell_of_row _ _ 0 _ 57 _ hb, cell_of_row _ _ 1 _ 57 _ hb, cell_of_row _ _ 2 _ 57 _ hb⟩
theorem one_int (w : World) (x : Int) : IntsAt (w.alloc (.cells #[.int .i64 x] 3)) (fun _ => False) (some ⟨w.heap.size, 0, none⟩) [x] := by
  intro i hi
  have hi0 : i = 0 := by simpa using hi
  subst hi0
  have hb := heap_alloc_new w (.cells #[.int .i64 x] 3)
  exact ⟨w.heap.size, 0, rfl, by rw [size_alloc]; omega, fun h => h, cell_of_row _ _ 0 _ 3 _ hb⟩
end Go.Proofs.Ytkfkepjegdaadaa
