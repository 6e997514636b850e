/-
  The walks of the primes, and of the first words and round numbers made of them.
-/
import Derived.Test.YtdolilgkjknckaaDoorRoots
import Derived.RegionTactic
import Derived.Deep.LoopGhost
namespace Go.Proofs.YtdolilgkjknckaaDoor.Sh
open Go Go.RowKit

/-- a row that is being filled -/
def fill (f : Int → Int) (l : List Int) (n k : Nat) : List Int := (l.take k).map f ++ List.replicate (n - k) 0
theorem fill_length (f : Int → Int) (l : List Int) (n k : Nat) (h1 : k ≤ n) (h2 : k ≤ l.length) : (fill f l n k).length = n := by
  simp [fill]; omega
theorem fill_set (f : Int → Int) (l : List Int) (n k : Nat) (h1 : k < n) (h2 : k < l.length) : (fill f l n k).set k (f (l.getD k 0)) = fill f l n (k + 1) := by
  have e : List.replicate (n - k) (0 : Int) = 0 :: List.replicate (n - (k + 1)) 0 := by
    rw [← List.replicate_succ]
    congr 1
    omega
  have hk : ((l.take k).map f).length = k := by simp; omega
  unfold fill
  rw [e, List.set_append_right _ _ (by omega), hk, Nat.sub_self, List.set_cons_zero, List.take_succ_eq_append_getElem h2, List.map_append, List.append_assoc]
  simp [List.getD_eq_getElem?_getD, h2]
theorem fill_all (f : Int → Int) (l : List Int) (n : Nat) : fill f l n n = (l.take n).map f := by simp [fill]

theorem info84 : (Tryd.prog.info? 84).map (·.size) = some 8 := by kernel_rfl
theorem info82 : (Tryd.prog.info? 82).map (·.size) = some 64 := by kernel_rfl
theorem info80 : (Tryd.prog.info? 80).map (·.size) = some 64 := by kernel_rfl

theorem primes64_bd (k : Nat) : 0 ≤ primes64.getD k 0 ∧ primes64.getD k 0 < 400 := by
  by_cases h : k < 64
  · revert k
    decide
  · rw [List.getD_eq_getElem?_getD, List.getElem?_eq_none (by show 64 ≤ k; omega)]
    decide

theorem words_any (w : World) :
    Calls Tryd.prog 59 #[.agg (cellsOf .u64 primes64)] w fun e w' => e = .returned (.agg (cellsOf .u32 H0)) ∧ Below w.heap.size w w' := by
  go_enter Tryd.func59, Tryd.ntmps59
  go_wp2_with fail
  go_loopw [5] (fun i wr => ∃ k : Nat, k ≤ 8 ∧ i = .int .i64 k ∧ Row wr w.heap.size 80 .u64 primes64 ∧ Row wr (w.heap.size + 1) 84 .u32 (List.replicate 8 0) ∧ Row wr (w.heap.size + 1 + 1) 84 .u32 (fill sqBits primes64 8 k) ∧ Below w.heap.size w wr)
    (fun i _ => 8 - (intOf i).toNat)
  case atStart =>
    exact ⟨0, Nat.zero_le _, rfl, ((Row.fresh w 80 .u64 primes64).alloc _).alloc _, (Row.fresh1 w _ 84 .u32 (List.replicate 8 0)).alloc _, Row.fresh2 w _ _ 84 .u32 (List.replicate 8 0),
      (((Below.refl w.heap.size w).alloc (Nat.le_refl _) _).alloc (by simp only [size_alloc]; omega) _).alloc (by simp only [size_alloc]; omega) _⟩
  case round =>
    obtain ⟨k, hk, rfl, hp, hr, hf, hb⟩ := hrel
    by_cases hk8 : k < 8
    · have c1 := hp.cell k (by show k < 64; omega)
      have c2 := hf.cell k (by rw [fill_length _ _ _ _ (by omega) (by show k ≤ 64; omega)]; omega)
      have f2 := hf.frozen k
      have HP := Hid.mk hp
      have HR := Hid.mk hr
      have HF := Hid.mk hf
      have HB := Hid.mk hb
      clear hp hr hf hb
      go_wp2_with (go_at_call 75; refine (sq_any _ _).mono ?_; rintro e w' ⟨rfl, rfl⟩)
      go_roundw
      case rel =>
        refine ⟨k + 1, by omega, by go_num, HP.out.other (by show w.heap.size + 1 + 1 ≠ w.heap.size; omega) _, HR.out.other (by show w.heap.size + 1 + 1 ≠ w.heap.size + 1; omega) _, ?_, HB.out.setCell (by show w.heap.size ≤ w.heap.size + 1 + 1; omega) _⟩
        rw [← fill_set _ _ _ _ hk8 (by show k < 64; omega)]
        exact HF.out.stored k _
      case measure => simp [intOf]; omega
    · obtain rfl : k = 8 := by omega
      have hl : (fill sqBits primes64 8 8).length = 8 := fill_length _ _ _ _ (Nat.le_refl _) (by decide)
      go_wp2_with (first | (refine wpList_loadRow rfl 84 _ rfl _ rfl hf Tryd.underlying84 (by rw [hl]; exact info84) ?_) | (refine wpList_storeRow rfl 84 _ _ rfl _ rfl rfl hr (by rw [hl]; exact info84) (by rw [hl]; rfl) rfl ?_))
      refine bodyPost_ret (v := .agg (cellsOf .u32 (fill sqBits primes64 8 8))) (Row.result Tryd.results59 (hr.whole _) rfl Tryd.underlying84 (by rw [hl]; exact info84)) rfl ⟨?_, below_setRow hb (by omega) _⟩
      rw [fill_all]
      rfl
theorem numbers_any (w : World) :
    Calls Tryd.prog 58 #[.agg (cellsOf .u64 primes64)] w fun e w' => e = .returned (.agg (cellsOf .u32 K0)) ∧ Below w.heap.size w w' := by
  go_enter Tryd.func58, Tryd.ntmps58
  go_wp2_with fail
  go_loopw [5] (fun i wr => ∃ k : Nat, k ≤ 64 ∧ i = .int .i64 k ∧ Row wr w.heap.size 80 .u64 primes64 ∧ Row wr (w.heap.size + 1) 82 .u32 (List.replicate 64 0) ∧ Row wr (w.heap.size + 1 + 1) 82 .u32 (fill cbBits primes64 64 k) ∧ Below w.heap.size w wr)
    (fun i _ => 64 - (intOf i).toNat)
  case atStart =>
    exact ⟨0, Nat.zero_le _, rfl, ((Row.fresh w 80 .u64 primes64).alloc _).alloc _, (Row.fresh1 w _ 82 .u32 (List.replicate 64 0)).alloc _, Row.fresh2 w _ _ 82 .u32 (List.replicate 64 0),
      (((Below.refl w.heap.size w).alloc (Nat.le_refl _) _).alloc (by simp only [size_alloc]; omega) _).alloc (by simp only [size_alloc]; omega) _⟩
  case round =>
    obtain ⟨k, hk, rfl, hp, hr, hf, hb⟩ := hrel
    by_cases hk8 : k < 64
    · have c1 := hp.cell k (by show k < 64; omega)
      have c2 := hf.cell k (by rw [fill_length _ _ _ _ (by omega) (by show k ≤ 64; omega)]; omega)
      have f2 := hf.frozen k
      obtain ⟨b0, b1⟩ := primes64_bd k
      have HP := Hid.mk hp
      have HR := Hid.mk hr
      have HF := Hid.mk hf
      have HB := Hid.mk hb
      clear hp hr hf hb
      go_wp2_with (go_at_call 74; refine (cb_any _ (by assumption) (by assumption) _).mono ?_; rintro e w' ⟨rfl, rfl⟩)
      go_roundw
      case rel =>
        refine ⟨k + 1, by omega, by go_num, HP.out.other (by show w.heap.size + 1 + 1 ≠ w.heap.size; omega) _, HR.out.other (by show w.heap.size + 1 + 1 ≠ w.heap.size + 1; omega) _, ?_, HB.out.setCell (by show w.heap.size ≤ w.heap.size + 1 + 1; omega) _⟩
        rw [← fill_set _ _ _ _ hk8 (by show k < 64; omega)]
        exact HF.out.stored k _
      case measure => simp [intOf]; omega
    · obtain rfl : k = 64 := by omega
      have hl : (fill cbBits primes64 64 64).length = 64 := fill_length _ _ _ _ (Nat.le_refl _) (by decide)
      go_wp2_with (first | (refine wpList_loadRow rfl 82 _ rfl _ rfl hf Tryd.underlying82 (by rw [hl]; exact info82) ?_) | (refine wpList_storeRow rfl 82 _ _ rfl _ rfl rfl hr (by rw [hl]; exact info82) (by rw [hl]; rfl) rfl ?_))
      refine bodyPost_ret (v := .agg (cellsOf .u32 (fill cbBits primes64 64 64))) (Row.result Tryd.results58 (hr.whole _) rfl Tryd.underlying82 (by rw [hl]; exact info82)) rfl ⟨?_, below_setRow hb (by omega) _⟩
      rw [fill_all]
      rfl
end Go.Proofs.YtdolilgkjknckaaDoor.Sh
