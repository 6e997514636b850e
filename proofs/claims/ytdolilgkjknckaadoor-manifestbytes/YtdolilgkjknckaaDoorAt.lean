/-
  The answer's reader: the walks of At's Bytes, Fixed, Num, Text and End. No condition.
-/
import Derived.Test.YtdolilgkjknckaaDoorForm
import Derived.Laws.ResultCell
import Derived.Laws.NewBlocks
namespace Go.Proofs.YtdolilgkjknckaaDoor
open Go Go.RowKit

theorem below_two (w : World) (o1 o2 : Obj) : Below w.heap.size w ((w.alloc o1).alloc o2) := by
  refine ((Below.refl w.heap.size w).alloc (Nat.le_refl _) o1).alloc ?_ o2
  rw [size_alloc]
  omega
theorem atBytes_any (s : ByteArray) (e n : Int) (w : World) : Calls Tryd.prog 50 #[.agg #[.string s, .int .i64 e], .int .i64 n] w fun x w' =>
    x = .returned (.tuple #[.agg #[.string (rB s e n).1, .int .i64 (rB s e n).2.1], .string (rB s e n).2.2]) ∧ Below w.heap.size w w' := by
  by_cases he : e = 0
  · subst he
    by_cases hn : n < 0
    · have er : rB s 0 n = (⟨#[]⟩, 2, ⟨#[]⟩) := by unfold rB; rw [if_neg (by decide), if_pos (Or.inl hn)]
      rw [er]
      clear er
      go_enter Tryd.func50, Tryd.ntmps50
      go_wp2_with fail
      exact bodyPost_ret (v := .tuple #[.agg #[.string ⟨#[]⟩, .int .i64 2], .string ⟨#[]⟩]) (by rw [results_cell_tmp rfl]; go_simp) rfl ⟨rfl, below_two w _ _⟩
    · by_cases hs : (s.size : Int) < n
      · have er : rB s 0 n = (⟨#[]⟩, 2, ⟨#[]⟩) := by unfold rB; rw [if_neg (by decide), if_pos (Or.inr hs)]
        rw [er]
        clear er
        go_enter Tryd.func50, Tryd.ntmps50
        go_wp2_with fail
        exact bodyPost_ret (v := .tuple #[.agg #[.string ⟨#[]⟩, .int .i64 2], .string ⟨#[]⟩]) (by rw [results_cell_tmp rfl]; go_simp) rfl ⟨rfl, below_two w _ _⟩
      · have er : rB s 0 n = (s.extract n.toNat s.size, 0, s.extract 0 n.toNat) := by unfold rB; rw [if_neg (by decide), if_neg (by omega)]
        rw [er]
        clear er
        go_enter Tryd.func50, Tryd.ntmps50
        go_wp2_with fail
        go_region
        go_wp2_with fail
        exact bodyPost_ret (v := .tuple #[.agg #[.string (s.extract n.toNat s.size), .int .i64 0], .string (s.extract 0 n.toNat)]) (by rw [results_cell_tmp rfl]; go_simp) rfl ⟨rfl, (below_two w _ _).drew⟩
  · have er : rB s e n = (s, e, ⟨#[]⟩) := by unfold rB; rw [if_pos he]
    rw [er]
    clear er
    go_enter Tryd.func50, Tryd.ntmps50
    go_wp2_with fail
    exact bodyPost_ret (v := .tuple #[.agg #[.string s, .int .i64 e], .string ⟨#[]⟩]) (by rw [results_cell_tmp rfl]; go_simp) rfl ⟨rfl, below_two w _ _⟩
/-- block g is the answer's reader of these bytes, with this error -/
def Ab (w : World) (g : Nat) (s : ByteArray) (e : Int) : Prop := w.heap[g]? = some (.cells #[.string s, .int .i64 e] 42 (0, 0))
theorem Ab.lt {w : World} {g s e} (h : Ab w g s e) : g < w.heap.size := (Array.getElem?_eq_some_iff.1 h).1
theorem Ab.rest {w : World} {g s e} (h : Ab w g s e) : w.cell? ⟨g, 0, none⟩ = some (.string s) := by rw [cell_of_row w g 0 _ 42 _ h]; rfl
theorem Ab.err {w : World} {g s e} (h : Ab w g s e) : w.cell? ⟨g, 1, none⟩ = some (.int .i64 e) := by rw [cell_of_row w g 1 _ 42 _ h]; rfl
theorem Ab.frozen {w : World} {g s e} (h : Ab w g s e) (j : Nat) : w.frozen? ⟨g, j, none⟩ = false := frozen_of_row w g j _ 42 h
theorem Ab.drew {w : World} {g s e} (h : Ab w g s e) : Ab w.drew g s e := h
theorem Ab.call {w w' : World} {g s e} (h : Ab w g s e) (b : Below w.heap.size w w') : Ab w' g s e := (b.block g h.lt).trans h
theorem Ab.alloc {w : World} {g s e} (h : Ab w g s e) (o : Obj) : Ab (w.alloc o) g s e := (Below.heap_alloc w o g h.lt).trans h
theorem Ab.kept {w w' : World} {g g0 s e} (h : Ab w g s e) (b : w.grownBy w' (some g0)) (hne : g ≠ g0) : Ab w' g s e := (b.block g h.lt (by simpa using hne)).trans h
theorem Ab.set {w : World} {g s e} (h : Ab w g s e) (t : ByteArray) (k : Int) : Ab ((w.setCell ⟨g, 0, none⟩ (.string t)).setCell ⟨g, 1, none⟩ (.int .i64 k)) g t k := by
  have h1 := heap_setCell_same w g 0 _ 42 (.string t) h
  have h2 := heap_setCell_same _ g 1 _ 42 (.int .i64 k) h1
  exact h2
theorem Ab.fresh (w : World) (s : ByteArray) (e : Int) : Ab (w.alloc (.cells #[.string s, .int .i64 e] 42)) w.heap.size s e := heap_alloc_new w _
theorem ab_load {w : World} {g s e} (h : Ab w g s e) : (loadVar 42 ⟨g, 0, none⟩).run Tryd.prog w = .ok (.agg #[.string s, .int .i64 e]) w := by
  have c0 := h.rest
  have c1 := h.err
  clear h
  go_simp
theorem ab_result {fn : Func} {p u : Tmp} (h : fn.results = #[.cell p 42, .tmp u]) {tmps : Array Value} {w : World} {g s e} (hp : tmps.getD p undef = .pointer (some ⟨g, 0, none⟩)) (ha : Ab w g s e) :
    (results fn tmps).run Tryd.prog w = .ok (.tuple #[.agg #[.string s, .int .i64 e], tmps.getD u undef]) w := by
  rw [results_cell_tmp h, hp]
  simp only [asAddr, Sem.run_pure, Result.andThen, ab_load ha]
/-- the two blocks that a call on At lays first, behind a call of its own -/
theorem ab_kept (w : World) (s : ByteArray) (e : Int) {w1 : World} (b : Below ((w.alloc (.cells #[.string s, .int .i64 e] 42)).alloc (.cells #[.string ⟨#[]⟩, .int .i64 0] 42)).heap.size ((w.alloc (.cells #[.string s, .int .i64 e] 42)).alloc (.cells #[.string ⟨#[]⟩, .int .i64 0] 42)) w1) :
    Below w.heap.size w w1 ∧ Ab w1 w.heap.size s e ∧ Ab w1 (w.heap.size + 1) ⟨#[]⟩ 0 := by
  refine ⟨below3 (below_two w _ _) b, ((Ab.fresh w s e).alloc _).call b, ?_⟩
  have h := Ab.fresh (w.alloc (.cells #[.string s, .int .i64 e] 42)) ⟨#[]⟩ 0
  rw [size_alloc] at h
  exact h.call b
theorem leL_drop (t : ByteArray) (j : Nat) (h : j < t.size) : leL (t.data.toList.drop j) = t[j].toNat + 256 * leL (t.data.toList.drop (j + 1)) := by
  have hl : j < t.data.toList.length := by rw [Array.length_toList]; exact h
  rw [List.drop_eq_getElem_cons hl, leL]
  rfl
theorem leL_drop_lt (t : ByteArray) (j : Nat) (h : t.size ≤ 8) : leL (t.data.toList.drop j) < 256 ^ (8 - j) := by
  refine Nat.lt_of_lt_of_le (leL_lt _) (Nat.pow_le_pow_right (by omega) ?_)
  rw [List.length_drop, Array.length_toList]
  have : t.data.size = t.size := rfl
  omega
theorem drop_fits (U k b : Nat) (h : U < 256 ^ k) (hk : k ≤ 7) (hb : b < 2 ^ 8) : (U : Int) * 256 + (b : Int) < 18446744073709551616 := by
  have h7 : 256 ^ k ≤ 256 ^ 7 := Nat.pow_le_pow_right (show 256 > 0 by omega) hk
  have : (256 : Nat) ^ 7 = 72057594037927936 := by decide
  omega
set_option maxHeartbeats 1000000 in
theorem atFixed_any (s : ByteArray) (e n : Int) (w : World) : Calls Tryd.prog 69 #[.agg #[.string s, .int .i64 e], .int .i64 n] w fun x w' =>
    x = .returned (.tuple #[.agg #[.string (rF s e n).1, .int .i64 (rF s e n).2.1], .int .u64 (rF s e n).2.2]) ∧ Below w.heap.size w w' := by
  have hsm := rB_small s e (wid n) (wid_le n).2
  unfold rF
  generalize hR : rB s e (wid n) = R at *
  obtain ⟨s', e', t⟩ := R
  simp only at hsm ⊢
  generalize hV : leL t.data.toList = V
  replace hV := Hid.mk hV
  unfold wid at hR
  by_cases h0 : n < 0
  · rw [if_pos h0] at hR
    go_enter Tryd.func69, Tryd.ntmps69
    go_wp2_with (first | (go_at_call 50; refine (atBytes_any _ _ _ _).mono ?_; rintro x w1 ⟨rfl, b1⟩; rw [hR]; have a1 := Hid.mk (ab_kept w s e b1); clear b1))
    have p1 := (a1.out.2.2.alloc (.cells #[.string s', .int .i64 e'] 42))
    have p2 := Ab.fresh w1 s' e'
    have p3 := a1.out.1.alloc a1.out.1.size (.cells #[.string s', .int .i64 e'] 42)
    generalize w1.heap.size = G at *
    generalize (w1.alloc (.cells #[.string s', .int .i64 e'] 42)) = W at *
    have c0 := p1.rest
    have c1 := p1.err
    have f0 := p1.frozen 0
    have f1 := p1.frozen 1
    have d0 := p2.rest
    have d1 := p2.err
    replace a1 := Hid.mk (And.intro p1 p3)
    clear p1 p2 p3
    go_loop [9, 10] (fun v i => ∃ j : Nat, j ≤ t.size ∧ i = .int .i64 ((j : Int) - 1) ∧ v = .int .u64 (leL (t.data.toList.drop j))) (fun _ i => (intOf i + 1).toNat)
    case atStart => exact ⟨t.size, Nat.le_refl _, rfl, by rw [List.drop_of_length_le (by rw [Array.length_toList]; exact Nat.le_refl _)]; rfl⟩
    case round =>
      obtain ⟨j, hj, rfl, rfl⟩ := hrel
      cases j with
      | zero =>
        rw [List.drop_zero, hV.out]
        go_wp2_with fail
        exact bodyPost_ret (ab_result rfl rfl (a1.out.1.set s' e')) rfl ⟨rfl, (a1.out.2.setCell (Nat.le_succ _) _).setCell (Nat.le_succ _) _⟩
      | succ m =>
        have ej : (((m + 1 : Nat) : Int) - 1) = (m : Int) := by omega
        rw [ej]
        have hm : m < t.size := by omega
        have hd := leL_drop t m hm
        have hlt := leL_drop_lt t (m + 1) hsm
        have hb := t[m].toNat_lt
        generalize leL (t.data.toList.drop (m + 1)) = U at *
        have hU := drop_fits U (8 - (m + 1)) t[m].toNat hlt (by omega) hb
        have HD := Hid.mk hd
        clear hd hlt ej
        go_wp2_with fail
        refine ⟨⟨m, by omega, rfl, ?_⟩, by simp [intOf]⟩
        rw [HD.out, Int.natCast_add, Int.natCast_mul, Int.mul_comm, Int.add_comm]
        rfl
  · rw [if_neg h0] at hR
    by_cases h8 : 8 < n
    · rw [if_pos h8] at hR
      go_enter Tryd.func69, Tryd.ntmps69
      go_wp2_with (first | (go_at_call 50; refine (atBytes_any _ _ _ _).mono ?_; rintro x w1 ⟨rfl, b1⟩; rw [hR]; have a1 := Hid.mk (ab_kept w s e b1); clear b1))
      have p1 := (a1.out.2.2.alloc (.cells #[.string s', .int .i64 e'] 42))
      have p2 := Ab.fresh w1 s' e'
      have p3 := a1.out.1.alloc a1.out.1.size (.cells #[.string s', .int .i64 e'] 42)
      generalize w1.heap.size = G at *
      generalize (w1.alloc (.cells #[.string s', .int .i64 e'] 42)) = W at *
      have c0 := p1.rest
      have c1 := p1.err
      have f0 := p1.frozen 0
      have f1 := p1.frozen 1
      have d0 := p2.rest
      have d1 := p2.err
      replace a1 := Hid.mk (And.intro p1 p3)
      clear p1 p2 p3
      go_loop [9, 10] (fun v i => ∃ j : Nat, j ≤ t.size ∧ i = .int .i64 ((j : Int) - 1) ∧ v = .int .u64 (leL (t.data.toList.drop j))) (fun _ i => (intOf i + 1).toNat)
      case atStart => exact ⟨t.size, Nat.le_refl _, rfl, by rw [List.drop_of_length_le (by rw [Array.length_toList]; exact Nat.le_refl _)]; rfl⟩
      case round =>
        obtain ⟨j, hj, rfl, rfl⟩ := hrel
        cases j with
        | zero =>
          rw [List.drop_zero, hV.out]
          go_wp2_with fail
          exact bodyPost_ret (ab_result rfl rfl (a1.out.1.set s' e')) rfl ⟨rfl, (a1.out.2.setCell (Nat.le_succ _) _).setCell (Nat.le_succ _) _⟩
        | succ m =>
          have ej : (((m + 1 : Nat) : Int) - 1) = (m : Int) := by omega
          rw [ej]
          have hm : m < t.size := by omega
          have hd := leL_drop t m hm
          have hlt := leL_drop_lt t (m + 1) hsm
          have hb := t[m].toNat_lt
          generalize leL (t.data.toList.drop (m + 1)) = U at *
          have hU := drop_fits U (8 - (m + 1)) t[m].toNat hlt (by omega) hb
          have HD := Hid.mk hd
          clear hd hlt ej
          go_wp2_with fail
          refine ⟨⟨m, by omega, rfl, ?_⟩, by simp [intOf]⟩
          rw [HD.out, Int.natCast_add, Int.natCast_mul, Int.mul_comm, Int.add_comm]
          rfl
    · rw [if_neg h8] at hR
      go_enter Tryd.func69, Tryd.ntmps69
      go_wp2_with (first | (go_at_call 50; refine (atBytes_any _ _ _ _).mono ?_; rintro x w1 ⟨rfl, b1⟩; rw [hR]; have a1 := Hid.mk (ab_kept w s e b1); clear b1))
      have p1 := (a1.out.2.2.alloc (.cells #[.string s', .int .i64 e'] 42))
      have p2 := Ab.fresh w1 s' e'
      have p3 := a1.out.1.alloc a1.out.1.size (.cells #[.string s', .int .i64 e'] 42)
      generalize w1.heap.size = G at *
      generalize (w1.alloc (.cells #[.string s', .int .i64 e'] 42)) = W at *
      have c0 := p1.rest
      have c1 := p1.err
      have f0 := p1.frozen 0
      have f1 := p1.frozen 1
      have d0 := p2.rest
      have d1 := p2.err
      replace a1 := Hid.mk (And.intro p1 p3)
      clear p1 p2 p3
      go_loop [9, 10] (fun v i => ∃ j : Nat, j ≤ t.size ∧ i = .int .i64 ((j : Int) - 1) ∧ v = .int .u64 (leL (t.data.toList.drop j))) (fun _ i => (intOf i + 1).toNat)
      case atStart => exact ⟨t.size, Nat.le_refl _, rfl, by rw [List.drop_of_length_le (by rw [Array.length_toList]; exact Nat.le_refl _)]; rfl⟩
      case round =>
        obtain ⟨j, hj, rfl, rfl⟩ := hrel
        cases j with
        | zero =>
          rw [List.drop_zero, hV.out]
          go_wp2_with fail
          exact bodyPost_ret (ab_result rfl rfl (a1.out.1.set s' e')) rfl ⟨rfl, (a1.out.2.setCell (Nat.le_succ _) _).setCell (Nat.le_succ _) _⟩
        | succ m =>
          have ej : (((m + 1 : Nat) : Int) - 1) = (m : Int) := by omega
          rw [ej]
          have hm : m < t.size := by omega
          have hd := leL_drop t m hm
          have hlt := leL_drop_lt t (m + 1) hsm
          have hb := t[m].toNat_lt
          generalize leL (t.data.toList.drop (m + 1)) = U at *
          have hU := drop_fits U (8 - (m + 1)) t[m].toNat hlt (by omega) hb
          have HD := Hid.mk hd
          clear hd hlt ej
          go_wp2_with fail
          refine ⟨⟨m, by omega, rfl, ?_⟩, by simp [intOf]⟩
          rw [HD.out, Int.natCast_add, Int.natCast_mul, Int.mul_comm, Int.add_comm]
          rfl
end Go.Proofs.YtdolilgkjknckaaDoor
