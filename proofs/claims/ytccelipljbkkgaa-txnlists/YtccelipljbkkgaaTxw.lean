/-
  No transaction; a page that is put, and seen (awake); TxnNone's walk. No condition.
-/
import Derived.Test.YtccelipljbkkgaaTxr
namespace Go.Proofs.Ytccelipljbkkgaa
open Go Go.RowKit Go.Maps

theorem get_tx0 (w : World) (id page : Int) : Calls Try.prog 18 #[.pointer none, .int .i64 id, .int .i64 page] w fun e w' => e = .returned (.tuple #[.string ByteArray.empty, .int .i64 0, .bool false]) ∧ w = w' := by
  have q := Hid.mk (isNone_nil w)
  go_enter Try.func18, Try.ntmps18
  go_wp2_with (first | (go_at_call 36; refine q.out.mono ?_; rintro e w1 ⟨rfl, rfl⟩))
  go_ret3
  exact ⟨rfl, rfl⟩
theorem put_tx0 (w : World) (id page : Int) (str : ByteArray) : Calls Try.prog 12 #[.pointer none, .int .i64 id, .int .i64 page, .string str] w fun e w' => e = .returned (.int .i64 1) ∧ Below w.heap.size w w' := by
  have q := Hid.mk (isNone_nil ((w.alloc (.cells #[.int .i64 id] 3)).alloc (.cells #[.int .i64 page] 3)))
  go_enter Try.func12, Try.ntmps12
  go_wp2_with (first | (go_at_call 36; refine q.out.mono ?_; rintro e w1 ⟨rfl, rfl⟩))
  go_ret
  exact ⟨rfl, ((Below.refl _ w).alloc (Nat.le_refl _) _).alloc (by rw [size_alloc]; omega) _⟩
theorem do_tx0 (w : World) (K S P A T N : Int) : Calls Try.prog 14 #[.pointer none, rv K S P A T N] w fun e w' => e = .returned (.int .i64 1) ∧ Below w.heap.size w w' := by
  have q := Hid.mk (isNone_nil (w.alloc (.cells #[.int .i64 K, .int .i64 S, .int .i64 P, .int .i64 A, .int .i64 T, .int .i64 N] 35)))
  unfold rv
  go_enter Try.func14, Try.ntmps14
  go_wp2_with (first | (go_at_call 36; refine q.out.mono ?_; rintro e w1 ⟨rfl, rfl⟩))
  go_ret
  exact ⟨rfl, (Below.refl _ w).alloc (Nat.le_refl _) _⟩
theorem changes_tx0 (w : World) : Calls Try.prog 15 #[.pointer none] w fun e w' => e = .returned (.slice none 0 0) ∧ w = w' := by
  have q := Hid.mk (isNone_nil w)
  go_enter Try.func15, Try.ntmps15
  go_wp2_with (first | (go_at_call 36; refine q.out.mono ?_; rintro e w1 ⟨rfl, rfl⟩))
  go_ret
  exact ⟨rfl, rfl⟩
theorem spaces_tx0 (w : World) : Calls Try.prog 19 #[.pointer none] w fun e w' => e = .returned (.slice none 0 0) ∧ w = w' := by
  have q := Hid.mk (isNone_nil w)
  go_enter Try.func19, Try.ntmps19
  go_wp2_with (first | (go_at_call 36; refine q.out.mono ?_; rintro e w1 ⟨rfl, rfl⟩))
  go_ret
  exact ⟨rfl, rfl⟩
theorem TxH.vlow {B g v X s w} (h : TxH B g v X s w) : ∀ b, v.ownBlock = some b → B ≤ b := fun b hb => (h.ow.lt b hb).1
def wX0 : TX := ⟨noAb, 3, 6, 0, 0, 64, 512, []⟩
def wTx : ByteArray := ⟨#[116, 101, 120, 116]⟩
def wX1 : TX := ⟨t1, 3, 6, 0, 0, 64, 512, [⟨(4, 1, 0, 0, 0, 4), ByteArray.empty⟩]⟩
def wX2 : TX := ⟨⟨[⟨1, 4, false, [(2, 513)]⟩], [], []⟩, 3, 6, 0, 0, 64, 512, [⟨(4, 1, 0, 0, 0, 4), ByteArray.empty⟩, ⟨(1, 1, 2, 0, 0, 0), wTx⟩]⟩
theorem w_do : doX wX0 4 1 0 0 0 4 = (wX1, 0) := by
  unfold doX
  rw [show (kindB 4 && mayB 4 1 0 0 0 4) = true from by decide, if_neg (by decide), if_neg (by decide)]
  show tryA wX0 _ (apA noAb 4 1 0 0 0 4) = _
  rw [ap1]
  rfl
theorem w_put : putX wX1 1 2 wTx = (wX2, 0) := by
  unfold putX
  rw [if_neg (by decide), if_neg (by decide)]
  rfl
theorem w_get : getX wX2 1 2 = (wTx, 513, true) := rfl
set_option maxRecDepth 20000 in
set_option maxHeartbeats 2000000 in
theorem awake_any (w : World) : Calls Try.prog 10 #[] w fun e w' => e = .returned (.bool true) ∧ Below w.heap.size w w' := by
  have h0 := newW_any w
  have H0 := Hid.mk h0
  clear h0
  go_enter Try.func10, Try.ntmps10
  generalize hG : w.heap.size = G at *
  have q9 : ∀ w1, Whole w1 (newSt G) → Calls Try.prog 9 #[.pointer (some ⟨G + 4, 0, none⟩), .agg #[.int .i64 3, .int .i64 6, .int .i64 0, .int .i64 0], .int .i64 64] w1 fun e w' => ∃ g s2, e = .returned (.pointer (some ⟨g, 0, none⟩)) ∧ TxH w1.heap.size g (.slice none 0 0) wX0 s2 w' ∧ Below w1.heap.size w1 w' := fun w1 h1 => new_tx h1 (fun a _ => rfl) 3 6 0 0 64
  replace q9 := Hid.mk q9
  go_upto_region 2 with (first
    | (go_at_call 6; refine H0.out.mono ?_; rintro e w1 ⟨rfl, h1, b1⟩)
    | (go_at_call 9; refine (q9.out _ h1).mono ?_; rintro e w2 ⟨g, s2, rfl, h2, b2⟩))
  have hb : G ≤ w1.heap.size := by have := b1.size; omega
  have T2 := h2.lower hb
  have B2 : Below G w w2 := b1.trans (b2.mono hb)
  have hG2 : G ≤ w2.heap.size := Nat.le_trans hb b2.size
  have c3 := do_tx T2 hG2 (K := 4) (S := 1) (P := 0) (A := 0) (T := 0) (N := 4) (k64 (by omega) (by omega))
  rw [w_do] at c3
  unfold rv at c3
  replace c3 := Hid.mk c3
  have K2 := Hid.mk (And.intro B2 (And.intro T2 hG2))
  clear h1 b1 h2 b2 hb T2 B2 hG2 q9 H0
  go_upto_region 3 with (first | (go_at_call 14; refine c3.out.mono ?_; rintro e w3 ⟨rfl, v3, s3, T3, d3⟩))
  have B3 : Below G w w3 := K2.out.1.trans (d3.below K2.out.2.2 K2.out.2.1.hg K2.out.2.1.vlow)
  have hG3 : G ≤ w3.heap.size := Nat.le_trans K2.out.2.2 d3.size
  have c4 := put_any T3 hG3 (S := 1) (P := 2) (k64 (by omega) (by omega)) ⟨by decide, by decide⟩ (by decide) wTx
  rw [w_put] at c4
  unfold wTx at c4
  replace c4 := Hid.mk c4
  have K3 := Hid.mk (And.intro B3 (And.intro T3 hG3))
  clear c3 K2 B3 hG3 T3 d3
  go_upto_region 4 with (first | (go_at_call 12; refine c4.out.mono ?_; rintro e w4 ⟨rfl, v4, s4, T4, d4⟩))
  have B4 : Below G w w4 := K3.out.1.trans (d4.below K3.out.2.2 K3.out.2.1.hg K3.out.2.1.vlow)
  have c5 := get_tx T4 (id := 1) (page := 2) (k64 (by omega) (by omega)) (k64 (by omega) (by omega)) ⟨by decide, by decide⟩ (by decide)
  rw [w_get] at c5
  unfold wTx at c5
  have c6 := changes_tx T4 (by decide)
  have c7 : ∀ W, Below w4.heap.size w4 W → Calls Try.prog 19 #[.pointer (some ⟨g, 0, none⟩)] W fun e w' => ∃ a cap, e = .returned (.slice a wX2.a.sp.length cap) ∧ Ow w' W.heap.size 83 4 (.slice a wX2.a.sp.length cap) (wX2.a.sp.map svR) ∧ Below W.heap.size W w' := fun W b => spaces_tx (T4.call b)
  rw [show wX2.cs.length = 2 from rfl] at c6
  rw [show wX2.a.sp.length = 1 from rfl] at c7
  have hG4 : G ≤ w4.heap.size := Nat.le_trans K3.out.2.2 d4.size
  have C := Hid.mk (And.intro c5 (And.intro c6 (And.intro c7 (And.intro B4 hG4))))
  clear c4 K3 B4 T4 d4 c5 c6 c7 hG4
  go_wp2_with (first
    | (go_at_call 18; refine C.out.1.mono ?_; rintro e w5 ⟨rfl, rfl⟩)
    | (go_at_call 15; refine C.out.2.1.mono ?_; rintro e w5 ⟨a5, n5, rfl, o5, b5⟩)
    | (go_at_call 19; refine (C.out.2.2.1 _ b5).mono ?_; rintro e w6 ⟨a6, n6, rfl, o6, b6⟩))
  go_ret
  exact ⟨rfl, C.out.2.2.2.1.trans ((below3 b5 b6).mono C.out.2.2.2.2)⟩
set_option maxRecDepth 20000 in
set_option maxHeartbeats 2000000 in
theorem txnNone_walk (id page : Int) (str : ByteArray) (w : World) : Calls Try.prog 5 #[.int .i64 id, .int .i64 page, .string str] w fun e w' => e = .returned (.bool true) ∧ Below w.heap.size w w' := by
  have A := Hid.mk (awake_any w)
  have P := Hid.mk (fun W s => put_tx0 W id page s)
  have D := Hid.mk (fun W => do_tx0 W 4 1 0 0 0 1)
  have C := Hid.mk changes_tx0
  have S := Hid.mk spaces_tx0
  have G := Hid.mk (get_tx0 w id page)
  unfold rv at D
  by_cases h50 : str.size ≤ 50
  · go_enter Try.func5, Try.ntmps5
    go_wp2_with (first
      | (go_at_call 18; refine G.out.mono ?_; rintro e w1 ⟨rfl, rfl⟩)
      | (go_at_call 10; refine A.out.mono ?_; rintro e w1 ⟨rfl, b1⟩)
      | (go_at_call 12; refine (P.out _ _).mono ?_; rintro e w2 ⟨rfl, b2⟩)
      | (go_at_call 14; refine (D.out _).mono ?_; rintro e w3 ⟨rfl, b3⟩)
      | (go_at_call 15; refine (C.out _).mono ?_; rintro e w4 ⟨rfl, rfl⟩)
      | (go_at_call 19; refine (S.out _).mono ?_; rintro e w5 ⟨rfl, rfl⟩))
    go_ret
    exact ⟨rfl, below3 b1 (below3 b2 b3)⟩
  · go_enter Try.func5, Try.ntmps5
    go_wp2_with (first
      | (go_at_call 18; refine G.out.mono ?_; rintro e w1 ⟨rfl, rfl⟩)
      | (go_at_call 10; refine A.out.mono ?_; rintro e w1 ⟨rfl, b1⟩)
      | (go_at_call 12; refine (P.out _ _).mono ?_; rintro e w2 ⟨rfl, b2⟩)
      | (go_at_call 14; refine (D.out _).mono ?_; rintro e w3 ⟨rfl, b3⟩)
      | (go_at_call 15; refine (C.out _).mono ?_; rintro e w4 ⟨rfl, rfl⟩)
      | (go_at_call 19; refine (S.out _).mono ?_; rintro e w5 ⟨rfl, rfl⟩))
    go_ret
    exact ⟨rfl, below3 b1 (below3 b2 b3)⟩
end Go.Proofs.Ytccelipljbkkgaa
