/-
  A transaction: Do, New, Changes, Spaces, Get. No condition.
-/
import Derived.Test.YtccelipljbkkgaaTxp
namespace Go.Proofs.Ytccelipljbkkgaa
open Go Go.RowKit Go.Maps

set_option maxRecDepth 20000 in
set_option maxHeartbeats 2000000 in
theorem do_tx {B g v X s w} (h : TxH B g v X s w) (hB : B ≤ w.heap.size) {K S P A T N : Int} (hS : K64 S) :
    Calls Try.prog 14 #[.pointer (some ⟨g, 0, none⟩), rv K S P A T N] w (TxD B g v (doX X K S P A T N) w) := by
  generalize hRes : doX X K S P A T N = Res at *
  unfold doX at hRes
  have b2 : Below w.heap.size w (w.alloc (.cells #[.int .i64 K, .int .i64 S, .int .i64 P, .int .i64 A, .int .i64 T, .int .i64 N] 35)) := (Below.refl _ w).alloc (Nat.le_refl _) _
  have H2 := h.call b2
  have hn := isNone_no H2.cells.1
  have hmb := mayBe_any K S P A T N (w.alloc (.cells #[.int .i64 K, .int .i64 S, .int .i64 P, .int .i64 A, .int .i64 T, .int .i64 N] 35))
  have hrow := heap_alloc_new w (.cells #[.int .i64 K, .int .i64 S, .int .i64 P, .int .i64 A, .int .i64 T, .int .i64 N] 35)
  have hlt := h.lt
  unfold rv at *
  cases hm : (kindB K && mayB K S P A T N) with
  | false =>
    rw [hm] at hmb hRes
    rw [if_pos rfl] at hRes
    have HN := Hid.mk (And.intro hn hmb)
    have H := Hid.mk (And.intro h (And.intro b2 hRes))
    clear h H2 hRes hn b2 hmb hrow hm
    go_enter Try.func14, Try.ntmps14
    go_wp2_with (first | (go_at_call 36; refine HN.out.1.mono ?_; rintro e w1 ⟨rfl, rfl⟩) | (go_at_call 42; refine HN.out.2.mono ?_; rintro e w1 ⟨rfl, b1⟩))
    go_ret
    rw [← H.out.2.2]
    exact TxD.same H.out.1 (below3 H.out.2.1 b1) 1
  | true =>
    rw [hm] at hmb hRes
    rw [if_neg (by decide)] at hRes
    have hcl : ∀ W, Below w.heap.size w W → Calls Try.prog 37 #[.pointer (some ⟨g, 0, none⟩), .int .i64 S] W fun e w' => e = .returned (.int .i64 (clA X.a S)) ∧ Below W.heap.size W w' := fun W b => closed_any (h.call b) hS
    have hrw : ∀ W, Below (w.alloc (.cells #[.int .i64 K, .int .i64 S, .int .i64 P, .int .i64 A, .int .i64 T, .int .i64 N] 35)).heap.size (w.alloc (.cells #[.int .i64 K, .int .i64 S, .int .i64 P, .int .i64 A, .int .i64 T, .int .i64 N] 35)) W → Row W w.heap.size 35 .i64 [K, S, P, A, T, N] ∧ Below w.heap.size w W := fun W b => ⟨(b.block w.heap.size (by rw [size_alloc]; omega)).trans hrow, below3 b2 b⟩
    have htry : ∀ W, Row W w.heap.size 35 .i64 [K, S, P, A, T, N] → Below w.heap.size w W → Calls Try.prog 38 #[.pointer (some ⟨g, 0, none⟩), .agg #[.int .i64 K, .int .i64 S, .int .i64 P, .int .i64 A, .int .i64 T, .int .i64 N, .string ByteArray.empty], .func (.func 43) #[] #[.pointer (some ⟨w.heap.size, 0, none⟩)]] W (TxD B g v (tryA X ⟨(K, S, P, A, T, N), ByteArray.empty⟩ (apA X.a K S P A T N)) W) := fun W r b =>
      try43_any (h.call b) (Nat.le_trans hB b.size) ⟨(K, S, P, A, T, N), ByteArray.empty⟩ w.heap.size (fun W' s2 bW hW eW _ => by
        have q := do1_any hW (g1 := w.heap.size) (r.call bW)
        rw [eW] at q
        exact q)
    have HN := Hid.mk (And.intro hn (And.intro hmb (And.intro hcl (And.intro hrw htry))))
    have H := Hid.mk h
    clear h H2 hn b2 hmb hrow hm hcl hrw htry
    by_cases hK : K = 2
    · subst hK
      generalize hE : clA X.a S = E at *
      by_cases hE0 : E = 0
      · subst hE0
        rw [if_neg (fun q => q.2 rfl)] at hRes
        go_enter Try.func14, Try.ntmps14
        go_upto_region 3 with (first | (go_at_call 36; refine HN.out.1.mono ?_; rintro e w1 ⟨rfl, rfl⟩) | (go_at_call 42; refine HN.out.2.1.mono ?_; rintro e w1 ⟨rfl, b1⟩))
        obtain ⟨r1, B1⟩ := HN.out.2.2.2.1 w1 b1
        obtain ⟨u0, u1, u2, u3, u4, u5⟩ := r1.six
        have c37 := Hid.mk (HN.out.2.2.1 w1 B1)
        go_upto_region 5 with (first | (go_at_call 37; refine c37.out.mono ?_; rintro e w2 ⟨rfl, b2⟩))
        have r2 := r1.call b2
        have B2 := below3 B1 b2
        have ct := HN.out.2.2.2.2 w2 r2 B2
        rw [hRes] at ct
        clear u0 u1 u2 u3 u4 u5 r1 b1 c37 b2 HN
        obtain ⟨u0, u1, u2, u3, u4, u5⟩ := r2.six
        have CT := Hid.mk (And.intro ct B2)
        clear ct B2 B1 r2 hRes
        go_wp2_with (first | (go_at_call 38; refine CT.out.1.mono ?_; intro e w4 hd; obtain ⟨rfl, hd4⟩ := hd))
        go_ret
        exact TxD.pre CT.out.2 ⟨rfl, hd4⟩
      · rw [if_pos ⟨rfl, hE0⟩] at hRes
        have hEb : (E != 0) = true := by simpa using hE0
        clear hE0
        go_enter Try.func14, Try.ntmps14
        go_upto_region 3 with (first | (go_at_call 36; refine HN.out.1.mono ?_; rintro e w1 ⟨rfl, rfl⟩) | (go_at_call 42; refine HN.out.2.1.mono ?_; rintro e w1 ⟨rfl, b1⟩))
        obtain ⟨r1, B1⟩ := HN.out.2.2.2.1 w1 b1
        obtain ⟨u0, u1, u2, u3, u4, u5⟩ := r1.six
        have c37 := Hid.mk (HN.out.2.2.1 w1 B1)
        have B1' := Hid.mk B1
        clear B1 b1 r1
        go_wp2_with (first | (go_at_call 37; refine c37.out.mono ?_; rintro e w2 ⟨rfl, b2⟩))
        go_ret
        rw [← hRes]
        exact TxD.same H.out (below3 B1'.out b2) E
    · rw [if_neg (fun q => hK q.1)] at hRes
      have hKb : (K == 2) = false := by simpa using hK
      clear hK
      go_enter Try.func14, Try.ntmps14
      go_upto_region 3 with (first | (go_at_call 36; refine HN.out.1.mono ?_; rintro e w1 ⟨rfl, rfl⟩) | (go_at_call 42; refine HN.out.2.1.mono ?_; rintro e w1 ⟨rfl, b1⟩))
      obtain ⟨r1, B1⟩ := HN.out.2.2.2.1 w1 b1
      have ct := HN.out.2.2.2.2 w1 r1 B1
      rw [hRes] at ct
      obtain ⟨u0, u1, u2, u3, u4, u5⟩ := r1.six
      have CT := Hid.mk (And.intro ct B1)
      clear ct B1 r1 b1 HN hRes
      go_wp2_with (first | (go_at_call 38; refine CT.out.1.mono ?_; intro e w4 hd; obtain ⟨rfl, hd4⟩ := hd))
      go_ret
      exact TxD.pre CT.out.2 ⟨rfl, hd4⟩
theorem spaces_tx {B g v X s w} (h : TxH B g v X s w) : Calls Try.prog 19 #[.pointer (some ⟨g, 0, none⟩)] w fun e w' => ∃ a cap, e = .returned (.slice a X.a.sp.length cap) ∧ Ow w' w.heap.size 83 4 (.slice a X.a.sp.length cap) (X.a.sp.map svR) ∧ Below w.heap.size w w' := by
  have q := spaces_any h.st
  rw [h.eq] at q
  have hn := isNone_no h.cells.1
  obtain ⟨c0, -, -, -, -, -⟩ := h.cells
  have Q := Hid.mk (And.intro q hn)
  clear q hn h
  go_enter Try.func19, Try.ntmps19
  go_wp2_with (first | (go_at_call 36; refine Q.out.2.mono ?_; rintro e w1 ⟨rfl, rfl⟩) | (go_at_call 49; refine Q.out.1.mono ?_; rintro e w1 ⟨v1, rfl, o1, b1⟩))
  go_ret
  obtain ⟨a, c, rfl⟩ := o1.form
  rw [List.length_map] at o1 ⊢
  exact ⟨a, c, rfl, o1, b1⟩
end Go.Proofs.Ytccelipljbkkgaa
