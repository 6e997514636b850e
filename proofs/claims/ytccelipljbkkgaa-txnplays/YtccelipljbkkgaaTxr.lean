/-
  A transaction: Put, Do, New. No condition. A transaction: Do, New, Changes, Spaces, Get. No condition. A transaction: Get, Changes, New; no transaction. No condition. No transaction; a page that is put, and seen (awake); TxnNone's walk. No condition.
-/
import Derived.Test.YtccelipljbkkgaaTxt
namespace Go.Proofs.Ytccelipljbkkgaa
open Go Go.RowKit Go.Maps

/-- what a page that is put comes to -/
def putX (X : TX) (S P : Int) (str : ByteArray) : TX × Int :=
  if X.sz < (str.size : Int) then (X, 173)
  else if clA X.a S ≠ 0 then (X, clA X.a S)
  else tryA X ⟨(1, S, P, 0, 0, 0), str⟩ (layA X.a S P (X.fi + X.cs.length))
/-- what a record comes to -/
def doX (X : TX) (K S P A T N : Int) : TX × Int :=
  if (kindB K && mayB K S P A T N) = false then (X, 1)
  else if K = 2 ∧ clA X.a S ≠ 0 then (X, clA X.a S)
  else tryA X ⟨(K, S, P, A, T, N), ByteArray.empty⟩ (apA X.a K S P A T N)
theorem clA_some {t : Ab} {S : Int} (h : clA t S = 0) : ∃ x, gA t.sp S = some x := by
  unfold clA at h
  cases hg : gA t.sp S with
  | none => rw [hg] at h; simp at h
  | some x => exact ⟨x, rfl⟩
theorem Tch.pre {a b c : World} {g : Nat} {v v' : Value} (h : Below a.heap.size a b) (k : Tch b c g v v') : Tch a c g v v' := (Tch.ofBelow h g v).trans k
theorem TxD.pre {B g v r a b e c} (h : Below a.heap.size a b) (k : TxD B g v r b e c) : TxD B g v r a e c := by
  obtain ⟨k1, v', s', k2, k3⟩ := k
  exact ⟨k1, v', s', k2, k3.pre h⟩
theorem one_box (w : World) (t : TypeId) (x : Value) : (w.alloc (.cells #[x] t)).cell? ⟨w.heap.size, 0, none⟩ = some x := by
  rw [cell_of_row _ _ 0 _ t _ (heap_alloc_new w _)]; rfl
set_option maxRecDepth 20000 in
set_option maxHeartbeats 2000000 in
theorem put_any {B g v X s w} (h : TxH B g v X s w) (hB : B ≤ w.heap.size) {S P : Int} (hS : K64 S) (hfi : 0 ≤ X.fi ∧ X.fi ≤ 1900) (hn8 : X.cs.length ≤ 8) (str : ByteArray) :
    Calls Try.prog 12 #[.pointer (some ⟨g, 0, none⟩), .int .i64 S, .int .i64 P, .string str] w (TxD B g v (putX X S P str) w) := by
  obtain ⟨va, vc, rfl⟩ := h.ow.form
  rw [List.length_map] at h ⊢
  generalize hRes : putX X S P str = Res at *
  unfold putX at hRes
  have b2 : Below w.heap.size w ((w.alloc (.cells #[.int .i64 S] 3)).alloc (.cells #[.int .i64 P] 3)) := ((Below.refl _ w).alloc (Nat.le_refl _) _).alloc (by rw [size_alloc]; omega) _
  have H2 := h.call b2
  obtain ⟨c0, c1, c2, c5, c6, c7⟩ := h.cells
  have hlt := h.lt
  have hn := isNone_no H2.cells.1
  by_cases hsz : X.sz < (str.size : Int)
  · rw [if_pos hsz] at hRes
    have HN := Hid.mk hn
    have H := Hid.mk (And.intro h (And.intro b2 hRes))
    clear h H2 hRes hn b2
    go_enter Try.func12, Try.ntmps12
    go_wp2_with (first | (go_at_call 36; refine HN.out.mono ?_; rintro e w1 ⟨rfl, rfl⟩))
    go_ret
    rw [← H.out.2.2]
    exact TxD.same H.out.1 H.out.2.1 173
  · rw [if_neg hsz] at hRes
    have hcl := closed_any H2 hS
    have hcl0 : clA X.a S = 0 → ∃ x, gA X.a.sp S = some x := clA_some
    generalize hE : clA X.a S = E at *
    by_cases hE0 : E = 0
    · subst hE0
      rw [if_neg (fun q => q rfl)] at hRes
      obtain ⟨x, hx⟩ := hcl0 rfl
      have z1 := one_box w 3 (.int .i64 S)
      have z2 := one_box (w.alloc (.cells #[.int .i64 S] 3)) 3 (.int .i64 P)
      rw [size_alloc] at z2
      have HN := Hid.mk (And.intro hn hcl)
      have H := Hid.mk (And.intro h (And.intro b2 (And.intro hRes (And.intro hx hE))))
      clear h H2 hRes hn b2 hcl hcl0 hE hx
      go_enter Try.func12, Try.ntmps12
      go_upto_region 6 with (first | (go_at_call 36; refine HN.out.1.mono ?_; rintro e w1 ⟨rfl, rfl⟩) | (go_at_call 37; refine HN.out.2.mono ?_; rintro e w1 ⟨rfl, b1⟩))
      have B1 := below3 H.out.2.1 b1
      have T1 := H.out.1.call B1
      have k1 : w1.cell? ⟨w.heap.size, 0, none⟩ = some (.int .i64 S) := by
        rw [b1.cell (p := ⟨w.heap.size, 0, none⟩) (by simp only [size_alloc]; omega), World.cell?_of_block (Below.heap_alloc _ _ w.heap.size (by rw [size_alloc]; omega))]
        exact z1
      have k2 : w1.cell? ⟨w.heap.size + 1, 0, none⟩ = some (.int .i64 P) := (b1.cell (p := ⟨w.heap.size + 1, 0, none⟩) (by simp only [size_alloc]; omega)).trans z2
      have lw : w.heap.size + 1 < w1.heap.size := by have := b1.size; simp only [size_alloc] at this; omega
      clear c0 c1 c2 c5 c6 c7 hlt z1 z2 b1 HN
      obtain ⟨c0, c1, c2, c5, c6, c7⟩ := T1.cells
      have hl1 := T1.lt
      generalize hG : w.heap.size = G at *
      have HH := Hid.mk (And.intro B1 (And.intro T1 hG))
      clear B1 T1 hG
      have lG : G < w1.heap.size := by omega
      go_upto_region 9 with fail
      go_region
      have hA : 0 ≤ X.fi + (X.cs.length : Int) ∧ X.fi + (X.cs.length : Int) ≤ 2000 := by omega
      have hR := H.out.2.2.1
      have hx := H.out.2.2.2.1
      generalize hAA : X.fi + (X.cs.length : Int) = A at *
      clear hAA
      have y1 := one_box (w1.alloc (.cells #[.int .i64 1, .int .i64 S, .int .i64 P, .int .i64 0, .int .i64 0, .int .i64 0] 35)) 3 (.int .i64 A)
      have y0 := heap_alloc_new w1 (.cells #[.int .i64 1, .int .i64 S, .int .i64 P, .int .i64 0, .int .i64 0, .int .i64 0] 35)
      have b3 : Below w1.heap.size w1 (((w1.alloc (.cells #[.int .i64 1, .int .i64 S, .int .i64 P, .int .i64 0, .int .i64 0, .int .i64 0] 35)).alloc (.cells #[.int .i64 A] 3))).drew := (((Below.refl _ w1).alloc (Nat.le_refl _) _).alloc (by rw [size_alloc]; omega) _).drew
      have y2 : (((w1.alloc (.cells #[.int .i64 1, .int .i64 S, .int .i64 P, .int .i64 0, .int .i64 0, .int .i64 0] 35)).alloc (.cells #[.int .i64 A] 3))).drew.heap[w1.heap.size]? = some (.cells #[.int .i64 1, .int .i64 S, .int .i64 P, .int .i64 0, .int .i64 0, .int .i64 0] 35 (0, 0)) := (Below.heap_alloc _ _ w1.heap.size (by rw [size_alloc]; omega)).trans y0
      have y3 : (((w1.alloc (.cells #[.int .i64 1, .int .i64 S, .int .i64 P, .int .i64 0, .int .i64 0, .int .i64 0] 35)).alloc (.cells #[.int .i64 A] 3))).drew.cell? ⟨w1.heap.size + 1, 0, none⟩ = some (.int .i64 A) := by rw [size_alloc] at y1; exact y1
      have l3 : w1.heap.size + 1 < (((w1.alloc (.cells #[.int .i64 1, .int .i64 S, .int .i64 P, .int .i64 0, .int .i64 0, .int .i64 0] 35)).alloc (.cells #[.int .i64 A] 3))).drew.heap.size := by
        show _ < ((w1.alloc _).alloc _).heap.size
        simp only [size_alloc]; omega
      clear y0 y1
      generalize (((w1.alloc (.cells #[.int .i64 1, .int .i64 S, .int .i64 P, .int .i64 0, .int .i64 0, .int .i64 0] 35)).alloc (.cells #[.int .i64 A] 3))).drew = w3 at *
      have T3 := HH.out.2.1.call b3
      have k1' : w3.cell? ⟨G, 0, none⟩ = some (.int .i64 S) := (b3.cell (p := ⟨G, 0, none⟩) lG).trans k1
      have k2' : w3.cell? ⟨G + 1, 0, none⟩ = some (.int .i64 P) := (b3.cell (p := ⟨G + 1, 0, none⟩) lw).trans k2
      have hG := HH.out.2.2
      subst hG
      have B3 := below3 HH.out.1 b3
      have ct := try39_any T3 (Nat.le_trans hB B3.size) ⟨(1, S, P, 0, 0, 0), str⟩ (R := layA X.a S P A) w.heap.size (w.heap.size + 1) (w1.heap.size + 1) (fun W s2 bW hW eW _ => by
        have q := put1_any hW (x := x) hS (by rw [eW]; exact hx) hA ((bW.cell (p := ⟨w.heap.size, 0, none⟩) (Nat.lt_of_lt_of_le lG b3.size)).trans k1') ((bW.cell (p := ⟨w.heap.size + 1, 0, none⟩) (Nat.lt_of_lt_of_le lw b3.size)).trans k2') ((bW.cell (p := ⟨w1.heap.size + 1, 0, none⟩) l3).trans y3) (Nat.lt_of_lt_of_le (Nat.lt_of_lt_of_le lG b3.size) bW.size) (Nat.lt_of_lt_of_le (Nat.lt_of_lt_of_le lw b3.size) bW.size) (Nat.lt_of_lt_of_le l3 bW.size)
        rw [eW] at q
        exact q)
      rw [hR] at ct
      simp only at ct
      obtain ⟨u0, u1, u2, u3, u4, u5⟩ : w3.cell? ⟨w1.heap.size, 0, none⟩ = some (.int .i64 1) ∧ w3.cell? ⟨w1.heap.size, 1, none⟩ = some (.int .i64 S) ∧ w3.cell? ⟨w1.heap.size, 2, none⟩ = some (.int .i64 P) ∧ w3.cell? ⟨w1.heap.size, 3, none⟩ = some (.int .i64 0) ∧ w3.cell? ⟨w1.heap.size, 4, none⟩ = some (.int .i64 0) ∧ w3.cell? ⟨w1.heap.size, 5, none⟩ = some (.int .i64 0) := by
        refine ⟨?_, ?_, ?_, ?_, ?_, ?_⟩ <;> rw [cell_of_row w3 _ _ _ 35 _ y2] <;> rfl
      have CT := Hid.mk (And.intro ct B3)
      generalize w1.heap.size = G1 at *
      clear ct B3 T3 H HH k1 k2 k1' k2' lG lw c0 c1 c2 c5 c6 c7 hl1 y2 y3 hx hR b3 hA
      go_wp2_with (first | (go_at_call 38; refine CT.out.1.mono ?_; intro e w4 hd; obtain ⟨rfl, hd4⟩ := hd))
      go_ret
      exact TxD.pre CT.out.2 ⟨rfl, hd4⟩
    · rw [if_pos hE0] at hRes
      have hEb : (E != 0) = true := by simpa using hE0
      have HN := Hid.mk (And.intro hn hcl)
      have H := Hid.mk (And.intro h (And.intro b2 hRes))
      clear h H2 hRes hn b2 hcl hcl0 hE0 hE
      go_enter Try.func12, Try.ntmps12
      go_wp2_with (first | (go_at_call 36; refine HN.out.1.mono ?_; rintro e w1 ⟨rfl, rfl⟩) | (go_at_call 37; refine HN.out.2.mono ?_; rintro e w1 ⟨rfl, b1⟩))
      go_ret
      rw [← H.out.2.2]
      exact TxD.same H.out.1 (below3 H.out.2.1 b1) E
set_option maxRecDepth 20000 in
set_option maxHeartbeats 2000000 in
theorem do_tx {B g v X s w} (h : TxH B g v X s w) (hB : B ≤ w.heap.size) {K S P A T N : Int} (hS : K64 S) :
    Calls Try.prog 14 #[.pointer (some ⟨g, 0, none⟩), rv K S P A T N] w (TxD B g v (doX X K S P A T N) w) := by
  generalize hRes : doX X K S P A T N = Res at *
  unfold doX at hRes
  have b2 : Below w.heap.size w (w.alloc (.cells #[.int .i64 K, .int .i64 S, .int .i64 P, .int .i64 A, .int .i64 T, .int .i64 N] 35)) := (Below.refl _ w).alloc (Nat.le_refl _) _
  have H2 := h.call b2
  have hn := isNone_no H2.cells.1
  have hmb := mayBe_any K S P A T N (w.alloc (.cells #[.int .i64 K, .int .i64 S, .int .i64 P, .int .i64 A, .int .i64 T, .int .i64 N] 35))
  have hrow := heap_alloc_new w (.cells #[.int .i64 K, .int .i64 S, .int .i64 P, .int .i64 A, .int .i64 T, .int .i64 N] 35)
  have hlt := h.lt
  unfold rv at *
  cases hm : (kindB K && mayB K S P A T N) with
  | false =>
    rw [hm] at hmb hRes
    rw [if_pos rfl] at hRes
    have HN := Hid.mk (And.intro hn hmb)
    have H := Hid.mk (And.intro h (And.intro b2 hRes))
    clear h H2 hRes hn b2 hmb hrow hm
    go_enter Try.func14, Try.ntmps14
    go_wp2_with (first | (go_at_call 36; refine HN.out.1.mono ?_; rintro e w1 ⟨rfl, rfl⟩) | (go_at_call 42; refine HN.out.2.mono ?_; rintro e w1 ⟨rfl, b1⟩))
    go_ret
    rw [← H.out.2.2]
    exact TxD.same H.out.1 (below3 H.out.2.1 b1) 1
  | true =>
    rw [hm] at hmb hRes
    rw [if_neg (by decide)] at hRes
    have hcl : ∀ W, Below w.heap.size w W → Calls Try.prog 37 #[.pointer (some ⟨g, 0, none⟩), .int .i64 S] W fun e w' => e = .returned (.int .i64 (clA X.a S)) ∧ Below W.heap.size W w' := fun W b => closed_any (h.call b) hS
    have hrw : ∀ W, Below (w.alloc (.cells #[.int .i64 K, .int .i64 S, .int .i64 P, .int .i64 A, .int .i64 T, .int .i64 N] 35)).heap.size (w.alloc (.cells #[.int .i64 K, .int .i64 S, .int .i64 P, .int .i64 A, .int .i64 T, .int .i64 N] 35)) W → Row W w.heap.size 35 .i64 [K, S, P, A, T, N] ∧ Below w.heap.size w W := fun W b => ⟨(b.block w.heap.size (by rw [size_alloc]; omega)).trans hrow, below3 b2 b⟩
    have htry : ∀ W, Row W w.heap.size 35 .i64 [K, S, P, A, T, N] → Below w.heap.size w W → Calls Try.prog 38 #[.pointer (some ⟨g, 0, none⟩), .agg #[.int .i64 K, .int .i64 S, .int .i64 P, .int .i64 A, .int .i64 T, .int .i64 N, .string ByteArray.empty], .func (.func 43) #[] #[.pointer (some ⟨w.heap.size, 0, none⟩)]] W (TxD B g v (tryA X ⟨(K, S, P, A, T, N), ByteArray.empty⟩ (apA X.a K S P A T N)) W) := fun W r b =>
      try43_any (h.call b) (Nat.le_trans hB b.size) ⟨(K, S, P, A, T, N), ByteArray.empty⟩ w.heap.size (fun W' s2 bW hW eW _ => by
        have q := do1_any hW (g1 := w.heap.size) (r.call bW)
        rw [eW] at q
        exact q)
    have HN := Hid.mk (And.intro hn (And.intro hmb (And.intro hcl (And.intro hrw htry))))
    have H := Hid.mk h
    clear h H2 hn b2 hmb hrow hm hcl hrw htry
    by_cases hK : K = 2
    · subst hK
      generalize hE : clA X.a S = E at *
      by_cases hE0 : E = 0
      · subst hE0
        rw [if_neg (fun q => q.2 rfl)] at hRes
        go_enter Try.func14, Try.ntmps14
        go_upto_region 3 with (first | (go_at_call 36; refine HN.out.1.mono ?_; rintro e w1 ⟨rfl, rfl⟩) | (go_at_call 42; refine HN.out.2.1.mono ?_; rintro e w1 ⟨rfl, b1⟩))
        obtain ⟨r1, B1⟩ := HN.out.2.2.2.1 w1 b1
        obtain ⟨u0, u1, u2, u3, u4, u5⟩ := r1.six
        have c37 := Hid.mk (HN.out.2.2.1 w1 B1)
        go_upto_region 5 with (first | (go_at_call 37; refine c37.out.mono ?_; rintro e w2 ⟨rfl, b2⟩))
        have r2 := r1.call b2
        have B2 := below3 B1 b2
        have ct := HN.out.2.2.2.2 w2 r2 B2
        rw [hRes] at ct
        clear u0 u1 u2 u3 u4 u5 r1 b1 c37 b2 HN
        obtain ⟨u0, u1, u2, u3, u4, u5⟩ := r2.six
        have CT := Hid.mk (And.intro ct B2)
        clear ct B2 B1 r2 hRes
        go_wp2_with (first | (go_at_call 38; refine CT.out.1.mono ?_; intro e w4 hd; obtain ⟨rfl, hd4⟩ := hd))
        go_ret
        exact TxD.pre CT.out.2 ⟨rfl, hd4⟩
      · rw [if_pos ⟨rfl, hE0⟩] at hRes
        have hEb : (E != 0) = true := by simpa using hE0
        clear hE0
        go_enter Try.func14, Try.ntmps14
        go_upto_region 3 with (first | (go_at_call 36; refine HN.out.1.mono ?_; rintro e w1 ⟨rfl, rfl⟩) | (go_at_call 42; refine HN.out.2.1.mono ?_; rintro e w1 ⟨rfl, b1⟩))
        obtain ⟨r1, B1⟩ := HN.out.2.2.2.1 w1 b1
        obtain ⟨u0, u1, u2, u3, u4, u5⟩ := r1.six
        have c37 := Hid.mk (HN.out.2.2.1 w1 B1)
        have B1' := Hid.mk B1
        clear B1 b1 r1
        go_wp2_with (first | (go_at_call 37; refine c37.out.mono ?_; rintro e w2 ⟨rfl, b2⟩))
        go_ret
        rw [← hRes]
        exact TxD.same H.out (below3 B1'.out b2) E
    · rw [if_neg (fun q => hK q.1)] at hRes
      have hKb : (K == 2) = false := by simpa using hK
      clear hK
      go_enter Try.func14, Try.ntmps14
      go_upto_region 3 with (first | (go_at_call 36; refine HN.out.1.mono ?_; rintro e w1 ⟨rfl, rfl⟩) | (go_at_call 42; refine HN.out.2.1.mono ?_; rintro e w1 ⟨rfl, b1⟩))
      obtain ⟨r1, B1⟩ := HN.out.2.2.2.1 w1 b1
      have ct := HN.out.2.2.2.2 w1 r1 B1
      rw [hRes] at ct
      obtain ⟨u0, u1, u2, u3, u4, u5⟩ := r1.six
      have CT := Hid.mk (And.intro ct B1)
      clear ct B1 r1 b1 HN hRes
      go_wp2_with (first | (go_at_call 38; refine CT.out.1.mono ?_; intro e w4 hd; obtain ⟨rfl, hd4⟩ := hd))
      go_ret
      exact TxD.pre CT.out.2 ⟨rfl, hd4⟩
theorem spaces_tx {B g v X s w} (h : TxH B g v X s w) : Calls Try.prog 19 #[.pointer (some ⟨g, 0, none⟩)] w fun e w' => ∃ a cap, e = .returned (.slice a X.a.sp.length cap) ∧ Ow w' w.heap.size 83 4 (.slice a X.a.sp.length cap) (X.a.sp.map svR) ∧ Below w.heap.size w w' := by
  have q := spaces_any h.st
  rw [h.eq] at q
  have hn := isNone_no h.cells.1
  obtain ⟨c0, -, -, -, -, -⟩ := h.cells
  have Q := Hid.mk (And.intro q hn)
  clear q hn h
  go_enter Try.func19, Try.ntmps19
  go_wp2_with (first | (go_at_call 36; refine Q.out.2.mono ?_; rintro e w1 ⟨rfl, rfl⟩) | (go_at_call 49; refine Q.out.1.mono ?_; rintro e w1 ⟨v1, rfl, o1, b1⟩))
  go_ret
  obtain ⟨a, c, rfl⟩ := o1.form
  rw [List.length_map] at o1 ⊢
  exact ⟨a, c, rfl, o1, b1⟩
/-- what a page says that was put here; where it stands else -/
def getX (X : TX) (id page : Int) : ByteArray × Int × Bool :=
  match getA X.a id page with
  | none => (ByteArray.empty, 0, false)
  | some p => if 0 ≤ p - X.fi ∧ p - X.fi < X.cs.length then ((X.cs.getD (p - X.fi).toNat ⟨(0, 0, 0, 0, 0, 0), ByteArray.empty⟩).s, p, true) else (ByteArray.empty, p, true)
theorem getA_rng {t : Ab} (h : InvA t) {id page p : Int} (hg : getA t id page = some p) : 0 ≤ p ∧ p ≤ 2000 := by
  unfold getA at hg
  cases hx : gA t.sp id with
  | none => rw [hx] at hg; cases hg
  | some x =>
    rw [hx] at hg
    exact (h.pss x (gA_some hx).1 _ (mget_mem hg)).2
set_option maxRecDepth 20000 in
set_option maxHeartbeats 2000000 in
theorem get_tx {B g v X s w} (h : TxH B g v X s w) {id page : Int} (hi : K64 id) (hp : K64 page) (hfi : 0 ≤ X.fi ∧ X.fi ≤ 1900) (hn8 : X.cs.length ≤ 8) :
    Calls Try.prog 18 #[.pointer (some ⟨g, 0, none⟩), .int .i64 id, .int .i64 page] w fun e w' => e = .returned (.tuple #[.string (getX X id page).1, .int .i64 (getX X id page).2.1, .bool (getX X id page).2.2]) ∧ w = w' := by
  have q := get_any h.st.at' hi hp
  rw [h.eq] at q
  have hn := isNone_no h.cells.1
  have hinv := h.inv
  obtain ⟨va, vc, rfl⟩ := h.ow.form
  have how := h.ow
  rw [List.length_map] at h how
  obtain ⟨c0, -, -, -, c6, c7⟩ := h.cells
  unfold getX
  cases hg : getA X.a id page with
  | none =>
    rw [hg] at q
    have Q := Hid.mk (And.intro q hn)
    clear q hn h hg hinv how
    go_enter Try.func18, Try.ntmps18
    go_wp2_with (first | (go_at_call 36; refine Q.out.2.mono ?_; rintro e w1 ⟨rfl, rfl⟩) | (go_at_call 48; refine Q.out.1.mono ?_; rintro e w1 ⟨rfl, rfl⟩; simp only [Option.getD_none, Option.isSome_none]))
    go_ret3
    exact ⟨rfl, rfl⟩
  | some p =>
    rw [hg] at q
    have hpr := getA_rng hinv hg
    have Q := Hid.mk (And.intro q hn)
    clear q hn h hg hinv
    by_cases h0 : 0 ≤ p - X.fi
    · by_cases h1 : p - X.fi < X.cs.length
      · simp only [h0, h1, and_self, if_true]
        have hkl : (p - X.fi).toNat < X.cs.length := by omega
        obtain ⟨gv, rfl, hB, hgl, hc⟩ := how.at (j := (p - X.fi).toNat) (by rw [List.length_map]; exact hkl)
        have e6 := hc 6 (by omega)
        have er : ((X.cs.map cgR).getD (p - X.fi).toNat [])[6]? = some (.string (X.cs.getD (p - X.fi).toNat ⟨(0, 0, 0, 0, 0, 0), ByteArray.empty⟩).s) := by
          simp [List.getD_eq_getElem?_getD, hkl, cgR]
        rw [er] at e6
        generalize (X.cs.getD (p - X.fi).toNat ⟨(0, 0, 0, 0, 0, 0), ByteArray.empty⟩).s = str at *
        clear er hc how
        generalize X.fi = fi at *
        generalize X.cs.length = n at *
        go_enter Try.func18, Try.ntmps18
        go_wp2_with (first | (go_at_call 36; refine Q.out.2.mono ?_; rintro e w1 ⟨rfl, rfl⟩) | (go_at_call 48; refine Q.out.1.mono ?_; rintro e w1 ⟨rfl, rfl⟩; simp only [Option.getD_some, Option.isSome_some]))
        go_ret3
        exact ⟨rfl, rfl⟩
      · simp only [h1, and_false, if_false]
        generalize X.fi = fi at *
        generalize X.cs.length = n at *
        clear how
        obtain ⟨k, hk⟩ : ∃ k : Nat, p - fi = (k : Int) := ⟨(p - fi).toNat, by omega⟩
        have hk3 : p = fi + (k : Int) := by omega
        subst hk3
        have hkl : ¬ k < n := by omega
        clear hk h0 h1
        go_enter Try.func18, Try.ntmps18
        go_wp2_with (first | (go_at_call 36; refine Q.out.2.mono ?_; rintro e w1 ⟨rfl, rfl⟩) | (go_at_call 48; refine Q.out.1.mono ?_; rintro e w1 ⟨rfl, rfl⟩; simp only [Option.getD_some, Option.isSome_some]))
        go_ret3
        exact ⟨rfl, rfl⟩
    · simp only [h0, false_and, if_false]
      generalize X.fi = fi at *
      generalize X.cs.length = n at *
      clear how
      have h0' : p - fi < 0 := by omega
      go_enter Try.func18, Try.ntmps18
      go_wp2_with (first | (go_at_call 36; refine Q.out.2.mono ?_; rintro e w1 ⟨rfl, rfl⟩) | (go_at_call 48; refine Q.out.1.mono ?_; rintro e w1 ⟨rfl, rfl⟩; simp only [Option.getD_some, Option.isSome_some]))
      go_ret3
      exact ⟨rfl, rfl⟩
theorem TxH.lower {B B' g v X s w} (h : TxH B g v X s w) (hb : B' ≤ B) : TxH B' g v X s w := ⟨h.box, h.st, h.eq, fun i hi => Nat.le_trans hb (h.hi i hi), h.ow.lower hb, Nat.le_trans hb h.hg⟩
section
variable {ops : Array Oper} {rest : List Oper} {o : Oper} {a : Act} {Q : Exit → Act → World → Prop}
/-- rows that lie anywhere, appended to none -/
theorem wp_appC {t e sz bytes : Nat} (E : EI t e sz bytes) {w : World} {B : Nat} {ad : Addr} {n cap : Nat} {rows : Rws} (hgd : o.guard = none) (s x : Operand) (ho : o.op = .call { callee := .builtin .append, args := #[s, x], argTypes := #[t, t] })
    (h : Ow w B e sz (.slice (some ad) n cap) rows) (hl : n = rows.length) (hs : a.eval s = .slice (some ⟨w.heap.size, 0, none⟩) 0 0) (hx : a.eval x = .slice (some ad) n cap) (hn : rows.length ≤ 100000)
    (hK : ∀ v' w', Ow w' w.heap.size e sz v' rows → Below w.heap.size w w' → wpList Try.prog ops Q rest (a.put o.dst v') w') :
    wpList Try.prog ops Q (o :: rest) a (w.alloc (.cells #[] e)) := by
  subst hl
  obtain ⟨i, z, q1, q2, q3, q4, q5⟩ := E.info
  have hm := Ow.made w (Nat.le_refl _) e sz
  have hby : (0 + rows.length) * bytes ≤ 140737488355328 := by
    have := Nat.mul_le_mul_left (0 + rows.length) E.top
    omega
  refine wpList_append_own_at _ hgd s x t ho w.heap.size e i z sz bytes E.under q1 q2 q3 q4 q5 E.pos _ 0 [] hs hm.own ad rows.length cap rows.flatten hx (flat_len h.len) (fun j u hj => ?_) (fun u hu => ?_) (by simp [maxLen]; omega) hby (by rw [size_alloc]; omega) (fun v' w' p1 p2 _ p4 => hK v' w' ⟨?_, h.len, h.one⟩ ?_)
  · rcases h.own.2 with ⟨p, _⟩ | ⟨g, cap', cur, p, _, hg, _⟩
    · cases p
    · simp only [Value.slice.injEq, Option.some.injEq] at p
      obtain ⟨rfl, _, rfl⟩ := p
      have hgl := (Array.getElem?_eq_some_iff.1 hg).1
      have hjl : j < rows.length * sz := by
        have := (List.getElem?_eq_some_iff.1 hj).1
        rwa [flat_len h.len] at this
      have e1 : (⟨g, 0, none⟩ : Addr).add j = ⟨g, j, none⟩ := by unfold Addr.add; split <;> simp_all
      rw [e1, World.cell?_of_block (a := ⟨g, j, none⟩) (Below.heap_alloc w _ g hgl), h.own.cellAt j hjl]
      exact hj
  · obtain ⟨r, hr, hu2⟩ := List.mem_flatten.1 hu
    exact h.one r hr u hu2
  · simpa using p1
  · have g1 := World.grownBy_alloc w (.cells #[] e) (some w.heap.size)
    exact ⟨p2.os.trans g1.os, p2.tape.trans g1.tape, p2.output.trans g1.output, Nat.le_trans g1.size p2.size, fun k hk => (p2.block k (Nat.lt_of_lt_of_le hk g1.size) (fun e => by simp [Value.ownBlock] at e; omega)).trans (g1.block k hk (fun e => by simp at e; omega))⟩
end
set_option maxRecDepth 20000 in
theorem cloneC_any {w : World} {B : Nat} {a : Option Addr} {n cap : Nat} {rows : Rws} (h : Ow w B 49 7 (.slice a n cap) rows) (hl : n = rows.length) (hn : rows.length ≤ 100000) : Calls Try.prog 44 #[.slice a n cap] w fun e w' => ∃ v, e = .returned v ∧ Ow w' w.heap.size 49 7 v rows ∧ Below w.heap.size w w' := by
  cases a with
  | none =>
    rcases h.own.2 with ⟨p, p2⟩ | ⟨g, cap', cur, p, _⟩
    · cases p
      have hr : rows = [] := by cases rows with | nil => rfl | cons x y => simp at p2
      subst hr
      have hq := fun w => Lib.run_eql_slice_nil (P := Try.prog) w 23 49 none 0 0 0 0 Try.underlying23
      clear h hl p2
      go_enter Try.func44, Try.ntmps44
      go_wp2
      go_ret
      exact ⟨_, rfl, Ow.nil _ _ _ _, Below.refl _ w⟩
    · simp at p
  | some ad =>
    have H := Hid.mk h
    have hq := fun w => Lib.run_eql_slice_nil (P := Try.prog) w 23 49 (some ad) n cap 0 0 Try.underlying23
    clear h
    replace hl := Hid.mk hl
    go_enter Try.func44, Try.ntmps44
    go_wp2_with (at_builtin; refine wp_appC ei49 rfl _ _ rfl H.out hl.out rfl rfl hn ?_; intro v' w' h1 b1)
    go_ret
    exact ⟨_, rfl, h1, b1⟩
theorem changes_tx {B g v X s w} (h : TxH B g v X s w) (hn8 : X.cs.length ≤ 8) : Calls Try.prog 15 #[.pointer (some ⟨g, 0, none⟩)] w fun e w' => ∃ a cap, e = .returned (.slice a X.cs.length cap) ∧ Ow w' w.heap.size 49 7 (.slice a X.cs.length cap) (X.cs.map cgR) ∧ Below w.heap.size w w' := by
  have hn := isNone_no h.cells.1
  obtain ⟨va, vc, rfl⟩ := h.ow.form
  rw [List.length_map] at h
  obtain ⟨c0, -, -, -, -, c7⟩ := h.cells
  have q := cloneC_any h.ow (by rw [List.length_map]) (by rw [List.length_map]; omega)
  have Q := Hid.mk (And.intro q hn)
  clear q hn h
  go_enter Try.func15, Try.ntmps15
  go_wp2_with (first | (go_at_call 36; refine Q.out.2.mono ?_; rintro e w1 ⟨rfl, rfl⟩) | (go_at_call 44; refine Q.out.1.mono ?_; rintro e w1 ⟨v1, rfl, o1, b1⟩))
  go_ret
  obtain ⟨a, c, rfl⟩ := o1.form
  rw [List.length_map] at o1 ⊢
  exact ⟨a, c, rfl, o1, b1⟩
set_option maxRecDepth 20000 in
set_option maxHeartbeats 2000000 in
theorem new_tx {w s} (h : Whole w s) (hz : ∀ a, 512 ≤ a → cntA (ab s).sp a = 0) (pl ks rr rp sz : Int) :
    Calls Try.prog 9 #[.pointer (some ⟨s.p, 0, none⟩), .agg #[.int .i64 pl, .int .i64 ks, .int .i64 rr, .int .i64 rp], .int .i64 sz] w fun e w' => ∃ g s2, e = .returned (.pointer (some ⟨g, 0, none⟩)) ∧ TxH w.heap.size g (.slice none 0 0) ⟨ab s, pl, ks, rr, rp, sz, 512, []⟩ s2 w' ∧ Below w.heap.size w w' := by
  have b1 : Below w.heap.size w (w.alloc (.cells #[.int .i64 pl, .int .i64 ks, .int .i64 rr, .int .i64 rp] 39)) := (Below.refl _ w).alloc (Nat.le_refl _) _
  have hrow := heap_alloc_new w (.cells #[.int .i64 pl, .int .i64 ks, .int .i64 rr, .int .i64 rp] 39)
  have kS : Hid (∀ w', Below (w.alloc (.cells #[.int .i64 pl, .int .i64 ks, .int .i64 rr, .int .i64 rp] 39)).heap.size (w.alloc (.cells #[.int .i64 pl, .int .i64 ks, .int .i64 rr, .int .i64 rp] 39)) w' → Below (w.alloc (.cells #[.int .i64 pl, .int .i64 ks, .int .i64 rr, .int .i64 rp] 39)).heap.size (w.alloc (.cells #[.int .i64 pl, .int .i64 ks, .int .i64 rr, .int .i64 rp] 39)) w' ∧ w'.cell? ⟨w.heap.size, 0, none⟩ = some (.int .i64 pl) ∧ w'.cell? ⟨w.heap.size, 1, none⟩ = some (.int .i64 ks) ∧ w'.cell? ⟨w.heap.size, 2, none⟩ = some (.int .i64 rr) ∧ w'.cell? ⟨w.heap.size, 3, none⟩ = some (.int .i64 rp)) := fun w' q => by
    have hb := (q.block w.heap.size (by rw [size_alloc]; omega)).trans hrow
    refine ⟨q, ?_, ?_, ?_, ?_⟩ <;> rw [cell_of_row w' _ _ _ 39 _ hb] <;> rfl
  have hc : ∀ W, Below (w.alloc (.cells #[.int .i64 pl, .int .i64 ks, .int .i64 rr, .int .i64 rp] 39)).heap.size (w.alloc (.cells #[.int .i64 pl, .int .i64 ks, .int .i64 rr, .int .i64 rp] 39)) W → Calls Try.prog 31 #[.pointer (some ⟨s.p, 0, none⟩)] W fun e w' => ∃ s2, e = .returned (.pointer (some ⟨s2.p, 0, none⟩)) ∧ Whole w' s2 ∧ ab s2 = ab s ∧ (∀ i ∈ foot s2, W.heap.size ≤ i) ∧ Below W.heap.size W w' := fun W b => copy_any (h.call (below3 b1 b))
  have hy : ∀ W, Below (w.alloc (.cells #[.int .i64 pl, .int .i64 ks, .int .i64 rr, .int .i64 rp] 39)).heap.size (w.alloc (.cells #[.int .i64 pl, .int .i64 ks, .int .i64 rr, .int .i64 rp] 39)) W → Calls Try.prog 32 #[.pointer (some ⟨s.p, 0, none⟩)] W fun e w' => e = .returned (.int .i64 512) ∧ W = w' := fun W b => beyond_any (h.call (below3 b1 b)) hz
  have H := Hid.mk (And.intro hc (And.intro hy b1))
  clear hc hy h hz b1 hrow
  go_enter Try.func9, Try.ntmps9
  go_upto_region 3 with fail
  generalize w.alloc (.cells #[.int .i64 pl, .int .i64 ks, .int .i64 rr, .int .i64 rp] 39) = w1 at *
  generalize hG : w.heap.size = G at *
  go_region_held3 (fun w' => Below w1.heap.size w1 w' ∧ w'.cell? ⟨G, 0, none⟩ = some (.int .i64 pl) ∧ w'.cell? ⟨G, 1, none⟩ = some (.int .i64 ks) ∧ w'.cell? ⟨G, 2, none⟩ = some (.int .i64 rr) ∧ w'.cell? ⟨G, 3, none⟩ = some (.int .i64 rp))
    (first | assumption | exact kS.out _ (Below.refl _ w1) | exact kS.out _ (Below.refl _ w1).drew | exact kS.out _ (below3 (And.left (by assumption)) (by assumption)) | exact kS.out _ (below3 (And.left (by assumption)) (below_al _ _)) | fail)
    (first | (go_at_call 31; refine (H.out.1 _ (And.left (by assumption))).mono ?_; rintro e w5 ⟨s2, rfl, W5, e5, f5, b5⟩) | (go_at_call 32; refine (H.out.2.1 _ (And.left (by assumption))).mono ?_; rintro e w6 ⟨rfl, rfl⟩))
  go_wp2_with fail
  go_ret
  have b5' : Below w1.heap.size w1 w5 := below3 (Below.refl _ w1).drew b5
  have hw : w.heap.size ≤ w1.heap.size := by have := H.out.2.2.size; rw [hG]; omega
  subst hG
  have B5 := below3 H.out.2.2 b5'
  refine ⟨w5.heap.size, s2, rfl, ⟨heap_alloc_new _ _, W5.alloc _, e5, fun i hi => Nat.le_trans hw (f5 i hi), Ow.nil _ _ _ _, B5.size⟩, B5.alloc B5.size _⟩
theorem get_tx0 (w : World) (id page : Int) : Calls Try.prog 18 #[.pointer none, .int .i64 id, .int .i64 page] w fun e w' => e = .returned (.tuple #[.string ByteArray.empty, .int .i64 0, .bool false]) ∧ w = w' := by
  have q := Hid.mk (isNone_nil w)
  go_enter Try.func18, Try.ntmps18
  go_wp2_with (first | (go_at_call 36; refine q.out.mono ?_; rintro e w1 ⟨rfl, rfl⟩))
  go_ret3
  exact ⟨rfl, rfl⟩
theorem put_tx0 (w : World) (id page : Int) (str : ByteArray) : Calls Try.prog 12 #[.pointer none, .int .i64 id, .int .i64 page, .string str] w fun e w' => e = .returned (.int .i64 1) ∧ Below w.heap.size w w' := by
  have q := Hid.mk (isNone_nil ((w.alloc (.cells #[.int .i64 id] 3)).alloc (.cells #[.int .i64 page] 3)))
  go_enter Try.func12, Try.ntmps12
  go_wp2_with (first | (go_at_call 36; refine q.out.mono ?_; rintro e w1 ⟨rfl, rfl⟩))
  go_ret
  exact ⟨rfl, ((Below.refl _ w).alloc (Nat.le_refl _) _).alloc (by rw [size_alloc]; omega) _⟩
theorem do_tx0 (w : World) (K S P A T N : Int) : Calls Try.prog 14 #[.pointer none, rv K S P A T N] w fun e w' => e = .returned (.int .i64 1) ∧ Below w.heap.size w w' := by
  have q := Hid.mk (isNone_nil (w.alloc (.cells #[.int .i64 K, .int .i64 S, .int .i64 P, .int .i64 A, .int .i64 T, .int .i64 N] 35)))
  unfold rv
  go_enter Try.func14, Try.ntmps14
  go_wp2_with (first | (go_at_call 36; refine q.out.mono ?_; rintro e w1 ⟨rfl, rfl⟩))
  go_ret
  exact ⟨rfl, (Below.refl _ w).alloc (Nat.le_refl _) _⟩
theorem changes_tx0 (w : World) : Calls Try.prog 15 #[.pointer none] w fun e w' => e = .returned (.slice none 0 0) ∧ w = w' := by
  have q := Hid.mk (isNone_nil w)
  go_enter Try.func15, Try.ntmps15
  go_wp2_with (first | (go_at_call 36; refine q.out.mono ?_; rintro e w1 ⟨rfl, rfl⟩))
  go_ret
  exact ⟨rfl, rfl⟩
theorem spaces_tx0 (w : World) : Calls Try.prog 19 #[.pointer none] w fun e w' => e = .returned (.slice none 0 0) ∧ w = w' := by
  have q := Hid.mk (isNone_nil w)
  go_enter Try.func19, Try.ntmps19
  go_wp2_with (first | (go_at_call 36; refine q.out.mono ?_; rintro e w1 ⟨rfl, rfl⟩))
  go_ret
  exact ⟨rfl, rfl⟩
theorem TxH.vlow {B g v X s w} (h : TxH B g v X s w) : ∀ b, v.ownBlock = some b → B ≤ b := fun b hb => (h.ow.lt b hb).1
def wX0 : TX := ⟨noAb, 3, 6, 0, 0, 64, 512, []⟩
def wTx : ByteArray := ⟨#[116, 101, 120, 116]⟩
def wX1 : TX := ⟨t1, 3, 6, 0, 0, 64, 512, [⟨(4, 1, 0, 0, 0, 4), ByteArray.empty⟩]⟩
def wX2 : TX := ⟨⟨[⟨1, 4, false, [(2, 513)]⟩], [], []⟩, 3, 6, 0, 0, 64, 512, [⟨(4, 1, 0, 0, 0, 4), ByteArray.empty⟩, ⟨(1, 1, 2, 0, 0, 0), wTx⟩]⟩
theorem w_do : doX wX0 4 1 0 0 0 4 = (wX1, 0) := by
  unfold doX
  rw [show (kindB 4 && mayB 4 1 0 0 0 4) = true from by decide, if_neg (by decide), if_neg (by decide)]
  show tryA wX0 _ (apA noAb 4 1 0 0 0 4) = _
  rw [ap1]
  rfl
theorem w_put : putX wX1 1 2 wTx = (wX2, 0) := by
  unfold putX
  rw [if_neg (by decide), if_neg (by decide)]
  rfl
theorem w_get : getX wX2 1 2 = (wTx, 513, true) := rfl
set_option maxRecDepth 20000 in
set_option maxHeartbeats 2000000 in
theorem awake_any (w : World) : Calls Try.prog 10 #[] w fun e w' => e = .returned (.bool true) ∧ Below w.heap.size w w' := by
  have h0 := newW_any w
  have H0 := Hid.mk h0
  clear h0
  go_enter Try.func10, Try.ntmps10
  generalize hG : w.heap.size = G at *
  have q9 : ∀ w1, Whole w1 (newSt G) → Calls Try.prog 9 #[.pointer (some ⟨G + 4, 0, none⟩), .agg #[.int .i64 3, .int .i64 6, .int .i64 0, .int .i64 0], .int .i64 64] w1 fun e w' => ∃ g s2, e = .returned (.pointer (some ⟨g, 0, none⟩)) ∧ TxH w1.heap.size g (.slice none 0 0) wX0 s2 w' ∧ Below w1.heap.size w1 w' := fun w1 h1 => new_tx h1 (fun a _ => rfl) 3 6 0 0 64
  replace q9 := Hid.mk q9
  go_upto_region 2 with (first
    | (go_at_call 6; refine H0.out.mono ?_; rintro e w1 ⟨rfl, h1, b1⟩)
    | (go_at_call 9; refine (q9.out _ h1).mono ?_; rintro e w2 ⟨g, s2, rfl, h2, b2⟩))
  have hb : G ≤ w1.heap.size := by have := b1.size; omega
  have T2 := h2.lower hb
  have B2 : Below G w w2 := b1.trans (b2.mono hb)
  have hG2 : G ≤ w2.heap.size := Nat.le_trans hb b2.size
  have c3 := do_tx T2 hG2 (K := 4) (S := 1) (P := 0) (A := 0) (T := 0) (N := 4) (k64 (by omega) (by omega))
  rw [w_do] at c3
  unfold rv at c3
  replace c3 := Hid.mk c3
  have K2 := Hid.mk (And.intro B2 (And.intro T2 hG2))
  clear h1 b1 h2 b2 hb T2 B2 hG2 q9 H0
  go_upto_region 3 with (first | (go_at_call 14; refine c3.out.mono ?_; rintro e w3 ⟨rfl, v3, s3, T3, d3⟩))
  have B3 : Below G w w3 := K2.out.1.trans (d3.below K2.out.2.2 K2.out.2.1.hg K2.out.2.1.vlow)
  have hG3 : G ≤ w3.heap.size := Nat.le_trans K2.out.2.2 d3.size
  have c4 := put_any T3 hG3 (S := 1) (P := 2) (k64 (by omega) (by omega)) ⟨by decide, by decide⟩ (by decide) wTx
  rw [w_put] at c4
  unfold wTx at c4
  replace c4 := Hid.mk c4
  have K3 := Hid.mk (And.intro B3 (And.intro T3 hG3))
  clear c3 K2 B3 hG3 T3 d3
  go_upto_region 4 with (first | (go_at_call 12; refine c4.out.mono ?_; rintro e w4 ⟨rfl, v4, s4, T4, d4⟩))
  have B4 : Below G w w4 := K3.out.1.trans (d4.below K3.out.2.2 K3.out.2.1.hg K3.out.2.1.vlow)
  have c5 := get_tx T4 (id := 1) (page := 2) (k64 (by omega) (by omega)) (k64 (by omega) (by omega)) ⟨by decide, by decide⟩ (by decide)
  rw [w_get] at c5
  unfold wTx at c5
  have c6 := changes_tx T4 (by decide)
  have c7 : ∀ W, Below w4.heap.size w4 W → Calls Try.prog 19 #[.pointer (some ⟨g, 0, none⟩)] W fun e w' => ∃ a cap, e = .returned (.slice a wX2.a.sp.length cap) ∧ Ow w' W.heap.size 83 4 (.slice a wX2.a.sp.length cap) (wX2.a.sp.map svR) ∧ Below W.heap.size W w' := fun W b => spaces_tx (T4.call b)
  rw [show wX2.cs.length = 2 from rfl] at c6
  rw [show wX2.a.sp.length = 1 from rfl] at c7
  have hG4 : G ≤ w4.heap.size := Nat.le_trans K3.out.2.2 d4.size
  have C := Hid.mk (And.intro c5 (And.intro c6 (And.intro c7 (And.intro B4 hG4))))
  clear c4 K3 B4 T4 d4 c5 c6 c7 hG4
  go_wp2_with (first
    | (go_at_call 18; refine C.out.1.mono ?_; rintro e w5 ⟨rfl, rfl⟩)
    | (go_at_call 15; refine C.out.2.1.mono ?_; rintro e w5 ⟨a5, n5, rfl, o5, b5⟩)
    | (go_at_call 19; refine (C.out.2.2.1 _ b5).mono ?_; rintro e w6 ⟨a6, n6, rfl, o6, b6⟩))
  go_ret
  exact ⟨rfl, C.out.2.2.2.1.trans ((below3 b5 b6).mono C.out.2.2.2.2)⟩
set_option maxRecDepth 20000 in
set_option maxHeartbeats 2000000 in
theorem txnNone_walk (id page : Int) (str : ByteArray) (w : World) : Calls Try.prog 5 #[.int .i64 id, .int .i64 page, .string str] w fun e w' => e = .returned (.bool true) ∧ Below w.heap.size w w' := by
  have A := Hid.mk (awake_any w)
  have P := Hid.mk (fun W s => put_tx0 W id page s)
  have D := Hid.mk (fun W => do_tx0 W 4 1 0 0 0 1)
  have C := Hid.mk changes_tx0
  have S := Hid.mk spaces_tx0
  have G := Hid.mk (get_tx0 w id page)
  unfold rv at D
  by_cases h50 : str.size ≤ 50
  · go_enter Try.func5, Try.ntmps5
    go_wp2_with (first
      | (go_at_call 18; refine G.out.mono ?_; rintro e w1 ⟨rfl, rfl⟩)
      | (go_at_call 10; refine A.out.mono ?_; rintro e w1 ⟨rfl, b1⟩)
      | (go_at_call 12; refine (P.out _ _).mono ?_; rintro e w2 ⟨rfl, b2⟩)
      | (go_at_call 14; refine (D.out _).mono ?_; rintro e w3 ⟨rfl, b3⟩)
      | (go_at_call 15; refine (C.out _).mono ?_; rintro e w4 ⟨rfl, rfl⟩)
      | (go_at_call 19; refine (S.out _).mono ?_; rintro e w5 ⟨rfl, rfl⟩))
    go_ret
    exact ⟨rfl, below3 b1 (below3 b2 b3)⟩
  · go_enter Try.func5, Try.ntmps5
    go_wp2_with (first
      | (go_at_call 18; refine G.out.mono ?_; rintro e w1 ⟨rfl, rfl⟩)
      | (go_at_call 10; refine A.out.mono ?_; rintro e w1 ⟨rfl, b1⟩)
      | (go_at_call 12; refine (P.out _ _).mono ?_; rintro e w2 ⟨rfl, b2⟩)
      | (go_at_call 14; refine (D.out _).mono ?_; rintro e w3 ⟨rfl, b3⟩)
      | (go_at_call 15; refine (C.out _).mono ?_; rintro e w4 ⟨rfl, rfl⟩)
      | (go_at_call 19; refine (S.out _).mono ?_; rintro e w5 ⟨rfl, rfl⟩))
    go_ret
    exact ⟨rfl, below3 b1 (below3 b2 b3)⟩
end Go.Proofs.Ytccelipljbkkgaa
