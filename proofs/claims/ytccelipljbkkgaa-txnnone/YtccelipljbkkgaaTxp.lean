/-
  A transaction: Put, Do, New. No condition.
-/
import Derived.Test.YtccelipljbkkgaaTxt
namespace Go.Proofs.Ytccelipljbkkgaa
open Go Go.RowKit Go.Maps

/-- what a page that is put comes to -/
def putX (X : TX) (S P : Int) (str : ByteArray) : TX × Int :=
  if X.sz < (str.size : Int) then (X, 173)
  else if clA X.a S ≠ 0 then (X, clA X.a S)
  else tryA X ⟨(1, S, P, 0, 0, 0), str⟩ (layA X.a S P (X.fi + X.cs.length))
/-- what a record comes to -/
def doX (X : TX) (K S P A T N : Int) : TX × Int :=
  if (kindB K && mayB K S P A T N) = false then (X, 1)
  else if K = 2 ∧ clA X.a S ≠ 0 then (X, clA X.a S)
  else tryA X ⟨(K, S, P, A, T, N), ByteArray.empty⟩ (apA X.a K S P A T N)
theorem clA_some {t : Ab} {S : Int} (h : clA t S = 0) : ∃ x, gA t.sp S = some x := by
  unfold clA at h
  cases hg : gA t.sp S with
  | none => rw [hg] at h; simp at h
  | some x => exact ⟨x, rfl⟩
theorem Tch.pre {a b c : World} {g : Nat} {v v' : Value} (h : Below a.heap.size a b) (k : Tch b c g v v') : Tch a c g v v' := (Tch.ofBelow h g v).trans k
theorem TxD.pre {B g v r a b e c} (h : Below a.heap.size a b) (k : TxD B g v r b e c) : TxD B g v r a e c := by
  obtain ⟨k1, v', s', k2, k3⟩ := k
  exact ⟨k1, v', s', k2, k3.pre h⟩
theorem one_box (w : World) (t : TypeId) (x : Value) : (w.alloc (.cells #[x] t)).cell? ⟨w.heap.size, 0, none⟩ = some x := by
  rw [cell_of_row _ _ 0 _ t _ (heap_alloc_new w _)]; rfl
set_option maxRecDepth 20000 in
set_option maxHeartbeats 2000000 in
theorem put_any {B g v X s w} (h : TxH B g v X s w) (hB : B ≤ w.heap.size) {S P : Int} (hS : K64 S) (hfi : 0 ≤ X.fi ∧ X.fi ≤ 1900) (hn8 : X.cs.length ≤ 8) (str : ByteArray) :
    Calls Try.prog 12 #[.pointer (some ⟨g, 0, none⟩), .int .i64 S, .int .i64 P, .string str] w (TxD B g v (putX X S P str) w) := by
  obtain ⟨va, vc, rfl⟩ := h.ow.form
  rw [List.length_map] at h ⊢
  generalize hRes : putX X S P str = Res at *
  unfold putX at hRes
  have b2 : Below w.heap.size w ((w.alloc (.cells #[.int .i64 S] 3)).alloc (.cells #[.int .i64 P] 3)) := ((Below.refl _ w).alloc (Nat.le_refl _) _).alloc (by rw [size_alloc]; omega) _
  have H2 := h.call b2
  obtain ⟨c0, c1, c2, c5, c6, c7⟩ := h.cells
  have hlt := h.lt
  have hn := isNone_no H2.cells.1
  by_cases hsz : X.sz < (str.size : Int)
  · rw [if_pos hsz] at hRes
    have HN := Hid.mk hn
    have H := Hid.mk (And.intro h (And.intro b2 hRes))
    clear h H2 hRes hn b2
    go_enter Try.func12, Try.ntmps12
    go_wp2_with (first | (go_at_call 36; refine HN.out.mono ?_; rintro e w1 ⟨rfl, rfl⟩))
    go_ret
    rw [← H.out.2.2]
    exact TxD.same H.out.1 H.out.2.1 173
  · rw [if_neg hsz] at hRes
    have hcl := closed_any H2 hS
    have hcl0 : clA X.a S = 0 → ∃ x, gA X.a.sp S = some x := clA_some
    generalize hE : clA X.a S = E at *
    by_cases hE0 : E = 0
    · subst hE0
      rw [if_neg (fun q => q rfl)] at hRes
      obtain ⟨x, hx⟩ := hcl0 rfl
      have z1 := one_box w 3 (.int .i64 S)
      have z2 := one_box (w.alloc (.cells #[.int .i64 S] 3)) 3 (.int .i64 P)
      rw [size_alloc] at z2
      have HN := Hid.mk (And.intro hn hcl)
      have H := Hid.mk (And.intro h (And.intro b2 (And.intro hRes (And.intro hx hE))))
      clear h H2 hRes hn b2 hcl hcl0 hE hx
      go_enter Try.func12, Try.ntmps12
      go_upto_region 6 with (first | (go_at_call 36; refine HN.out.1.mono ?_; rintro e w1 ⟨rfl, rfl⟩) | (go_at_call 37; refine HN.out.2.mono ?_; rintro e w1 ⟨rfl, b1⟩))
      have B1 := below3 H.out.2.1 b1
      have T1 := H.out.1.call B1
      have k1 : w1.cell? ⟨w.heap.size, 0, none⟩ = some (.int .i64 S) := by
        rw [b1.cell (p := ⟨w.heap.size, 0, none⟩) (by simp only [size_alloc]; omega), World.cell?_of_block (Below.heap_alloc _ _ w.heap.size (by rw [size_alloc]; omega))]
        exact z1
      have k2 : w1.cell? ⟨w.heap.size + 1, 0, none⟩ = some (.int .i64 P) := (b1.cell (p := ⟨w.heap.size + 1, 0, none⟩) (by simp only [size_alloc]; omega)).trans z2
      have lw : w.heap.size + 1 < w1.heap.size := by have := b1.size; simp only [size_alloc] at this; omega
      clear c0 c1 c2 c5 c6 c7 hlt z1 z2 b1 HN
      obtain ⟨c0, c1, c2, c5, c6, c7⟩ := T1.cells
      have hl1 := T1.lt
      generalize hG : w.heap.size = G at *
      have HH := Hid.mk (And.intro B1 (And.intro T1 hG))
      clear B1 T1 hG
      have lG : G < w1.heap.size := by omega
      go_upto_region 9 with fail
      go_region
      have hA : 0 ≤ X.fi + (X.cs.length : Int) ∧ X.fi + (X.cs.length : Int) ≤ 2000 := by omega
      have hR := H.out.2.2.1
      have hx := H.out.2.2.2.1
      generalize hAA : X.fi + (X.cs.length : Int) = A at *
      clear hAA
      have y1 := one_box (w1.alloc (.cells #[.int .i64 1, .int .i64 S, .int .i64 P, .int .i64 0, .int .i64 0, .int .i64 0] 35)) 3 (.int .i64 A)
      have y0 := heap_alloc_new w1 (.cells #[.int .i64 1, .int .i64 S, .int .i64 P, .int .i64 0, .int .i64 0, .int .i64 0] 35)
      have b3 : Below w1.heap.size w1 (((w1.alloc (.cells #[.int .i64 1, .int .i64 S, .int .i64 P, .int .i64 0, .int .i64 0, .int .i64 0] 35)).alloc (.cells #[.int .i64 A] 3))).drew := (((Below.refl _ w1).alloc (Nat.le_refl _) _).alloc (by rw [size_alloc]; omega) _).drew
      have y2 : (((w1.alloc (.cells #[.int .i64 1, .int .i64 S, .int .i64 P, .int .i64 0, .int .i64 0, .int .i64 0] 35)).alloc (.cells #[.int .i64 A] 3))).drew.heap[w1.heap.size]? = some (.cells #[.int .i64 1, .int .i64 S, .int .i64 P, .int .i64 0, .int .i64 0, .int .i64 0] 35 (0, 0)) := (Below.heap_alloc _ _ w1.heap.size (by rw [size_alloc]; omega)).trans y0
      have y3 : (((w1.alloc (.cells #[.int .i64 1, .int .i64 S, .int .i64 P, .int .i64 0, .int .i64 0, .int .i64 0] 35)).alloc (.cells #[.int .i64 A] 3))).drew.cell? ⟨w1.heap.size + 1, 0, none⟩ = some (.int .i64 A) := by rw [size_alloc] at y1; exact y1
      have l3 : w1.heap.size + 1 < (((w1.alloc (.cells #[.int .i64 1, .int .i64 S, .int .i64 P, .int .i64 0, .int .i64 0, .int .i64 0] 35)).alloc (.cells #[.int .i64 A] 3))).drew.heap.size := by
        show _ < ((w1.alloc _).alloc _).heap.size
        simp only [size_alloc]; omega
      clear y0 y1
      generalize (((w1.alloc (.cells #[.int .i64 1, .int .i64 S, .int .i64 P, .int .i64 0, .int .i64 0, .int .i64 0] 35)).alloc (.cells #[.int .i64 A] 3))).drew = w3 at *
      have T3 := HH.out.2.1.call b3
      have k1' : w3.cell? ⟨G, 0, none⟩ = some (.int .i64 S) := (b3.cell (p := ⟨G, 0, none⟩) lG).trans k1
      have k2' : w3.cell? ⟨G + 1, 0, none⟩ = some (.int .i64 P) := (b3.cell (p := ⟨G + 1, 0, none⟩) lw).trans k2
      have hG := HH.out.2.2
      subst hG
      have B3 := below3 HH.out.1 b3
      have ct := try39_any T3 (Nat.le_trans hB B3.size) ⟨(1, S, P, 0, 0, 0), str⟩ (R := layA X.a S P A) w.heap.size (w.heap.size + 1) (w1.heap.size + 1) (fun W s2 bW hW eW _ => by
        have q := put1_any hW (x := x) hS (by rw [eW]; exact hx) hA ((bW.cell (p := ⟨w.heap.size, 0, none⟩) (Nat.lt_of_lt_of_le lG b3.size)).trans k1') ((bW.cell (p := ⟨w.heap.size + 1, 0, none⟩) (Nat.lt_of_lt_of_le lw b3.size)).trans k2') ((bW.cell (p := ⟨w1.heap.size + 1, 0, none⟩) l3).trans y3) (Nat.lt_of_lt_of_le (Nat.lt_of_lt_of_le lG b3.size) bW.size) (Nat.lt_of_lt_of_le (Nat.lt_of_lt_of_le lw b3.size) bW.size) (Nat.lt_of_lt_of_le l3 bW.size)
        rw [eW] at q
        exact q)
      rw [hR] at ct
      simp only at ct
      obtain ⟨u0, u1, u2, u3, u4, u5⟩ : w3.cell? ⟨w1.heap.size, 0, none⟩ = some (.int .i64 1) ∧ w3.cell? ⟨w1.heap.size, 1, none⟩ = some (.int .i64 S) ∧ w3.cell? ⟨w1.heap.size, 2, none⟩ = some (.int .i64 P) ∧ w3.cell? ⟨w1.heap.size, 3, none⟩ = some (.int .i64 0) ∧ w3.cell? ⟨w1.heap.size, 4, none⟩ = some (.int .i64 0) ∧ w3.cell? ⟨w1.heap.size, 5, none⟩ = some (.int .i64 0) := by
        refine ⟨?_, ?_, ?_, ?_, ?_, ?_⟩ <;> rw [cell_of_row w3 _ _ _ 35 _ y2] <;> rfl
      have CT := Hid.mk (And.intro ct B3)
      generalize w1.heap.size = G1 at *
      clear ct B3 T3 H HH k1 k2 k1' k2' lG lw c0 c1 c2 c5 c6 c7 hl1 y2 y3 hx hR b3 hA
      go_wp2_with (first | (go_at_call 38; refine CT.out.1.mono ?_; intro e w4 hd; obtain ⟨rfl, hd4⟩ := hd))
      go_ret
      exact TxD.pre CT.out.2 ⟨rfl, hd4⟩
    · rw [if_pos hE0] at hRes
      have hEb : (E != 0) = true := by simpa using hE0
      have HN := Hid.mk (And.intro hn hcl)
      have H := Hid.mk (And.intro h (And.intro b2 hRes))
      clear h H2 hRes hn b2 hcl hcl0 hE0 hE
      go_enter Try.func12, Try.ntmps12
      go_wp2_with (first | (go_at_call 36; refine HN.out.1.mono ?_; rintro e w1 ⟨rfl, rfl⟩) | (go_at_call 37; refine HN.out.2.mono ?_; rintro e w1 ⟨rfl, b1⟩))
      go_ret
      rw [← H.out.2.2]
      exact TxD.same H.out.1 (below3 H.out.2.1 b1) E
end Go.Proofs.Ytccelipljbkkgaa
