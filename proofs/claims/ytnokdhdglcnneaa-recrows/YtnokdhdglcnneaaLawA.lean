/-
  The walk of the law RecChecks. No condition.
-/
import Derived.Test.YtnokdhdglcnneaaAwk
namespace Go.Proofs.Ytnokdhdglcnneaa
open Go Go.RowKit

/-- a record's six cells, and what is held beside them -/
def Sx (w : World) (X : Nat) (K S P A T N : Int) (wr : World) : Prop :=
  wr.cell? ⟨X, 0, none⟩ = some (.int .i64 K) ∧ wr.cell? ⟨X, 1, none⟩ = some (.int .i64 S) ∧ wr.cell? ⟨X, 2, none⟩ = some (.int .i64 P) ∧ wr.cell? ⟨X, 3, none⟩ = some (.int .i64 A) ∧ wr.cell? ⟨X, 4, none⟩ = some (.int .i64 T) ∧ wr.cell? ⟨X, 5, none⟩ = some (.int .i64 N) ∧ Rx w X [K, S, P, A, T, N] wr
theorem Rx.sx {w wr : World} {X K S P A T N} (h : Rx w X [K, S, P, A, T, N] wr) : Sx w X K S P A T N wr := ⟨h.1.six.1, h.1.six.2.1, h.1.six.2.2.1, h.1.six.2.2.2.1, h.1.six.2.2.2.2.1, h.1.six.2.2.2.2.2, h⟩
theorem Sx.rx {w wr : World} {X K S P A T N} (h : Sx w X K S P A T N wr) : Rx w X [K, S, P, A, T, N] wr := h.2.2.2.2.2.2
theorem Rx.drew {w wr : World} {X l} (h : Rx w X l wr) : Rx w X l wr.drew := ⟨h.1, h.2.1, h.2.2.drew⟩
/-- two blocks of one record, and a reader that is at its end -/
def Both (w : World) (X Y G : Nat) (K S P A T N : Int) (w' : World) : Prop := (w'.cell? ⟨X, 0, none⟩ = some (.int .i64 K) ∧ w'.cell? ⟨X, 1, none⟩ = some (.int .i64 S) ∧ w'.cell? ⟨X, 2, none⟩ = some (.int .i64 P) ∧ w'.cell? ⟨X, 3, none⟩ = some (.int .i64 A) ∧ w'.cell? ⟨X, 4, none⟩ = some (.int .i64 T) ∧ w'.cell? ⟨X, 5, none⟩ = some (.int .i64 N)) ∧ (w'.cell? ⟨Y, 0, none⟩ = some (.int .i64 K) ∧ w'.cell? ⟨Y, 1, none⟩ = some (.int .i64 S) ∧ w'.cell? ⟨Y, 2, none⟩ = some (.int .i64 P) ∧ w'.cell? ⟨Y, 3, none⟩ = some (.int .i64 A) ∧ w'.cell? ⟨Y, 4, none⟩ = some (.int .i64 T) ∧ w'.cell? ⟨Y, 5, none⟩ = some (.int .i64 N)) ∧ Rx w X [K, S, P, A, T, N] w' ∧ Rx w Y [K, S, P, A, T, N] w' ∧ Rd w' G ⟨#[]⟩ 0
theorem both_mk {w w' : World} {X Y G K S P A T N} (h1 : Rx w X [K, S, P, A, T, N] w') (h2 : Rx w Y [K, S, P, A, T, N] w') (h3 : Rd w' G ⟨#[]⟩ 0) : Both w X Y G K S P A T N w' := ⟨h1.1.six, h2.1.six, h1, h2, h3⟩
theorem Both.call {w w1 w2 : World} {X Y G K S P A T N} (h : Both w X Y G K S P A T N w1) (b : Below w1.heap.size w1 w2) : Both w X Y G K S P A T N w2 := both_mk (h.2.2.1.call b) (h.2.2.2.1.call b) (h.2.2.2.2.call b)
theorem Both.rd {w w1 : World} {X Y G K S P A T N} (h : Both w X Y G K S P A T N w1) : Rd w1 G ⟨#[]⟩ 0 := h.2.2.2.2
theorem recChecks_any (K S P A T N : Int) (w : World) : Calls Try.prog 3 #[rv K S P A T N] w fun e w' => e = .returned (.bool true) ∧ Below w.heap.size w w' := by
  have hchk := fun w => checkB_any K S P A T N w
  have href := fun w => refCheckB_any K S P A T N w
  obtain ⟨M, hM⟩ : ∃ M, mayB K S P A T N = M := ⟨_, rfl⟩
  rw [hM] at hchk href
  have HC := Hid.mk (And.intro hchk href)
  clear hchk href
  replace hM := Hid.mk hM
  unfold rv
  go_enter Try.func3, Try.ntmps3
  go_upto_region 1 with fail
  have p1 : Rx w w.heap.size [K, S, P, A, T, N] (w.alloc (.cells #[.int .i64 K, .int .i64 S, .int .i64 P, .int .i64 A, .int .i64 T, .int .i64 N] 23)) := ⟨Row.fresh w 23 .i64 [K, S, P, A, T, N], Nat.le_refl _, below_one w _⟩
  generalize (w.alloc (.cells #[.int .i64 K, .int .i64 S, .int .i64 P, .int .i64 A, .int .i64 T, .int .i64 N] 23)) = W at *
  have H := Hid.mk p1.drew.sx
  clear p1
  unfold Sx at H
  have hMM : (M != M) = false := by simp
  go_region_held3 (fun w' => w'.cell? ⟨w.heap.size, 0, none⟩ = some (.int .i64 K) ∧ w'.cell? ⟨w.heap.size, 1, none⟩ = some (.int .i64 S) ∧ w'.cell? ⟨w.heap.size, 2, none⟩ = some (.int .i64 P) ∧ w'.cell? ⟨w.heap.size, 3, none⟩ = some (.int .i64 A) ∧ w'.cell? ⟨w.heap.size, 4, none⟩ = some (.int .i64 T) ∧ w'.cell? ⟨w.heap.size, 5, none⟩ = some (.int .i64 N) ∧ Rx w w.heap.size [K, S, P, A, T, N] w')
    (first | assumption | exact H.out | exact (Rx.call (Sx.rx (by assumption)) (by assumption)).sx | fail)
    (first
    | (go_at_call 6; refine (awake_any _).mono ?_; rintro e w1 ⟨rfl, b1⟩)
    | (go_at_call 7; refine (HC.out.1 _).mono ?_; rintro e w2 ⟨rfl, b2⟩)
    | (go_at_call 8; refine (HC.out.2 _).mono ?_; rintro e w3 ⟨rfl, b3⟩))
  have H3 := Hid.mk (Rx.call (Rx.call (Rx.call H.out.2.2.2.2.2.2 b1) b2) b3)
  clear H b1 b2 b3
  obtain ⟨c0, c1, c2, c3, c4, c5⟩ := H3.out.1.six
  cases M with
  | false =>
    go_wp2_with (go_at_call 7; refine (HC.out.1 _).mono ?_; rintro e w4 ⟨rfl, b4⟩; replace H3 := Hid.mk (H3.out.call b4))
    go_ret
    exact ⟨rfl, H3.out.2.2⟩
  | true =>
    have hput := fun w => putMay_any hM.out w
    have hrput := fun w => refPut_any K S P A T N hM.out w
    have htake := fun w g (h : Rd w g (putB K [K, S, P, A, T, N]) 0) => takePut_last hM.out h
    generalize putB K [K, S, P, A, T, N] = B at *
    replace HC := Hid.mk (And.intro hput (And.intro hrput (And.intro htake HC.out)))
    clear hput hrput htake
    go_upto_region 5 with (go_at_call 7; refine (HC.out.2.2.2.1 _).mono ?_; rintro e w4 ⟨rfl, b4⟩; replace H3 := Hid.mk (H3.out.call b4); clear b4)
    clear c0 c1 c2 c3 c4 c5
    obtain ⟨c0, c1, c2, c3, c4, c5⟩ := H3.out.1.six
    go_upto_region 6 with (first
      | (go_at_call 10; refine (HC.out.1 _).mono ?_; rintro e w5 ⟨rfl, b1⟩; replace H3 := Hid.mk (H3.out.call b1); clear b1)
      | (go_at_call 9; refine (new_any _ _).mono ?_; rintro e w6 ⟨rfl, r1, b1⟩; have hg := Hid.mk (And.intro r1 H3.out.1.lt); replace H3 := Hid.mk (H3.out.call b1); clear b1 r1))
    clear c0 c1 c2 c3 c4 c5
    generalize w5.heap.size = G at *
    go_upto_region 7 with (go_at_call 11; refine (HC.out.2.2.1 _ _ hg.out.1).mono ?_; rintro e w7 ⟨rfl, r3, g3⟩; replace H3 := Hid.mk (H3.out.kept g3 hg.out.2); unfold rv)
    have p1 := H3.out.alloc (.cells #[.int .i64 K, .int .i64 S, .int .i64 P, .int .i64 A, .int .i64 T, .int .i64 N] 23)
    have p2 : Rx w w7.heap.size [K, S, P, A, T, N] (w7.alloc (.cells #[.int .i64 K, .int .i64 S, .int .i64 P, .int .i64 A, .int .i64 T, .int .i64 N] 23)) := ⟨Row.fresh w7 23 .i64 [K, S, P, A, T, N], H3.out.2.2.size, H3.out.2.2.alloc H3.out.2.2.size _⟩
    have p3 := r3.alloc (.cells #[.int .i64 K, .int .i64 S, .int .i64 P, .int .i64 A, .int .i64 T, .int .i64 N] 23)
    clear r3 g3 H3 hg
    generalize (w7.alloc (.cells #[.int .i64 K, .int .i64 S, .int .i64 P, .int .i64 A, .int .i64 T, .int .i64 N] 23)) = W7 at *
    generalize w7.heap.size = Y at *
    have H : Hid (Both w w.heap.size Y G K S P A T N W7.drew) := Hid.mk (both_mk p1.drew p2.drew p3)
    clear p1 p2 p3
    unfold Both at H
    have hBB : (B.toList == B.toList) = true := by simp
    go_region_held3 (fun w' => (w'.cell? ⟨w.heap.size, 0, none⟩ = some (.int .i64 K) ∧ w'.cell? ⟨w.heap.size, 1, none⟩ = some (.int .i64 S) ∧ w'.cell? ⟨w.heap.size, 2, none⟩ = some (.int .i64 P) ∧ w'.cell? ⟨w.heap.size, 3, none⟩ = some (.int .i64 A) ∧ w'.cell? ⟨w.heap.size, 4, none⟩ = some (.int .i64 T) ∧ w'.cell? ⟨w.heap.size, 5, none⟩ = some (.int .i64 N)) ∧ (w'.cell? ⟨Y, 0, none⟩ = some (.int .i64 K) ∧ w'.cell? ⟨Y, 1, none⟩ = some (.int .i64 S) ∧ w'.cell? ⟨Y, 2, none⟩ = some (.int .i64 P) ∧ w'.cell? ⟨Y, 3, none⟩ = some (.int .i64 A) ∧ w'.cell? ⟨Y, 4, none⟩ = some (.int .i64 T) ∧ w'.cell? ⟨Y, 5, none⟩ = some (.int .i64 N)) ∧ Rx w w.heap.size [K, S, P, A, T, N] w' ∧ Rx w Y [K, S, P, A, T, N] w' ∧ Rd w' G ⟨#[]⟩ 0)
      (first | assumption | exact H.out | exact Both.call (by assumption) (by assumption) | fail)
      (first
      | (go_at_call 10; refine (HC.out.1 _).mono ?_; rintro e w8 ⟨rfl, b8⟩)
      | (go_at_call 12; refine (HC.out.2.1 _).mono ?_; rintro e w9 ⟨rfl, b9⟩)
      | (go_at_call 13; refine (end_empty (Both.rd (by assumption))).mono ?_; rintro e w' ⟨rfl, rfl⟩))
    have H9 := Both.call (Both.call H.out b8) b9
    clear H b8 b9
    replace H9 := Hid.mk H9.2.2.1.2.2
    go_wp2_with fail
    go_ret
    exact ⟨rfl, H9.out⟩
end Go.Proofs.Ytnokdhdglcnneaa
