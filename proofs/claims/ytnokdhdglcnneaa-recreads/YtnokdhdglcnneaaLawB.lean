/-
  The walk of the law RecReads. No condition.
-/
import Derived.Test.YtnokdhdglcnneaaBytes
namespace Go.Proofs.Ytnokdhdglcnneaa
open Go Go.RowKit

/-- what the law's walk knows of its text: E the error, x the record, Q what is left on the program's side, A what is left on the answer's -/
structure Tk (s : ByteArray) (E : Int) (x0 x1 x2 x3 x4 x5 : Int) (Q : ByteArray) (e : Int) (A : ByteArray) : Prop where
  take : ∀ w g, Rd w g s 0 → Calls Try.prog 11 #[.pointer (some ⟨g, 0, none⟩)] w fun x w' => x = .returned (.tuple #[rv x0 x1 x2 x3 x4 x5, .int .i64 E]) ∧ Rd w' g Q e ∧ w.grownBy w' (some g)
  ref : ∀ w, Calls Try.prog 14 #[.agg #[.string s, .int .i64 0]] w fun x w' => x = .returned (.tuple #[.agg #[.string A, .int .i64 E], rv x0 x1 x2 x3 x4 x5]) ∧ Below w.heap.size w w'
  left : E = 0 → Q = A ∧ ∃ B : ByteArray, B ++ A = s ∧ ∀ w, Calls Try.prog 10 #[rv x0 x1 x2 x3 x4 x5] w fun x w' => x = .returned (.string B) ∧ Below w.heap.size w w'
theorem tk_any (s : ByteArray) : ∃ E x0 x1 x2 x3 x4 x5 Q e A, Tk s E x0 x1 x2 x3 x4 x5 Q e A := by
  have h6 : (tkR s 0).length = 6 := by
    unfold tkR
    split
    · exact laySet_len _ _ _
    · rfl
  obtain ⟨x0, x1, x2, x3, x4, x5, hx⟩ := six h6
  refine ⟨tkE s 0, x0, x1, x2, x3, x4, x5, (tkQ s 0).1, (tkQ s 0).2.1, (rtQ s 0).1, ⟨fun w g h => ?_, fun w => ?_, fun h => ?_⟩⟩
  · have q := take_any h
    rw [hx] at q
    exact q
  · have q := refTake_any s 0 w
    rw [rtL_same, rtQ_err, hx] at q
    exact q
  · refine ⟨(rtQ_left s 0 h).symm, ?_⟩
    obtain ⟨K, S, P, A, T, N, e1, e2, e3⟩ := tk_back s h
    rw [hx] at e1
    obtain ⟨rfl, rfl, rfl, rfl, rfl, rfl⟩ : x0 = K ∧ x1 = S ∧ x2 = P ∧ x3 = A ∧ x4 = T ∧ x5 = N := by simpa using e1
    exact ⟨_, by rw [rtQ_left s 0 h]; exact e3, fun w => putMay_any e2 w⟩
/-- what the law holds: the record taken off, the answer's reader and record, the program's reader -/
structure Rr (w : World) (X Y Z G : Nat) (x0 x1 x2 x3 x4 x5 : Int) (A : ByteArray) (E : Int) (Q : ByteArray) (e : Int) (w' : World) : Prop where
  x : Row w' X 23 .i64 [x0, x1, x2, x3, x4, x5]
  y : Ab w' Y A E
  z : Row w' Z 23 .i64 [x0, x1, x2, x3, x4, x5]
  rd : Rd w' G Q e
  below : Below w.heap.size w w'
theorem Rr.call {w X Y Z G x0 x1 x2 x3 x4 x5 A E Q e w1 w2} (h : Rr w X Y Z G x0 x1 x2 x3 x4 x5 A E Q e w1) (b : Below w1.heap.size w1 w2) : Rr w X Y Z G x0 x1 x2 x3 x4 x5 A E Q e w2 :=
  ⟨h.x.call b, h.y.call b, h.z.call b, h.rd.call b, below3 h.below b⟩
theorem Rr.drew {w X Y Z G x0 x1 x2 x3 x4 x5 A E Q e w1} (h : Rr w X Y Z G x0 x1 x2 x3 x4 x5 A E Q e w1) : Rr w X Y Z G x0 x1 x2 x3 x4 x5 A E Q e w1.drew := h.call (Below.refl _ w1).drew
theorem Rr.mk2 {w w3 : World} {X G x0 x1 x2 x3 x4 x5} {A : ByteArray} {E : Int} {Q e} (hx : Row w3 X 23 .i64 [x0, x1, x2, x3, x4, x5]) (hr : Rd w3 G Q e) (hb : Below w.heap.size w w3) :
    Rr w X w3.heap.size (w3.heap.size + 1) G x0 x1 x2 x3 x4 x5 A E Q e ((w3.alloc (.cells #[.string A, .int .i64 E] 34)).alloc (.cells #[.int .i64 x0, .int .i64 x1, .int .i64 x2, .int .i64 x3, .int .i64 x4, .int .i64 x5] 23)) :=
  ⟨(hx.alloc _).alloc _, (Ab.fresh w3 A E).alloc _, Row.fresh1 w3 _ 23 .i64 [x0, x1, x2, x3, x4, x5], (hr.alloc _).alloc _, (hb.alloc hb.size _).alloc (by rw [size_alloc]; have := hb.size; omega) _⟩
/-- the facts that the last region reads -/
def Rs (w : World) (X Y Z G : Nat) (x0 x1 x2 x3 x4 x5 : Int) (A : ByteArray) (E : Int) (Q : ByteArray) (e : Int) (w' : World) : Prop :=
  (w'.cell? ⟨X, 0, none⟩ = some (.int .i64 x0) ∧ w'.cell? ⟨X, 1, none⟩ = some (.int .i64 x1) ∧ w'.cell? ⟨X, 2, none⟩ = some (.int .i64 x2) ∧ w'.cell? ⟨X, 3, none⟩ = some (.int .i64 x3) ∧ w'.cell? ⟨X, 4, none⟩ = some (.int .i64 x4) ∧ w'.cell? ⟨X, 5, none⟩ = some (.int .i64 x5)) ∧ w'.cell? ⟨Y, 0, none⟩ = some (.string A) ∧ Rr w X Y Z G x0 x1 x2 x3 x4 x5 A E Q e w'
theorem Rr.rs {w X Y Z G x0 x1 x2 x3 x4 x5 A E Q e w1} (h : Rr w X Y Z G x0 x1 x2 x3 x4 x5 A E Q e w1) : Rs w X Y Z G x0 x1 x2 x3 x4 x5 A E Q e w1 := ⟨h.x.six, h.y.rest, h⟩
theorem Rs.rr {w X Y Z G x0 x1 x2 x3 x4 x5 A E Q e w1} (h : Rs w X Y Z G x0 x1 x2 x3 x4 x5 A E Q e w1) : Rr w X Y Z G x0 x1 x2 x3 x4 x5 A E Q e w1 := h.2.2
set_option maxHeartbeats 2000000 in
theorem recReads_any (t : ByteArray) (w : World) : Calls Try.prog 4 #[.string t] w fun e w' => e = .returned (.bool true) ∧ Below w.heap.size w w' := by
  by_cases ht : 100 < t.size
  · go_enter Try.func4, Try.ntmps4
    go_upto_region 2 with fail
    have hsz : (t.extract 0 100).size ≤ 100 := by rw [ByteArray.size_extract]; omega
    obtain ⟨E, x0, x1, x2, x3, x4, x5, Q, e, A, F⟩ := tk_any (t.extract 0 100)
    generalize t.extract 0 100 = s at *
    replace F := Hid.mk F
    go_upto_region 3 with (go_at_call 9; refine (new_any _ _).mono ?_; rintro x w1 ⟨rfl, r1, b1⟩)
    have H := Hid.mk (And.intro r1 b1)
    clear r1 b1
    go_upto_region 4 with (go_at_call 11; refine (F.out.take _ _ H.out.1).mono ?_; rintro x w2 ⟨rfl, r2, g2⟩; unfold rv)
    have p1 : Row (w2.alloc (.cells #[.int .i64 x0, .int .i64 x1, .int .i64 x2, .int .i64 x3, .int .i64 x4, .int .i64 x5] 23)) w2.heap.size 23 .i64 [x0, x1, x2, x3, x4, x5] := Row.fresh w2 23 .i64 [x0, x1, x2, x3, x4, x5]
    have p2 := r2.alloc (.cells #[.int .i64 x0, .int .i64 x1, .int .i64 x2, .int .i64 x3, .int .i64 x4, .int .i64 x5] 23)
    have p3 : Below w.heap.size w (w2.alloc (.cells #[.int .i64 x0, .int .i64 x1, .int .i64 x2, .int .i64 x3, .int .i64 x4, .int .i64 x5] 23)) := (below_grown H.out.2 g2 H.out.2.size (Nat.le_refl _)).alloc (below_grown H.out.2 g2 H.out.2.size (Nat.le_refl _)).size _
    replace H := Hid.mk (And.intro p1 (And.intro p2 p3))
    clear r2 g2 p1 p2 p3
    generalize (w2.alloc (.cells #[.int .i64 x0, .int .i64 x1, .int .i64 x2, .int .i64 x3, .int .i64 x4, .int .i64 x5] 23)) = W2 at *
    generalize w2.heap.size = X at *
    go_upto_region 5 with (go_at_call 14; refine (F.out.ref _).mono ?_; rintro x w3 ⟨rfl, b3⟩; unfold rv)
    have R : Rr w X w3.heap.size (w3.heap.size + 1) w.heap.size x0 x1 x2 x3 x4 x5 A E Q e _ := Rr.mk2 (H.out.1.call b3) (H.out.2.1.call b3) (below3 H.out.2.2 b3)
    clear H b3
    generalize ((w3.alloc (.cells #[.string A, .int .i64 E] 34)).alloc (.cells #[.int .i64 x0, .int .i64 x1, .int .i64 x2, .int .i64 x3, .int .i64 x4, .int .i64 x5] 23)) = W3 at *
    generalize w3.heap.size = Y at *
    generalize Y + 1 = Z at *
    replace R := Hid.mk R
    go_upto_region 7 with (go_at_call 6; refine (awake_any _).mono ?_; rintro x w4 ⟨rfl, b4⟩; replace R := Hid.mk (R.out.call b4); clear b4; obtain ⟨c0, c1, c2, c3, c4, c5⟩ := R.out.x.six; obtain ⟨d0, d1, d2, d3, d4, d5⟩ := R.out.z.six; have y1 := R.out.y.err)
    clear c0 c1 c2 c3 c4 c5 d0 d1 d2 d3 d4 d5 y1
    by_cases hE : E = 0
    · subst hE
      obtain ⟨rfl, B, hB, hput⟩ := F.out.left rfl
      have hz : B.size + Q.size = s.size := by rw [← hB, ByteArray.size_append]
      have hz1 : B.size ≤ 100 := by omega
      have hz2 : Q.size ≤ 100 := by omega
      have hq : ((B ++ Q).toList == s.toList) = true := by rw [hB]; simp
      have hadd : ¬ 9223372036854775807 < B.size + Q.size := by omega
      replace hput := Hid.mk hput
      have HB := Hid.mk hB
      clear hB hz F
      have R0 := Hid.mk R.out.drew.rs
      unfold Rs at R0
      go_region_held3 (fun w' => (w'.cell? ⟨X, 0, none⟩ = some (.int .i64 x0) ∧ w'.cell? ⟨X, 1, none⟩ = some (.int .i64 x1) ∧ w'.cell? ⟨X, 2, none⟩ = some (.int .i64 x2) ∧ w'.cell? ⟨X, 3, none⟩ = some (.int .i64 x3) ∧ w'.cell? ⟨X, 4, none⟩ = some (.int .i64 x4) ∧ w'.cell? ⟨X, 5, none⟩ = some (.int .i64 x5)) ∧ w'.cell? ⟨Y, 0, none⟩ = some (.string Q) ∧ Rr w X Y Z w.heap.size x0 x1 x2 x3 x4 x5 Q 0 Q e w')
        (first | assumption | exact R0.out | exact (Rr.call (Rs.rr (by assumption)) (by assumption)).rs | fail)
        (first
        | (go_at_call 15; refine (left_any (Rr.rd (Rs.rr (by assumption)))).mono ?_; rintro x w' ⟨rfl, rfl⟩)
        | (go_at_call 10; refine (hput.out _).mono ?_; rintro x w5 ⟨rfl, b5⟩))
      have R5 := Hid.mk (Rr.call (Rs.rr R0.out) b5)
      clear R0 b5
      go_wp2_with fail
      go_ret
      exact ⟨rfl, R5.out.below⟩
    · have hne : (E != 0) = true := by simpa using hE
      have R0 := Hid.mk R.out.below.drew
      clear F
      go_region
      go_wp2_with fail
      go_ret
      exact ⟨rfl, R0.out⟩
  · go_enter Try.func4, Try.ntmps4
    go_upto_region 2 with fail
    have hsz : (t).size ≤ 100 := by omega
    obtain ⟨E, x0, x1, x2, x3, x4, x5, Q, e, A, F⟩ := tk_any (t)
    replace F := Hid.mk F
    go_upto_region 3 with (go_at_call 9; refine (new_any _ _).mono ?_; rintro x w1 ⟨rfl, r1, b1⟩)
    have H := Hid.mk (And.intro r1 b1)
    clear r1 b1
    go_upto_region 4 with (go_at_call 11; refine (F.out.take _ _ H.out.1).mono ?_; rintro x w2 ⟨rfl, r2, g2⟩; unfold rv)
    have p1 : Row (w2.alloc (.cells #[.int .i64 x0, .int .i64 x1, .int .i64 x2, .int .i64 x3, .int .i64 x4, .int .i64 x5] 23)) w2.heap.size 23 .i64 [x0, x1, x2, x3, x4, x5] := Row.fresh w2 23 .i64 [x0, x1, x2, x3, x4, x5]
    have p2 := r2.alloc (.cells #[.int .i64 x0, .int .i64 x1, .int .i64 x2, .int .i64 x3, .int .i64 x4, .int .i64 x5] 23)
    have p3 : Below w.heap.size w (w2.alloc (.cells #[.int .i64 x0, .int .i64 x1, .int .i64 x2, .int .i64 x3, .int .i64 x4, .int .i64 x5] 23)) := (below_grown H.out.2 g2 H.out.2.size (Nat.le_refl _)).alloc (below_grown H.out.2 g2 H.out.2.size (Nat.le_refl _)).size _
    replace H := Hid.mk (And.intro p1 (And.intro p2 p3))
    clear r2 g2 p1 p2 p3
    generalize (w2.alloc (.cells #[.int .i64 x0, .int .i64 x1, .int .i64 x2, .int .i64 x3, .int .i64 x4, .int .i64 x5] 23)) = W2 at *
    generalize w2.heap.size = X at *
    go_upto_region 5 with (go_at_call 14; refine (F.out.ref _).mono ?_; rintro x w3 ⟨rfl, b3⟩; unfold rv)
    have R : Rr w X w3.heap.size (w3.heap.size + 1) w.heap.size x0 x1 x2 x3 x4 x5 A E Q e _ := Rr.mk2 (H.out.1.call b3) (H.out.2.1.call b3) (below3 H.out.2.2 b3)
    clear H b3
    generalize ((w3.alloc (.cells #[.string A, .int .i64 E] 34)).alloc (.cells #[.int .i64 x0, .int .i64 x1, .int .i64 x2, .int .i64 x3, .int .i64 x4, .int .i64 x5] 23)) = W3 at *
    generalize w3.heap.size = Y at *
    generalize Y + 1 = Z at *
    replace R := Hid.mk R
    go_upto_region 7 with (go_at_call 6; refine (awake_any _).mono ?_; rintro x w4 ⟨rfl, b4⟩; replace R := Hid.mk (R.out.call b4); clear b4; obtain ⟨c0, c1, c2, c3, c4, c5⟩ := R.out.x.six; obtain ⟨d0, d1, d2, d3, d4, d5⟩ := R.out.z.six; have y1 := R.out.y.err)
    clear c0 c1 c2 c3 c4 c5 d0 d1 d2 d3 d4 d5 y1
    by_cases hE : E = 0
    · subst hE
      obtain ⟨rfl, B, hB, hput⟩ := F.out.left rfl
      have hz : B.size + Q.size = t.size := by rw [← hB, ByteArray.size_append]
      have hz1 : B.size ≤ 100 := by omega
      have hz2 : Q.size ≤ 100 := by omega
      have hq : ((B ++ Q).toList == t.toList) = true := by rw [hB]; simp
      have hadd : ¬ 9223372036854775807 < B.size + Q.size := by omega
      replace hput := Hid.mk hput
      have HB := Hid.mk hB
      clear hB hz F
      have R0 := Hid.mk R.out.drew.rs
      unfold Rs at R0
      go_region_held3 (fun w' => (w'.cell? ⟨X, 0, none⟩ = some (.int .i64 x0) ∧ w'.cell? ⟨X, 1, none⟩ = some (.int .i64 x1) ∧ w'.cell? ⟨X, 2, none⟩ = some (.int .i64 x2) ∧ w'.cell? ⟨X, 3, none⟩ = some (.int .i64 x3) ∧ w'.cell? ⟨X, 4, none⟩ = some (.int .i64 x4) ∧ w'.cell? ⟨X, 5, none⟩ = some (.int .i64 x5)) ∧ w'.cell? ⟨Y, 0, none⟩ = some (.string Q) ∧ Rr w X Y Z w.heap.size x0 x1 x2 x3 x4 x5 Q 0 Q e w')
        (first | assumption | exact R0.out | exact (Rr.call (Rs.rr (by assumption)) (by assumption)).rs | fail)
        (first
        | (go_at_call 15; refine (left_any (Rr.rd (Rs.rr (by assumption)))).mono ?_; rintro x w' ⟨rfl, rfl⟩)
        | (go_at_call 10; refine (hput.out _).mono ?_; rintro x w5 ⟨rfl, b5⟩))
      have R5 := Hid.mk (Rr.call (Rs.rr R0.out) b5)
      clear R0 b5
      go_wp2_with fail
      go_ret
      exact ⟨rfl, R5.out.below⟩
    · have hne : (E != 0) = true := by simpa using hE
      have R0 := Hid.mk R.out.below.drew
      clear F
      go_region
      go_wp2_with fail
      go_ret
      exact ⟨rfl, R0.out⟩
end Go.Proofs.Ytnokdhdglcnneaa
