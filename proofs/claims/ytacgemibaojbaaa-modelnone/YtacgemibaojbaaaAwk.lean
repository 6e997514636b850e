/-
  The law's room; a page there and back (awake); ModelNone's walk. No condition.
-/
import Derived.Test.YtacgemibaojbaaaPud
import Derived.Test.YtacgemibaojbaaaAll
import Derived.Laws.ResultCell
namespace Go.Proofs.Ytacgemibaojbaaa
open Go Go.RowKit Go.Maps

def rPl (n : Int) : Int := wrap64 (1 + bits BinOp.and IntKind.i64 n 15)
def rKs (n : Int) : Int := wrap64 (2 + bits BinOp.and IntKind.i64 (wrap64 (2 * n)) 31)
theorem cells24 : (Try.prog.info? 24).map (·.size) = some 4 := by kernel_rfl
set_option maxRecDepth 20000 in
theorem room_any (w : World) (n : Int) : Calls Try.prog 6 #[.int .i64 n] w fun e w' => e = .returned (.agg #[.int .i64 (rPl n), .int .i64 (rKs n), .int .i64 0, .int .i64 0]) ∧ Below w.heap.size w w' := by
  go_enter Try.func6, Try.ntmps6
  go_wp2_with fail
  have hg := heap_alloc_new w (.cells #[.int .i64 (rPl n), .int .i64 (rKs n), .int .i64 0, .int .i64 0] 24)
  refine bodyPost_ret (results_cell_row rfl _ _ w.heap.size 24 #[.int .i64 (rPl n), .int .i64 (rKs n), .int .i64 0, .int .i64 0] (0, 0) _ rfl hg Try.underlying24 rfl cells24) rfl ?_
  exact ⟨rfl, below_box w _⟩
/-- a page there and back, state by state -/
def wT : ByteArray := ⟨#[116, 101, 120, 116]⟩
def w0 : MX := newX 10 20 0 0 64
def w1 : MX := (beginX w0).1
def w2 : MX := (doX w1 4 1 0 0 0 4).1
def w3 : MX := (putX w2 1 0 wT).1
def w4 : MX := (commitX w3).1
theorem e1 : beginX w0 = (w1, 0) := rfl
set_option maxRecDepth 20000 in
theorem e2 : doX w1 4 1 0 0 0 4 = (w2, 0) := rfl
set_option maxRecDepth 20000 in
theorem e3 : putX w2 1 0 wT = (w3, 0) := rfl
set_option maxRecDepth 20000 in
theorem e4 : commitX w3 = (w4, 0) := rfl
set_option maxRecDepth 20000 in
theorem e5 : getM w4 1 0 = some 1 := rfl
theorem e6 : w4.L 1 = wT := rfl
theorem r9 : rPl 9 = 10 ∧ rKs 9 = 20 := by decide +kernel
/-- a plain device whose struct lies above -/
def MxA (B g : Nat) (X : MX) (w w' : World) : Prop := (∃ bS bO fS fO, MxH g X bS bO fS fO w') ∧ Below B w w' ∧ B ≤ g ∧ B ≤ w'.heap.size
theorem MxA.did {B g X w w' e w2 r} (h : MxA B g X w w') (k : MxD g r w' e w2) : MxA B g r.1 w w2 :=
  ⟨k.2.1, h.2.1.grown k.2.2 h.2.2.2 (fun j hj => by cases hj; exact h.2.2.1), h.2.2.1, Nat.le_trans h.2.2.2 k.2.2.size⟩
theorem MxA.call {B g X w w' w2} (h : MxA B g X w w') (b : Below w'.heap.size w' w2) : MxA B g X w w2 := by
  obtain ⟨⟨_, _, _, _, h1⟩, h2, h3, h4⟩ := h
  exact ⟨⟨_, _, _, _, h1.call b⟩, h2.trans (b.mono h4), h3, Nat.le_trans h4 b.size⟩
theorem MxA.made {w w' g X bS bO fS fO} (h : MxH g X bS bO fS fO w') (b : Below w.heap.size w w') (hg : w.heap.size ≤ g) : MxA w.heap.size g X w w' := ⟨⟨_, _, _, _, h⟩, b, hg, b.size⟩
theorem leaves_len {g X bS bO fS fO w} (h : MxH g X bS bO fS fO w) : Calls Try.prog 18 #[.pointer (some ⟨g, 0, none⟩)] w fun e w' => ∃ a cap, e = .returned (.slice a (lvA (nowL X)).length cap) ∧ Ow w' w.heap.size 62 3 (.slice a (lvA (nowL X)).length cap) ((lvA (nowL X)).map (lfR X.L)) ∧ Below w.heap.size w w' := by
  refine (leavesM_any h).mono ?_
  rintro e w' ⟨v, rfl, o, b⟩
  obtain ⟨a, c, rfl⟩ := o.form
  rw [List.length_map] at o ⊢
  exact ⟨a, c, rfl, o, b⟩
theorem spaces_len {g X bS bO fS fO w} (h : MxH g X bS bO fS fO w) : Calls Try.prog 19 #[.pointer (some ⟨g, 0, none⟩)] w fun e w' => ∃ a cap, e = .returned (.slice a (nowL X).length cap) ∧ Ow w' w.heap.size 64 4 (.slice a (nowL X).length cap) ((nowL X).map svR) ∧ Below w.heap.size w w' := by
  refine (spacesM_any h).mono ?_
  rintro e w' ⟨v, rfl, o, b⟩
  obtain ⟨a, c, rfl⟩ := o.form
  rw [List.length_map] at o ⊢
  exact ⟨a, c, rfl, o, b⟩
set_option maxRecDepth 20000 in
set_option maxHeartbeats 2000000 in
theorem awake_any (w : World) : Calls Try.prog 8 #[] w fun e w' => e = .returned (.bool true) ∧ Below w.heap.size w w' := by
  have R := Hid.mk (room_any w 9)
  rw [r9.1, r9.2] at R
  have N := Hid.mk (fun W => new_any W 10 20 0 0 64)
  go_enter Try.func8, Try.ntmps8
  go_upto_region 2 with (first
    | (go_at_call 6; refine R.out.mono ?_; rintro e W1 ⟨rfl, b1⟩)
    | (go_at_call 7; refine (N.out _).mono ?_; rintro e W2 ⟨g, bS, rfl, h2, hg2, b2⟩))
  have A2 : MxA w.heap.size g w0 w W2 := ⟨⟨_, _, _, _, h2⟩, below3 b1 b2, Nat.le_trans b1.size hg2, Nat.le_trans b1.size b2.size⟩
  have c1 := begin_any h2
  rw [show newX 10 20 0 0 64 = w0 from rfl, e1] at c1
  have C := Hid.mk (And.intro A2 c1)
  clear R N A2 c1 h2 hg2 b1 b2
  have c2 : ∀ W bS bO fS fO, MxH g w1 bS bO fS fO W → Calls Try.prog 13 #[.pointer (some ⟨g, 0, none⟩), rv 4 1 0 0 0 4] W (MxD g (w2, 0) W) := fun W bS bO fS fO h => by
    have := mdo_any h 4 1 0 0 0 4 (k64 (by omega) (by omega))
    rw [e2] at this
    exact this
  have c3 : ∀ W bS bO fS fO, MxH g w2 bS bO fS fO W → Calls Try.prog 12 #[.pointer (some ⟨g, 0, none⟩), .int .i64 1, .int .i64 0, .string wT] W (MxD g (w3, 0) W) := fun W bS bO fS fO h => by
    have := mput_any h (S := 1) (P := 0) (k64 (by omega) (by omega)) (k64 (by omega) (by omega)) (by decide) wT
    rw [e3] at this
    exact this
  have c4 : ∀ W bS bO fS fO, MxH g w3 bS bO fS fO W → Calls Try.prog 10 #[.pointer (some ⟨g, 0, none⟩)] W (MxD g (w4, 0) W) := fun W bS bO fS fO h => by
    have := commit_any h
    rw [e4] at this
    exact this
  have c5 : ∀ W bS bO fS fO, MxH g w4 bS bO fS fO W → Calls Try.prog 21 #[.pointer (some ⟨g, 0, none⟩), .int .i64 1, .int .i64 0] W fun e w' => e = .returned (.tuple #[.string wT, .int .i64 0]) ∧ Below W.heap.size W w' := fun W bS bO fS fO h => by
    have := get_any h (id := 1) (page := 0) (k64 (by omega) (by omega)) (k64 (by omega) (by omega))
    rw [e5] at this
    simp only [e6] at this
    exact this
  unfold rv at c2
  have hl : (lvA (nowL w4)).length = 1 := rfl
  have hs : (nowL w4).length = 1 := rfl
  have c6 : ∀ W bS bO fS fO, MxH g w4 bS bO fS fO W → Calls Try.prog 18 #[.pointer (some ⟨g, 0, none⟩)] W fun e w' => ∃ a cap, e = .returned (.slice a 1 cap) ∧ Below W.heap.size W w' := fun W bS bO fS fO h => by
    have := leaves_len h
    rw [hl] at this
    exact this.mono (fun e w' ⟨a, c, q, _, b⟩ => ⟨a, c, q, b⟩)
  have c7 : ∀ W bS bO fS fO, MxH g w4 bS bO fS fO W → Calls Try.prog 19 #[.pointer (some ⟨g, 0, none⟩)] W fun e w' => ∃ a cap, e = .returned (.slice a 1 cap) ∧ Below W.heap.size W w' := fun W bS bO fS fO h => by
    have := spaces_len h
    rw [hs] at this
    exact this.mono (fun e w' ⟨a, c, q, _, b⟩ => ⟨a, c, q, b⟩)
  unfold wT at c3 c5
  have D := Hid.mk (And.intro c2 (And.intro c3 (And.intro c4 (And.intro c5 (And.intro c6 c7)))))
  clear c2 c3 c4 c5 c6 c7
  go_upto_region 3 with (first
    | (go_at_call 9; refine C.out.2.mono ?_; intro e W3 d; have A3 := C.out.1.did d; obtain ⟨rfl, ⟨s3, t3, u3, v3, h3⟩, g3⟩ := d)
    | (go_at_call 13; refine (D.out.1 _ _ _ _ _ h3).mono ?_; intro e W4 d; have A4 := A3.did d; obtain ⟨rfl, ⟨s4, t4, u4, v4, h4⟩, g4⟩ := d)
    | (go_at_call 12; refine (D.out.2.1 _ _ _ _ _ h4).mono ?_; intro e W5 d; have A5 := A4.did d; obtain ⟨rfl, ⟨s5, t5, u5, v5, h5⟩, g5⟩ := d)
    | (go_at_call 10; refine (D.out.2.2.1 _ _ _ _ _ h5).mono ?_; intro e W6 d; have A6 := A5.did d; obtain ⟨rfl, ⟨s6, t6, u6, v6, h6⟩, g6⟩ := d))
  have K := Hid.mk (And.intro A6 h6)
  clear A3 A4 A5 A6 h3 h4 h5 h6 g3 g4 g5 g6 C hl hs
  go_wp2_with (first
    | (go_at_call 21; refine (D.out.2.2.2.1 _ _ _ _ _ K.out.2).mono ?_; rintro e W7 ⟨rfl, b7⟩)
    | (go_at_call 18; refine (D.out.2.2.2.2.1 _ _ _ _ _ (K.out.2.call b7)).mono ?_; rintro e W8 ⟨a8, n8, rfl, b8⟩)
    | (go_at_call 19; refine (D.out.2.2.2.2.2 _ _ _ _ _ (K.out.2.call (below3 b7 b8))).mono ?_; rintro e W9 ⟨a9, n9, rfl, b9⟩))
  go_ret
  exact ⟨rfl, K.out.1.2.1.trans ((below3 (below3 b7 b8) b9).mono K.out.1.2.2.2)⟩
end Go.Proofs.Ytacgemibaojbaaa
