/-
  The walks of retire and leave. No condition.
-/
import Derived.Test.YtbcnocbdifbocaaDoorPrg
namespace Go.Proofs.YtbcnocbdifbocaaDoor
open Go Go.RowKit
set_option maxRecDepth 100000

/-- a writer that lies now there -/
structure Nxt (A A' : Wl) (B : Nat) (w w' : World) : Prop where
  kp : Kp (A.own B) w w'
  own : ∀ i, A'.own B i → A.own B i ∨ w.heap.size ≤ i
  a : A'.a = A.a
  L : A'.L = A.L
  la : A'.la = A.la
  lo : A'.lo = A.lo
  lg : A'.lg = A.lg
theorem Nxt.of {A : Wl} {B : Nat} {w w' : World} (k : Kp (A.own B) w w') : Nxt A A B w w' := ⟨k, fun _ h => .inl h, rfl, rfl, rfl, rfl, rfl⟩
theorem Nxt.trans {A A' A'' : Wl} {B : Nat} {w w' w'' : World} (h : Nxt A A' B w w') (k : Nxt A' A'' B w' w'') : Nxt A A'' B w w'' := by
  refine ⟨⟨k.kp.os.trans h.kp.os, k.kp.tape.trans h.kp.tape, k.kp.output.trans h.kp.output, Nat.le_trans h.kp.size k.kp.size, fun i hi hn => ?_⟩, fun i hi => ?_, k.a.trans h.a, k.L.trans h.L, k.la.trans h.la, k.lo.trans h.lo, k.lg.trans h.lg⟩
  · exact (k.kp.block i (Nat.lt_of_lt_of_le hi h.kp.size) (fun x => (h.own i x).elim hn (fun y => by omega))).trans (h.kp.block i hi hn)
  · rcases k.own i hi with x | x
    · exact h.own i x
    · exact .inr (Nat.le_trans h.kp.size x)
/-- a block is let be something else; a bad one stays so -/
def letX (xs : List Int) (b : Nat) (v : Int) : List Int := if xs.getD b 0 = 3 then xs else xs.set b v
def letO (xs : List Int) (o : Int) (b : Nat) : Int := if xs.getD b 0 = 3 then o else if o = b then -1 else o
def Wx.letB (X : Wx) (b : Nat) (v : Int) : Wx := { X with xs := letX X.xs b v, o := letO X.xs X.o b }
theorem let_any {w : World} {A X} (h : Wtr w A X) (b : Nat) (hb : b < X.C.B) (v : Int) (hv : 0 ≤ v ∧ v ≤ 3) (h1 : v ≠ 1) : Calls Tryd.prog 37 #[.pointer (some ⟨A.la, 0, none⟩), .int .i64 b, .int .i64 v] w fun e w' =>
    e = .returned (.bool (decide (X.xs.getD b 0 ≠ 3))) ∧ Wtr w' A (X.letB b v) ∧ Kp (A.own X.C.B) w w' := by
  unfold Wx.letB letX letO
  have hl := h.lif.ok.len
  by_cases hx : X.xs.getD b 0 = 3
  · rw [if_pos hx, if_pos hx, decide_eq_false (fun x => x hx)]
    refine (Lf.let_no h.lif b (.inr (by rw [Lf.isL_in X.xs b (by omega)]; exact hx)) v).mono ?_
    rintro e w' ⟨rfl, rfl⟩
    exact ⟨rfl, h, Kp.refl _ _⟩
  · rw [if_neg hx, if_neg hx, decide_eq_true hx]
    refine (Lf.let_yes h.lif b hb hx v hv h1).mono ?_
    rintro e w' ⟨rfl, hl, hk⟩
    exact ⟨rfl, h.lifTo hl hk, h.kL hk⟩
theorem Ints.form3 {w : World} {B v l} (h : Ints w B v l) : ∃ a n c, v = .slice a n c := by
  obtain ⟨a, c, e⟩ := h.form
  exact ⟨a, _, c, e⟩
/-- noted once -/
def note (l : List Int) (b : Int) : List Int := if b ∈ l then l else l ++ [b]
def Wx.retire (X : Wx) (b : Nat) : Wx := { X.letB b 3 with bd := note X.bd b, C := (markC X.C b).1 }
theorem markC_geo (C : Ch) (b : Int) : (markC C b).1.B = C.B ∧ (markC C b).1.P = C.P := by
  unfold markC
  split
  · split <;> exact ⟨rfl, rfl⟩
  · exact ⟨rfl, rfl⟩
theorem Wtr.grownTop {w w1 : World} {A X} (h : Wtr w A X) (g : w.grownBy w1 A.bv.ownBlock) : w1.cell? ⟨A.a, 0, none⟩ = some (.pointer (some ⟨A.L.a, 0, none⟩)) ∧ w1.cell? ⟨A.a, 3, none⟩ = some A.bv ∧ w1.frozen? ⟨A.a, 3, none⟩ = false := by
  obtain ⟨c0, c1, c2, c3, f3⟩ := h.cells
  have e : w1.heap[A.a]? = w.heap[A.a]? := g.block A.a (h.lt _ (.inl rfl)) (fun x => h.dW.2.1 x.symm)
  exact ⟨(World.cell?_of_block (a := ⟨A.a, 0, none⟩) e).trans c0, (World.cell?_of_block (a := ⟨A.a, 3, none⟩) e).trans c3, (World.frozen?_of_block (a := ⟨A.a, 3, none⟩) e).trans f3⟩
theorem retire_any {w : World} {A X} (h : Wtr w A X) (b : Nat) (hb : b < X.C.B) (hd : X.C.did < 999999) (hl : X.bd.length ≤ 100000) : Calls Tryd.prog 35 #[.pointer (some ⟨A.a, 0, none⟩), .int .i64 b] w fun e w' =>
    e = .returned (.int .i64 (markC X.C b).2) ∧ ∃ A', Wtr w' A' (X.retire b) ∧ Nxt A A' X.C.B w w' := by
  unfold Wx.retire note
  have hlet := Hid.mk (Lf.bad_of (let_any h b hb 3 (by omega) (by omega)))
  obtain ⟨c0, c1, c2, c3, _⟩ := h.cells
  obtain ⟨ba, bc, hbv⟩ := h.bad.form
  have hge := markC_geo X.C b
  have HC := Hid.mk (And.intro hd (And.intro hl hge))
  have HV := Hid.mk hbv
  have hmk := Hid.mk (fun (w : World) (L : Ly) (hc : Chip w L X.C) => mark_any hc b hd)
  rw [hbv] at c3
  clear h hd hl hbv hge
  by_cases hm : (b : Int) ∈ X.bd
  · rw [if_pos hm]
    go_enter Tryd.func35, Tryd.ntmps35
    go_wp2_with (first
      | (go_at_call 55; refine hlet.out.mono ?_; rintro e w1 ⟨rfl, h1, k1⟩; obtain ⟨d0, d1, d2, d3, _⟩ := h1.cells; rw [HV.out] at d3; have H1 := Hid.mk (And.intro h1 k1); clear h1 k1)
      | (go_at_call 46; have hr := H1.out.1.bad; rw [HV.out] at hr; refine (contains_any hr.rds (Nat.le_trans HC.out.2.1 (by decide)) _ _).mono ?_; rintro e w2 ⟨rfl, rfl⟩; rw [show decide ((b : Int) ∈ (X.letB b 3).bd) = true from decide_eq_true hm]; clear hr)
      | (go_at_call 56; refine (hmk.out _ _ H1.out.1.chip).mono ?_; rintro e w3 ⟨rfl, h3, k3⟩))
    go_ret
    exact ⟨rfl, A, H1.out.1.chipTo h3 k3 HC.out.2.2.1 HC.out.2.2.2, Nxt.of (H1.out.2.trans (H1.out.1.kC k3))⟩
  · rw [if_neg hm]
    go_enter Tryd.func35, Tryd.ntmps35
    go_wp2_with (first
      | (go_at_call 55; refine hlet.out.mono ?_; rintro e w1 ⟨rfl, h1, k1⟩; obtain ⟨d0, d1, d2, d3, _⟩ := h1.cells; rw [HV.out] at d3; have H1 := Hid.mk (And.intro h1 k1); clear h1 k1)
      | (go_at_call 46; have hr := H1.out.1.bad; rw [HV.out] at hr; refine (contains_any hr.rds (Nat.le_trans HC.out.2.1 (by decide)) _ _).mono ?_; rintro e w2 ⟨rfl, rfl⟩; rw [show decide ((b : Int) ∈ (X.letB b 3).bd) = false from decide_eq_false hm]; clear hr)
      | (at_builtin; refine We.wp_app ei24 rfl _ _ rfl (HV.out ▸ H1.out.1.bad : We.Ow w2 A.lo 3 1 (.slice ba X.bd.length bc) (rowsI X.bd)) (Nat.le_trans (H1.out.1.low _ (.inl rfl)) (Nat.le_of_lt (H1.out.1.lt _ (.inl rfl)))) #[.int .i64 b] rfl rfl rfl (by simp [Value.oneCell']) (by rw [rowsI_len]; have := HC.out.2.1; omega) ?_; intro v3 w3 o3 g3 p3; rw [← HV.out] at g3 p3; obtain ⟨q0, q3, qf⟩ := H1.out.1.grownTop g3; have o4 : Ints w3 A.lo v3 (X.bd ++ [(b : Int)]) := (rowsI_app X.bd b ▸ o3 : We.Ow w3 A.lo 3 1 v3 (rowsI (X.bd ++ [(b : Int)]))); obtain ⟨va, vn, vc, rfl⟩ := o4.form3; have hb := H1.out.1.badTo o4 g3 (.inr p3); have H2 := Hid.mk hb; clear hb o3 o4 g3 p3 d0 d1 d2 d3)
      | (go_at_call 56; refine (hmk.out _ _ H2.out.1.chip).mono ?_; rintro e w4 ⟨rfl, h4, k4⟩))
    go_ret
    exact ⟨rfl, _, H2.out.1.chipTo h4 k4 HC.out.2.2.1 HC.out.2.2.2, (Nxt.of H1.out.2).trans ((⟨H2.out.2.1, H2.out.2.2, rfl, rfl, rfl, rfl, rfl⟩ : Nxt A _ X.C.B _ _).trans (Nxt.of (H2.out.1.kC k4)))⟩
/-- a page could not be written: what is left of the block -/
def Wx.leave (X : Wx) (b : Nat) (e : Int) : Wx := if e = 53 then X.retire b else if e = 52 then X.letB b 2 else X
def Wx.leaveE (X : Wx) (b : Nat) (e : Int) : Int := if e = 53 then (markC X.C b).2 else if e = 52 then 0 else e
theorem leave_any {w : World} {A X} (h : Wtr w A X) (b : Nat) (hb : b < X.C.B) (hd : X.C.did < 999999) (hl : X.bd.length ≤ 100000) (er : Int) : Calls Tryd.prog 41 #[.pointer (some ⟨A.a, 0, none⟩), .int .i64 b, .int .i64 er] w fun e w' =>
    e = .returned (.int .i64 (X.leaveE b er)) ∧ ∃ A', Wtr w' A' (X.leave b er) ∧ Nxt A A' X.C.B w w' := by
  unfold Wx.leave Wx.leaveE
  by_cases h3 : er = 53
  · subst h3
    have HR := Hid.mk (retire_any h b hb hd hl)
    rw [if_pos rfl, if_pos rfl]
    clear h
    go_enter Tryd.func41, Tryd.ntmps41
    go_wp2_with (go_at_call 35; refine HR.out.mono ?_; rintro e w1 ⟨rfl, h1⟩)
    go_ret
    exact ⟨rfl, h1⟩
  · rw [if_neg h3, if_neg h3]
    by_cases h2 : er = 52
    · subst h2
      have HF := Hid.mk (Lf.full_of (let_any h b hb 2 (by omega) (by omega)))
      obtain ⟨c0, c1, c2, c3, _⟩ := h.cells
      rw [if_pos rfl, if_pos rfl]
      clear h
      go_enter Tryd.func41, Tryd.ntmps41
      go_wp2_with (go_at_call 17; refine HF.out.mono ?_; rintro e w1 ⟨rfl, h1, k1⟩)
      go_ret
      exact ⟨rfl, A, h1, Nxt.of k1⟩
    · rw [if_neg h2, if_neg h2]
      have H := Hid.mk h
      clear h
      go_enter Tryd.func41, Tryd.ntmps41
      go_wp2_with fail
      go_ret
      exact ⟨rfl, A, H.out, Nxt.of (Kp.refl _ _)⟩
end Go.Proofs.YtbcnocbdifbocaaDoor
