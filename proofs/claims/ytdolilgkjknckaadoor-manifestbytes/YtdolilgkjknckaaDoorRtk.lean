/-
  A manifest off the answer's reader (23). No condition.
-/
import Derived.Test.YtdolilgkjknckaaDoorTke
namespace Go.Proofs.YtdolilgkjknckaaDoor
open Go Go.RowKit
set_option maxRecDepth 100000
theorem results_cells {fn : Func} {p q : Tmp} {t u : TypeId} (h : fn.results = #[.cell p t, .cell q u]) (tmps : Array Value) (P : Program) (w : World) :
    (results fn tmps).run P w =
      ((asAddr (tmps.getD p undef)).run P w).andThen fun a w₁ => ((loadVar t a).run P w₁).andThen fun x w₂ => ((asAddr (tmps.getD q undef)).run P w₂).andThen fun b w₃ => ((loadVar u b).run P w₃).andThen fun y w₄ => .ok (.tuple #[x, y]) w₄ := by
  simp only [results, h]
  simp [Sem.run_bind, Result.andThen]
theorem am_result {fn : Func} {p q : Tmp} (h : fn.results = #[.cell p 42, .cell q 23]) {tmps : Array Value} {w : World} {g1 g2 s e v l d} (hp : tmps.getD p undef = .pointer (some ⟨g1, 0, none⟩)) (hq : tmps.getD q undef = .pointer (some ⟨g2, 0, none⟩))
    (ha : Ab w g1 s e) (hm : Mf w g2 v l d) : (results fn tmps).run Tryd.prog w = .ok (.tuple #[.agg #[.string s, .int .i64 e], mv v l d]) w := by
  rw [results_cells h, hp, hq]
  simp only [asAddr, Sem.run_pure, Result.andThen, ab_load ha, mf_load hm]
theorem Ab.other {w : World} {g s e} (h : Ab w g s e) (p : Addr) (hp : g ≠ p.block) (u : Value) : Ab (w.setCell p u) g s e := (Below.heap_setCell w p u g hp).trans h
theorem Mf.other {w : World} {g v l d} (h : Mf w g v l d) (p : Addr) (hp : g ≠ p.block) (u : Value) : Mf (w.setCell p u) g v l d := (Below.heap_setCell w p u g hp).trans h
/-- what is held between the calls -/
def AS (w : World) (s : ByteArray) (e : Int) (w' : World) : Prop := Ab w' w.heap.size s e ∧ Ab w' (w.heap.size + 1) ⟨#[]⟩ 0 ∧ Mf w' (w.heap.size + 1 + 1) 0 0 ⟨#[]⟩ ∧ Below w.heap.size w w'
theorem AS.call {w w1 w2 : World} {s e} (h : AS w s e w1) (b : Below w1.heap.size w1 w2) : AS w s e w2 := ⟨h.1.call b, h.2.1.call b, h.2.2.1.call b, below3 h.2.2.2 b⟩
theorem AS.set {w w1 : World} {s e} (h : AS w s e w1) (t : ByteArray) (k : Int) : AS w t k ((w1.setCell ⟨w.heap.size, 0, none⟩ (.string t)).setCell ⟨w.heap.size, 1, none⟩ (.int .i64 k)) :=
  ⟨h.1.set t k, (h.2.1.other _ (show w.heap.size + 1 ≠ w.heap.size by omega) _).other _ (show w.heap.size + 1 ≠ w.heap.size by omega) _, (h.2.2.1.other _ (show w.heap.size + 1 + 1 ≠ w.heap.size by omega) _).other _ (show w.heap.size + 1 + 1 ≠ w.heap.size by omega) _,
    (h.2.2.2.setCell (Nat.le_refl _) _).setCell (Nat.le_refl _) _⟩
theorem as_fresh (w : World) (s : ByteArray) (e : Int) : AS w s e (((w.alloc (.cells #[.string s, .int .i64 e] 42)).alloc (.cells #[.string ⟨#[]⟩, .int .i64 0] 42)).alloc (.cells #[.int .i64 0, .int .i64 0, .string ⟨#[]⟩] 23)) := by
  have h2 := Ab.fresh (w.alloc (.cells #[.string s, .int .i64 e] 42)) ⟨#[]⟩ 0
  have h3 := Mf.fresh ((w.alloc (.cells #[.string s, .int .i64 e] 42)).alloc (.cells #[.string ⟨#[]⟩, .int .i64 0] 42)) 0 0 ⟨#[]⟩
  rw [size_alloc] at h2
  rw [size_alloc, size_alloc] at h3
  exact ⟨((Ab.fresh w s e).alloc _).alloc _, h2.alloc _, h3, (below_two w _ _).alloc (by rw [size_alloc, size_alloc]; omega) _⟩
theorem refTake_any (s : ByteArray) (e : Int) (w : World) : Calls Tryd.prog 23 #[.agg #[.string s, .int .i64 e]] w fun x w' =>
    x = .returned (.tuple #[.agg #[.string (tkR s e).1, .int .i64 (tkR s e).2.1], mv (tk1 s e).2.2 (tk2 s e).2.2 (tkR s e).2.2]) ∧ Below w.heap.size w w' := by
  generalize hr : tkR s e = r at *
  unfold tkR at hr
  generalize hq2 : tk2 s e = q2 at *
  unfold tk2 at hq2
  generalize hq1 : tk1 s e = q1 at *
  obtain ⟨s1, e1, n1⟩ := q1
  obtain ⟨s2, e2, n2⟩ := q2
  obtain ⟨s3, e3, d⟩ := r
  simp only at *
  have c1 := atNum_any s e 1073741824
  have c2 := atNum_any s1 e1 1048576
  have c3 := atBytes_any s2 e2 32
  have l1 : (n1 : Int) ≤ 1073741824 := by have h := rN_le s e 1073741824 (by omega); rw [show rN s e 1073741824 = (s1, e1, n1) from hq1] at h; exact h
  have l2 : (n2 : Int) ≤ 1048576 := by have h := rN_le s1 e1 1048576 (by omega); rw [hq2] at h; exact h
  simp only [show rN s e 1073741824 = (s1, e1, n1) from hq1] at c1
  simp only [hq2] at c2
  simp only [hr] at c3
  clear hq1 hq2 hr
  have hk := Hid.mk (as_fresh w s e)
  go_enter Tryd.func23, Tryd.ntmps23
  go_wp2_with (first
    | (go_at_call_of 49 (1073741824 : Int); refine (c1 _).mono ?_; rintro x w1 ⟨rfl, b1⟩; replace hk := Hid.mk (hk.out.call b1); clear b1; have f1 := hk.out.1.frozen; have c0 := hk.out.1.rest; have c1 := hk.out.1.err)
    | (go_at_call_of 49 (1048576 : Int); refine (c2 _).mono ?_; rintro x w2 ⟨rfl, b1⟩; replace hk := Hid.mk ((hk.out.set s1 e1).call b1); clear b1; have f1 := hk.out.1.frozen; have c0 := hk.out.1.rest; have c1 := hk.out.1.err)
    | (go_at_call 50; refine (c3 _).mono ?_; rintro x w3 ⟨rfl, b1⟩; replace hk := Hid.mk ((hk.out.set s2 e2).call b1); clear b1; have f1 := hk.out.1.frozen; have c0 := hk.out.1.rest; have c1 := hk.out.1.err; have f2 := hk.out.2.1.frozen; have a0 := hk.out.2.1.rest; have a1 := hk.out.2.1.err; have f3 := hk.out.2.2.1.frozen; have m0 := hk.out.2.2.1.c0; have m1 := hk.out.2.2.1.c1; have m2 := hk.out.2.2.1.c2))
  have h5 := hk.out.set s3 e3
  have ha := h5.2.1.set s3 e3
  have hm := ((((h5.2.2.1.other ⟨w.heap.size + 1, 0, none⟩ (show w.heap.size + 1 + 1 ≠ w.heap.size + 1 by omega) (.string s3)).other ⟨w.heap.size + 1, 1, none⟩ (show w.heap.size + 1 + 1 ≠ w.heap.size + 1 by omega) (.int .i64 e3)).set0 n1).set1 n2).set2 d
  have hn : ∀ j, w.heap.size + 1 ≠ (⟨w.heap.size + 1 + 1, j, none⟩ : Addr).block := fun j => show w.heap.size + 1 ≠ w.heap.size + 1 + 1 by omega
  have hb := ((((h5.2.2.2.setCell (p := ⟨w.heap.size + 1, 0, none⟩) (show w.heap.size ≤ w.heap.size + 1 by omega) (.string s3)).setCell (p := ⟨w.heap.size + 1, 1, none⟩) (show w.heap.size ≤ w.heap.size + 1 by omega) (.int .i64 e3)).setCell (p := ⟨w.heap.size + 1 + 1, 0, none⟩) (show w.heap.size ≤ w.heap.size + 1 + 1 by omega) (.int .i64 n1)).setCell (p := ⟨w.heap.size + 1 + 1, 1, none⟩) (show w.heap.size ≤ w.heap.size + 1 + 1 by omega) (.int .i64 n2)).setCell (p := ⟨w.heap.size + 1 + 1, 2, none⟩) (show w.heap.size ≤ w.heap.size + 1 + 1 by omega) (.string d)
  exact bodyPost_ret (am_result rfl rfl rfl (((ha.other _ (hn 0) _).other _ (hn 1) _).other _ (hn 2) _) hm) rfl ⟨rfl, hb⟩
end Go.Proofs.YtdolilgkjknckaaDoor
