/-
  The walks of write.New, of Life, Worn, Bads, of nil writers; of the law's Begun and tag. No condition.
-/
import Derived.Test.YtbcnocbdifbocaaDoorApp
import Derived.Test.YtbcnocbdifbocaaDoorGeo
namespace Go.Proofs.YtbcnocbdifbocaaDoor
open Go Go.RowKit
set_option maxRecDepth 100000

theorem wnew_any {w : World} {L : Ly} {C : Ch} {la lg : Nat} {xs : List Int} {o nx : Int} (hc : Chip w L C) (hl : Lf.Lif w la lg C.B C.P xs o nx) {l : List Int} {ad : Addr} (hr : Rds w (some ad) l) (hn : l.length = C.B) (cap lo : Nat) (h0 : 0 < lo)
    (hw : lo ≤ w.heap.size) (h1 : ∀ i, L.own C.B i → lo ≤ i) (h2 : ∀ i, Lf.ownL la lg i → lo ≤ i) (dis : ∀ i, L.own C.B i → ¬ Lf.ownL la lg i) :
    Calls Tryd.prog 28 #[.pointer (some ⟨L.a, 0, none⟩), .pointer (some ⟨la, 0, none⟩), .slice (some ad) l.length cap] w fun e w' => ∃ A : Wl, e = .returned (.tuple #[.pointer (some ⟨A.a, 0, none⟩), .int .i64 0]) ∧ Wtr w' A ⟨C, xs, o, nx, l, []⟩ ∧ Below w.heap.size w w' ∧ A.L = L ∧ A.la = la ∧ A.lo = lo := by
  have hge := Hid.mk (geom_any hc)
  have hg := hc.geo
  have hfd := fldB
  have hcl := Hid.mk (fun (w' : World) (b : Below w.heap.size w w') => clone_any (w := w') (a := ad) (l := l) (fun i hi => by
    obtain ⟨g, o, ha, hg, hx⟩ := hr i hi
    exact ⟨g, o, ha, Nat.lt_of_lt_of_le hg b.size, (b.cell (p := ⟨g, o + i, none⟩) hg).trans hx⟩) (by omega) cap)
  have H := Hid.mk (And.intro hc (And.intro hl (And.intro hn (And.intro h0 (And.intro hw (And.intro h1 (And.intro h2 dis)))))))
  obtain ⟨n, hn2⟩ : ∃ n, n = C.B := ⟨_, rfl⟩
  rw [← hn2] at hge
  rw [hn, ← hn2] at hcl ⊢
  clear hc hl hr hn hw h0 h1 h2 dis hg
  have HN := Hid.mk hn2
  clear hn2
  go_enter Tryd.func28, Tryd.ntmps28
  go_wp2_with (first
    | (go_at_call 11; refine hge.out.mono ?_; rintro e w1 ⟨rfl, b1⟩)
    | (go_at_call 45; refine (hcl.out _ b1).mono ?_; rintro e w2 ⟨v, rfl, hv, b2⟩; obtain ⟨va, vn, vc, rfl⟩ := hv.form3))
  go_ret2
  obtain ⟨hc, hl, hn, h0, hw, h1, h2, dis⟩ := H.out
  have b3 := below3 b1 b2
  have b4 := b3.alloc b3.size (.cells #[.pointer (some ⟨L.a, 0, none⟩), .pointer (some ⟨la, 0, none⟩), .slice va vn vc, .slice none 0 0] 81)
  have hvl := We.Ow.lt hv
  have q2 : ∀ i, i < w.heap.size → (Value.slice va vn vc).ownBlock ≠ some i := fun i hi e => by
    have := hvl i e
    have := b1.size
    omega
  refine ⟨⟨lo, w2.heap.size, L, la, lg, .slice va vn vc, .slice none 0 0⟩, rfl, ⟨heap_alloc_new w2 _, hc.call b4, hl.call b4, ?_, hn, Ints.nil _ _, ?_, h0, ?_, ?_, ?_, ?_, ?_⟩, b4, rfl, rfl, rfl⟩
  · exact (We.Ow.lower hv (Nat.le_trans hw b1.size)).alloc _
  · rintro i (rfl | hi | hi | hi | hi)
    · exact Nat.le_trans hw b3.size
    · exact h1 i hi
    · exact h2 i hi
    · exact Nat.le_trans hw (Nat.le_trans b1.size (hvl i hi).1)
    · cases hi
  · intro i hi
    have := hc.lt hi
    exact ⟨by have := b3.size; show i ≠ w2.heap.size; omega, dis i hi, q2 i this, by show (none : Option Nat) ≠ some i; simp⟩
  · intro i hi
    have := hl.lt i hi
    exact ⟨by have := b3.size; show i ≠ w2.heap.size; omega, q2 i this, by show (none : Option Nat) ≠ some i; simp⟩
  · intro e
    have := (hvl _ e).2
    simp at this
  · show (none : Option Nat) ≠ some _; simp
  · intro i _
    show (none : Option Nat) ≠ some _; simp
theorem life_any {w : World} {A X} (h : Wtr w A X) : Calls Tryd.prog 13 #[.pointer (some ⟨A.a, 0, none⟩)] w fun e w' => e = .returned (.pointer (some ⟨A.la, 0, none⟩)) ∧ w' = w := by
  obtain ⟨c0, c1, c2, c3, _⟩ := h.cells
  clear h
  go_enter Tryd.func13, Tryd.ntmps13
  go_wp2
  go_ret
  exact ⟨rfl, rfl⟩
theorem wworn_any {w : World} {A X} (h : Wtr w A X) : Calls Tryd.prog 25 #[.pointer (some ⟨A.a, 0, none⟩)] w fun e w' => ∃ v, e = .returned v ∧ Ints w' w.heap.size v X.wn ∧ Below w.heap.size w w' := by
  obtain ⟨c0, c1, c2, c3, _⟩ := h.cells
  have hg := h.chip.geo
  have hwl := h.wlen
  obtain ⟨wa, wc, hwv⟩ := h.wrn.form
  have hw := h.wrn
  rw [hwv] at hw c2
  obtain ⟨g, rfl, _⟩ := hw.cell (j := 0) (by omega)
  have HC := Hid.mk (clone_any hw.rds (by omega) wc)
  obtain ⟨n, hn⟩ : ∃ n, n = X.wn.length := ⟨_, rfl⟩
  rw [← hn] at HC c2
  clear h hw hwv hwl hg hn
  go_enter Tryd.func25, Tryd.ntmps25
  go_wp2_with (go_at_call 45; refine HC.out.mono ?_; rintro e w1 ⟨v, rfl, h1, b1⟩)
  go_ret
  exact ⟨_, rfl, h1, b1⟩
theorem bads_any {w : World} {A X} (h : Wtr w A X) : Calls Tryd.prog 21 #[.pointer (some ⟨A.a, 0, none⟩)] w fun e w' => e = .returned A.bv ∧ Ints w' A.lo A.bv X.bd ∧ ∃ A', Wtr w' A' { X with bd := [] } ∧ Nxt A A' X.C.B w w' := by
  obtain ⟨c0, c1, c2, c3, f3⟩ := h.cells
  have hb := h.badTo (v := .slice none 0 0) (l := []) (w1 := w) (Ints.nil _ _) ⟨rfl, rfl, rfl, Nat.le_refl _, fun _ _ _ => rfl⟩ (.inl rfl)
  have hi : Ints (w.setCell ⟨A.a, 3, none⟩ (.slice none 0 0)) A.lo A.bv X.bd := h.bad.same (fun g hg => Below.heap_setCell w _ _ g (fun e => h.dW.2.1 (by rw [hg, e])))
  have H := Hid.mk (And.intro hb hi)
  obtain ⟨ba, bc, hbv⟩ := h.bad.form
  rw [hbv] at c3 ⊢
  have HV := Hid.mk hbv
  clear h hb hi hbv
  obtain ⟨n, hn⟩ : ∃ n, n = X.bd.length := ⟨_, rfl⟩
  rw [← hn] at c3 HV ⊢
  clear hn
  go_enter Tryd.func21, Tryd.ntmps21
  go_wp2_with fail
  go_ret
  rw [← HV.out]
  exact ⟨rfl, H.out.2, _, H.out.1.1, H.out.1.2.1, H.out.1.2.2, rfl, rfl, rfl, rfl, rfl⟩
/- no writer -/
theorem life_nil (w : World) : Calls Tryd.prog 13 #[.pointer none] w fun e w' => e = .returned (.pointer none) ∧ w' = w := by
  go_enter Tryd.func13, Tryd.ntmps13
  go_wp2
  go_ret
  exact ⟨rfl, rfl⟩
theorem wworn_nil (w : World) : Calls Tryd.prog 25 #[.pointer none] w fun e w' => e = .returned (.slice none 0 0) ∧ w' = w := by
  go_enter Tryd.func25, Tryd.ntmps25
  go_wp2
  go_ret
  exact ⟨rfl, rfl⟩
theorem bads_nil (w : World) : Calls Tryd.prog 21 #[.pointer none] w fun e w' => e = .returned (.slice none 0 0) ∧ w' = w := by
  go_enter Tryd.func21, Tryd.ntmps21
  go_wp2
  go_ret
  exact ⟨rfl, rfl⟩
theorem wears_nil (v : Value) (w : World) : Calls Tryd.prog 29 #[.pointer none, v] w fun e w' => e = .returned (.slice none 0 0) ∧ w' = w := by
  go_enter Tryd.func29, Tryd.ntmps29
  go_wp2
  go_ret
  exact ⟨rfl, rfl⟩
theorem hasB_nil (b : Int) (w : World) : Calls Tryd.prog 32 #[.pointer none, .int .i64 b] w fun e w' => e = .returned (.bool false) ∧ w' = w := by
  go_enter Tryd.func32, Tryd.ntmps32
  go_wp2
  go_ret
  exact ⟨rfl, rfl⟩
theorem werase_nil (b : Int) (w : World) : Calls Tryd.prog 15 #[.pointer none, .int .i64 b] w fun e w' => e = .returned (.int .i64 1) ∧ w' = w := by
  go_enter Tryd.func15, Tryd.ntmps15
  go_wp2_with (go_at_call 32; refine (hasB_nil _ _).mono ?_; rintro e w1 ⟨rfl, rfl⟩)
  go_ret
  exact ⟨rfl, rfl⟩
theorem append_nil (K S I O W : Int) (s : ByteArray) (w : World) : Calls Tryd.prog 18 #[.pointer none, Pg.tagV K S I O W, .string s] w fun e w' => e = .returned (.tuple #[.int .i64 0, .int .i64 1]) ∧ Below w.heap.size w w' := by
  unfold Pg.tagV
  go_enter Tryd.func18, Tryd.ntmps18
  go_wp2
  go_ret2
  exact ⟨rfl, (Below.refl w.heap.size w).alloc (Nat.le_refl _) _⟩
theorem wnew_nil1 (p v : Value) (w : World) : Calls Tryd.prog 28 #[.pointer none, p, v] w fun e w' => e = .returned (.tuple #[.pointer none, .int .i64 1]) ∧ w' = w := by
  go_enter Tryd.func28, Tryd.ntmps28
  go_wp2
  go_ret2
  exact ⟨rfl, rfl⟩
theorem wnew_nil2 (a : Nat) (v : Value) (w : World) : Calls Tryd.prog 28 #[.pointer (some ⟨a, 0, none⟩), .pointer none, v] w fun e w' => e = .returned (.tuple #[.pointer none, .int .i64 1]) ∧ w' = w := by
  go_enter Tryd.func28, Tryd.ntmps28
  go_wp2
  go_ret2
  exact ⟨rfl, rfl⟩
theorem wnew_few {w : World} {L : Ly} {C : Ch} (hc : Chip w L C) (la n cap : Nat) (ad : Option Addr) (hn : n < 8) :
    Calls Tryd.prog 28 #[.pointer (some ⟨L.a, 0, none⟩), .pointer (some ⟨la, 0, none⟩), .slice ad n cap] w fun e w' => e = .returned (.tuple #[.pointer none, .int .i64 1]) ∧ Below w.heap.size w w' := by
  have hge := Hid.mk (geom_any hc)
  have hg := hc.geo
  have hfd := fldB
  have hne : ¬ (n : Int) = C.B := by omega
  clear hc hg
  go_enter Tryd.func28, Tryd.ntmps28
  go_wp2_with (first
    | (go_at_call 11; refine hge.out.mono ?_; rintro e w1 ⟨rfl, b1⟩))
  go_ret2
  exact ⟨rfl, b1⟩
theorem tag_any (n : Nat) (hn : n ≤ 1000000) (w : World) : Calls Tryd.prog 19 #[.int .i64 n] w fun e w' => e = .returned (Pg.tagV 1 n 0 1 0) ∧ Below w.heap.size w w' := by
  unfold Pg.tagV
  have hw := Pg.wrap_nat n (by omega)
  go_enter Tryd.func19, Tryd.ntmps19
  go_wp2_with fail
  exact bodyPost_ret (v := .agg #[.int .i64 1, .int .u64 n, .int .i64 0, .int .i64 1, .int .i64 0]) (by rw [results_cell1 rfl]; go_simp) rfl ⟨rfl, (Below.refl w.heap.size w).alloc (Nat.le_refl _) _⟩
end Go.Proofs.YtbcnocbdifbocaaDoor
