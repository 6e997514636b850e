/-
  Changes are put: the walk of put for two changes, a space that is made and a page that is put in it. No condition. What refuses changes: the walks of Lay, attempt and mayBe. No condition. What refuses changes: the walk of refusesChanges for two changes. Condition: they are not refused. Two changes are committed: the walks of commit and Commit, on a chip on which nothing fails. Condition: they are not refused, there is room, and no block is full. The walk of Read where a page says something, and of no writer. Condition of the first: the table's cells hold what the text lays. Two changes are committed, and a page is read: the walks of Commit, ReadAt, Read. Condition: as of commit; the page says something. All blocks are erased: the walk of eraseAll, on a chip that is new and on which nothing fails. No condition.
-/
import Derived.Test.YtcmmhfjnhlaepabGreatDoorRC
import Derived.Test.YtcmmhfjnhlaepabGreatDoorRK6
import Derived.Test.YtcmmhfjnhlaepabGreatDoorREra
namespace Go.Proofs.YtcmmhfjnhlaepabGreatDoor
open Go Go.RowKit

/-- the cells of the two changes -/
def chC : Array Value := #[.int .i64 4, .int .i64 1, .int .i64 0, .int .i64 0, .int .i64 0, .int .i64 9, .string ⟨#[]⟩, .int .i64 1, .int .i64 1, .int .i64 2, .int .i64 0, .int .i64 0, .int .i64 0, .string ⟨#[120]⟩]
/-- the changes in memory -/
def ChB (w : World) (g : Nat) : Prop := w.heap[g]? = some (.cells chC 49 (0, 0))
def rc1 : Gp.R6 := (4, 1, 0, 0, 0, 9)
def rc2 (n0 : Int) : Gp.R6 := (1, 1, 2, n0, 0, 0)
theorem ChB.lt {w : World} {g : Nat} (h : ChB w g) : g < w.heap.size := (Array.getElem?_eq_some_iff.1 h).1
theorem ChB.call {w w' : World} {g : Nat} (h : ChB w g) (b : Below w.heap.size w w') : ChB w' g := (b.block g h.lt).trans h
theorem ChB.cells {w : World} {g : Nat} (h : ChB w g) : (w.cell? ⟨g, 0, none⟩ = some (.int .i64 4) ∧ w.cell? ⟨g, 1, none⟩ = some (.int .i64 1) ∧ w.cell? ⟨g, 2, none⟩ = some (.int .i64 0) ∧ w.cell? ⟨g, 3, none⟩ = some (.int .i64 0) ∧ w.cell? ⟨g, 4, none⟩ = some (.int .i64 0) ∧ w.cell? ⟨g, 5, none⟩ = some (.int .i64 9) ∧ w.cell? ⟨g, 6, none⟩ = some (.string ⟨#[]⟩)) ∧
    (w.cell? ⟨g, 7, none⟩ = some (.int .i64 1) ∧ w.cell? ⟨g, 8, none⟩ = some (.int .i64 1) ∧ w.cell? ⟨g, 9, none⟩ = some (.int .i64 2) ∧ w.cell? ⟨g, 10, none⟩ = some (.int .i64 0) ∧ w.cell? ⟨g, 11, none⟩ = some (.int .i64 0) ∧ w.cell? ⟨g, 12, none⟩ = some (.int .i64 0) ∧ w.cell? ⟨g, 13, none⟩ = some (.string ⟨#[120]⟩)) := by
  refine ⟨⟨?_, ?_, ?_, ?_, ?_, ?_, ?_⟩, ⟨?_, ?_, ?_, ?_, ?_, ?_, ?_⟩⟩ <;> (rw [cell_of_row w g _ _ 49 _ h]; rfl)
theorem ow_cel {w : World} {B e sz v rows} (h : We.Ow w B e sz v rows) {i : Nat} (hi : v.ownBlock = some i) : Cel w i := by
  rcases h.own.2 with ⟨rfl, _⟩ | ⟨g, cap, cur, rfl, _, hg, _⟩
  · cases hi
  · obtain rfl : g = i := by simpa [Value.ownBlock] using hi
    exact ⟨_, _, _, hg⟩
/-- blocks that are none of its own have turned -/
theorem Ft.off {w0 f F A X gl la gt tl t} {w w' : World} {S : Nat → Prop} (h : Ft w0 f F A X gl la gt tl t w) (k : Kp S w w') (hS : ∀ i, S i → ¬ Fo f gl gt A X i ∧ Cel w i ∧ w0.heap.size ≤ i) (hs : S8.Sth w' F.st t (Zs w0 f gl gt A X)) : Ft w0 f F A X gl la gt tl t w' := by
  have h1 : ∀ i, Fo f gl gt A X i → ¬ S i := fun i hi x => (hS i x).1 hi
  refine ⟨h.fa.off k (fun i hi => ⟨fun e => (hS i hi).1 (.inl e), fun e => (hS i hi).1 (.inr (.inr (.inr e))), (hS i hi).2.1⟩), h.la.call (k.block _ h.la.lt (h1 _ (.inr (.inl rfl)))), h.tl.call (k.block _ h.tl.lt (h1 _ (.inr (.inr (.inl rfl))))), hs, Tab.off h.tab k (fun e => by have := (hS 0 e).2.2; have := h.z0; omega), h.fo, h.ne, Kp.below h.below k h.below.size (fun i hi => (hS i hi).2.2), h.lo, h.z0⟩
theorem Ft.flt {w0 f F A X gl la gt tl t} {w : World} (h : Ft w0 f F A X gl la gt tl t w) : ∀ i, Fo f gl gt A X i → i < w.heap.size := fun i hi => h.zlt i (Fo.zs hi)
theorem Mv.new {f gl gt A X A1 X1} {w w1 w2 : World} {S : Nat → Prop} (h : Mv f gl gt A X A1 X1 w w1) (k : Kp S w1 w2) (hs : ∀ i, S i → w.heap.size ≤ i) : Mv f gl gt A X A1 X1 w w2 :=
  ⟨⟨k.os.trans h.kp.os, k.tape.trans h.kp.tape, k.output.trans h.kp.output, Nat.le_trans h.kp.size k.size, fun i hi hn => (k.block i (Nat.lt_of_lt_of_le hi h.kp.size) (fun x => by have := hs i x; omega)).trans (h.kp.block i hi hn)⟩, h.own, h.L, h.a⟩
set_option maxRecDepth 20000 in
theorem put_two {w0 f F A X gl la gt tl t} {w : World} (h : Ft w0 f F A X gl la gt tl t w) (hc : Calm X) {D : Int} {a r : Nat} {T : Nat → ByteArray} {Q : Nat → Tg} (hq : Sq D X a r T Q) (hab : a < X.C.B) (n0 : Nat) (hn0 : a * X.C.P + r = n0) (n : Nat) (hn : F.nx = n) (hnl : n < 1000000) (hT : T n0 = ⟨#[120]⟩) (hQ : Q n0 = (1, n, 0, 1)) {g : Nat} (hg : ChB w g) :
    Calls Tryz.prog 57 #[.pointer (some ⟨f, 0, none⟩), .slice (some ⟨g, 0, none⟩) 2 2] w fun e w' => ∃ v, e = .returned (.tuple #[v, .int .i64 0]) ∧ We.Ow w' w.heap.size 47 6 v ([rc1, rc2 n0].map S8.rR) ∧ ∃ A' X' a' r', Ft w0 f { F with nx := ((n + 1 : Nat) : Int) } A' X' gl (la.set a (n : Int)) gt tl t w' ∧ Geq X' X ∧ Calm X' ∧ a' * X.C.P + r' = n0 + 1 ∧ Sq D X' a' r' T Q ∧ Mv f gl gt A X A' X' w w' := by
  have hgeo := h.fa.wtr.chip.geo
  have hZ : (1 : Nat) ≤ X.C.Z := by omega
  have HW := Hid.mk (fun w' (b : Below w.heap.size w w') => writeData_any (h.call b) hc hq hab n0 hn0 n hn hnl ⟨#[120]⟩ hT hQ hZ)
  have H := Hid.mk (And.intro h hg)
  clear h hg hT hQ
  go_enter Tryz.func57, Tryz.ntmps57
  go_upto_region 3 with fail
  go_loopw [6, 8, 9, 10, 11, 14] (fun v _ _ _ _ i wr => ∃ k : Nat, k ≤ 2 ∧ i = .int .i64 k ∧ (k = 0 → v = .slice none 0 0 ∧ Below w.heap.size w wr) ∧ (k = 1 → We.Ow wr w.heap.size 47 6 v ([rc1].map S8.rR) ∧ Below w.heap.size w wr) ∧ (k = 2 → We.Ow wr w.heap.size 47 6 v ([rc1, rc2 n0].map S8.rR) ∧ ∃ A' X' a' r', Ft w0 f { F with nx := ((n + 1 : Nat) : Int) } A' X' gl (la.set a (n : Int)) gt tl t wr ∧ Geq X' X ∧ Calm X' ∧ a' * X.C.P + r' = n0 + 1 ∧ Sq D X' a' r' T Q ∧ Mv f gl gt A X A' X' w wr)) (fun _ _ _ _ _ i _ => 2 - (intOf i).toNat)
  case atStart => exact ⟨0, by omega, rfl, fun _ => ⟨rfl, Below.refl _ _⟩, fun e => absurd e (by omega), fun e => absurd e (by omega)⟩
  case round =>
    obtain ⟨k, hk, rfl, h0, h1, h2⟩ := hrel
    have c : k = 0 ∨ k = 1 ∨ k = 2 := by omega
    rcases c with rfl | rfl | rfl
    · obtain ⟨rfl, hb⟩ := h0 rfl
      clear h0 h1 h2 hk
      obtain ⟨⟨d0, d1, d2, d3, d4, d5, d6⟩, _⟩ := (H.out.2.call hb).cells
      have HB := Hid.mk hb
      clear hb
      go_upto_region 11 with fail
      have b2 := below3 (below3 HB.out (Pg.below_one wr (.cells #[.int .i64 4, .int .i64 1, .int .i64 0, .int .i64 0, .int .i64 0, .int .i64 9, .string ⟨#[]⟩] 49))) (Pg.below_one (wr.alloc (.cells #[.int .i64 4, .int .i64 1, .int .i64 0, .int .i64 0, .int .i64 0, .int .i64 9, .string ⟨#[]⟩] 49)) (.cells #[.int .i64 4, .int .i64 1, .int .i64 0, .int .i64 0, .int .i64 0, .int .i64 9] 47))
      have hr : Row ((wr.alloc (.cells #[.int .i64 4, .int .i64 1, .int .i64 0, .int .i64 0, .int .i64 0, .int .i64 9, .string ⟨#[]⟩] 49)).alloc (.cells #[.int .i64 4, .int .i64 1, .int .i64 0, .int .i64 0, .int .i64 0, .int .i64 9] 47)) (wr.alloc (.cells #[.int .i64 4, .int .i64 1, .int .i64 0, .int .i64 0, .int .i64 0, .int .i64 9, .string ⟨#[]⟩] 49)).heap.size 47 .i64 [4, 1, 0, 0, 0, 9] := Row.fresh _ 47 .i64 [4, 1, 0, 0, 0, 9]
      rw [size_alloc] at hr
      obtain ⟨W, hW⟩ : ∃ W, (wr.alloc (.cells #[.int .i64 4, .int .i64 1, .int .i64 0, .int .i64 0, .int .i64 0, .int .i64 9, .string ⟨#[]⟩] 49)).alloc (.cells #[.int .i64 4, .int .i64 1, .int .i64 0, .int .i64 0, .int .i64 0, .int .i64 9] 47) = W := ⟨_, rfl⟩
      rw [hW] at b2 hr ⊢
      obtain ⟨q0, q1, q2, q3, q4, q5⟩ := hr.six
      have HB2 := Hid.mk b2
      clear hW b2 hr d0 d1 d2 d3 d4 d5 d6
      go_wp2_with (at_builtin; refine We.wp_app S8.ei47 rfl _ _ rfl (We.Ow.nil _ w.heap.size _ _) HB2.out.size (S8.cR rc1) rfl rfl rfl (S8.cR_one _) (by simp) ?_; intro v3 w3 o3 g3 p3)
      have b3 : Below w.heap.size w w3 := HB2.out.grown g3 HB2.out.size (fun j hj => by cases hj)
      exact ⟨⟨1, by omega, rfl, fun e => absurd e (by omega), fun _ => ⟨o3, b3⟩, fun e => absurd e (by omega)⟩, by simp [intOf]⟩
    · obtain ⟨ho, hb⟩ := h1 rfl
      clear h0 h1 h2 hk
      obtain ⟨_, d0, d1, d2, d3, d4, d5, d6⟩ := (H.out.2.call hb).cells
      have HB := Hid.mk (And.intro hb ho)
      clear hb ho
      have b2 := below3 (below3 HB.out.1 (Pg.below_one wr (.cells #[.int .i64 1, .int .i64 1, .int .i64 2, .int .i64 0, .int .i64 0, .int .i64 0, .string ⟨#[120]⟩] 49))) (Pg.below_one (wr.alloc (.cells #[.int .i64 1, .int .i64 1, .int .i64 2, .int .i64 0, .int .i64 0, .int .i64 0, .string ⟨#[120]⟩] 49)) (.cells #[.int .i64 1, .int .i64 1, .int .i64 2, .int .i64 0, .int .i64 0, .int .i64 0] 47))
      have hr : Row ((wr.alloc (.cells #[.int .i64 1, .int .i64 1, .int .i64 2, .int .i64 0, .int .i64 0, .int .i64 0, .string ⟨#[120]⟩] 49)).alloc (.cells #[.int .i64 1, .int .i64 1, .int .i64 2, .int .i64 0, .int .i64 0, .int .i64 0] 47)) (wr.alloc (.cells #[.int .i64 1, .int .i64 1, .int .i64 2, .int .i64 0, .int .i64 0, .int .i64 0, .string ⟨#[120]⟩] 49)).heap.size 47 .i64 [1, 1, 2, 0, 0, 0] := Row.fresh _ 47 .i64 [1, 1, 2, 0, 0, 0]
      rw [size_alloc] at hr
      have o2 := (HB.out.2.call (Pg.below_one wr (.cells #[.int .i64 1, .int .i64 1, .int .i64 2, .int .i64 0, .int .i64 0, .int .i64 0, .string ⟨#[120]⟩] 49))).call (Pg.below_one (wr.alloc (.cells #[.int .i64 1, .int .i64 1, .int .i64 2, .int .i64 0, .int .i64 0, .int .i64 0, .string ⟨#[120]⟩] 49)) (.cells #[.int .i64 1, .int .i64 1, .int .i64 2, .int .i64 0, .int .i64 0, .int .i64 0] 47))
      have hlv : ∀ i, u6.ownBlock = some i → w.heap.size ≤ i ∧ i < wr.heap.size := fun i hi => HB.out.2.lt i hi
      have hsz := HB.out.1.size
      go_upto_region 7 with fail
      obtain ⟨W, hW⟩ : ∃ W, (wr.alloc (.cells #[.int .i64 1, .int .i64 1, .int .i64 2, .int .i64 0, .int .i64 0, .int .i64 0, .string ⟨#[120]⟩] 49)).alloc (.cells #[.int .i64 1, .int .i64 1, .int .i64 2, .int .i64 0, .int .i64 0, .int .i64 0] 47) = W := ⟨_, rfl⟩
      have cS : W.cell? ⟨wr.heap.size, 6, none⟩ = some (.string ⟨#[120]⟩) := by
        rw [← hW]
        have := (Pg.below_one (wr.alloc (.cells #[.int .i64 1, .int .i64 1, .int .i64 2, .int .i64 0, .int .i64 0, .int .i64 0, .string ⟨#[120]⟩] 49)) (.cells #[.int .i64 1, .int .i64 1, .int .i64 2, .int .i64 0, .int .i64 0, .int .i64 0] 47)).cell (p := ⟨wr.heap.size, 6, none⟩) (by rw [size_alloc]; exact Nat.lt_succ_self _)
        rw [this, cell_of_row _ wr.heap.size 6 _ 49 _ (heap_alloc_new wr _)]
        rfl
      rw [hW] at b2 hr o2 ⊢
      have HW2 := Hid.mk (HW.out _ b2)
      have H2 := Hid.mk (And.intro b2 (And.intro hr (And.intro o2 (And.intro hlv hsz))))
      clear hW b2 hr o2 hlv hsz d0 d1 d2 d3 d4 d5 d6 HW HB
      generalize wr.heap.size = z at *
      go_upto_region 10 with (go_at_call 106; refine HW2.out.mono ?_; rintro e w5 ⟨rfl, A', X', a', r', h5, g5, c5, har, hq5, m5⟩)
      have hfo : ∀ i, w.heap.size ≤ i → ¬ Fo f gl gt A X i := fun i hi x => by have := H.out.1.flt i x; omega
      have hr5 : Row w5 (z + 1) 47 .i64 [1, 1, 2, 0, 0, 0] := (m5.kp.block _ H2.out.2.1.lt (hfo _ (by have := H2.out.2.2.2.2; omega))).trans H2.out.2.1
      have o5 : We.Ow w5 w.heap.size 47 6 u6 ([rc1].map S8.rR) := H2.out.2.2.1.same (fun g hg => m5.kp.block g (H2.out.2.2.1.lt g hg).2 (hfo g (H2.out.2.2.2.1 g hg).1))
      have s5 : S8.Sth w5 F.st t (fun i => Zs w0 f gl gt A' X' i ∨ w.heap.size ≤ i) := by
        have s1 := (H.out.1.st.more (Z' := fun i => Zs w0 f gl gt A X i ∨ w.heap.size ≤ i) (fun i x => x)).call H2.out.1
        refine (s1.kp m5.kp (fun i hi => .inl (Fo.zs hi))).more (fun i x => .inl ?_)
        rcases x with (x | x | x | x | x) | x
        · exact .inl (.inl x)
        · exact .inl (.inr (.inl x))
        · exact .inl (.inr (.inr (.inl x)))
        · exact .inl (.inr (.inr (.inr (.inl x))))
        · rcases m5.own i x with q | q
          · exact .inl (.inr (.inr (.inr (.inr q))))
          · exact .inr (Nat.le_trans H2.out.1.size q)
        · exact .inr x
      have k6 : Kp (fun i => i = z + 1) w5 (w5.setCell ⟨z + 1, 3, none⟩ (.int .i64 n0)) := (Kp.refl (fun i => i = z + 1) w5).setCell (p := ⟨z + 1, 3, none⟩) rfl _
      have hr6 : Row (w5.setCell ⟨z + 1, 3, none⟩ (.int .i64 n0)) (z + 1) 47 .i64 [1, 1, 2, (n0 : Int), 0, 0] := hr5.stored 3 (n0 : Int)
      have o6 : We.Ow (w5.setCell ⟨z + 1, 3, none⟩ (.int .i64 n0)) w.heap.size 47 6 u6 ([rc1].map S8.rR) := o5.same (fun g hg => k6.block g (o5.lt g hg).2 (fun e => by have := (H2.out.2.2.2.1 g hg).2; omega))
      obtain ⟨_, _, _, e3, _, _⟩ := hr5.six
      have f3 := hr5.frozen 3
      have hmore : ∀ i, Fo f gl gt A' X' i → i < w.heap.size ∨ W.heap.size ≤ i := fun i x => by
        rcases x with x | x | x | x
        · exact .inl (H.out.1.flt i (.inl x))
        · exact .inl (H.out.1.flt i (.inr (.inl x)))
        · exact .inl (H.out.1.flt i (.inr (.inr (.inl x))))
        · rcases m5.own i x with q | q
          · exact .inl (H.out.1.flt i (.inr (.inr (.inr q))))
          · exact .inr q
      have hz1 : z + 1 < W.heap.size := H2.out.2.1.lt
      have h6 : Ft w0 f { F with nx := ((n + 1 : Nat) : Int) } A' X' gl (la.set a (n : Int)) gt tl t (w5.setCell ⟨z + 1, 3, none⟩ (.int .i64 n0)) := h5.off k6 (fun i hi => by
        subst hi
        refine ⟨fun x => ?_, ⟨_, _, _, hr5⟩, ?_⟩
        · have := hmore _ x; have := H2.out.2.2.2.2; omega
        · have := H.out.1.below.size; have := H2.out.2.2.2.2; omega) ((s5.kp k6 (fun i hi => .inr (by subst hi; have := H2.out.2.2.2.2; omega))).more (fun i x => .inl (.inl x)))
      have s6 := s5.kp k6 (fun i hi => .inr (by subst hi; have := H2.out.2.2.2.2; omega))
      have sz6 : (w5.setCell ⟨z + 1, 3, none⟩ (.int .i64 n0)).heap.size = w5.heap.size := by simp [World.setCell]
      have m6 : Mv f gl gt A X A' X' w (w5.setCell ⟨z + 1, 3, none⟩ (.int .i64 n0)) := (((Mv.refl f gl gt A X w).call H2.out.1).trans m5).new k6 (fun i hi => by subst hi; have := H2.out.2.2.2.2; omega)
      have hw6 : w.heap.size ≤ (w5.setCell ⟨z + 1, 3, none⟩ (.int .i64 n0)).heap.size := m6.kp.size
      obtain ⟨q0, q1, q2, q3, q4, q5⟩ := hr6.six
      have H6 := Hid.mk (And.intro h6 (And.intro s6 (And.intro o6 (And.intro m6 (And.intro hw6 (And.intro g5 (And.intro c5 (And.intro har hq5))))))))
      have HM := Hid.mk hmore
      clear h6 s6 o6 m6 hw6 g5 c5 har hq5 h5 m5 hr5 o5 s5 k6 hr6 hmore sz6 hfo hz1
      go_upto_region 11 with fail
      obtain ⟨W6, hW6⟩ : ∃ W6, w5.setCell ⟨z + 1, 3, none⟩ (.int .i64 n0) = W6 := ⟨_, rfl⟩
      rw [hW6] at H6 q0 q1 q2 q3 q4 q5 ⊢
      clear hW6 e3 f3
      go_wp2_with (at_builtin; refine We.wp_app S8.ei47 rfl _ _ rfl H6.out.2.2.1 H6.out.2.2.2.2.1 (S8.cR (rc2 n0)) rfl rfl rfl (S8.cR_one _) (by simp) ?_; intro v3 w3 o3 g3 p3)
      have k7 : Kp (fun i => u6.ownBlock = some i) W6 w3 := Kp.ofGrown g3 (fun i hi => hi)
      have h7 := H6.out.1.off k7 (fun i hi => ⟨fun x => by
        have := HM.out i x
        have := H2.out.2.2.2.1 i hi
        have := H2.out.2.1.lt
        omega, ow_cel H6.out.2.2.1 hi, by have := H.out.1.below.size; have := H2.out.2.2.2.1 i hi; omega⟩) ((H6.out.2.1.kp k7 (fun i hi => .inr (H2.out.2.2.2.1 i hi).1)).more (fun i x => .inl (.inl x)))
      exact ⟨⟨2, by omega, rfl, fun e => absurd e (by omega), fun e => absurd e (by omega), fun _ => ⟨o3, A', X', a', r', h7, H6.out.2.2.2.2.2.1, H6.out.2.2.2.2.2.2.1, H6.out.2.2.2.2.2.2.2.1, H6.out.2.2.2.2.2.2.2.2, H6.out.2.2.2.1.new k7 (fun i hi => (H2.out.2.2.2.1 i hi).1)⟩⟩, by simp [intOf]⟩
    · have HS := Hid.mk (h2 rfl)
      clear h0 h1 h2 hk
      go_wp2_with fail
      go_ret2
      exact ⟨_, rfl, HS.out.1, HS.out.2⟩
end Go.Proofs.YtcmmhfjnhlaepabGreatDoor
namespace Go.Proofs.YtcmmhfjnhlaepabGreatDoor.S8
open Go Go.RowKit Go.Maps Gp Pg We

/-- a page laid at any place -/
def layA (t : Ab) (S P A : Int) : Ab × Int :=
  match gA t.sp S with
  | none => (t, 80)
  | some x => if P < 0 ∨ x.q ≤ P then (t, 81) else ({ t with sp := sA t.sp { x with ps := mput x.ps P A } }, 0)
theorem putA_lay {t : Ab} {S P A : Int} (hP : 0 ≤ P) : putA t S P A = layA t S P A := by
  unfold putA layA
  cases gA t.sp S with
  | none => rfl
  | some x =>
    show (if x.q ≤ P then _ else _) = if P < 0 ∨ x.q ≤ P then _ else _
    by_cases h : x.q ≤ P
    · rw [if_pos h, if_pos (.inr h)]
    · rw [if_neg h, if_neg (by omega)]
set_option maxRecDepth 20000 in
theorem lay_any {w s} (h : Whole w s) {x : Asp} {S P A : Int} (hg : gA (ab s).sp S = some x) (hP : 0 ≤ P) (hq : P < x.q) (hA : 0 ≤ A ∧ A ≤ 2000) :
    Calls Tryz.prog 102 #[.pointer (some ⟨s.p, 0, none⟩), .int .i64 S, .int .i64 P, .int .i64 A] w (Done w s (layA (ab s) S P A)) := by
  have hx := gA_some hg
  have hS := h.inv.ids x hx.1
  have hQ := h.inv.qs x hx.1
  rw [hx.2] at hS
  have hm : mayB 1 S P 0 0 0 = true := by rw [mayB_iff]; unfold mayR; omega
  have hck := fun W => checkB_any 1 S P 0 0 0 W
  rw [hm] at hck
  have hput : ∀ W, Below w.heap.size w W → Calls Tryz.prog 93 #[.pointer (some ⟨s.p, 0, none⟩), .int .i64 S, .int .i64 P, .int .i64 A] W (Done W s (layA (ab s) S P A)) := fun W b => by
    rw [← putA_lay hP]
    exact put_ab (h.call b) hS (by omega) hA
  have hfl := fun W (b : Below w.heap.size w W) => fill_any (h.call b).at'
  have hA0 : decide (A < 0) = false := by simp; omega
  unfold rv at hck
  have HC := Hid.mk (And.intro hck (And.intro hput hfl))
  clear hck hput hfl h hx hS hQ hm hg hq hA
  go_enter Tryz.func102, Tryz.ntmps102
  go_upto_region 3 with (first | (go_at_call 91; refine (HC.out.1 _).mono ?_; rintro e w1 ⟨rfl, b1⟩))
  go_wp2_with (first
    | (go_at_call 92; refine (HC.out.2.2 _ (by assumption)).mono ?_; rintro e w2 ⟨rfl, rfl⟩)
    | (go_at_call 93; refine (HC.out.2.1 _ (by assumption)).mono ?_; intro e w2 hd; obtain ⟨rfl, hd2⟩ := hd))
  go_ret
  exact Done.call b1 ⟨rfl, hd2⟩
theorem hold_lay {B : Nat} {w0 w : World} {P t} (h : Hold B w0 P t w) {x : Asp} {S Pg A : Int} (hg : gA t.sp S = some x) (hP : 0 ≤ Pg) (hq : Pg < x.q) (hA : 0 ≤ A ∧ A ≤ 2000) : Calls Tryz.prog 102 #[.pointer (some ⟨P, 0, none⟩), .int .i64 S, .int .i64 Pg, .int .i64 A] w fun e w' => e = .returned (.int .i64 (layA t S Pg A).2) ∧ Hold B w0 P (layA t S Pg A).1 w' := by
  obtain ⟨s, rfl, h2, rfl, h4, h5, h6⟩ := h
  refine (lay_any h2 hg hP hq hA).mono ?_
  rintro e w' ⟨rfl, s', g1, g2, g3⟩
  exact ⟨rfl, s', g3.home, g1, g2, g3.below h4 (Nat.le_trans h5 h4.size) h6, h5, g3.high (Nat.le_trans h5 h4.size) h6⟩
set_option maxRecDepth 20000 in
theorem attempt_rest {B : Nat} {w0 w : World} {P t} (h : Hold B w0 P t w) {K S G A T N : Int} (hK : K ≠ 1) (z : Int) : Calls Tryz.prog 53 #[.pointer (some ⟨P, 0, none⟩), rv K S G A T N, .int .i64 z] w fun e w' => e = .returned (.int .i64 (apA t K S G A T N).2) ∧ Hold B w0 P (apA t K S G A T N).1 w' := by
  have H := Hid.mk (hold_apply (h.call (Pg.below_one w (.cells #[.int .i64 K, .int .i64 S, .int .i64 G, .int .i64 A, .int .i64 T, .int .i64 N] 47))) K S G A T N)
  have hr : Row (w.alloc (.cells #[.int .i64 K, .int .i64 S, .int .i64 G, .int .i64 A, .int .i64 T, .int .i64 N] 47)) w.heap.size 47 .i64 [K, S, G, A, T, N] := Row.fresh w 47 .i64 [K, S, G, A, T, N]
  obtain ⟨d0, d1, d2, d3, d4, d5⟩ := hr.six
  have hk : (K != 1) = true := by simp [hK]
  generalize apA t K S G A T N = q at *
  unfold rv at *
  clear h hr
  go_enter Tryz.func53, Tryz.ntmps53
  go_wp2_with (go_at_call 48; refine H.out.mono ?_; rintro e w1 ⟨rfl, h1⟩)
  go_ret
  exact ⟨rfl, h1⟩
set_option maxRecDepth 20000 in
theorem attempt_put {B : Nat} {w0 w : World} {P t t1} (h : Hold B w0 P t w) {S G A T N z : Int} (h1 : apA t 1 S G 0 T N = (t1, 0)) {x : Asp} (hg : gA t1.sp S = some x) (hP : 0 ≤ G) (hq : G < x.q) (hz : 0 ≤ z ∧ z ≤ 2000) : Calls Tryz.prog 53 #[.pointer (some ⟨P, 0, none⟩), rv 1 S G A T N, .int .i64 z] w fun e w' => e = .returned (.int .i64 (layA t1 S G z).2) ∧ Hold B w0 P (layA t1 S G z).1 w' := by
  have hr : Row (w.alloc (.cells #[.int .i64 1, .int .i64 S, .int .i64 G, .int .i64 0, .int .i64 T, .int .i64 N] 47)) w.heap.size 47 .i64 [1, S, G, 0, T, N] := Row.fresh w 47 .i64 [1, S, G, 0, T, N]
  have hZ : HoldZ B w0 P t [] w := by
    obtain ⟨s, e1, e2, e3, e4, e5, e6⟩ := h
    exact ⟨s, e1, e2, e3, e4, e5, e6, fun z hz => by cases hz⟩
  have H := Hid.mk (applyZ (hZ.more (.cells #[.int .i64 1, .int .i64 S, .int .i64 G, .int .i64 0, .int .i64 T, .int .i64 N] 47)) (1, S, G, 0, T, N))
  unfold apR at H
  dsimp only at H
  rw [h1] at H
  have HG := Hid.mk (And.intro hg (And.intro hP (And.intro hq hz)))
  have HR := Hid.mk hr
  generalize hqq : layA t1 S G z = q
  have HQ := Hid.mk hqq
  unfold rv at *
  clear h h1 hr hZ hg hP hq hz hqq
  go_enter Tryz.func53, Tryz.ntmps53
  go_upto_region 7 with (go_at_call 48; refine H.out.mono ?_; rintro e w1 ⟨rfl, h1, hz1, b1⟩)
  have hr1 : Row w1 w.heap.size 47 .i64 [1, S, G, 0, T, N] := (hz1 _ (by simp)).trans HR.out
  obtain ⟨d0, d1, d2, d3, d4, d5⟩ := hr1.six
  have HL := Hid.mk (hold_lay h1.hold HG.out.1 HG.out.2.1 HG.out.2.2.1 HG.out.2.2.2)
  clear h1 hz1 b1 hr1 HR H
  rw [HQ.out] at HL
  go_wp2_with (go_at_call 102; refine HL.out.mono ?_; rintro e w2 ⟨rfl, h2⟩)
  go_ret
  exact ⟨rfl, h2⟩
end Go.Proofs.YtcmmhfjnhlaepabGreatDoor.S8
namespace Go.Proofs.YtcmmhfjnhlaepabGreatDoor
open Go Go.RowKit

set_option maxRecDepth 20000 in
theorem mayBe_make (w : World) (f : Nat) (S G A' T N : Int) : Calls Tryz.prog 52 #[.pointer (some ⟨f, 0, none⟩), .agg #[.int .i64 4, .int .i64 S, .int .i64 G, .int .i64 A', .int .i64 T, .int .i64 N, .string ⟨#[]⟩]] w fun e w' => e = .returned (.bool true) ∧ Below w.heap.size w w' := by
  have hb := Pg.below_one w (.cells #[.int .i64 4, .int .i64 S, .int .i64 G, .int .i64 A', .int .i64 T, .int .i64 N, .string ⟨#[]⟩] 49)
  go_enter Tryz.func52, Tryz.ntmps52
  go_wp2
  go_ret
  exact ⟨rfl, hb⟩
set_option maxRecDepth 20000 in
theorem mayBe_put {w f F A X} (h : Fa w f F A X) (S G A' T N : Int) : Calls Tryz.prog 52 #[.pointer (some ⟨f, 0, none⟩), .agg #[.int .i64 1, .int .i64 S, .int .i64 G, .int .i64 A', .int .i64 T, .int .i64 N, .string ⟨#[120]⟩]] w fun e w' => e = .returned (.bool true) ∧ Below w.heap.size w w' := by
  have hg := h.wtr.chip.geo
  have hb := Pg.below_one w (.cells #[.int .i64 1, .int .i64 S, .int .i64 G, .int .i64 A', .int .i64 T, .int .i64 N, .string ⟨#[120]⟩] 49)
  have c3 : (w.alloc (.cells #[.int .i64 1, .int .i64 S, .int .i64 G, .int .i64 A', .int .i64 T, .int .i64 N, .string ⟨#[120]⟩] 49)).cell? ⟨f, 3, none⟩ = some (.int .i64 X.C.Z) := (h.call hb).c 3
  have c6 : (w.alloc (.cells #[.int .i64 1, .int .i64 S, .int .i64 G, .int .i64 A', .int .i64 T, .int .i64 N, .string ⟨#[120]⟩] 49)).cell? ⟨w.heap.size, 6, none⟩ = some (.string ⟨#[120]⟩) := by rw [cell_of_row _ w.heap.size 6 _ 49 _ (heap_alloc_new w _)]; rfl
  have hz : (1 : Int) ≤ X.C.Z := by omega
  clear h
  go_enter Tryz.func52, Tryz.ntmps52
  go_upto_region 3 with fail
  generalize (w.alloc (.cells #[.int .i64 1, .int .i64 S, .int .i64 G, .int .i64 A', .int .i64 T, .int .i64 N, .string ⟨#[120]⟩] 49)) = W at *
  go_quiet (fail)
  go_wp2
  go_ret
  exact ⟨rfl, below3 hb (below_dn W _)⟩
end Go.Proofs.YtcmmhfjnhlaepabGreatDoor
namespace Go.Proofs.YtcmmhfjnhlaepabGreatDoor
open Go Go.RowKit

set_option maxRecDepth 20000 in
theorem refuses_two {w f F A X t Z} (h : Fa w f F A X) (hS : S8.Sth w F.st t Z) {g : Nat} (hg : ChB w g) {t1 t2 : S8.Ab} (e1 : S8.apA t 4 1 0 0 0 9 = (t1, 0)) (e2 : S8.apA t1 1 1 2 0 0 0 = (t2, 0)) {x : S8.Asp} (hx : S8.gA t2.sp 1 = some x) (hq : 2 < x.q) {t3 : S8.Ab} (e3 : S8.layA t2 1 2 513 = (t3, 0)) {nL : Nat} (hL : ∀ m, S8.RefsIs m (S8.cntA t3.sp) → S8.Up m → m.length = nL) (hlv : (nL : Int) ≤ F.pl) (hky : (S8.pagesN t3.sp : Int) ≤ F.ky) :
    Calls Tryz.prog 27 #[.pointer (some ⟨f, 0, none⟩), .slice (some ⟨g, 0, none⟩) 2 2] w fun e w' => e = .returned (.int .i64 0) ∧ Below w.heap.size w w' := by
  have HM1 := Hid.mk (fun w' => mayBe_make w' f 1 0 0 0 9)
  have HM2 := Hid.mk (fun w' (b : Below w.heap.size w w') => mayBe_put (h.call b) 1 2 0 0 0)
  have HC : Hid (∀ w', Below w.heap.size w w' → Calls Tryz.prog 46 #[.pointer (some ⟨F.st, 0, none⟩)] w' fun e w2 => ∃ P, e = .returned (.pointer (some ⟨P, 0, none⟩)) ∧ S8.Hold w'.heap.size w' P t w2) := fun w' b => by
    obtain ⟨s, h1, h2, h3, h4⟩ := hS.call b
    rw [← h1]
    refine (S8.copy_any h2).mono ?_
    rintro e w' ⟨s2, rfl, g1, g2, g3, g4⟩
    exact ⟨s2.p, rfl, s2, rfl, g1, g2.trans h3, g4, Nat.le_refl _, g3⟩
  have HF : Hid (∀ w', Below w.heap.size w w' → ChB w' g ∧ w'.cell? ⟨f, 4, none⟩ = some (.int .i64 F.pl) ∧ w'.cell? ⟨f, 5, none⟩ = some (.int .i64 F.ky) ∧ w'.cell? ⟨f, 9, none⟩ = some (.pointer (some ⟨F.st, 0, none⟩))) := fun w' b => ⟨hg.call b, (h.call b).c 4, (h.call b).c 5, (h.call b).c 9⟩
  have HE := Hid.mk (And.intro e1 (And.intro e2 (And.intro hx (And.intro hq (And.intro e3 (And.intro hL (And.intro hlv hky)))))))
  clear h hS hg e1 e2 hx hq e3 hL hlv hky
  go_enter Tryz.func27, Tryz.ntmps27
  go_upto_region 4 with fail
  go_loopw [6, 16] (fun _ i wr => ∃ k : Nat, k ≤ 2 ∧ i = .int .i64 k ∧ Below w.heap.size w wr) (fun _ i _ => 2 - (intOf i).toNat)
  case atStart => exact ⟨0, by omega, rfl, Below.refl _ _⟩
  case round =>
    obtain ⟨k, hk, rfl, hb⟩ := hrel
    have c : k = 0 ∨ k = 1 ∨ k = 2 := by omega
    obtain ⟨hch, _, _, c9⟩ := HF.out _ hb
    obtain ⟨⟨d0, d1, d2, d3, d4, d5, d6⟩, q0, q1, q2, q3, q4, q5, q6⟩ := hch.cells
    have HB := Hid.mk hb
    clear hb hk hch
    rcases c with rfl | rfl | rfl
    · clear q0 q1 q2 q3 q4 q5 q6
      have b1 := below3 HB.out (Pg.below_one wr (.cells #[.int .i64 4, .int .i64 1, .int .i64 0, .int .i64 0, .int .i64 0, .int .i64 9, .string ⟨#[]⟩] 49))
      go_wp2_with (go_at_call 52; refine (HM1.out _).mono ?_; rintro e w2 ⟨rfl, b2⟩)
      exact ⟨⟨1, by omega, rfl, below3 b1 b2⟩, by simp [intOf]⟩
    · clear d0 d1 d2 d3 d4 d5 d6
      have b1 := below3 HB.out (Pg.below_one wr (.cells #[.int .i64 1, .int .i64 1, .int .i64 2, .int .i64 0, .int .i64 0, .int .i64 0, .string ⟨#[120]⟩] 49))
      go_wp2_with (go_at_call 52; refine (HM2.out _ b1).mono ?_; rintro e w2 ⟨rfl, b2⟩)
      exact ⟨⟨2, by omega, rfl, below3 b1 b2⟩, by simp [intOf]⟩
    · clear q0 q1 q2 q3 q4 q5 q6 d0 d1 d2 d3 d4 d5 d6
      go_upto_region 11 with (go_at_call 46; refine (HC.out _ HB.out).mono ?_; rintro e w2 ⟨P, rfl, h2⟩)
      have H2 := Hid.mk h2
      clear h2 c9
      go_loopw [8, 9, 10, 32] (fun _ _ _ i wx => ∃ k : Nat, k ≤ 2 ∧ i = .int .i64 k ∧ (k = 0 → S8.Hold wr.heap.size wr P t wx) ∧ (k = 1 → S8.Hold wr.heap.size wr P t1 wx) ∧ (k = 2 → S8.Hold wr.heap.size wr P t3 wx)) (fun _ _ _ i _ => 2 - (intOf i).toNat)
      case atStart => exact ⟨0, by omega, rfl, fun _ => H2.out, fun e => absurd e (by omega), fun e => absurd e (by omega)⟩
      case round =>
        obtain ⟨k, hk, rfl, h0, h1, h2⟩ := hrel
        have c : k = 0 ∨ k = 1 ∨ k = 2 := by omega
        rcases c with rfl | rfl | rfl
        · have hh := h0 rfl
          clear h0 h1 h2 hk
          obtain ⟨⟨d0, d1, d2, d3, d4, d5, d6⟩, _⟩ := (HF.out _ (below3 HB.out hh.below)).1.cells
          have hA := S8.attempt_rest (hh.call (Pg.below_one _ (.cells #[.int .i64 4, .int .i64 1, .int .i64 0, .int .i64 0, .int .i64 0, .int .i64 9, .string ⟨#[]⟩] 49))) (K := 4) (S := 1) (G := 0) (A := 0) (T := 0) (N := 9) (by decide) 512
          rw [HE.out.1] at hA
          unfold Gp.rv at hA
          replace hA := Hid.mk hA
          clear hh
          go_wp2_with (go_at_call 53; refine hA.out.mono ?_; rintro e w4 ⟨rfl, h4⟩)
          exact ⟨⟨1, by omega, rfl, fun e => absurd e (by omega), fun _ => h4, fun e => absurd e (by omega)⟩, by simp [intOf]⟩
        · have hh := h1 rfl
          clear h0 h1 h2 hk
          obtain ⟨_, d0, d1, d2, d3, d4, d5, d6⟩ := (HF.out _ (below3 HB.out hh.below)).1.cells
          have hA := S8.attempt_put (hh.call (Pg.below_one _ (.cells #[.int .i64 1, .int .i64 1, .int .i64 2, .int .i64 0, .int .i64 0, .int .i64 0, .string ⟨#[120]⟩] 49))) (A := 0) (z := 513) HE.out.2.1 HE.out.2.2.1 (by decide) HE.out.2.2.2.1 (by decide)
          rw [HE.out.2.2.2.2.1] at hA
          unfold Gp.rv at hA
          replace hA := Hid.mk hA
          clear hh
          go_wp2_with (go_at_call 53; refine hA.out.mono ?_; rintro e w4 ⟨rfl, h4⟩)
          exact ⟨⟨2, by omega, rfl, fun e => absurd e (by omega), fun e => absurd e (by omega), fun _ => h4⟩, by simp [intOf]⟩
        · have hh := h2 rfl
          clear h0 h1 h2 hk
          have HL : Hid (∀ w', Below wr.heap.size wr w' → Calls Tryz.prog 54 #[.pointer (some ⟨P, 0, none⟩)] w' fun e w2 => e = .returned (.int .i64 (nL : Int)) ∧ w' = w2) := fun w' b => by
            obtain ⟨m, hm1, hm2, hlive⟩ := S8.hold_live (hh.call b)
            rw [HE.out.2.2.2.2.2.1 m hm1 hm2] at hlive
            exact hlive
          have HK : Hid (∀ w', Below wr.heap.size wr w' → Calls Tryz.prog 55 #[.pointer (some ⟨P, 0, none⟩)] w' fun e w2 => e = .returned (.int .i64 (S8.pagesN t3.sp : Int)) ∧ Below w'.heap.size w' w2) := fun w' b => S8.hold_keys (hh.call b)
          have BX := Hid.mk (below3 HB.out hh.below)
          have hn1 : ¬ F.pl < (nL : Int) := by have := HE.out.2.2.2.2.2.2.1; omega
          have hn2 : ¬ F.ky < (S8.pagesN t3.sp : Int) := by have := HE.out.2.2.2.2.2.2.2; omega
          have kS : Hid (∀ w', Below wr.heap.size wr w' → Below wr.heap.size wr w' ∧ w'.cell? ⟨f, 4, none⟩ = some (.int .i64 F.pl) ∧ w'.cell? ⟨f, 5, none⟩ = some (.int .i64 F.ky)) := fun w' b => ⟨b, (HF.out _ (below3 BX.out b)).2.1, (HF.out _ (below3 BX.out b)).2.2.1⟩
          generalize (S8.pagesN t3.sp : Int) = ky at *
          generalize (nL : Int) = nl at *
          have hd1 : decide (F.pl < nl) = false := decide_eq_false hn1
          have hd2 : decide (F.ky < ky) = false := decide_eq_false hn2
          clear hh hn1 hn2
          go_upto_region 17 with fail
          go_region_held3 (fun w' => Below wr.heap.size wr w' ∧ w'.cell? ⟨f, 4, none⟩ = some (.int .i64 F.pl) ∧ w'.cell? ⟨f, 5, none⟩ = some (.int .i64 F.ky))
            (first | assumption | exact kS.out _ (Below.refl _ wr) | exact kS.out _ (Below.refl _ wr).drew | exact kS.out _ (below3 (And.left (by assumption)) (by assumption)) | fail)
            (first
              | (go_at_call 54; refine (HL.out _ (by first | exact Below.refl _ wr | exact (Below.refl _ wr).drew | exact And.left (by assumption))).mono ?_; rintro e w4 ⟨rfl, rfl⟩)
              | (go_at_call 55; refine (HK.out _ (by first | exact Below.refl _ wr | exact (Below.refl _ wr).drew | exact And.left (by assumption))).mono ?_; rintro e w5 ⟨rfl, b5⟩))
          all_goals
            go_wp2_with fail
            go_ret
            exact ⟨rfl, below3 BX.out (And.left (by assumption))⟩
end Go.Proofs.YtcmmhfjnhlaepabGreatDoor
namespace Go.Proofs.YtcmmhfjnhlaepabGreatDoor
open Go Go.RowKit

theorem Sq.wnEq {D D' : Int} {X X' : Wx} {a r a' r' T Q} (h : Sq D X a r T Q) (h' : Sq D' X' a' r' T Q) (hl : X.wn.length = X.C.B) (hl' : X'.wn.length = X'.C.B) (hB : X'.C.B = X.C.B) : X'.wn = X.wn := by
  apply List.ext_getElem
  · rw [hl, hl', hB]
  · intro i h1 h2
    have e1 := h'.wz i (by omega)
    have e2 := h.wz i (by omega)
    rw [List.getD_eq_getElem?_getD, List.getElem?_eq_getElem h1, Option.getD_some] at e1
    rw [List.getD_eq_getElem?_getD, List.getElem?_eq_getElem h2, Option.getD_some] at e2
    rw [e1, e2]
theorem Sq.wnB {D : Int} {X : Wx} {a r T Q} (h : Sq D X a r T Q) (hl : X.wn.length = X.C.B) (hW : (Q 999999).2.1 < 1000000) : ∀ n, 0 ≤ X.wn.getD n 0 ∧ X.wn.getD n 0 < 1000000 := fun n => by
  by_cases e : n < X.C.B
  · rw [h.wz n e]; omega
  · rw [List.getD_eq_getElem?_getD, List.getElem?_eq_none (by omega)]
    simp
theorem Sq.cnt3 {D : Int} {X : Wx} {a r T Q} (h : Sq D X a r T Q) (hl : X.xs.length = X.C.B) : Lf.cnt X.xs 3 = 0 := by
  have : X.xs.countP (fun x => decide (x = 3)) = 0 := by
    rw [List.countP_eq_zero]
    intro x hx
    obtain ⟨i, hi, rfl⟩ := List.mem_iff_getElem.1 hx
    have e := h.xs i (by omega)
    rw [List.getD_eq_getElem?_getD, List.getElem?_eq_getElem hi, Option.getD_some] at e
    rw [e]
    split
    · simp
    · split <;> simp
  unfold Lf.cnt
  omega
theorem Sq.nofull {D : Int} {X : Wx} {r T Q} (h : Sq D X 0 r T Q) : frs X.xs X.wn [2] X.C.B = [] := by
  unfold frs
  rw [List.map_eq_nil_iff, List.filter_eq_nil_iff]
  intro b hb
  have hb := List.mem_range.1 hb
  rw [h.xs b hb, if_neg (by omega)]
  split <;> simp
theorem Ft.lens {w0 f F A X gl la gt tl t} {w : World} (h : Ft w0 f F A X gl la gt tl t w) : X.xs.length = X.C.B ∧ X.wn.length = X.C.B := ⟨h.fa.wtr.lif.ok.len, h.fa.wtr.wlen⟩
theorem row_0 {a P r k : Nat} (h : a * P + r = k) (hk : k < P) : a = 0 ∧ r = k := by
  rcases Nat.eq_zero_or_pos a with e | e
  · subst e; omega
  · have := Nat.mul_le_mul_right P e
    omega
set_option maxRecDepth 20000 in
theorem commit_two {w0 f F A X gl la gt tl t} {w : World} (h : Ft w0 f F A X gl la gt tl t w) (hc : Calm X) {D : Int} {r : Nat} {T : Nat → ByteArray} {Q : Nat → Tg} (hq : Sq D X 0 r T Q) (hr : r + 2 < X.C.P) (n : Nat) (hn : F.nx = n) (hnl : n < 900000) (hW : (Q 999999).2.1 < 1000000)
    (hrs : 0 ≤ F.rs ∧ F.rs ≤ 100000) (hsp : 0 ≤ F.sp ∧ F.sp ≤ 4) (hfree : F.want X.C.P ≤ X.free) (hj : 0 ≤ F.jr ∧ F.jr + 1 ≤ 2 * X.C.P) {g : Nat} (hg : ChB w g) (hsn : S8.sn X.wn t X.C.B = []) (t' : S8.Ab) (hp : S8.plays t [rc1, rc2 r] t') (hsn' : S8.sn X.wn t' X.C.B = []) (hmay : ∀ x ∈ [rc1, rc2 r], Gp.R6.may x = true) (tx : ByteArray) (hts : Gp.packGo X.C.Z ([rc1, rc2 r].map Gp.R6.put) [] ⟨#[]⟩ = [tx])
    (hT : T r = ⟨#[120]⟩ ∧ T (r + 1) = tx) (hQ : Q r = (1, n, 0, 1) ∧ Q (r + 1) = (2, n + 1, 0, 1)) :
    Calls Tryz.prog 28 #[.pointer (some ⟨f, 0, none⟩), .slice (some ⟨g, 0, none⟩) 2 2] w fun e w' => e = .returned (.int .i64 0) ∧ ∃ P' A' X', Ft w0 f { F with nx := ((n + 2 : Nat) : Int), st := P', jr := F.jr + 1 } A' X' gl ((la.set 0 (n : Int)).set 0 ((n + 1 : Nat) : Int)) gt (told tl [((r + 1 : Nat) : Int)]) t' w' ∧ Geq X' X ∧ Calm X' ∧ Sq D X' 0 (r + 2) T Q ∧ Mv f gl gt A X A' X' w w' := by
  have hgeo := h.fa.wtr.chip.geo
  obtain ⟨lx, lw⟩ := h.lens
  have hb := hq.cnt3 lx
  have hwn := hq.wnB lw hW
  have HN := Hid.mk (fun w' (b : Below w.heap.size w w') => isWorn_any (h.call b).fa)
  rw [hb, decide_eq_false (show ¬ F.sp < 0 by omega)] at HN
  have HM := Hid.mk (fun w' (b : Below w.heap.size w w') => makeRoom_calm (h.call b).fa hrs hsp hb _ _ _ h.tl.tl (Nat.mul_pos (by omega) (by omega)) hfree)
  have HP := Hid.mk (fun w' (b : Below w.heap.size w w') => put_two (h.call b) hc hq (by omega) r (by omega) n hn (by omega) hT.1 hQ.1 (hg.call b))
  have H := Hid.mk h
  have HD := Hid.mk (And.intro hsn (And.intro hp (And.intro hsn' (And.intro hmay (And.intro hts (And.intro hT.2 hQ.2))))))
  have HJ := Hid.mk (And.intro hj hq)
  clear h hg hsn hp hsn' hmay hts hT hQ hwn hb hj hfree hrs hsp
  go_enter Tryz.func28, Tryz.ntmps28
  go_upto_region 6 with (first
    | (go_at_call 36; refine (HN.out _ (by first | exact Below.refl _ w | exact below_dn w _ | assumption)).mono ?_; rintro e w1 ⟨rfl, m1, rfl⟩; try rw [Lf.drewN_drewN])
    | (go_at_call 56; refine (HM.out _ (below_dn w _)).mono ?_; rintro e w2 ⟨rfl, m2, rfl⟩; rw [Lf.drewN_drewN]))
  generalize hM : (_ + m2 + m1) = M
  have B1 := below_dn w M
  have HP1 := Hid.mk (HP.out _ B1)
  generalize hw1 : w.drewN M = w1 at *
  have HB := Hid.mk (And.intro B1 hw1)
  clear B1 hw1 HN HM HP
  go_upto_region 7 with (go_at_call 57; refine HP1.out.mono ?_; rintro e w4 ⟨v, rfl, o4, A', X', a', r', h4, g4, c4, har, hq4, m4⟩)
  obtain ⟨rfl, rfl⟩ := row_0 har (by omega)
  obtain ⟨lx4, lw4⟩ := h4.lens
  have wnE := HJ.out.2.wnEq hq4 lw lw4 g4.1
  obtain ⟨va, vc, hv⟩ := o4.form
  rw [show ([rc1, rc2 r].map S8.rR).length = 2 from rfl] at hv
  subst hv
  have hsn4 : S8.sn X'.wn t X'.C.B = [] := by rw [wnE, g4.1]; exact HD.out.1
  have hT4 := tell_any h4 c4 hq4 (by rw [g4.1]; omega) (r + 1) (by omega) (n + 1) rfl (by omega) (hq4.cnt3 lx4) (hq4.wnB lw4 hW) ⟨HJ.out.1.1, by have := HJ.out.1.2; show F.jr < 1000000; omega⟩ [rc1, rc2 r] va vc _ o4 (by simp) (by simp) t' (by rw [hsn4]; exact HD.out.2.1) (by rw [hsn4]; exact HD.out.2.2.2.1) tx (by rw [hsn4, g4.2.2]; exact HD.out.2.2.2.2.1) HD.out.2.2.2.2.2.1 HD.out.2.2.2.2.2.2
  rw [show [rc1, rc2 r].length = 2 from rfl] at hT4
  have HT := Hid.mk hT4
  have M4 : Mv f gl gt A X A' X' w w4 := ((Mv.refl f gl gt A X w).call HB.out.1).trans m4
  have H4 := Hid.mk (And.intro g4 (And.intro wnE (And.intro M4 lx4)))
  clear h4 g4 c4 har hq4 m4 o4 lx4 lw4 wnE hsn4 hT4 M4 HP1
  go_upto_region 9 with (go_at_call 58; refine HT.out.mono ?_; rintro e w6 ⟨rfl, P', A2, X2, a2, r2, h6, g6, c6, har, hq6, m6⟩)
  rw [H4.out.1.2.1] at har
  obtain ⟨rfl, rfl⟩ := row_0 har (by omega)
  obtain ⟨lx6, lw6⟩ := h6.lens
  have hB6 : X2.C.B = X.C.B := g6.1.trans H4.out.1.1
  have wn6 := HJ.out.2.wnEq hq6 lw lw6 hB6
  have HY := Hid.mk (tidy_calm h6.fa h6.st (hq6.cnt3 lx6) (hq6.wnB lw6 hW) (by rw [wn6, hB6]; exact HD.out.2.2.1) hq6.nofull (by
    have := HJ.out.1
    rw [g6.2.1, H4.out.1.2.1]
    show 0 ≤ F.jr + 1 ∧ F.jr + 1 ≤ 2 * (X.C.P : Int)
    omega))
  have H6 := Hid.mk (And.intro h6 (And.intro g6 (And.intro c6 (And.intro hq6 m6))))
  clear h6 g6 c6 har hq6 m6 lx6 lw6 hB6 wn6
  go_wp2_with (go_at_call 59; refine HY.out.mono ?_; rintro e w7 ⟨rfl, b7⟩)
  go_ret
  exact ⟨rfl, P', A2, X2, H6.out.1.call b7, ⟨H6.out.2.1.1.trans H4.out.1.1, H6.out.2.1.2.1.trans H4.out.1.2.1, H6.out.2.1.2.2.trans H4.out.1.2.2⟩, H6.out.2.2.1, H6.out.2.2.2.1, (H4.out.2.2.1.trans H6.out.2.2.2.2).call b7⟩
end Go.Proofs.YtcmmhfjnhlaepabGreatDoor
namespace Go.Proofs.YtcmmhfjnhlaepabGreatDoor
open Go Go.RowKit
set_option maxRecDepth 100000

set_option maxHeartbeats 1000000 in
theorem read_ok {w : World} {A X} (h : Wtr w A X) (hT : Pg.Tab w) (b p : Nat) (hb : b < X.C.B) (hp : p < X.C.P) (hoff : X.C.off = false) {t : ByteArray} {K S I O W : Nat} (hs : Says X.C b p t K S I O W) (n : Int) (hn : n = b * X.C.P + p) :
    Calls Tryz.prog 43 #[.pointer (some ⟨A.a, 0, none⟩), .int .i64 n] w fun e w' => e = .returned (.tuple #[Pg.tagV K S I O W, .string t, .int .i64 0]) ∧ Below w.heap.size w w' := by
  have hgeo := h.chip.geo
  obtain ⟨d, s, hpg, hds, hv⟩ := hs
  have hss := hv.size
  have hne : X.C.pg b p ≠ ⟨#[]⟩ := by
    intro e
    have := congrArg ByteArray.size (hpg.symm.trans e)
    rw [ByteArray.size_append, hss] at this
    have h0 : (⟨#[]⟩ : ByteArray).size = 0 := rfl
    omega
  have hseen : seen X.C b p = d ++ s := by unfold seen; rw [if_neg hne, hpg]
  have hrd : rdV X.C b p = .tuple #[.string d, .string s, .int .i64 0] := by
    unfold rdV
    rw [if_pos (refP_ok hoff hb hp), Int.toNat_natCast, Int.toNat_natCast, hseen, ← hds, Pg.extract_left]
    have e : d.size + 32 = (d ++ s).size := by rw [ByteArray.size_append, hss]
    rw [e, Pg.extract_right]
  have hq : n.tdiv (X.C.P : Int) = b := by
    rw [hn, Int.tdiv_eq_ediv_of_nonneg (by have := Int.mul_nonneg (Int.natCast_nonneg b) (Int.natCast_nonneg X.C.P); omega), Int.add_comm, Int.add_mul_ediv_right _ _ (by omega), Int.ediv_eq_zero_of_lt (by omega) (by omega)]
    omega
  have hr : n.tmod (X.C.P : Int) = p := by
    rw [hn, Int.tmod_eq_emod_of_nonneg (by have := Int.mul_nonneg (Int.natCast_nonneg b) (Int.natCast_nonneg X.C.P); omega), Int.add_comm, Int.add_mul_emod_self_right, Int.emod_eq_of_lt (by omega) (by omega)]
  have hread := Hid.mk (fun (w : World) (h : Wtr w A X) => hrd ▸ read_any h.chip b p)
  have hlook := Hid.mk (fun w hT => Pg.look_v hv w hT)
  have T0 := Pg.TB.fresh w 0 0 0 0 0
  have B0 := (Below.refl w.heap.size w).alloc (Nat.le_refl _) (.cells #[.int .i64 0, .int .u64 0, .int .i64 0, .int .i64 0, .int .i64 0] 97)
  have HS : Hid (RdS w A X (w.alloc (.cells #[.int .i64 0, .int .u64 0, .int .i64 0, .int .i64 0, .int .i64 0] 97))) := ⟨T0, h.call B0, hT.call B0, B0⟩
  obtain ⟨c0, -, -, -, -⟩ := h.cells
  have hAl := h.lt _ (.inl rfl)
  have hge := Hid.mk (fun (w : World) (h : Wtr w A X) => geom_any h.chip)
  obtain ⟨P, hP⟩ : ∃ P : Nat, P = X.C.P := ⟨_, rfl⟩
  rw [← hP] at hq hr hge
  have hmx : max (P : Int) 1 = (P : Int) := by omega
  have hP0 : ¬ (P : Int) = 0 := by omega
  have hfd := fldP
  have hw1 : IntKind.i64.wrap (b : Int) = b := by rw [IntKind.wrap_i64]; omega
  have hPn : ¬ P = 0 := by omega
  have hPp : (0 : Int) < (P : Int) := by omega
  unfold Pg.tagV at hlook
  clear h hT hgeo hpg hds hv hss hne hseen hrd hn T0 B0 hP hb hp hoff
  go_enter Tryz.func43, Tryz.ntmps43
  go_upto_region 4 with (first
    | (go_at_call 8; refine (hge.out _ HS.out.2.1).mono ?_; rintro e w1 ⟨rfl, b1⟩; replace HS : Hid (RdS w A X w1) := ⟨HS.out.1.call b1, HS.out.2.1.call b1, HS.out.2.2.1.call b1, below3 HS.out.2.2.2 b1⟩; clear b1))
  have hS1 : Hid (w1.drew.cell? ⟨A.a, 0, none⟩ = some (.pointer (some ⟨A.L.a, 0, none⟩)) ∧ RdS w A X w1.drew) := ⟨HS.out.2.1.cells.1, HS.out.1.drew, HS.out.2.1.drew, HS.out.2.2.1.drew, HS.out.2.2.2.drew⟩
  clear c0
  go_region_held3 (fun w' => w'.cell? ⟨A.a, 0, none⟩ = some (.pointer (some ⟨A.L.a, 0, none⟩)) ∧ RdS w A X w') (first | assumption | exact hS1.out | exact rds_keep (by assumption) (by assumption) | fail) (first | (go_at_call 82; refine (hread.out _ (by assumption : _ ∧ RdS w A X _).2.2.1).mono ?_; rintro e w3 ⟨rfl, b3⟩))
  have HX : Hid (w3.cell? ⟨A.a, 0, none⟩ = some (.pointer (some ⟨A.L.a, 0, none⟩)) ∧ RdS w A X w3) := Hid.mk (by assumption)
  replace HS := Hid.mk HX.out.2
  clear HX hS1
  go_upto_region 8 with (first
    | (go_at_call 83; refine (hlook.out _ HS.out.2.2.1).mono ?_; rintro e w4 ⟨rfl, b4⟩; have N0 := Pg.TB.fresh w4 K S I O W; have O0 := (HS.out.1.call b4).alloc (.cells #[.int .i64 K, .int .u64 S, .int .i64 I, .int .i64 O, .int .i64 W] 97); have BB := (below3 HS.out.2.2.2 b4).alloc (below3 HS.out.2.2.2 b4).size (.cells #[.int .i64 K, .int .u64 S, .int .i64 I, .int .i64 O, .int .i64 W] 97)))
  have hne : w4.heap.size ≠ w.heap.size := by have := HS.out.1.lt; have := b4.size; omega
  generalize w4.heap.size = G at *
  generalize (w4.alloc (.cells #[.int .i64 K, .int .u64 S, .int .i64 I, .int .i64 O, .int .i64 W] 97)) = V at *
  obtain ⟨c0, c1, c2, c3, c4⟩ := N0.five
  obtain ⟨d0, d1, d2, d3, d4⟩ := O0.five
  have f0 := O0.frozen 0
  have f1 := O0.frozen 1
  have f2 := O0.frozen 2
  have f3 := O0.frozen 3
  have f4 := O0.frozen 4
  have HR := Hid.mk (Pg.tb_whole O0 BB (Nat.le_refl _) K S I O W)
  clear O0 N0 BB HS b4
  go_wp2_with fail
  exact bodyPost_ret (tb_resultR rfl rfl HR.out.1) rfl ⟨rfl, HR.out.2⟩
end Go.Proofs.YtcmmhfjnhlaepabGreatDoor
namespace Go.Proofs.YtcmmhfjnhlaepabGreatDoor
open Go Go.RowKit

set_option maxRecDepth 20000 in
theorem Commit_two {w0 f F A X gl la gt tl t} {w : World} (h : Ft w0 f F A X gl la gt tl t w) (hlost : F.lost = false) (hc : Calm X) {D : Int} {r : Nat} {T : Nat → ByteArray} {Q : Nat → Tg} (hq : Sq D X 0 r T Q) (hr : r + 2 < X.C.P) (n : Nat) (hn : F.nx = n) (hnl : n < 900000) (hW : (Q 999999).2.1 < 1000000)
    (hrs : 0 ≤ F.rs ∧ F.rs ≤ 100000) (hsp : 0 ≤ F.sp ∧ F.sp ≤ 4) (hfree : F.want X.C.P ≤ X.free) (hj : 0 ≤ F.jr ∧ F.jr + 1 ≤ 2 * X.C.P) {g : Nat} (hg : ChB w g) (hsn : S8.sn X.wn t X.C.B = []) (t' : S8.Ab) (hp : S8.plays t [rc1, rc2 r] t') (hsn' : S8.sn X.wn t' X.C.B = []) (hmay : ∀ x ∈ [rc1, rc2 r], Gp.R6.may x = true) (tx : ByteArray) (hts : Gp.packGo X.C.Z ([rc1, rc2 r].map Gp.R6.put) [] ⟨#[]⟩ = [tx])
    (hT : T r = ⟨#[120]⟩ ∧ T (r + 1) = tx) (hQ : Q r = (1, n, 0, 1) ∧ Q (r + 1) = (2, n + 1, 0, 1))
    {t1 t2 : S8.Ab} (e1 : S8.apA t 4 1 0 0 0 9 = (t1, 0)) (e2 : S8.apA t1 1 1 2 0 0 0 = (t2, 0)) {x : S8.Asp} (hx : S8.gA t2.sp 1 = some x) (hxq : 2 < x.q) {t3 : S8.Ab} (e3 : S8.layA t2 1 2 513 = (t3, 0)) {nL : Nat} (hL : ∀ m, S8.RefsIs m (S8.cntA t3.sp) → S8.Up m → m.length = nL) (hlv : (nL : Int) ≤ F.pl) (hky : (S8.pagesN t3.sp : Int) ≤ F.ky) :
    Calls Tryz.prog 11 #[.pointer (some ⟨f, 0, none⟩), .slice (some ⟨g, 0, none⟩) 2 2] w fun e w' => e = .returned (.int .i64 0) ∧ ∃ P' A' X', Ft w0 f { F with nx := ((n + 2 : Nat) : Int), st := P', jr := F.jr + 1 } A' X' gl ((la.set 0 (n : Int)).set 0 ((n + 1 : Nat) : Int)) gt (told tl [((r + 1 : Nat) : Int)]) t' w' ∧ Geq X' X ∧ Calm X' ∧ Sq D X' 0 (r + 2) T Q ∧ Mv f gl gt A X A' X' w w' := by
  have H1 := Hid.mk (refuses_any h.fa hlost hq.fin.off)
  have H2 := Hid.mk (refuses_two h.fa h.st hg e1 e2 hx hxq e3 hL hlv hky)
  have H3 := Hid.mk (fun w' (b : Below w.heap.size w w') => commit_two (h.call b) hc hq hr n hn hnl hW hrs hsp hfree hj (hg.call b) hsn t' hp hsn' hmay tx hts hT hQ)
  have HL := Hid.mk hlost
  clear h hg hlost hsn hp hsn' hmay hts hT hQ e1 e2 hx hxq e3 hL hlv hky hj hfree hrs hsp
  go_enter Tryz.func11, Tryz.ntmps11
  go_upto_region 8 with (first
    | (go_at_call 26; refine H1.out.mono ?_; rintro e w1 ⟨rfl, rfl⟩)
    | (go_at_call 27; refine H2.out.mono ?_; rintro e w2 ⟨rfl, b2⟩)
    | (go_at_call 28; refine (H3.out _ b2).mono ?_; rintro e w3 ⟨rfl, P', A', X', h3, g3, c3, hq3, m3⟩))
  have f14 := h3.frz 14
  have c14 : w3.cell? ⟨f, 14, none⟩ = some (.bool F.lost) := h3.fa.c 14
  have h4 := h3.cell (F' := { F with nx := ((n + 2 : Nat) : Int), st := P', jr := F.jr + 1 }) 14 (.bool false) (by unfold Fc.cells; rw [show F.lost = false from HL.out]; rfl) rfl rfl h3.st
  have k4 : Kp (fun i => i = f) w3 (w3.setCell ⟨f, 14, none⟩ (.bool false)) := (Kp.refl (fun i => i = f) w3).setCell (p := ⟨f, 14, none⟩) rfl _
  have H4 := Hid.mk (And.intro h4 (And.intro g3 (And.intro c3 (And.intro hq3 (((Mv.refl f gl gt A X _).call b2).trans (m3.trans (Mv.of k4 (fun i hi => .inl hi))))))))
  clear h3 g3 c3 hq3 m3 h4 k4 b2
  go_wp2_with fail
  go_ret
  exact ⟨rfl, P', A', X', H4.out⟩
set_option maxRecDepth 20000 in
theorem readAt_any {w0 f F A X gl la gt tl t} {w : World} (h : Ft w0 f F A X gl la gt tl t w) (hoff : X.C.off = false) (b p : Nat) (hb : b < X.C.B) (hp : p < X.C.P) {s : ByteArray} {K S I O W : Nat} (hs : Says X.C b p s K S I O W) (n : Nat) (hn : b * X.C.P + p = n) :
    Calls Tryz.prog 19 #[.pointer (some ⟨f, 0, none⟩), .int .i64 n] w fun e w' => e = .returned (.tuple #[.string s, .int .i64 0]) ∧ Below w.heap.size w w' := by
  have c8 := h.fa.ptr.2.1
  have c10 : w.cell? ⟨f, 10, none⟩ = some F.tl := h.fa.c 10
  rw [h.tl.tl] at c10
  have hnB : (n : Int) < (X.C.B * X.C.P : Nat) := by
    have := Nat.mul_le_mul_right X.C.P (show b + 1 ≤ X.C.B by omega)
    rw [Nat.succ_mul] at this
    omega
  have HN := Hid.mk (isNone_any h.fa)
  have HR := Hid.mk (read_ok h.fa.wtr h.tab b p hb hp hoff hs (n : Int) (by rw [← hn]; simp))
  generalize X.C.B * X.C.P = np at *
  have hnn : ¬ (n : Int) < 0 := by omega
  have hng : ¬ (np : Int) ≤ n := by omega
  unfold Pg.tagV at HR
  clear h hs hb hp hn
  go_enter Tryz.func19, Tryz.ntmps19
  go_wp2_with (first
    | (go_at_call 38; refine HN.out.mono ?_; rintro e w1 ⟨rfl, rfl⟩)
    | (go_at_call 43; refine HR.out.mono ?_; rintro e w2 ⟨rfl, b2⟩))
  go_ret2
  exact ⟨rfl, below3 b2 (Pg.below_one _ _)⟩
set_option maxRecDepth 20000 in
theorem Read_any {w0 f F A X gl la gt tl t} {w : World} (h : Ft w0 f F A X gl la gt tl t w) (hoff : X.C.off = false) (b p : Nat) (hb : b < X.C.B) (hp : p < X.C.P) {s : ByteArray} {K S I O W : Nat} (hs : Says X.C b p s K S I O W) (n : Nat) (hn : b * X.C.P + p = n) {id pg : Int} (hi : S8.K64 id) (hpg : S8.K64 pg) (hg : S8.getA t id pg = some (n : Int)) :
    Calls Tryz.prog 17 #[.pointer (some ⟨f, 0, none⟩), .int .i64 id, .int .i64 pg] w fun e w' => e = .returned (.tuple #[.string s, .bool true, .int .i64 0]) ∧ Below w.heap.size w w' := by
  have c9 := h.fa.ptr.2.2
  have HN := Hid.mk (isNone_any h.fa)
  have HG := S8.hold_get h.st.hold hi hpg
  rw [hg] at HG
  have HG2 := Hid.mk HG
  have HR := Hid.mk (readAt_any h hoff b p hb hp hs n hn)
  clear h hs hb hp hn hg HG
  go_enter Tryz.func17, Tryz.ntmps17
  go_wp2_with (first
    | (go_at_call 38; refine HN.out.mono ?_; rintro e w1 ⟨rfl, rfl⟩)
    | (go_at_call 39; refine HG2.out.mono ?_; rintro e w1 ⟨rfl, rfl⟩)
    | (go_at_call 19; refine HR.out.mono ?_; rintro e w2 ⟨rfl, b2⟩))
  go_ret3
  exact ⟨rfl, b2⟩
end Go.Proofs.YtcmmhfjnhlaepabGreatDoor
namespace Go.Proofs.YtcmmhfjnhlaepabGreatDoor
open Go Go.RowKit

/-- a chip on which nothing was written, whose first k blocks have been erased once -/
structure Fresh (k : Nat) (X : Wx) : Prop where
  off : X.C.off = false
  dead : ∀ b, X.C.dead b = false
  pg : ∀ b p, b < X.C.B → p < X.C.P → X.C.pg b p = ⟨#[]⟩
  wn : ∀ i, i < X.C.B → X.wn.getD i 0 = if i < k then 1 else 0
  worn : ∀ i, 0 ≤ X.C.worn i ∧ X.C.worn i ≤ (if i < k then 1 else 0)
  xs : ∀ i, i < X.C.B → X.xs.getD i 0 = 0
  o : X.o = -1
  bd : X.bd = []
  did : X.C.did = k
  calm : Calm X
  Z : X.C.Z ≤ 256
  unm : ∀ b, b < X.C.B → X.C.mark b = false
theorem Fresh.er {k : Nat} {X : Wx} (h : Fresh k X) (hk : k < X.C.B) : eraseC X.C k = ({ X.C with did := X.C.did + 1, worn := upd X.C.worn k (X.C.worn k + 1), pg := upd X.C.pg k (fun p => if p < X.C.P then ⟨#[]⟩ else X.C.pg k p) }, 0) := by
  unfold eraseC
  have e : refB X.C k = 0 := by unfold refB; rw [h.off, if_neg (by decide), if_pos (by omega)]
  rw [if_pos e, h.calm.cuts]
  dsimp only
  rw [h.dead, h.calm.fails, if_neg (by decide), Int.toNat_natCast]
theorem Fresh.erE {k : Nat} {X : Wx} (h : Fresh k X) (hk : k < X.C.B) : X.erE k = 0 := by
  unfold Wx.erE
  rw [h.er hk, if_pos rfl]
theorem Fresh.geq {k : Nat} {X : Wx} (h : Fresh k X) (hk : k < X.C.B) : Geq (X.erX k) X := by
  unfold Wx.erX Wx.erC Wx.letB
  rw [h.er hk, if_pos rfl]
  exact ⟨rfl, rfl, rfl⟩
theorem Fresh.next {k : Nat} {X : Wx} (h : Fresh k X) (hk : k < X.C.B) (hl : X.wn.length = X.C.B) : Fresh (k + 1) (X.erX k) := by
  unfold Wx.erX Wx.erC Wx.letB letX letO
  rw [h.er hk, if_pos rfl]
  have hx : ¬ X.xs.getD k 0 = 3 := by rw [h.xs k hk]; decide
  rw [if_neg hx, if_neg hx]
  refine ⟨h.off, h.dead, fun b p hb hp => ?_, fun i hi => ?_, fun i => ?_, fun i hi => ?_, ?_, h.bd, ?_, ⟨h.calm.cuts, h.calm.fails⟩, h.Z, h.unm⟩
  · have hp : p < X.C.P := hp
    have hb : b < X.C.B := hb
    show upd X.C.pg k _ b p = _
    unfold upd
    split
    · dsimp only
      rw [if_pos hp]
    · exact h.pg b p hb hp
  · show (X.wn.set k (X.wn.getD k 0 + 1)).getD i 0 = _
    have hi : i < X.C.B := hi
    by_cases e : i = k
    · subst e
      have := h.wn i hi
      rw [if_neg (by omega)] at this
      rw [this, if_pos (by omega), List.getD_eq_getElem?_getD, List.getElem?_set_self (by omega)]
      rfl
    · have := h.wn i hi
      rw [List.getD_eq_getElem?_getD, List.getElem?_set_ne (by omega), ← List.getD_eq_getElem?_getD, this]
      by_cases e2 : i < k
      · rw [if_pos e2, if_pos (by omega)]
      · rw [if_neg e2, if_neg (by omega)]
  · show 0 ≤ upd X.C.worn k _ i ∧ upd X.C.worn k _ i ≤ _
    unfold upd
    have := h.worn i
    split
    · rename_i e
      subst e
      rw [if_neg (by omega)] at this
      rw [if_pos (by omega)]
      omega
    · rename_i e
      by_cases e2 : i < k
      · rw [if_pos e2] at this
        rw [if_pos (by omega)]
        exact this
      · rw [if_neg e2] at this
        rw [if_neg (by omega)]
        exact this
  · show (X.xs.set k 0).getD i 0 = 0
    have hi : i < X.C.B := hi
    have := h.xs i hi
    by_cases e : i = k
    · subst e
      by_cases e2 : i < X.xs.length
      · rw [List.getD_eq_getElem?_getD, List.getElem?_set_self e2]; rfl
      · rw [List.getD_eq_getElem?_getD, List.getElem?_eq_none (by rw [List.length_set]; omega)]; rfl
    · rw [List.getD_eq_getElem?_getD, List.getElem?_set_ne (by omega), ← List.getD_eq_getElem?_getD, this]
  · show (if X.o = (k : Int) then -1 else X.o) = -1
    rw [h.o]
    split <;> rfl
  · show X.C.did + 1 = ((k + 1 : Nat) : Int)
    rw [h.did]; omega
theorem Fresh.fin {k : Nat} {X : Wx} (h : Fresh k X) (hl : X.wn.length = X.C.B) : Fin X := by
  refine ⟨h.off, fun b hb _ => ⟨h.dead b, fun p hp => h.pg b p hb hp⟩, fun b hb hx => ?_, fun i => ?_, h.Z⟩
  · rw [h.xs b hb] at hx; exact absurd hx (by decide)
  · by_cases e : i < X.C.B
    · rw [h.wn i e]; split <;> omega
    · rw [List.getD_eq_getElem?_getD, List.getElem?_eq_none (by omega)]
      simp
theorem Fresh.sq {X : Wx} (h : Fresh X.C.B X) (hl : X.wn.length = X.C.B) (hg : 8 ≤ X.C.B ∧ X.C.B ≤ 32 ∧ 4 ≤ X.C.P) (T : Nat → ByteArray) (Q : Nat → Tg) (hQ : (Q 999999).2.1 = 1) : Sq (-(X.C.B : Int)) X 0 0 T Q := by
  refine ⟨h.fin hl, fun i hi => ?_, .inl ⟨by omega, by omega⟩, fun i hi => ?_, fun e => by omega, fun i p e => by omega, ?_, by omega, h.bd, h.unm⟩
  · rw [h.wn i hi, if_pos hi, hQ]; rfl
  · rw [h.xs i hi, if_neg (by omega), if_neg (by omega)]
  · rw [h.did]; omega
set_option maxRecDepth 20000 in
theorem eraseAll_any {w0 f F A X gl la gt tl t} {w : World} (h : Ft w0 f F A X gl la gt tl t w) (hF : Fresh 0 X) :
    Calls Tryz.prog 34 #[.pointer (some ⟨f, 0, none⟩)] w fun e w' => e = .returned (.int .i64 0) ∧ ∃ A' X', Ft w0 f F A' X' gl la gt tl t w' ∧ Fresh X'.C.B X' ∧ Geq X' X ∧ Mv f gl gt A X A' X' w w' := by
  have hgeo := h.fa.wtr.chip.geo
  have c1 : w.cell? ⟨f, 1, none⟩ = some (.int .i64 X.C.B) := h.fa.c 1
  have H := Hid.mk (And.intro h hF)
  clear h hF
  generalize hB : X.C.B = B at *
  have HB := Hid.mk hB
  clear hB
  go_enter Tryz.func34, Tryz.ntmps34
  go_upto_region 2 with fail
  go_loopw [3, 4, 10] (fun _ _ i wr => ∃ (k : Nat) (A' : Wl) (X' : Wx), k ≤ B ∧ i = .int .i64 k ∧ Ft w0 f F A' X' gl la gt tl t wr ∧ Fresh k X' ∧ Geq X' X ∧ Mv f gl gt A X A' X' w wr) (fun _ _ i _ => B - (intOf i).toNat)
  case atStart => exact ⟨0, A, X, Nat.zero_le _, rfl, H.out.1, H.out.2, ⟨rfl, rfl, rfl⟩, Mv.refl _ _ _ _ _ _⟩
  case round =>
    obtain ⟨k, A', X', hk, rfl, hf, hfr, hg, hm⟩ := hrel
    have hB' : X'.C.B = B := hg.1.trans HB.out
    by_cases hlt : k < B
    · have hltI : (k : Int) < (B : Int) := by omega
      obtain ⟨lx, lw⟩ := hf.lens
      have hbad := isBad_any hf.fa (k : Int)
      rw [Lf.isL_in X'.xs k (by rw [lx]; omega), hfr.xs k (by omega)] at hbad
      have HBd := Hid.mk hbad
      have hE := werase_any hf.fa.wtr k (by omega) (by rw [hfr.did]; omega) (fun n => by have := hfr.worn n; split at this <;> omega) (by rw [hfr.wn k (by omega), if_neg (by omega)]; omega) (by rw [hfr.bd]; simp)
      rw [hfr.erE (by omega)] at hE
      have HE := Hid.mk hE
      have c8 := hf.fa.ptr.2.1
      have HX := Hid.mk (And.intro hf (And.intro (hfr.next (by omega) lw) (And.intro (hfr.geq (by omega)) (And.intro hg hm))))
      clear hf hfr hg hm hbad hE lx lw hB'
      go_wp2_with (first
        | (go_at_call 47; refine HBd.out.mono ?_; rintro e w1 ⟨rfl, rfl⟩)
        | (go_at_call 68; refine HE.out.mono ?_; rintro e w2 ⟨rfl, A2, h2, n2⟩))
      exact ⟨⟨k + 1, A2, X'.erX k, by omega, by go_num, HX.out.1.next h2 n2 HX.out.2.2.1, HX.out.2.1, ⟨HX.out.2.2.1.1.trans HX.out.2.2.2.1.1, HX.out.2.2.1.2.1.trans HX.out.2.2.2.1.2.1, HX.out.2.2.1.2.2.trans HX.out.2.2.2.1.2.2⟩, HX.out.2.2.2.2.trans (Mv.nxt n2 HX.out.2.2.1)⟩, by simp [intOf]; omega⟩
    · obtain rfl : k = B := by omega
      have HX := Hid.mk (And.intro hf (And.intro hfr (And.intro hg (And.intro hm hB'))))
      clear hf hfr hg hm hB'
      go_wp2_with fail
      go_ret
      exact ⟨rfl, A', X', HX.out.1, by rw [HX.out.2.2.2.2]; exact HX.out.2.1, HX.out.2.2.1, HX.out.2.2.2.1⟩
end Go.Proofs.YtcmmhfjnhlaepabGreatDoor
