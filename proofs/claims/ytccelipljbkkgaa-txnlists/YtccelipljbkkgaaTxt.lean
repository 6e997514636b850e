/-
  A transaction: a change is tried on a copy. No condition.
-/
import Derived.Test.YtccelipljbkkgaaTxf
import Derived.Deep.AppendLies
namespace Go.Proofs.Ytccelipljbkkgaa
open Go Go.RowKit Go.Maps

/-- a change that is tried; R: what it comes to on a copy -/
def tryA (X : TX) (c : Cg) (R : Ab × Int) : TX × Int :=
  if 8 ≤ X.cs.length then (X, 171)
  else if R.2 ≠ 0 then (X, R.2)
  else if X.pl < (liveA R.1 : Int) ∨ X.ks < (pagesN R.1.sp : Int) then (X, 172)
  else ({ X with a := R.1, cs := X.cs ++ [c] }, 0)
/-- what a change of a transaction answers and leaves -/
def TxD (B g : Nat) (v : Value) (r : TX × Int) (w : World) (e : Ending) (w' : World) : Prop := e = .returned (.int .i64 r.2) ∧ ∃ v' s', TxH B g v' r.1 s' w' ∧ Tch w w' g v v'
theorem TxD.same {B g v X s w w'} (h : TxH B g v X s w) (b : Below w.heap.size w w') (c : Int) : TxD B g v (X, c) w (.returned (.int .i64 c)) w' := ⟨rfl, v, s, h.call b, Tch.ofBelow b g v⟩
theorem Whole.alloc {w s} (h : Whole w s) (o : Obj) : Whole (w.alloc o) s := h.call ((Below.refl _ w).alloc (Nat.le_refl _) o)
/-- a change in a block of its own -/
def BxC (w : World) (gc : Nat) (r0 r1 r2 r3 r4 r5 : Int) (str : ByteArray) : Prop := w.heap[gc]? = some (.cells #[.int .i64 r0, .int .i64 r1, .int .i64 r2, .int .i64 r3, .int .i64 r4, .int .i64 r5, .string str] 49 (0, 0))
/-- a transaction whose copy is made, and whose change lies at gc -/
structure TxL (B g gc : Nat) (v : Value) (X : TX) (s s3 : St) (p3 : Nat) (w w6 : World) (r0 r1 r2 r3 r4 r5 : Int) (str : ByteArray) : Prop where
  t : TxH B g v X s w6
  hB : B ≤ w.heap.size
  st : Whole w6 s3
  hp : s3.p = p3
  hi : ∀ i ∈ foot s3, w.heap.size < i
  bx : BxC w6 gc r0 r1 r2 r3 r4 r5 str
  bel : Below w.heap.size w w6
  vlt : ∀ b, v.ownBlock = some b → b < w.heap.size
  glt : g < w.heap.size
/-- the copy has taken the state's place -/
structure TxM (B g gc : Nat) (v : Value) (X : TX) (s3 : St) (p3 : Nat) (w w7 : World) (r0 r1 r2 r3 r4 r5 : Int) (str : ByteArray) : Prop where
  box : w7.heap[g]? = some (.cells (txC p3 v X) 76 (0, 0))
  hB0 : B ≤ w.heap.size
  st : Whole w7 s3
  hp : s3.p = p3
  hi : ∀ i ∈ foot s3, w.heap.size < i
  bx : BxC w7 gc r0 r1 r2 r3 r4 r5 str
  ow : Ow w7 B 49 7 v (X.cs.map cgR)
  hg : B ≤ g
  size : w.heap.size ≤ w7.heap.size
  os : w7.os = w.os
  tape : w7.tape = w.tape
  output : w7.output = w.output
  block : ∀ i, i < w.heap.size → i ≠ g → w7.heap[i]? = w.heap[i]?
  vlt : ∀ b, v.ownBlock = some b → b < w.heap.size
  glt : g < w.heap.size
theorem snoc_len {α β : Type} (f : α → β) (l : List α) (y : β) : (l.map f ++ [y]).length = l.length + 1 := by simp
theorem Ow.ne {w : World} {B e sz v rows} (h : Ow w B e sz v rows) {g : Nat} {cs : Array Value} {t : TypeId} {f : Nat × Nat} (hg : w.heap[g]? = some (.cells cs t f)) (ht : t ≠ e) : v.ownBlock ≠ some g := by
  intro q
  rcases h.own.2 with ⟨p, _⟩ | ⟨g', cap, cur, rfl, q1, q2, q3⟩
  · rw [p] at q; cases q
  · cases q
    rw [q2] at hg
    cases hg
    exact ht rfl
theorem TxL.set0 {B g gc v X s s3 p3 w w6 r0 r1 r2 r3 r4 r5 str} (h : TxL B g gc v X s s3 p3 w w6 r0 r1 r2 r3 r4 r5 str) : TxM B g gc v X s3 p3 w (w6.setCell ⟨g, 0, none⟩ (.pointer (some ⟨p3, 0, none⟩))) r0 r1 r2 r3 r4 r5 str := by
  have e : ∀ i, i ≠ g → (w6.setCell ⟨g, 0, none⟩ (.pointer (some ⟨p3, 0, none⟩))).heap[i]? = w6.heap[i]? := fun i hi => heap_setCell_other w6 ⟨g, 0, none⟩ i _ hi
  have hne : g ≠ gc := fun q => by
    have h1 := h.t.box
    have h2 := h.bx
    unfold BxC at h2
    rw [← q, h1] at h2
    simp at h2
  refine ⟨?_, h.hB, h.st.frame (fun i hi => e i (fun q => ?_)), h.hp, h.hi, (e gc hne.symm).trans h.bx, h.t.ow.same (fun b hb => e b (fun q => h.t.ow.ne h.t.box (by decide) (q ▸ hb))), h.t.hg, by simpa [World.setCell] using h.bel.size, h.bel.os, h.bel.tape, h.bel.output, fun i hi hg => (e i hg).trans (h.bel.block i hi), h.vlt, h.glt⟩
  · exact heap_setCell_same w6 g 0 _ 76 _ h.t.box
  · have h1 := h.hi i hi
    have h2 := h.glt
    omega
theorem TxM.hB {B g gc v X s3 p3 w w7 r0 r1 r2 r3 r4 r5 str} (h : TxM B g gc v X s3 p3 w w7 r0 r1 r2 r3 r4 r5 str) : B ≤ w7.drew.heap.size := Nat.le_trans h.hB0 h.size
theorem TxM.cells {B g gc v X s3 p3 w w7 r0 r1 r2 r3 r4 r5 str} (h : TxM B g gc v X s3 p3 w w7 r0 r1 r2 r3 r4 r5 str) : w7.cell? ⟨g, 7, none⟩ = some v ∧ w7.frozen? ⟨g, 7, none⟩ = false ∧ g < w7.heap.size ∧
    w7.cell? ⟨gc, 0, none⟩ = some (.int .i64 r0) ∧ w7.cell? ⟨gc, 1, none⟩ = some (.int .i64 r1) ∧ w7.cell? ⟨gc, 2, none⟩ = some (.int .i64 r2) ∧ w7.cell? ⟨gc, 3, none⟩ = some (.int .i64 r3) ∧ w7.cell? ⟨gc, 4, none⟩ = some (.int .i64 r4) ∧ w7.cell? ⟨gc, 5, none⟩ = some (.int .i64 r5) ∧ w7.cell? ⟨gc, 6, none⟩ = some (.string str) ∧ gc < w7.heap.size := by
  refine ⟨?_, frozen_of_row w7 g 7 _ 76 h.box, (Array.getElem?_eq_some_iff.1 h.box).1, ?_, ?_, ?_, ?_, ?_, ?_, ?_, (Array.getElem?_eq_some_iff.1 h.bx).1⟩
  · rw [cell_of_row w7 g _ _ 76 _ h.box]; rfl
  all_goals (rw [cell_of_row w7 gc _ _ 49 _ h.bx]; rfl)
theorem TxM.gbox {B g gc v X s3 p3 w w7 r0 r1 r2 r3 r4 r5 str w4} (h : TxM B g gc v X s3 p3 w w7 r0 r1 r2 r3 r4 r5 str) (q : w7.grownBy w4 v.ownBlock) : w4.heap[g]? = some (.cells (txC p3 v X) 76 (0, 0)) :=
  (q.block g (Array.getElem?_eq_some_iff.1 h.box).1 (fun e => h.ow.ne h.box (by decide) e.symm)).trans h.box
theorem TxM.far {B g gc v X s3 p3 w w7 r0 r1 r2 r3 r4 r5 str w4} (h : TxM B g gc v X s3 p3 w w7 r0 r1 r2 r3 r4 r5 str) (q : w7.grownBy w4 v.ownBlock) : w4.cell? ⟨g, 7, none⟩ = some v ∧ w4.frozen? ⟨g, 7, none⟩ = false ∧ g < w4.heap.size := by
  have hb := h.gbox q
  refine ⟨?_, frozen_of_row w4 g 7 _ 76 hb, (Array.getElem?_eq_some_iff.1 hb).1⟩
  rw [cell_of_row w4 g _ _ 76 _ hb]; rfl
set_option maxRecDepth 20000 in
theorem TxM.fin {B g gc v X s3 p3 w w7 r0 r1 r2 r3 r4 r5 str w4 v4} {t : Ab} (h : TxM B g gc v X s3 p3 w w7 r0 r1 r2 r3 r4 r5 str) (ht : ab s3 = t) (q : w7.grownBy w4 v.ownBlock)
    (o4 : Ow w4 B 49 7 v4 (X.cs.map cgR ++ [[.int .i64 r0, .int .i64 r1, .int .i64 r2, .int .i64 r3, .int .i64 r4, .int .i64 r5, .string str]])) (p4 : v4.ownBlock = v.ownBlock ∨ ∃ b, v4.ownBlock = some b ∧ w7.heap.size ≤ b) :
    TxD B g v ({ X with a := t, cs := X.cs ++ [⟨(r0, r1, r2, r3, r4, r5), str⟩] }, 0) w (.returned (.int .i64 0)) (w4.setCell ⟨g, 7, none⟩ v4) := by
  have hb := h.gbox q
  have e : ∀ i, i ≠ g → (w4.setCell ⟨g, 7, none⟩ v4).heap[i]? = w4.heap[i]? := fun i hi => heap_setCell_other w4 ⟨g, 7, none⟩ i _ hi
  have es : (w4.setCell ⟨g, 7, none⟩ v4).heap.size = w4.heap.size := by simp [World.setCell]
  refine ⟨rfl, v4, s3, ⟨?_, h.st.frame (fun i hi => ?_), ht, fun i hi => ?_, ?_, h.hg⟩, ?_⟩
  · rw [h.hp]
    exact heap_setCell_same w4 g 7 _ 76 v4 hb
  · have h1 := h.hi i hi
    have h2 := h.glt
    refine (e i (by omega)).trans (q.block i (h.st.at'.foot_lt i hi) (fun k => ?_))
    have := h.vlt i k.symm
    omega
  · have h1 := h.hi i hi
    have h2 := h.hB0
    omega
  · rw [List.map_append]
    exact o4.same (fun b hb2 => e b (fun k => o4.ne hb (by decide) (k ▸ hb2)))
  · refine ⟨q.os.trans h.os, q.tape.trans h.tape, q.output.trans h.output, by rw [es]; exact Nat.le_trans h.size q.size, fun i hi hg hv => ?_, p4.imp id (fun ⟨b, k1, k2⟩ => ⟨b, k1, Nat.le_trans h.size k2⟩)⟩
    exact (e i hg).trans ((q.block i (Nat.lt_of_lt_of_le hi h.size) (fun k => hv k.symm)).trans (h.block i hi hg))
set_option maxRecDepth 20000 in
theorem ei49 : EI 23 49 7 64 := ⟨Try.underlying23, ⟨_, _, rfl, rfl, rfl, rfl, rfl⟩, by decide, by decide⟩
theorem cg_one (r0 r1 r2 r3 r4 r5 : Int) (str : ByteArray) : ∀ u ∈ (#[Value.int .i64 r0, .int .i64 r1, .int .i64 r2, .int .i64 r3, .int .i64 r4, .int .i64 r5, .string str] : Array Value).toList, u.oneCell' = true := by
  intro u hu
  simp only [List.mem_cons, List.not_mem_nil, or_false] at hu
  rcases hu with rfl | rfl | rfl | rfl | rfl | rfl | rfl <;> rfl
theorem gdr {w w' : World} {r : Option Nat} (g : w.drew.grownBy w' r) : w.grownBy w' r := ⟨g.os, g.tape, g.output, g.size, g.block⟩
section
variable {ops : Array Oper} {o : Oper} {a : Act} {K : Act → World → Prop} {Q : Exit → Act → World → Prop} {E' : Prop}
/-- append of one that is written out, at a step of a drawn region -/
theorem step_app {t e sz bytes : Nat} (E : EI t e sz bytes) {w : World} {B : Nat} {v : Value} {rows : Rws} (hgd : o.guard = none) (s x : Operand) (ho : o.op = .call { callee := .builtin .append, args := #[s, x], argTypes := #[t, t] })
    (h : Ow w B e sz v rows) (hB : B ≤ w.heap.size) (cs : Array Value) (hs : a.eval s = v) (hx : a.eval x = .slice (some ⟨w.heap.size, 0, none⟩) 1 1) (hc : cs.size = sz) (h1 : ∀ u ∈ cs.toList, u.oneCell' = true) (hn : rows.length < 1000000)
    (hK : ∀ v' w', Ow w' B e sz v' (rows ++ [cs.toList]) → w.grownBy w' v.ownBlock → (v'.ownBlock = v.ownBlock ∨ ∃ g, v'.ownBlock = some g ∧ w.heap.size ≤ g) → K (a.put o.dst v') w') :
    if Region.wanted o (yielded ops a.tmps) = true then Oper.wp Try.prog o a (w.alloc (.cells cs e)) K Q else E' := by
  obtain ⟨i, z, q1, q2, q3, q4, q5⟩ := E.info
  have hl : cs.toList.length = 1 * sz := by rw [Array.length_toList, hc, Nat.one_mul]
  have hby : (rows.length + 1) * bytes ≤ 140737488355328 := by
    have := Nat.mul_le_mul_left (rows.length + 1) E.top
    omega
  refine step_append_lies _ hgd s x t ho B e i z sz bytes E.under q1 q2 q3 q4 q5 E.pos v rows.length rows.flatten hs (h.own.alloc _) ⟨w.heap.size, 0, none⟩ 1 1 cs.toList hx hl (lit_cells w cs e) h1 (by omega) (by simp [maxLen]; omega) hby (by rw [size_alloc]; omega) _ rfl (fun g cap w' p1 p2 p4 _ => ?_)
  have gr : w.grownBy w' v.ownBlock := by
    have g1 := World.grownBy_alloc w (.cells cs e) v.ownBlock
    exact ⟨p2.os.trans g1.os, p2.tape.trans g1.tape, p2.output.trans g1.output, Nat.le_trans g1.size p2.size, fun k hk hne => (p2.block k (Nat.lt_of_lt_of_le hk g1.size) hne).trans (g1.block k hk hne)⟩
  refine hK _ w' (h.more (by rw [hl, Nat.one_mul]) h1 p1) gr ?_
  rcases p4 with p4 | p4
  · exact .inl p4.symm
  · exact .inr ⟨g, rfl, by rw [p4, size_alloc]; omega⟩
end
def TxT (B g : Nat) (v : Value) (X : TX) (s : St) (w : World) : Prop := TxH B g v X s w ∧ B ≤ w.heap.size
set_option maxRecDepth 20000 in
set_option maxHeartbeats 4000000 in
theorem try39_any {B g v X s w} (h : TxH B g v X s w) (hB : B ≤ w.heap.size) (c : Cg) {R : Ab × Int} (p1 p2 p3 : Nat)
    (hdo : ∀ W s2, Below w.heap.size w W → Whole W s2 → ab s2 = X.a → (∀ i ∈ foot s2, w.heap.size ≤ i) → Calls Try.prog 39 #[.pointer (some ⟨s2.p, 0, none⟩), .pointer (some ⟨p1, 0, none⟩), .pointer (some ⟨p2, 0, none⟩), .pointer (some ⟨p3, 0, none⟩)] W (Done W s2 R)) :
    Calls Try.prog 38 #[.pointer (some ⟨g, 0, none⟩), .agg #[.int .i64 c.r.1, .int .i64 c.r.2.1, .int .i64 c.r.2.2.1, .int .i64 c.r.2.2.2.1, .int .i64 c.r.2.2.2.2.1, .int .i64 c.r.2.2.2.2.2, .string c.s], .func (.func 39) #[] #[.pointer (some ⟨p1, 0, none⟩), .pointer (some ⟨p2, 0, none⟩), .pointer (some ⟨p3, 0, none⟩)]] w (TxD B g v (tryA X c R) w) := by
  obtain ⟨⟨r0, r1, r2, r3, r4, r5⟩, str⟩ := c
  obtain ⟨va, vc, rfl⟩ := h.ow.form
  rw [List.length_map] at h ⊢
  obtain ⟨c0, c1, c2, c5, c6, c7⟩ := h.cells
  have hlt := h.lt
  have hcp := copy_any (h.st.alloc (.cells #[.int .i64 r0, .int .i64 r1, .int .i64 r2, .int .i64 r3, .int .i64 r4, .int .i64 r5, .string str] 49))
  have hbx : BxC (w.alloc (.cells #[.int .i64 r0, .int .i64 r1, .int .i64 r2, .int .i64 r3, .int .i64 r4, .int .i64 r5, .string str] 49)) w.heap.size r0 r1 r2 r3 r4 r5 str := heap_alloc_new _ _
  have hb1 := (Below.refl _ w).alloc (Nat.le_refl _) (.cells #[.int .i64 r0, .int .i64 r1, .int .i64 r2, .int .i64 r3, .int .i64 r4, .int .i64 r5, .string str] 49)
  by_cases h8 : 8 ≤ X.cs.length
  · have e8 : tryA X ⟨(r0, r1, r2, r3, r4, r5), str⟩ R = (X, 171) := by unfold tryA; rw [if_pos h8]
    rw [e8]
    have H := Hid.mk h
    clear h hcp hdo e8 hbx hb1
    generalize X.cs.length = n at *
    go_enter Try.func38, Try.ntmps38
    go_wp2_with fail
    go_ret
    exact TxD.same H.out ((Below.refl _ w).alloc (Nat.le_refl _) _) 171
  · have H : Hid (TxT B g (.slice va X.cs.length vc) X s w) := ⟨h, hB⟩
    generalize hRes : tryA X ⟨(r0, r1, r2, r3, r4, r5), str⟩ R = Res at *
    unfold tryA at hRes
    rw [if_neg h8] at hRes
    replace hRes := Hid.mk hRes
    replace hdo := Hid.mk hdo
    replace hcp := Hid.mk hcp
    replace hb1 := Hid.mk hb1
    have hbx := Hid.mk hbx
    generalize hL : (X.cs.length : Nat) = n at *
    replace hL := Hid.mk hL
    clear h hB
    have hn8 : n < 8 := by omega
    clear h8
    go_enter Try.func38, Try.ntmps38
    go_upto_region 4 with (first | (go_at_call 31; refine hcp.out.mono ?_; rintro e w2 ⟨s2, rfl, W2, e2, f2, b2⟩))
    have B2 := hb1.out.trans (b2.mono (by rw [size_alloc]; omega))
    have x2 : BxC w2 w.heap.size r0 r1 r2 r3 r4 r5 str := (b2.block _ (by rw [size_alloc]; omega)).trans hbx.out
    have F2 : ∀ i ∈ foot s2, w.heap.size < i := fun i hi => by have := f2 i hi; rw [size_alloc] at this; omega
    have hd2 := hdo.out w2 s2 B2 W2 (e2.trans H.out.1.eq) (fun i hi => Nat.le_of_lt (F2 i hi))
    replace hd2 := Hid.mk hd2
    have K2 := Hid.mk (And.intro B2 (And.intro x2 F2))
    clear hcp hdo hbx hb1 b2 f2 B2 x2 F2 W2 e2 c0 c1 c2 c5 c6 c7
    go_upto_region 5 with (first | (go_at_call 39; refine hd2.out.mono ?_; rintro e w3 ⟨rfl, s3, W3, e3, ch3⟩))
    have B3 : Below w.heap.size w w3 := ch3.below K2.out.1 K2.out.1.size (fun i hi => Nat.le_of_lt (K2.out.2.2 i hi))
    have F3 : ∀ i ∈ foot s3, w.heap.size < i := fun i hi => by
      rcases ch3.own i hi with q | q
      · exact K2.out.2.2 i q
      · have := Array.getElem?_eq_some_iff.1 K2.out.2.1
        exact Nat.lt_of_lt_of_le this.1 q
    have x3 : BxC w3 w.heap.size r0 r1 r2 r3 r4 r5 str := (ch3.block _ (Array.getElem?_eq_some_iff.1 K2.out.2.1).1 (fun q => Nat.lt_irrefl _ (K2.out.2.2 _ q))).trans K2.out.2.1
    have H3 := H.out.1.call B3
    obtain ⟨c0, c1, c2, c5, c6, c7⟩ := H3.cells
    have hl3 := H3.lt
    have hLive : ∀ W, Below w3.heap.size w3 W → Calls Try.prog 67 #[.pointer (some ⟨s2.p, 0, none⟩)] W fun e w' => e = .returned (.int .i64 (liveA R.1 : Int)) ∧ W = w' := fun W b => by
      have q := live_any (W3.call b).at'
      rw [whole_live W3, e3, ch3.home] at q
      exact q
    have hKeys : ∀ W, Below w3.heap.size w3 W → Calls Try.prog 17 #[.pointer (some ⟨s2.p, 0, none⟩)] W fun e w' => e = .returned (.int .i64 (pagesN R.1.sp : Int)) ∧ Below W.heap.size W w' := fun W b => by
      have q := keys_any (W3.call b)
      rw [e3, ch3.home] at q
      exact q
    have K3 := Hid.mk (And.intro B3 (And.intro x3 (And.intro F3 (And.intro W3 (And.intro e3 ch3.home)))))
    clear hd2 K2 ch3 B3 F3 x3 H3 W3 e3
    by_cases hR : R.2 = 0
    · rw [if_neg (fun q => q hR)] at hRes
      have hR' := Hid.mk hR
      rw [hR]
      clear hR
      by_cases hl : X.pl < (liveA R.1 : Int)
      · rw [if_pos (.inl hl)] at hRes
        have hld : decide (X.pl < (liveA R.1 : Int)) = true := by simpa using hl
        generalize (liveA R.1 : Int) = lv at *
        have HL : Hid (∀ m, Calls Try.prog 67 #[.pointer (some ⟨s2.p, 0, none⟩)] (w3.drewN m) fun e w' => e = .returned (.int .i64 lv) ∧ w' = w3.drewN m) := fun m => (hLive _ (below_drewN (Below.refl _ w3))).mono (fun _ _ q => ⟨q.1, q.2.symm⟩)
        clear hLive hKeys hl
        go_upto_region 7 with fail
        go_quiet (first | (go_at_call 67; exact Calls.quiet_of_same (HL.out _)))
        go_wp2_with fail
        go_ret
        rw [← hRes.out]
        exact TxD.same H.out.1 (below_drewN K3.out.1) 172
      · have hld : decide (X.pl < (liveA R.1 : Int)) = false := by simpa using hl
        have kS : Hid (∀ w', Below w3.heap.size w3 w' → Below w3.heap.size w3 w' ∧ w'.cell? ⟨g, 1, none⟩ = some (.int .i64 X.pl) ∧ w'.cell? ⟨g, 2, none⟩ = some (.int .i64 X.ks)) := fun w' q => ⟨q, (q.cell (p := ⟨g, 1, none⟩) hl3).trans c1, (q.cell (p := ⟨g, 2, none⟩) hl3).trans c2⟩
        have HL := Hid.mk (And.intro hLive hKeys)
        have hld2 : Hid (¬ X.pl < (liveA R.1 : Int)) := hl
        clear hLive hKeys hl
        generalize (liveA R.1 : Int) = lv at *
        generalize (pagesN R.1.sp : Int) = kn at *
        go_upto_region 7 with fail
        clear c0 c1 c2 c5 c6 c7
        go_region_held3 (fun w' => Below w3.heap.size w3 w' ∧ w'.cell? ⟨g, 1, none⟩ = some (.int .i64 X.pl) ∧ w'.cell? ⟨g, 2, none⟩ = some (.int .i64 X.ks))
          (first | assumption | exact kS.out _ (Below.refl _ w3) | exact kS.out _ (Below.refl _ w3).drew | exact kS.out _ (below3 (And.left (by assumption)) (by assumption)) | fail)
          (first | (go_at_call 67; refine (HL.out.1 _ (And.left (by assumption))).mono ?_; rintro e w5 ⟨rfl, rfl⟩) | (go_at_call 17; refine (HL.out.2 _ (And.left (by assumption))).mono ?_; rintro e w6 ⟨rfl, b6⟩))
        have b6' : Below w3.heap.size w3 w6 := below3 (Below.refl _ w3).drew b6
        have B6 : Below w.heap.size w w6 := below3 K3.out.1 b6'
        by_cases hk : X.ks < kn
        · have hkd : decide (X.ks < kn) = true := by simpa using hk
          rw [if_pos (.inr hk)] at hRes
          clear b6' b6
          replace B6 := Hid.mk B6
          go_wp2_with fail
          go_ret
          rw [← hRes.out]
          exact TxD.same H.out.1 B6.out 172
        · have hkd : decide (X.ks < kn) = false := by simpa using hk
          rw [if_neg (fun q => q.elim (Int.not_lt.2 hld2.out) hk)] at hRes
          have T6 := H.out.1.call B6
          have S6 := K3.out.2.2.2.1.call b6'
          have x6 : BxC w6 w.heap.size r0 r1 r2 r3 r4 r5 str := (b6'.block _ (Array.getElem?_eq_some_iff.1 K3.out.2.1).1).trans K3.out.2.1
          have L6 : TxL B g w.heap.size (.slice va n vc) X s s3 s2.p w w6 r0 r1 r2 r3 r4 r5 str := ⟨T6, H.out.2, S6, K3.out.2.2.2.2.2, K3.out.2.2.1, x6, B6, fun b hb => (H.out.1.ow.lt b hb).2, H.out.1.lt⟩
          obtain ⟨c0, c1, c2, c5, c6, c7⟩ := T6.cells
          have fz0 := T6.fz 0
          have hl6 := T6.lt
          have EE := Hid.mk K3.out.2.2.2.2.1
          clear b6' b6 B6 T6 S6 x6 K3 hld2 HL kS
          replace L6 := Hid.mk L6
          go_upto_region 10 with fail
          have M := L6.out.set0
          clear L6 c0 c1 c2 c5 c6 c7 fz0 hl6
          generalize w6.setCell ⟨g, 0, none⟩ (.pointer (some ⟨s2.p, 0, none⟩)) = w7 at *
          obtain ⟨c7, fz7, hl7, q0, q1, q2, q3, q4, q5, q6, lgc⟩ := M.cells
          have ow7 := M.ow
          have hn' : ((X.cs.map cgR : Rws)).length < 1000000 := by rw [List.length_map, hL.out]; omega
          have kg : Hid (∀ w', w7.grownBy w' (Value.slice va n vc).ownBlock → w'.cell? ⟨g, 7, none⟩ = some (.slice va n vc) ∧ w'.frozen? ⟨g, 7, none⟩ = false ∧ g < w'.heap.size) := fun w' q => M.far q
          replace M := Hid.mk M
          replace ow7 := Hid.mk ow7
          go_region_law (refine step_app (w := w7.drew) ei49 (by rfl) _ _ (by rfl) ow7.out.drew M.out.hB #[.int .i64 r0, .int .i64 r1, .int .i64 r2, .int .i64 r3, .int .i64 r4, .int .i64 r5, .string str] (by rfl) (by rfl) (by rfl) (cg_one _ _ _ _ _ _ _) hn' ?_; intro v4 w4 o4 g4 p4; obtain ⟨va4, vc4, e4⟩ := o4.form; rw [snoc_len] at e4; subst e4; obtain ⟨y7, yf, yl⟩ := kg.out w4 (gdr g4))
          all_goals
            go_wp2_with fail
            go_ret
            rw [← hRes.out]
            exact M.out.fin EE.out (gdr g4) o4 p4
    · rw [if_pos hR] at hRes
      have hRb : (R.2 != 0) = true := by simpa using hR
      clear hR hLive hKeys
      generalize R.2 = E at *
      go_wp2_with fail
      go_ret
      rw [← hRes.out]
      exact TxD.same H.out.1 K3.out.1 E
set_option maxRecDepth 20000 in
set_option maxHeartbeats 4000000 in
theorem try43_any {B g v X s w} (h : TxH B g v X s w) (hB : B ≤ w.heap.size) (c : Cg) {R : Ab × Int} (p1 : Nat)
    (hdo : ∀ W s2, Below w.heap.size w W → Whole W s2 → ab s2 = X.a → (∀ i ∈ foot s2, w.heap.size ≤ i) → Calls Try.prog 43 #[.pointer (some ⟨s2.p, 0, none⟩), .pointer (some ⟨p1, 0, none⟩)] W (Done W s2 R)) :
    Calls Try.prog 38 #[.pointer (some ⟨g, 0, none⟩), .agg #[.int .i64 c.r.1, .int .i64 c.r.2.1, .int .i64 c.r.2.2.1, .int .i64 c.r.2.2.2.1, .int .i64 c.r.2.2.2.2.1, .int .i64 c.r.2.2.2.2.2, .string c.s], .func (.func 43) #[] #[.pointer (some ⟨p1, 0, none⟩)]] w (TxD B g v (tryA X c R) w) := by
  obtain ⟨⟨r0, r1, r2, r3, r4, r5⟩, str⟩ := c
  obtain ⟨va, vc, rfl⟩ := h.ow.form
  rw [List.length_map] at h ⊢
  obtain ⟨c0, c1, c2, c5, c6, c7⟩ := h.cells
  have hlt := h.lt
  have hcp := copy_any (h.st.alloc (.cells #[.int .i64 r0, .int .i64 r1, .int .i64 r2, .int .i64 r3, .int .i64 r4, .int .i64 r5, .string str] 49))
  have hbx : BxC (w.alloc (.cells #[.int .i64 r0, .int .i64 r1, .int .i64 r2, .int .i64 r3, .int .i64 r4, .int .i64 r5, .string str] 49)) w.heap.size r0 r1 r2 r3 r4 r5 str := heap_alloc_new _ _
  have hb1 := (Below.refl _ w).alloc (Nat.le_refl _) (.cells #[.int .i64 r0, .int .i64 r1, .int .i64 r2, .int .i64 r3, .int .i64 r4, .int .i64 r5, .string str] 49)
  by_cases h8 : 8 ≤ X.cs.length
  · have e8 : tryA X ⟨(r0, r1, r2, r3, r4, r5), str⟩ R = (X, 171) := by unfold tryA; rw [if_pos h8]
    rw [e8]
    have H := Hid.mk h
    clear h hcp hdo e8 hbx hb1
    generalize X.cs.length = n at *
    go_enter Try.func38, Try.ntmps38
    go_wp2_with fail
    go_ret
    exact TxD.same H.out ((Below.refl _ w).alloc (Nat.le_refl _) _) 171
  · have H : Hid (TxT B g (.slice va X.cs.length vc) X s w) := ⟨h, hB⟩
    generalize hRes : tryA X ⟨(r0, r1, r2, r3, r4, r5), str⟩ R = Res at *
    unfold tryA at hRes
    rw [if_neg h8] at hRes
    replace hRes := Hid.mk hRes
    replace hdo := Hid.mk hdo
    replace hcp := Hid.mk hcp
    replace hb1 := Hid.mk hb1
    have hbx := Hid.mk hbx
    generalize hL : (X.cs.length : Nat) = n at *
    replace hL := Hid.mk hL
    clear h hB
    have hn8 : n < 8 := by omega
    clear h8
    go_enter Try.func38, Try.ntmps38
    go_upto_region 4 with (first | (go_at_call 31; refine hcp.out.mono ?_; rintro e w2 ⟨s2, rfl, W2, e2, f2, b2⟩))
    have B2 := hb1.out.trans (b2.mono (by rw [size_alloc]; omega))
    have x2 : BxC w2 w.heap.size r0 r1 r2 r3 r4 r5 str := (b2.block _ (by rw [size_alloc]; omega)).trans hbx.out
    have F2 : ∀ i ∈ foot s2, w.heap.size < i := fun i hi => by have := f2 i hi; rw [size_alloc] at this; omega
    have hd2 := hdo.out w2 s2 B2 W2 (e2.trans H.out.1.eq) (fun i hi => Nat.le_of_lt (F2 i hi))
    replace hd2 := Hid.mk hd2
    have K2 := Hid.mk (And.intro B2 (And.intro x2 F2))
    clear hcp hdo hbx hb1 b2 f2 B2 x2 F2 W2 e2 c0 c1 c2 c5 c6 c7
    go_upto_region 5 with (first | (go_at_call 43; refine hd2.out.mono ?_; rintro e w3 ⟨rfl, s3, W3, e3, ch3⟩))
    have B3 : Below w.heap.size w w3 := ch3.below K2.out.1 K2.out.1.size (fun i hi => Nat.le_of_lt (K2.out.2.2 i hi))
    have F3 : ∀ i ∈ foot s3, w.heap.size < i := fun i hi => by
      rcases ch3.own i hi with q | q
      · exact K2.out.2.2 i q
      · have := Array.getElem?_eq_some_iff.1 K2.out.2.1
        exact Nat.lt_of_lt_of_le this.1 q
    have x3 : BxC w3 w.heap.size r0 r1 r2 r3 r4 r5 str := (ch3.block _ (Array.getElem?_eq_some_iff.1 K2.out.2.1).1 (fun q => Nat.lt_irrefl _ (K2.out.2.2 _ q))).trans K2.out.2.1
    have H3 := H.out.1.call B3
    obtain ⟨c0, c1, c2, c5, c6, c7⟩ := H3.cells
    have hl3 := H3.lt
    have hLive : ∀ W, Below w3.heap.size w3 W → Calls Try.prog 67 #[.pointer (some ⟨s2.p, 0, none⟩)] W fun e w' => e = .returned (.int .i64 (liveA R.1 : Int)) ∧ W = w' := fun W b => by
      have q := live_any (W3.call b).at'
      rw [whole_live W3, e3, ch3.home] at q
      exact q
    have hKeys : ∀ W, Below w3.heap.size w3 W → Calls Try.prog 17 #[.pointer (some ⟨s2.p, 0, none⟩)] W fun e w' => e = .returned (.int .i64 (pagesN R.1.sp : Int)) ∧ Below W.heap.size W w' := fun W b => by
      have q := keys_any (W3.call b)
      rw [e3, ch3.home] at q
      exact q
    have K3 := Hid.mk (And.intro B3 (And.intro x3 (And.intro F3 (And.intro W3 (And.intro e3 ch3.home)))))
    clear hd2 K2 ch3 B3 F3 x3 H3 W3 e3
    by_cases hR : R.2 = 0
    · rw [if_neg (fun q => q hR)] at hRes
      have hR' := Hid.mk hR
      rw [hR]
      clear hR
      by_cases hl : X.pl < (liveA R.1 : Int)
      · rw [if_pos (.inl hl)] at hRes
        have hld : decide (X.pl < (liveA R.1 : Int)) = true := by simpa using hl
        generalize (liveA R.1 : Int) = lv at *
        have HL : Hid (∀ m, Calls Try.prog 67 #[.pointer (some ⟨s2.p, 0, none⟩)] (w3.drewN m) fun e w' => e = .returned (.int .i64 lv) ∧ w' = w3.drewN m) := fun m => (hLive _ (below_drewN (Below.refl _ w3))).mono (fun _ _ q => ⟨q.1, q.2.symm⟩)
        clear hLive hKeys hl
        go_upto_region 7 with fail
        go_quiet (first | (go_at_call 67; exact Calls.quiet_of_same (HL.out _)))
        go_wp2_with fail
        go_ret
        rw [← hRes.out]
        exact TxD.same H.out.1 (below_drewN K3.out.1) 172
      · have hld : decide (X.pl < (liveA R.1 : Int)) = false := by simpa using hl
        have kS : Hid (∀ w', Below w3.heap.size w3 w' → Below w3.heap.size w3 w' ∧ w'.cell? ⟨g, 1, none⟩ = some (.int .i64 X.pl) ∧ w'.cell? ⟨g, 2, none⟩ = some (.int .i64 X.ks)) := fun w' q => ⟨q, (q.cell (p := ⟨g, 1, none⟩) hl3).trans c1, (q.cell (p := ⟨g, 2, none⟩) hl3).trans c2⟩
        have HL := Hid.mk (And.intro hLive hKeys)
        have hld2 : Hid (¬ X.pl < (liveA R.1 : Int)) := hl
        clear hLive hKeys hl
        generalize (liveA R.1 : Int) = lv at *
        generalize (pagesN R.1.sp : Int) = kn at *
        go_upto_region 7 with fail
        clear c0 c1 c2 c5 c6 c7
        go_region_held3 (fun w' => Below w3.heap.size w3 w' ∧ w'.cell? ⟨g, 1, none⟩ = some (.int .i64 X.pl) ∧ w'.cell? ⟨g, 2, none⟩ = some (.int .i64 X.ks))
          (first | assumption | exact kS.out _ (Below.refl _ w3) | exact kS.out _ (Below.refl _ w3).drew | exact kS.out _ (below3 (And.left (by assumption)) (by assumption)) | fail)
          (first | (go_at_call 67; refine (HL.out.1 _ (And.left (by assumption))).mono ?_; rintro e w5 ⟨rfl, rfl⟩) | (go_at_call 17; refine (HL.out.2 _ (And.left (by assumption))).mono ?_; rintro e w6 ⟨rfl, b6⟩))
        have b6' : Below w3.heap.size w3 w6 := below3 (Below.refl _ w3).drew b6
        have B6 : Below w.heap.size w w6 := below3 K3.out.1 b6'
        by_cases hk : X.ks < kn
        · have hkd : decide (X.ks < kn) = true := by simpa using hk
          rw [if_pos (.inr hk)] at hRes
          clear b6' b6
          replace B6 := Hid.mk B6
          go_wp2_with fail
          go_ret
          rw [← hRes.out]
          exact TxD.same H.out.1 B6.out 172
        · have hkd : decide (X.ks < kn) = false := by simpa using hk
          rw [if_neg (fun q => q.elim (Int.not_lt.2 hld2.out) hk)] at hRes
          have T6 := H.out.1.call B6
          have S6 := K3.out.2.2.2.1.call b6'
          have x6 : BxC w6 w.heap.size r0 r1 r2 r3 r4 r5 str := (b6'.block _ (Array.getElem?_eq_some_iff.1 K3.out.2.1).1).trans K3.out.2.1
          have L6 : TxL B g w.heap.size (.slice va n vc) X s s3 s2.p w w6 r0 r1 r2 r3 r4 r5 str := ⟨T6, H.out.2, S6, K3.out.2.2.2.2.2, K3.out.2.2.1, x6, B6, fun b hb => (H.out.1.ow.lt b hb).2, H.out.1.lt⟩
          obtain ⟨c0, c1, c2, c5, c6, c7⟩ := T6.cells
          have fz0 := T6.fz 0
          have hl6 := T6.lt
          have EE := Hid.mk K3.out.2.2.2.2.1
          clear b6' b6 B6 T6 S6 x6 K3 hld2 HL kS
          replace L6 := Hid.mk L6
          go_upto_region 10 with fail
          have M := L6.out.set0
          clear L6 c0 c1 c2 c5 c6 c7 fz0 hl6
          generalize w6.setCell ⟨g, 0, none⟩ (.pointer (some ⟨s2.p, 0, none⟩)) = w7 at *
          obtain ⟨c7, fz7, hl7, q0, q1, q2, q3, q4, q5, q6, lgc⟩ := M.cells
          have ow7 := M.ow
          have hn' : ((X.cs.map cgR : Rws)).length < 1000000 := by rw [List.length_map, hL.out]; omega
          have kg : Hid (∀ w', w7.grownBy w' (Value.slice va n vc).ownBlock → w'.cell? ⟨g, 7, none⟩ = some (.slice va n vc) ∧ w'.frozen? ⟨g, 7, none⟩ = false ∧ g < w'.heap.size) := fun w' q => M.far q
          replace M := Hid.mk M
          replace ow7 := Hid.mk ow7
          go_region_law (refine step_app (w := w7.drew) ei49 (by rfl) _ _ (by rfl) ow7.out.drew M.out.hB #[.int .i64 r0, .int .i64 r1, .int .i64 r2, .int .i64 r3, .int .i64 r4, .int .i64 r5, .string str] (by rfl) (by rfl) (by rfl) (cg_one _ _ _ _ _ _ _) hn' ?_; intro v4 w4 o4 g4 p4; obtain ⟨va4, vc4, e4⟩ := o4.form; rw [snoc_len] at e4; subst e4; obtain ⟨y7, yf, yl⟩ := kg.out w4 (gdr g4))
          all_goals
            go_wp2_with fail
            go_ret
            rw [← hRes.out]
            exact M.out.fin EE.out (gdr g4) o4 p4
    · rw [if_pos hR] at hRes
      have hRb : (R.2 != 0) = true := by simpa using hR
      clear hR hLive hKeys
      generalize R.2 = E at *
      go_wp2_with fail
      go_ret
      rw [← hRes.out]
      exact TxD.same H.out.1 K3.out.1 E
end Go.Proofs.Ytccelipljbkkgaa
