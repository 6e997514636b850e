/-
  A page of the model: the walk of lay. No condition.
-/
import Derived.Test.YtkfkepjegdaadaaMact
namespace Go.Proofs.Ytkfkepjegdaadaa
open Go Go.RowKit

theorem page_at {P b p i : Nat} (hp : p < P) : (i = b * P + p) ↔ (i / P = b ∧ i % P = p) := by
  constructor
  · intro h
    subst h
    refine ⟨?_, ?_⟩
    · rw [Nat.mul_comm, Nat.mul_add_div (by omega), Nat.div_eq_of_lt hp, Nat.add_zero]
    · rw [Nat.mul_comm, Nat.mul_add_mod, Nat.mod_eq_of_lt hp]
  · rintro ⟨h1, h2⟩
    have := Nat.div_add_mod i P
    rw [h1, h2, Nat.mul_comm] at this
    exact this.symm
theorem page_lt {B P b p : Nat} (hb : b < B) (hp : p < P) : b * P + p < B * P := by
  have h1 : (b + 1) * P ≤ B * P := Nat.mul_le_mul_right P hb
  rw [Nat.succ_mul] at h1
  omega
theorem putPg_get (C : Ch) (b p : Nat) (s : ByteArray) (i j : Nat) : (putPg C b p s).pg i j = if i = b ∧ j = p then s else C.pg i j := by
  unfold putPg upd
  simp only
  by_cases h1 : i = b
  · subst h1
    rw [if_pos rfl]
    by_cases h2 : j = p
    · rw [if_pos h2, if_pos ⟨rfl, h2⟩]
    · rw [if_neg h2, if_neg (fun h => h2 h.2)]
  · rw [if_neg h1, if_neg (fun h => h1 h.1)]
/-- append, by what it is known to do -/
theorem wpList_append0 {w w' : World} {ops : Array Oper} {rest : List Oper} {o : Oper} {a : Act} {Q : Exit → Act → World → Prop} (hgd : o.guard = none) (s x : Operand) (t : TypeId)
    (ho : o.op = .call { callee := .builtin .append, args := #[s, x], argTypes := #[t, t] }) {v1 v2 v : Value} (hrun : ∀ ty, (Builtin.append_ #[t, t] ty #[v1, v2]).run Try.prog w = .ok v w') (hs : a.eval s = v1) (hx : a.eval x = v2)
    (h : wpList Try.prog ops Q rest (a.put o.dst v) w') : wpList Try.prog ops Q (o :: rest) a w := by
  refine wpList_plain hgd fun K hK => ?_
  unfold Oper.wp execOp
  simp only [ho, resolve, invoke, builtin, Sem.run_bind, Sem.run_pure, Result.andThen_ok, List.map_toArray, List.map_cons, List.map_nil, hs, hx, hrun]
  exact hK _ _ h
/-- a row that a call has made behind W0 -/
structure Lr (W0 : World) (g n : Nat) (V : Nat → Value) (W : World) : Prop where
  below : Below W0.heap.size W0 W
  lt : g < W.heap.size
  new : W0.heap.size ≤ g
  cell : ∀ i, i < n → W.cell? ⟨g, i, none⟩ = some (V i)
  fr : ∀ i, W.frozen? ⟨g, i, none⟩ = false
theorem Lr.set {W0 : World} {g n V} {W : World} (h : Lr W0 g n V W) (k : Nat) (v : Value) : Lr W0 g n (fun i => if i = k then v else V i) (W.setCell ⟨g, k, none⟩ v) := by
  refine ⟨h.below.setCell h.new _, by rw [sc_size]; exact h.lt, h.new, fun i hi => ?_, fun i => by rw [World.frozen?_setCell]; exact h.fr i⟩
  by_cases e : i = k
  · subst e
    rw [World.cell?_setCell_same _ _ _ (h.cell i hi), if_pos rfl]
  · rw [World.cell?_setCell_other _ _ _ _ (by intro x; exact e (congrArg Addr.off x).symm), if_neg e]
    exact h.cell i hi
theorem Lr.call {W0 : World} {g n V} {W W' : World} (h : Lr W0 g n V W) (b : Below W.heap.size W W') : Lr W0 g n V W' :=
  ⟨below3 h.below b, Nat.lt_of_lt_of_le h.lt b.size, h.new, fun i hi => (b.cell (p := ⟨g, i, none⟩) h.lt).trans (h.cell i hi), fun i => (b.frozen (p := ⟨g, i, none⟩) h.lt).trans (h.fr i)⟩
/-- what a call on the model holds: its own block, its answer's, the model -/
structure Mw (w0 : World) (S : Nat → Prop) (X : Mx) (C : Ch) (w : World) : Prop where
  below : Below w0.heap.size w0 w
  own : MdAt w w0.heap.size X C
  res : w.heap[w0.heap.size + 1]? = some (.cells #[.int .i64 0, .int .i64 0, .int .i64 0, .slice none 0 0, .slice none 0 0, .slice none 0 0, .slice none 0 0, .slice none 0 0, .slice none 0 0, .slice none 0 0, .int .i64 0, .bool false] 39 (0, 0))
  md : Md w S X C
theorem Mw.start {w : World} {S X C} (h : Md w S X C) : Mw w S X C ((w.alloc (.cells (mdA X C) 39)).alloc (.cells #[.int .i64 0, .int .i64 0, .int .i64 0, .slice none 0 0, .slice none 0 0, .slice none 0 0, .slice none 0 0, .slice none 0 0, .slice none 0 0, .slice none 0 0, .int .i64 0, .bool false] 39)) := by
  have h1 := heap_alloc_new w (.cells (mdA X C) 39)
  have h2 := heap_alloc_new (w.alloc (.cells (mdA X C) 39)) (.cells #[.int .i64 0, .int .i64 0, .int .i64 0, .slice none 0 0, .slice none 0 0, .slice none 0 0, .slice none 0 0, .slice none 0 0, .slice none 0 0, .slice none 0 0, .int .i64 0, .bool false] 39)
  rw [size_alloc] at h2
  exact ⟨below_two w _ _, (Below.heap_alloc _ _ _ (by rw [size_alloc]; omega)).trans h1, h2, h.call (below_two w _ _)⟩
theorem Mw.call {w0 : World} {S X C} {w w' : World} (h : Mw w0 S X C w) (b : Below w.heap.size w w') : Mw w0 S X C w' :=
  ⟨below3 h.below b, h.own.call b, (b.block _ (Array.getElem?_eq_some_iff.1 h.res).1).trans h.res, h.md.call b⟩
theorem Mw.lt {w0 : World} {S X C} {w : World} (h : Mw w0 S X C w) : w0.heap.size + 1 < w.heap.size := (Array.getElem?_eq_some_iff.1 h.res).1
/-- a block behind all that the model has is another -/
theorem Put.mdNew {w W W' : World} {S X C T o} (p : Put W W' T o) (h : Md W S X C) (hg : X.gp ≠ T) (hw : X.gw ≠ T) (hd : X.gd ≠ T) (hm : X.gm ≠ T) {S' : Nat → Prop} (hc : CutsAt w S' X.ca X.cl) (hf : IntsAt w S' X.fa X.fl) (hT : w.heap.size ≤ T) : Md W' S X C :=
  p.md h (fun e => hg e.symm) (fun e => hw e.symm) (fun e => hd e.symm) (fun e => hm e.symm) (fun i hi g f ha => by
    obtain ⟨g', f', ha', hl, _⟩ := hc i hi
    rw [ha] at ha'
    cases ha'
    omega) (fun i hi g f ha => by
    obtain ⟨g', f', ha', hl, _⟩ := hf i hi
    rw [ha] at ha'
    cases ha'
    omega)
/-- X' has the lists of X, and each row of X or one that was made behind w -/
structure Xn (w : World) (X X' : Mx) : Prop where
  ca : X'.ca = X.ca
  cl : X'.cl = X.cl
  fa : X'.fa = X.fa
  fl : X'.fl = X.fl
  gp : X'.gp = X.gp ∨ w.heap.size ≤ X'.gp
  gw : X'.gw = X.gw ∨ w.heap.size ≤ X'.gw
  gd : X'.gd = X.gd ∨ w.heap.size ≤ X'.gd
  gm : X'.gm = X.gm ∨ w.heap.size ≤ X'.gm
theorem Xn.refl (w : World) (X : Mx) : Xn w X X := ⟨rfl, rfl, rfl, rfl, Or.inl rfl, Or.inl rfl, Or.inl rfl, Or.inl rfl⟩
theorem Xn.trans {w w' : World} {X X' X'' : Mx} (h : Xn w X X') (k : Xn w' X' X'') (hw : w.heap.size ≤ w'.heap.size) : Xn w X X'' := by
  refine ⟨k.ca.trans h.ca, k.cl.trans h.cl, k.fa.trans h.fa, k.fl.trans h.fl, ?_, ?_, ?_, ?_⟩
  · rcases k.gp with e | e
    · rw [e]; exact h.gp
    · exact Or.inr (by omega)
  · rcases k.gw with e | e
    · rw [e]; exact h.gw
    · exact Or.inr (by omega)
  · rcases k.gd with e | e
    · rw [e]; exact h.gd
    · exact Or.inr (by omega)
  · rcases k.gm with e | e
    · rw [e]; exact h.gm
    · exact Or.inr (by omega)
theorem Xn.mono {w w' : World} {X X' : Mx} (h : Xn w' X X') (hw : w.heap.size ≤ w'.heap.size) : Xn w X X' := (Xn.refl w X).trans h hw
theorem Put.mdX {w0 w1 W W' : World} {S S0 : Nat → Prop} {X X' C C' T o} (p : Put W W' T o) (h : Md W S X' C') (h0 : Md w0 S0 X C) (hx : Xn w1 X X') (hT : w0.heap.size ≤ T) (hT1 : T < w1.heap.size) : Md W' S X' C' := by
  have hl := h0.lt
  refine p.mdNew (w := w0) h ?_ ?_ ?_ ?_ (S' := S0) (by rw [hx.ca, hx.cl]; exact h0.cut) (by rw [hx.fa, hx.fl]; exact h0.fail) hT
  · rcases hx.gp with e | e
    · rw [e]; omega
    · omega
  · rcases hx.gw with e | e
    · rw [e]; omega
    · omega
  · rcases hx.gd with e | e
    · rw [e]; omega
    · omega
  · rcases hx.gm with e | e
    · rw [e]; omega
    · omega
theorem Try.info9' : (Try.prog.info? 9).map (fun i => (i.zero, i.size, i.bytes)) = some (some (.string ⟨#[]⟩), 1, 16) := by kernel_rfl
/-- a model whose pages lie in another row -/
theorem Md.newPg {w : World} {S X C} (h : Md w S X C) {g cap b p : Nat} {s : ByteArray} (hp : p < C.P) (hg : g < w.heap.size) (hs : ¬ S g) (hc : ∀ i, i < C.B * C.P → w.cell? ⟨g, i, none⟩ = some (.string (if i = b * C.P + p then s else C.pg (i / C.P) (i % C.P)))) :
    Md w S { X with gp := g, cp := cap } (putPg C b p s) :=
  ⟨h.cut, h.fail, h.ecut, h.efail, h.len, h.rng, fun i hi => by
    have h1 := hc i hi
    have e0 : (putPg C b p s).P = C.P := rfl
    rw [h1, putPg_get, e0]
    by_cases e : i = b * C.P + p
    · rw [if_pos e, if_pos ((page_at hp).1 e)]
    · rw [if_neg e, if_neg (fun x => e ((page_at hp).2 x))], h.worn, h.dead, h.mark, ⟨hg, h.lt.2⟩, ⟨hs, h.out.2⟩, h.geo, h.didr, h.wornr⟩
set_option maxRecDepth 100000 in
set_option maxHeartbeats 1000000 in
theorem lay_any {w : World} {S X C} (h : Md w S X C) (hS : ∀ i, S i → i < w.heap.size) (b p : Nat) (hb : b < C.B) (hp : p < C.P) (s : ByteArray) : Calls Try.prog 41 #[.agg (mdA X C), .int .i64 ((b : Int) * C.P + p), .string s] w fun e w' =>
    ∃ X', e = .returned (.agg (mdA X' (putPg C b p (kp C.Z s)))) ∧ Md w' S X' (putPg C b p (kp C.Z s)) ∧ Below w.heap.size w w' ∧ Xn w X X' := by
  have hat : ((b : Int) * C.P + p) = ((b * C.P + p : Nat) : Int) := by
    rw [Int.natCast_add, Int.natCast_mul]
  have hlt := page_lt hb hp
  rw [hat]
  generalize hA : b * C.P + p = at' at *
  have hgeo := h.geo
  have HM := Hid.mk h
  have HAt := Hid.mk hA
  clear h hA hat
  have hBP : C.B * C.P ≤ 512 := Nat.le_trans (Nat.mul_le_mul hgeo.2.1 hgeo.2.2.2.1) (by decide)
  go_enter Try.func41, Try.ntmps41
  go_upto_region 1 with fail
  have hM0 := Mw.start HM.out
  generalize (w.alloc (.cells (mdA X C) 39)).alloc (.cells #[.int .i64 0, .int .i64 0, .int .i64 0, .slice none 0 0, .slice none 0 0, .slice none 0 0, .slice none 0 0, .slice none 0 0, .slice none 0 0, .slice none 0 0, .int .i64 0, .bool false] 39) = W0 at *
  have hlt0 := hM0.lt
  obtain ⟨p0, p1, p2, p3, p4, p5, p6, p7, p8, p9, p10, p11⟩ := hM0.own.cells
  obtain ⟨cap, hcap, W1, hrun, hb1, hs1, hc1, hf1⟩ := append0 (W0.alloc (.cells #[] 9)) 36 9 (.string ⟨#[]⟩) 16 Try.underlying36 Try.info9' (by decide) W0.heap.size X.gp (C.B * C.P) X.cp (fun i => .string (C.pg (i / C.P) (i % C.P))) (fun j hj => (hM0.md.alloc _).pg j hj) (by omega) (by omega)
  rw [size_alloc] at hrun hs1 hc1 hf1
  have hb2 : Below W0.heap.size W0 W1 := below3 ((Below.refl _ W0).alloc (Nat.le_refl _) _) hb1
  have hL1 : Lr W0 (W0.heap.size + 1) (C.B * C.P) (fun i => .string (C.pg (i / C.P) (i % C.P))) W1 := ⟨hb2, hs1, by omega, hc1, hf1⟩
  have ci := hc1 at' hlt
  have fi := hf1 at'
  have HRun := Hid.mk hrun
  have HM0 := Hid.mk hM0
  have HL1 := Hid.mk hL1
  have lT : w.heap.size < W0.heap.size := by omega
  have htx : ∀ W, Calls Try.prog 18 #[.int .i64 ((C.Z : Int) + 32), .int .u8 255] W fun e w' => e = .returned (.string (rep (C.Z + 32) 255)) ∧ Below W.heap.size W w' := fun W => text_any (C.Z + 32) (by omega) 255 (by decide) W
  have HTx := Hid.mk htx
  have hz1 : (C.Z : Int) ≤ 256 := by omega
  have hlt1 : (at' : Int) < ((C.B * C.P : Nat) : Int) := by omega
  clear hM0 hb1 hb2 hs1 hc1 hf1 hrun hL1 htx p0 p1 p2 p3 p4 p5 p7 p8 p9 p10 p11
  go_upto_region 2 with (first | (at_builtin; refine wpList_append0 rfl (.tmp 8) (.tmp 10) 36 rfl HRun.out rfl rfl ?_))
  go_upto_region 3 with fail
  have hL2 := HL1.out.set at' (.string s)
  generalize W1.setCell ⟨W0.heap.size + 1, at', none⟩ (.string s) = W2 at *
  have HL2 := Hid.mk hL2
  have o2 := (HM0.out.call hL2.below).own.cells.2.2.1
  clear hL2 HL1 ci fi p6
  by_cases he : s = rep (C.Z + 32) 255
  · go_upto_region 4 with (go_at_call 18; refine (HTx.out _).mono ?_; rintro e W3 ⟨rfl, b3⟩; rw [← he])
    have hL4 := HL2.out.call b3
    have ci := hL4.cell at' hlt
    have fi := hL4.fr at'
    simp only [if_pos] at ci
    have HL4 := Hid.mk hL4
    clear b3 o2 hL4
    go_upto_region 5 with fail
    have hL5 := HL4.out.set at' (.string ⟨#[]⟩)
    generalize W3.setCell ⟨W0.heap.size + 1, at', none⟩ (.string ⟨#[]⟩) = W5 at *
    clear ci fi HL4
    have hM5 := HM0.out.call hL5.below
    obtain ⟨p0, p1, p2, p3, p4, p5, p6, p7, p8, p9, p10, p11⟩ := hM5.own.cells
    have f6 := hM5.own.frozen 6
    have hM6 : MdAt (W5.setCell ⟨w.heap.size, 6, none⟩ (.slice (some ⟨W0.heap.size + 1, 0, none⟩) (C.B * C.P) cap)) w.heap.size { X with gp := W0.heap.size + 1, cp := cap } (putPg C b p (kp C.Z s)) := heap_setCell_same W5 w.heap.size 6 _ 39 _ hM5.own
    have hr6 : (W5.setCell ⟨w.heap.size, 6, none⟩ (.slice (some ⟨W0.heap.size + 1, 0, none⟩) (C.B * C.P) cap)).heap[w.heap.size + 1]? = some (.cells #[.int .i64 0, .int .i64 0, .int .i64 0, .slice none 0 0, .slice none 0 0, .slice none 0 0, .slice none 0 0, .slice none 0 0, .slice none 0 0, .slice none 0 0, .int .i64 0, .bool false] 39 (0, 0)) := (Below.heap_setCell W5 _ _ _ (by show w.heap.size + 1 ≠ w.heap.size; omega)).trans hM5.res
    have hb6 : Below w.heap.size w (W5.setCell ⟨w.heap.size, 6, none⟩ (.slice (some ⟨W0.heap.size + 1, 0, none⟩) (C.B * C.P) cap)) := hM5.below.setCell (Nat.le_refl _) _
    have hm6 : Md (W5.setCell ⟨w.heap.size, 6, none⟩ (.slice (some ⟨W0.heap.size + 1, 0, none⟩) (C.B * C.P) cap)) S { X with gp := W0.heap.size + 1, cp := cap } (putPg C b p (kp C.Z s)) := by
      have h1 := HM.out.call hb6
      refine h1.newPg hp (by rw [sc_size]; exact hL5.lt) (fun hs => by have := hS _ hs; omega) (fun i hi => ?_)
      rw [World.cell?_setCell_other _ _ _ _ (by intro x; have := congrArg Addr.block x; simp only at this; omega), hL5.cell i hi]
      have ek : kp C.Z s = ⟨#[]⟩ := by unfold kp; rw [if_pos he]
      rw [ek, HAt.out]
      by_cases e : i = at'
      · rw [if_pos e, if_pos e]
      · rw [if_neg e, if_neg e, if_neg e]
    obtain ⟨X1, hX1⟩ : ∃ X1 : Mx, X1 = { X with gp := W0.heap.size + 1, cp := cap } := ⟨_, rfl⟩
    obtain ⟨C1, hC1⟩ : ∃ C1 : Ch, C1 = putPg C b p (kp C.Z s) := ⟨_, rfl⟩
    rw [← hX1, ← hC1] at hM6 hm6
    have hXs : X1.gp = W0.heap.size + 1 ∧ X1.gw = X.gw ∧ X1.gd = X.gd ∧ X1.gm = X.gm ∧ X1.ca = X.ca ∧ X1.cl = X.cl ∧ X1.fa = X.fa ∧ X1.fl = X.fl := by rw [hX1]; exact ⟨rfl, rfl, rfl, rfl, rfl, rfl, rfl, rfl⟩
    have HC1 := Hid.mk hC1
    have HF := Hid.mk (And.intro hM6 (And.intro hr6 (And.intro hb6 hm6)))
    have HXs := Hid.mk hXs
    clear hM6 hr6 hb6 hm6 hM5 hL5 hX1 hC1 hXs
    go_upto_region 6 with fail
    generalize W5.setCell ⟨w.heap.size, 6, none⟩ (.slice (some ⟨W0.heap.size + 1, 0, none⟩) (C.B * C.P) cap) = W6 at *
    clear p0 p1 p2 p3 p4 p5 p6 p7 p8 p9 p10 p11 f6
    obtain ⟨p0, p1, p2, p3, p4, p5, p6, p7, p8, p9, p10, p11⟩ := HF.out.1.cells
    obtain ⟨q0, q1, q2, q3, q4, q5, q6, q7, q8, q9, q10, q11, qf⟩ := z39_cells HF.out.2.1
    have P1 := putMd HF.out.2.1 X1 C1
    have hb7 := P1.below HF.out.2.2.1 (by omega)
    have hlt7 := HM.out.lt
    have hm7 := P1.mdNew (w := w) HF.out.2.2.2 (by rw [HXs.out.1]; omega) (by rw [HXs.out.2.1]; omega) (by rw [HXs.out.2.2.1]; omega) (by rw [HXs.out.2.2.2.1]; omega) (S' := S) (by rw [HXs.out.2.2.2.2.1, HXs.out.2.2.2.2.2.1]; exact HM.out.cut) (by rw [HXs.out.2.2.2.2.2.2.1, HXs.out.2.2.2.2.2.2.2]; exact HM.out.fail) (by omega)
    have HG := Hid.mk (And.intro P1.here (And.intro hb7 hm7))
    clear P1 hb7 hm7 hlt7
    go_wp2_with fail
    have eW : ((((((((((((W6.setCell ⟨w.heap.size + 1, 0, none⟩ (.int .i64 C1.B)).setCell ⟨w.heap.size + 1, 1, none⟩ (.int .i64 C1.P)).setCell ⟨w.heap.size + 1, 2, none⟩ (.int .i64 C1.Z)).setCell ⟨w.heap.size + 1, 3, none⟩ (.slice X1.ca X1.cl.length X1.cc)).setCell ⟨w.heap.size + 1, 4, none⟩ (.slice X1.fa X1.fl.length X1.fc)).setCell ⟨w.heap.size + 1, 5, none⟩ (.slice X1.ba X1.bn X1.bc)).setCell ⟨w.heap.size + 1, 6, none⟩ (.slice (some ⟨X1.gp, 0, none⟩) (C1.B * C1.P) X1.cp)).setCell ⟨w.heap.size + 1, 7, none⟩ (.slice (some ⟨X1.gw, 0, none⟩) C1.B X1.cw)).setCell ⟨w.heap.size + 1, 8, none⟩ (.slice (some ⟨X1.gd, 0, none⟩) C1.B X1.cd)).setCell ⟨w.heap.size + 1, 9, none⟩ (.slice (some ⟨X1.gm, 0, none⟩) C1.B X1.cm)).setCell ⟨w.heap.size + 1, 10, none⟩ (.int .i64 C1.did)).setCell ⟨w.heap.size + 1, 11, none⟩ (.bool C1.off)) = setMd W6 (w.heap.size + 1) X1 C1 := rfl
    rw [eW]
    clear eW
    generalize setMd W6 (w.heap.size + 1) X1 C1 = W9 at *
    exact bodyPost_ret (results_cell_row rfl _ _ (w.heap.size + 1) 39 (mdA X1 C1) (0, 0) _ rfl HG.out.1 Try.underlying39 rfl info39) rfl ⟨X1, by rw [HC1.out], by rw [← HC1.out]; exact HG.out.2.2, HG.out.2.1, ⟨HXs.out.2.2.2.2.1, HXs.out.2.2.2.2.2.1, HXs.out.2.2.2.2.2.2.1, HXs.out.2.2.2.2.2.2.2, Or.inr (by rw [HXs.out.1]; omega), Or.inl HXs.out.2.1, Or.inl HXs.out.2.2.1, Or.inl HXs.out.2.2.2.1⟩⟩
  · have hbq := bytes_beq_false _ _ he
    generalize hRR : rep (C.Z + 32) 255 = RR at *
    have HRR := Hid.mk hRR
    clear hRR
    go_upto_region 5 with (go_at_call 18; refine (HTx.out _).mono ?_; rintro e W3 ⟨rfl, b3⟩)
    have hL5 := HL2.out.call b3
    clear b3 o2
    generalize W3 = W5 at *
    have hM5 := HM0.out.call hL5.below
    obtain ⟨p0, p1, p2, p3, p4, p5, p6, p7, p8, p9, p10, p11⟩ := hM5.own.cells
    have f6 := hM5.own.frozen 6
    have hM6 : MdAt (W5.setCell ⟨w.heap.size, 6, none⟩ (.slice (some ⟨W0.heap.size + 1, 0, none⟩) (C.B * C.P) cap)) w.heap.size { X with gp := W0.heap.size + 1, cp := cap } (putPg C b p (kp C.Z s)) := heap_setCell_same W5 w.heap.size 6 _ 39 _ hM5.own
    have hr6 : (W5.setCell ⟨w.heap.size, 6, none⟩ (.slice (some ⟨W0.heap.size + 1, 0, none⟩) (C.B * C.P) cap)).heap[w.heap.size + 1]? = some (.cells #[.int .i64 0, .int .i64 0, .int .i64 0, .slice none 0 0, .slice none 0 0, .slice none 0 0, .slice none 0 0, .slice none 0 0, .slice none 0 0, .slice none 0 0, .int .i64 0, .bool false] 39 (0, 0)) := (Below.heap_setCell W5 _ _ _ (by show w.heap.size + 1 ≠ w.heap.size; omega)).trans hM5.res
    have hb6 : Below w.heap.size w (W5.setCell ⟨w.heap.size, 6, none⟩ (.slice (some ⟨W0.heap.size + 1, 0, none⟩) (C.B * C.P) cap)) := hM5.below.setCell (Nat.le_refl _) _
    have hm6 : Md (W5.setCell ⟨w.heap.size, 6, none⟩ (.slice (some ⟨W0.heap.size + 1, 0, none⟩) (C.B * C.P) cap)) S { X with gp := W0.heap.size + 1, cp := cap } (putPg C b p (kp C.Z s)) := by
      have h1 := HM.out.call hb6
      refine h1.newPg hp (by rw [sc_size]; exact hL5.lt) (fun hs => by have := hS _ hs; omega) (fun i hi => ?_)
      rw [World.cell?_setCell_other _ _ _ _ (by intro x; have := congrArg Addr.block x; simp only at this; omega), hL5.cell i hi]
      have ek : kp C.Z s = s := by unfold kp; rw [if_neg (by rw [HRR.out]; exact he)]
      rw [ek, HAt.out]
      by_cases e : i = at'
      · rw [if_pos e, if_pos e]
      · rw [if_neg e, if_neg e]
    obtain ⟨X1, hX1⟩ : ∃ X1 : Mx, X1 = { X with gp := W0.heap.size + 1, cp := cap } := ⟨_, rfl⟩
    obtain ⟨C1, hC1⟩ : ∃ C1 : Ch, C1 = putPg C b p (kp C.Z s) := ⟨_, rfl⟩
    rw [← hX1, ← hC1] at hM6 hm6
    have hXs : X1.gp = W0.heap.size + 1 ∧ X1.gw = X.gw ∧ X1.gd = X.gd ∧ X1.gm = X.gm ∧ X1.ca = X.ca ∧ X1.cl = X.cl ∧ X1.fa = X.fa ∧ X1.fl = X.fl := by rw [hX1]; exact ⟨rfl, rfl, rfl, rfl, rfl, rfl, rfl, rfl⟩
    have HC1 := Hid.mk hC1
    have HF := Hid.mk (And.intro hM6 (And.intro hr6 (And.intro hb6 hm6)))
    have HXs := Hid.mk hXs
    clear hM6 hr6 hb6 hm6 hM5 hL5 hX1 hC1 hXs
    go_upto_region 6 with fail
    generalize W5.setCell ⟨w.heap.size, 6, none⟩ (.slice (some ⟨W0.heap.size + 1, 0, none⟩) (C.B * C.P) cap) = W6 at *
    clear p0 p1 p2 p3 p4 p5 p6 p7 p8 p9 p10 p11 f6
    obtain ⟨p0, p1, p2, p3, p4, p5, p6, p7, p8, p9, p10, p11⟩ := HF.out.1.cells
    obtain ⟨q0, q1, q2, q3, q4, q5, q6, q7, q8, q9, q10, q11, qf⟩ := z39_cells HF.out.2.1
    have P1 := putMd HF.out.2.1 X1 C1
    have hb7 := P1.below HF.out.2.2.1 (by omega)
    have hlt7 := HM.out.lt
    have hm7 := P1.mdNew (w := w) HF.out.2.2.2 (by rw [HXs.out.1]; omega) (by rw [HXs.out.2.1]; omega) (by rw [HXs.out.2.2.1]; omega) (by rw [HXs.out.2.2.2.1]; omega) (S' := S) (by rw [HXs.out.2.2.2.2.1, HXs.out.2.2.2.2.2.1]; exact HM.out.cut) (by rw [HXs.out.2.2.2.2.2.2.1, HXs.out.2.2.2.2.2.2.2]; exact HM.out.fail) (by omega)
    have HG := Hid.mk (And.intro P1.here (And.intro hb7 hm7))
    clear P1 hb7 hm7 hlt7
    go_wp2_with fail
    have eW : ((((((((((((W6.setCell ⟨w.heap.size + 1, 0, none⟩ (.int .i64 C1.B)).setCell ⟨w.heap.size + 1, 1, none⟩ (.int .i64 C1.P)).setCell ⟨w.heap.size + 1, 2, none⟩ (.int .i64 C1.Z)).setCell ⟨w.heap.size + 1, 3, none⟩ (.slice X1.ca X1.cl.length X1.cc)).setCell ⟨w.heap.size + 1, 4, none⟩ (.slice X1.fa X1.fl.length X1.fc)).setCell ⟨w.heap.size + 1, 5, none⟩ (.slice X1.ba X1.bn X1.bc)).setCell ⟨w.heap.size + 1, 6, none⟩ (.slice (some ⟨X1.gp, 0, none⟩) (C1.B * C1.P) X1.cp)).setCell ⟨w.heap.size + 1, 7, none⟩ (.slice (some ⟨X1.gw, 0, none⟩) C1.B X1.cw)).setCell ⟨w.heap.size + 1, 8, none⟩ (.slice (some ⟨X1.gd, 0, none⟩) C1.B X1.cd)).setCell ⟨w.heap.size + 1, 9, none⟩ (.slice (some ⟨X1.gm, 0, none⟩) C1.B X1.cm)).setCell ⟨w.heap.size + 1, 10, none⟩ (.int .i64 C1.did)).setCell ⟨w.heap.size + 1, 11, none⟩ (.bool C1.off)) = setMd W6 (w.heap.size + 1) X1 C1 := rfl
    rw [eW]
    clear eW
    generalize setMd W6 (w.heap.size + 1) X1 C1 = W9 at *
    exact bodyPost_ret (results_cell_row rfl _ _ (w.heap.size + 1) 39 (mdA X1 C1) (0, 0) _ rfl HG.out.1 Try.underlying39 rfl info39) rfl ⟨X1, by rw [HC1.out], by rw [← HC1.out]; exact HG.out.2.2, HG.out.2.1, ⟨HXs.out.2.2.2.2.1, HXs.out.2.2.2.2.2.1, HXs.out.2.2.2.2.2.2.1, HXs.out.2.2.2.2.2.2.2, Or.inr (by rw [HXs.out.1]; omega), Or.inl HXs.out.2.1, Or.inl HXs.out.2.2.1, Or.inl HXs.out.2.2.2.1⟩⟩
end Go.Proofs.Ytkfkepjegdaadaa
