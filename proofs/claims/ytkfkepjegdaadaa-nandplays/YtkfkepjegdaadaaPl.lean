/-
  The law NandPlays: what it holds on its way, and its two drawn regions. No condition.
-/
import Derived.Test.YtkfkepjegdaadaaBgn
import Derived.Test.YtkfkepjegdaadaaDoall
import Derived.Test.YtkfkepjegdaadaaSam
import Derived.Test.YtkfkepjegdaadaaLawD
namespace Go.Proofs.Ytkfkepjegdaadaa
open Go Go.RowKit

/-- a block of the model's own kind is none of its rows -/
theorem put39 {W W' : World} {S : Nat → Prop} {X C T o} (p : Put W W' T o) (h : Md W S X C) (h0 : ∃ x, W.cell? ⟨T, 0, none⟩ = some (.int .i64 x)) (h3 : ∃ a n c, W.cell? ⟨T, 3, none⟩ = some (.slice a n c))
    (hc : ∀ i, i < X.cl.length → ∀ g f, X.ca = some ⟨g, f, none⟩ → g ≠ T) (hf : ∀ i, i < X.fl.length → ∀ g f, X.fa = some ⟨g, f, none⟩ → g ≠ T) : Md W' S X C := by
  obtain ⟨x, h0⟩ := h0
  obtain ⟨a, n, c, h3⟩ := h3
  have hg := h.geo
  have hP : 0 < C.B * C.P := Nat.mul_pos (by omega) (by omega)
  refine p.md h (fun e => ?_) (fun e => ?_) (fun e => ?_) (fun e => ?_) hc hf
  · have := h.pg 0 hP
    rw [← e, h0] at this
    cases this
  · have := h.worn 3 (by omega)
    rw [← e, h3] at this
    cases this
  · have := h.dead 0 (by omega)
    rw [← e, h0] at this
    cases this
  · have := h.mark 0 (by omega)
    rw [← e, h0] at this
    cases this
/-- where its cuts and failures lie: in what was there -/
def Old (w : World) (X : Mx) : Prop := (∀ i, i < X.cl.length → ∀ g f, X.ca = some ⟨g, f, none⟩ → g < w.heap.size) ∧ (∀ i, i < X.fl.length → ∀ g f, X.fa = some ⟨g, f, none⟩ → g < w.heap.size)
theorem Old.xf {w : World} {X X' : Mx} (h : Old w X) (k : Xf X X') : Old w X' := by
  obtain ⟨k1, k2, k3, k4⟩ := k
  unfold Old
  rw [k1, k2, k3, k4]
  exact h
/-- what the law holds -/
structure Pq (w : World) (L : Ly) (X : Mx) (C : Ch) (wx : World) : Prop where
  below : Below w.heap.size w wx
  chip : Chip wx L C
  md : Md wx (L.own C.B) X C
  new : ∀ i, L.own C.B i → w.heap.size ≤ i
  old : Old w X
theorem Pq.call {w : World} {L X C} {wx w2 : World} (h : Pq w L X C wx) (k : Below wx.heap.size wx w2) : Pq w L X C w2 := ⟨below3 h.below k, h.chip.call k, h.md.call k, h.new, h.old⟩
theorem Pq.drew {w : World} {L X C} {wx : World} (h : Pq w L X C wx) : Pq w L X C wx.drew := h.call (Below.refl _ wx).drew
theorem Pq.done {w : World} {L X C} {wx w2 : World} (h : Pq w L X C wx) {X' C'} (hc : Chip w2 L C') (hm : Md w2 (L.own C.B) X' C') (hk : Kp (L.own C.B) wx w2) (hx : Xf X X') (hs : Step C C') : Pq w L X' C' w2 := by
  refine ⟨hk.below h.below h.below.size h.new, hc, ?_, ?_, h.old.xf hx⟩
  · rw [hs.B]; exact hm
  · rw [hs.B]; exact h.new
theorem Pq.put {w : World} {L X C} {wx W : World} {T : Nat} {o : Obj} (h : Pq w L X C wx) (p : Put wx W T o) (hT : w.heap.size ≤ T) (hn : ¬ L.own C.B T) {cs : Array Value} {t : TypeId} {m : Nat × Nat} (hc : wx.heap[T]? = some (.cells cs t m)) (h0 : ∃ x, wx.cell? ⟨T, 0, none⟩ = some (.int .i64 x)) (h3 : ∃ a n c, wx.cell? ⟨T, 3, none⟩ = some (.slice a n c)) : Pq w L X C W :=
  ⟨p.below h.below hT, chip_put p h.chip hn hc, put39 p h.md h0 h3 (fun i hi g f e => by have := h.old.1 i hi g f e; omega) (fun i hi g f e => by have := h.old.2 i hi g f e; omega), h.new, h.old⟩
theorem old_of {w : World} {X : Mx} (h1 : CutsAt w (fun _ => False) X.ca X.cl) (h2 : IntsAt w (fun _ => False) X.fa X.fl) : Old w X := by
  refine ⟨fun i hi g f e => ?_, fun i hi g f e => ?_⟩
  · obtain ⟨g', o', e', hg, _⟩ := h1 i hi
    rw [e] at e'
    cases e'
    exact hg
  · obtain ⟨g', o', e', hg, _⟩ := h2 i hi
    rw [e] at e'
    cases e'
    exact hg
/-- what the law's region around begun reads -/
def S5 (b p z : Nat) (ca fa ba : Option Addr) (n1 n2 n3 c1 c2 c3 G F : Nat) (wx : World) : Prop := wx.heap[G]? = some (.cells #[.int .i64 b, .int .i64 p, .int .i64 z] 23 (0, 0)) ∧ wx.heap[F]? = some (.cells #[.slice ca n1 c1, .slice fa n2 c2, .slice ba n3 c3] 27 (0, 0))
theorem S5.call {b p z : Nat} {ca fa ba : Option Addr} {n1 n2 n3 c1 c2 c3 G F : Nat} {wx w2 : World} (h : S5 b p z ca fa ba n1 n2 n3 c1 c2 c3 G F wx) (k : Below wx.heap.size wx w2) : S5 b p z ca fa ba n1 n2 n3 c1 c2 c3 G F w2 :=
  ⟨(k.block _ (Array.getElem?_eq_some_iff.1 h.1).1).trans h.1, (k.block _ (Array.getElem?_eq_some_iff.1 h.2).1).trans h.2⟩
theorem S5.put {b p z : Nat} {ca fa ba : Option Addr} {n1 n2 n3 c1 c2 c3 G F T : Nat} {wx w2 : World} {o : Obj} {cs : Array Value} (h : S5 b p z ca fa ba n1 n2 n3 c1 c2 c3 G F wx) (k : Put wx w2 T o) (hT : wx.heap[T]? = some (.cells cs 39 (0, 0))) : S5 b p z ca fa ba n1 n2 n3 c1 c2 c3 G F w2 :=
  ⟨(k.other _ (fun e => by have := h.1; rw [e, hT] at this; cases this)).trans h.1, (k.other _ (fun e => by have := h.2; rw [e, hT] at this; cases this)).trans h.2⟩
def ops5 : Array Oper := #[
  { dst := some 29, op := Op.load 23 (Operand.tmp 7), type := 23, pos := "law.go:214", after := #[], guard := none },
  { dst := some 30, op := Op.load 27 (Operand.tmp 4), type := 27, pos := "law.go:214", after := #[], guard := none },
  { dst := some 31, op := Op.call { callee := Callee.value (Operand.func 10), args := #[Operand.tmp 30], argTypes := #[27] }, type := 27, pos := "law.go:214", after := #[{ on := 1, ground := Ground.data }], guard := none },
  { dst := some 32, op := Op.call { callee := Callee.value (Operand.func 12), args := #[Operand.tmp 29, Operand.tmp 31], argTypes := #[23, 27] }, type := 39, pos := "law.go:214", after := #[{ on := 0, ground := Ground.data }, { on := 2, ground := Ground.data }, { on := 2, ground := Ground.chain }], guard := none },
  { dst := some 10, op := Op.alloc 39, type := 0, pos := "law.go:214", after := #[], guard := none },
  { dst := none, op := Op.store 39 (Operand.tmp 10) (Operand.tmp 32), type := 0, pos := "law.go:214", after := #[{ on := 4, ground := Ground.data }, { on := 3, ground := Ground.data }, { on := 3, ground := Ground.chain }, { on := 0, ground := Ground.phase }, { on := 1, ground := Ground.phase }, { on := 2, ground := Ground.phase }, { on := 3, ground := Ground.phase }, { on := 4, ground := Ground.phase }], guard := none }]
set_option maxRecDepth 100000 in
set_option maxHeartbeats 4000000 in
theorem reg5 {Q : Exit → Act → World → Prop} (hQ : ∀ c (a : Act) (d : Nat) (v : Value) (w : World), Q (.panic c) (a.put (some d) v) w → Q (.panic c) a w) (C : Ch) (b p z : Nat) (ca fa ba : Option Addr) (n1 n2 n3 c1 c2 c3 m1 m2 m3 : Nat) (G F : Nat) (Pa : World → Prop) (Pb : Mx → World → Prop) (Pw : Nat → Mx → World → Prop) (hPa : ∀ W W2, Pa W → Below W.heap.size W W2 → Pa W2) (hPb : ∀ X W W2, Pb X W → Below W.heap.size W W2 → Pb X W2) (Tn : Nat → Prop) (hPw : ∀ T X W, Pb X W → W.heap[T]? = some (.cells z39 39 (0, 0)) → G ≠ T → F ≠ T → Tn T → Pw T X (setMd W T X C)) (hTn : ∀ W, Pa W ∨ (∃ X, Pb X W) → Tn W.heap.size)
    (hcut : ∀ W, Calls Try.prog 10 #[.agg #[.slice ca n1 c1, .slice fa n2 c2, .slice ba n3 c3]] W fun e w' => e = .returned (.agg #[.slice ca m1 c1, .slice fa m2 c2, .slice ba m3 c3]) ∧ Below W.heap.size W w') (hbeg : ∀ W, Pa W → Calls Try.prog 12 #[.agg #[.int .i64 b, .int .i64 p, .int .i64 z], .agg #[.slice ca m1 c1, .slice fa m2 c2, .slice ba m3 c3]] W fun e w' => ∃ X, e = .returned (.agg (mdA X C)) ∧ Pb X w' ∧ Below W.heap.size W w') {t0 t1 t2 t3 t5 t6 t8 t9 t10 t11 t12 t13 t14 t15 t16 t17 t18 t19 t20 t21 t22 t23 t24 t25 t26 t27 t28 t29 t30 t31 t32 t33 t34 t35 t36 t37 t38 t39 t40 t41 t42 t43 t44 t45 t46 t47 t48 t49 t50 t51 t52 t53 t54 t55 t56 t57 t58 t59 t60 t61 t62 t63 t64 t65 t66 t67 t68 t69 t70 t71 t72 : Value} (hend : ∀ (T : Nat) (X : Mx) (wx : World), Pw T X wx → Q .normal { tmps := List.toArray (t0 :: t1 :: t2 :: t3 :: (.pointer (some ⟨F, 0, none⟩)) :: t5 :: t6 :: (.pointer (some ⟨G, 0, none⟩)) :: t8 :: t9 :: (.pointer (some ⟨T, 0, none⟩)) :: t11 :: t12 :: t13 :: t14 :: t15 :: t16 :: t17 :: t18 :: t19 :: t20 :: t21 :: t22 :: t23 :: t24 :: t25 :: t26 :: t27 :: t28 :: (.agg #[.int .i64 b, .int .i64 p, .int .i64 z]) :: (.agg #[.slice ca n1 c1, .slice fa n2 c2, .slice ba n3 c3]) :: (.agg #[.slice ca m1 c1, .slice fa m2 c2, .slice ba m3 c3]) :: (.agg (mdA X C)) :: t33 :: t34 :: t35 :: t36 :: t37 :: t38 :: t39 :: t40 :: t41 :: t42 :: t43 :: t44 :: t45 :: t46 :: t47 :: t48 :: t49 :: t50 :: t51 :: t52 :: t53 :: t54 :: t55 :: t56 :: t57 :: t58 :: t59 :: t60 :: t61 :: t62 :: t63 :: t64 :: t65 :: t66 :: t67 :: t68 :: t69 :: t70 :: t71 :: t72 :: []), defers := [] } wx) {id : Nat} {wx : World} (hS : (S5 b p z ca fa ba n1 n2 n3 c1 c2 c3 G F) wx) (PA : Pa wx) : (Code.region id ops5 true).wp Try.prog Q { tmps := List.toArray (t0 :: t1 :: t2 :: t3 :: (.pointer (some ⟨F, 0, none⟩)) :: t5 :: t6 :: (.pointer (some ⟨G, 0, none⟩)) :: t8 :: t9 :: t10 :: t11 :: t12 :: t13 :: t14 :: t15 :: t16 :: t17 :: t18 :: t19 :: t20 :: t21 :: t22 :: t23 :: t24 :: t25 :: t26 :: t27 :: t28 :: t29 :: t30 :: t31 :: t32 :: t33 :: t34 :: t35 :: t36 :: t37 :: t38 :: t39 :: t40 :: t41 :: t42 :: t43 :: t44 :: t45 :: t46 :: t47 :: t48 :: t49 :: t50 :: t51 :: t52 :: t53 :: t54 :: t55 :: t56 :: t57 :: t58 :: t59 :: t60 :: t61 :: t62 :: t63 :: t64 :: t65 :: t66 :: t67 :: t68 :: t69 :: t70 :: t71 :: t72 :: []), defers := [] } wx := by
  have gAll : ∀ (l : Array Bool) (T : Nat) (X : Mx) (wx : World), l = #[true, true, true, true, true, false] → (S5 b p z ca fa ba n1 n2 n3 c1 c2 c3 G F) wx → Pb X wx ∧ wx.heap[T]? = some (.cells z39 39 (0, 0)) ∧ G ≠ T ∧ F ≠ T ∧ Tn T → wpAnyH Try.prog .any ops5 Q (S5 b p z ca fa ba n1 n2 n3 c1 c2 c3 G F) 1 l { tmps := List.toArray (t0 :: t1 :: t2 :: t3 :: (.pointer (some ⟨F, 0, none⟩)) :: t5 :: t6 :: (.pointer (some ⟨G, 0, none⟩)) :: t8 :: t9 :: (.pointer (some ⟨T, 0, none⟩)) :: t11 :: t12 :: t13 :: t14 :: t15 :: t16 :: t17 :: t18 :: t19 :: t20 :: t21 :: t22 :: t23 :: t24 :: t25 :: t26 :: t27 :: t28 :: (.agg #[.int .i64 b, .int .i64 p, .int .i64 z]) :: (.agg #[.slice ca n1 c1, .slice fa n2 c2, .slice ba n3 c3]) :: (.agg #[.slice ca m1 c1, .slice fa m2 c2, .slice ba m3 c3]) :: (.agg (mdA X C)) :: t33 :: t34 :: t35 :: t36 :: t37 :: t38 :: t39 :: t40 :: t41 :: t42 :: t43 :: t44 :: t45 :: t46 :: t47 :: t48 :: t49 :: t50 :: t51 :: t52 :: t53 :: t54 :: t55 :: t56 :: t57 :: t58 :: t59 :: t60 :: t61 :: t62 :: t63 :: t64 :: t65 :: t66 :: t67 :: t68 :: t69 :: t70 :: t71 :: t72 :: []), defers := [] } wx := by
    rintro l T X wx rfl hHeld ⟨hb, hz, hG, hF, hT⟩
    obtain ⟨q0, q1, q2, q3, q4, q5, q6, q7, q8, q9, q10, q11, qf⟩ := z39_cells hz
    have P1 := putMd hz X C
    have HF := Hid.mk (And.intro (hPw T X wx hb hz hG hF hT) (hHeld.put P1 hz))
    clear P1 hb
    refine wpAnyH_ready (rs := [5]) (by kernel_rfl) (by simp) ?_
    refine AllReadyH.cons (o := { dst := none, op := Op.store 39 (Operand.tmp 10) (Operand.tmp 32), type := 0, pos := "law.go:214", after := #[{ on := 4, ground := Ground.data }, { on := 3, ground := Ground.data }, { on := 3, ground := Ground.chain }, { on := 0, ground := Ground.phase }, { on := 1, ground := Ground.phase }, { on := 2, ground := Ground.phase }, { on := 3, ground := Ground.phase }, { on := 4, ground := Ground.phase }], guard := none }) rfl (fun K hK => ?_) AllReadyH.nil
    unfold mdA
    go_simp
    have eW : ((((((((((((wx.setCell ⟨T, 0, none⟩ (.int .i64 C.B)).setCell ⟨T, 1, none⟩ (.int .i64 C.P)).setCell ⟨T, 2, none⟩ (.int .i64 C.Z)).setCell ⟨T, 3, none⟩ (.slice X.ca X.cl.length X.cc)).setCell ⟨T, 4, none⟩ (.slice X.fa X.fl.length X.fc)).setCell ⟨T, 5, none⟩ (.slice X.ba X.bn X.bc)).setCell ⟨T, 6, none⟩ (.slice (some ⟨X.gp, 0, none⟩) (C.B * C.P) X.cp)).setCell ⟨T, 7, none⟩ (.slice (some ⟨X.gw, 0, none⟩) C.B X.cw)).setCell ⟨T, 8, none⟩ (.slice (some ⟨X.gd, 0, none⟩) C.B X.cd)).setCell ⟨T, 9, none⟩ (.slice (some ⟨X.gm, 0, none⟩) C.B X.cm)).setCell ⟨T, 10, none⟩ (.int .i64 C.did)).setCell ⟨T, 11, none⟩ (.bool C.off)) = setMd wx T X C := rfl
    rw [eW]
    clear eW
    refine hK.out _ _ HF.out.2 (fun hHeld => ?_)
    clear hK K
    refine wpAnyH_done (by kernel_rfl) ?_ _
    exact hend T X _ HF.out.1
  have gE : ∀ (l : Array Bool) (X : Mx) (wx : World), l = #[true, true, true, true, false, false] → (S5 b p z ca fa ba n1 n2 n3 c1 c2 c3 G F) wx → Pb X wx → wpAnyH Try.prog .any ops5 Q (S5 b p z ca fa ba n1 n2 n3 c1 c2 c3 G F) 2 l { tmps := List.toArray (t0 :: t1 :: t2 :: t3 :: (.pointer (some ⟨F, 0, none⟩)) :: t5 :: t6 :: (.pointer (some ⟨G, 0, none⟩)) :: t8 :: t9 :: t10 :: t11 :: t12 :: t13 :: t14 :: t15 :: t16 :: t17 :: t18 :: t19 :: t20 :: t21 :: t22 :: t23 :: t24 :: t25 :: t26 :: t27 :: t28 :: (.agg #[.int .i64 b, .int .i64 p, .int .i64 z]) :: (.agg #[.slice ca n1 c1, .slice fa n2 c2, .slice ba n3 c3]) :: (.agg #[.slice ca m1 c1, .slice fa m2 c2, .slice ba m3 c3]) :: (.agg (mdA X C)) :: t33 :: t34 :: t35 :: t36 :: t37 :: t38 :: t39 :: t40 :: t41 :: t42 :: t43 :: t44 :: t45 :: t46 :: t47 :: t48 :: t49 :: t50 :: t51 :: t52 :: t53 :: t54 :: t55 :: t56 :: t57 :: t58 :: t59 :: t60 :: t61 :: t62 :: t63 :: t64 :: t65 :: t66 :: t67 :: t68 :: t69 :: t70 :: t71 :: t72 :: []), defers := [] } wx := by
    rintro l X wx rfl hHeld hb
    have hH := hHeld
    refine wpAnyH_ready (rs := [4]) (by kernel_rfl) (by simp) ?_
    refine AllReadyH.cons (o := { dst := some 10, op := Op.alloc 39, type := 0, pos := "law.go:214", after := #[], guard := none }) rfl (fun K hK => ?_) AllReadyH.nil
    go_simp
    refine hK.out _ _ (hHeld.call ((Below.refl _ _).alloc (Nat.le_refl _) _)) (fun hHeld => ?_)
    clear hK K
    try simp only [List.setIfInBounds_toArray, List.set_cons_zero, List.set_cons_succ]
    exact gAll _ _ _ _ (by kernel_rfl) hHeld ⟨hPb _ _ _ hb ((Below.refl _ _).alloc (Nat.le_refl _) _), ⟨heap_alloc_new wx _, by have := (Array.getElem?_eq_some_iff.1 hH.1).1; omega, by have := (Array.getElem?_eq_some_iff.1 hH.2).1; omega, hTn wx (Or.inr ⟨X, hb⟩)⟩⟩
  have gF : ∀ (l : Array Bool) (T : Nat) (wx : World), l = #[true, true, true, false, true, false] → (S5 b p z ca fa ba n1 n2 n3 c1 c2 c3 G F) wx → Pa wx ∧ wx.heap[T]? = some (.cells z39 39 (0, 0)) ∧ G ≠ T ∧ F ≠ T ∧ Tn T → wpAnyH Try.prog .any ops5 Q (S5 b p z ca fa ba n1 n2 n3 c1 c2 c3 G F) 2 l { tmps := List.toArray (t0 :: t1 :: t2 :: t3 :: (.pointer (some ⟨F, 0, none⟩)) :: t5 :: t6 :: (.pointer (some ⟨G, 0, none⟩)) :: t8 :: t9 :: (.pointer (some ⟨T, 0, none⟩)) :: t11 :: t12 :: t13 :: t14 :: t15 :: t16 :: t17 :: t18 :: t19 :: t20 :: t21 :: t22 :: t23 :: t24 :: t25 :: t26 :: t27 :: t28 :: (.agg #[.int .i64 b, .int .i64 p, .int .i64 z]) :: (.agg #[.slice ca n1 c1, .slice fa n2 c2, .slice ba n3 c3]) :: (.agg #[.slice ca m1 c1, .slice fa m2 c2, .slice ba m3 c3]) :: t32 :: t33 :: t34 :: t35 :: t36 :: t37 :: t38 :: t39 :: t40 :: t41 :: t42 :: t43 :: t44 :: t45 :: t46 :: t47 :: t48 :: t49 :: t50 :: t51 :: t52 :: t53 :: t54 :: t55 :: t56 :: t57 :: t58 :: t59 :: t60 :: t61 :: t62 :: t63 :: t64 :: t65 :: t66 :: t67 :: t68 :: t69 :: t70 :: t71 :: t72 :: []), defers := [] } wx := by
    rintro l T wx rfl hHeld ⟨PA, hz⟩
    refine wpAnyH_ready (rs := [3]) (by kernel_rfl) (by simp) ?_
    refine AllReadyH.cons (o := { dst := some 32, op := Op.call { callee := Callee.value (Operand.func 12), args := #[Operand.tmp 29, Operand.tmp 31], argTypes := #[23, 27] }, type := 39, pos := "law.go:214", after := #[{ on := 0, ground := Ground.data }, { on := 2, ground := Ground.data }, { on := 2, ground := Ground.chain }], guard := none }) rfl (fun K hK => ?_) AllReadyH.nil
    go_simp
    go_wp2_with (go_at_call 12; refine (hbeg _ PA).mono ?_; rintro e w6 ⟨X, rfl, b6, k6⟩)
    refine hK.out _ _ (hHeld.call k6) (fun hHeld => ?_)
    clear hK K
    try simp only [List.setIfInBounds_toArray, List.set_cons_zero, List.set_cons_succ]
    exact gAll _ _ _ _ (by kernel_rfl) hHeld ⟨b6, ⟨(k6.block _ (Array.getElem?_eq_some_iff.1 hz.1).1).trans hz.1, hz.2⟩⟩
  have gB : ∀ (l : Array Bool) (wx : World), l = #[true, true, true, false, false, false] → (S5 b p z ca fa ba n1 n2 n3 c1 c2 c3 G F) wx → Pa wx → wpAnyH Try.prog .any ops5 Q (S5 b p z ca fa ba n1 n2 n3 c1 c2 c3 G F) 3 l { tmps := List.toArray (t0 :: t1 :: t2 :: t3 :: (.pointer (some ⟨F, 0, none⟩)) :: t5 :: t6 :: (.pointer (some ⟨G, 0, none⟩)) :: t8 :: t9 :: t10 :: t11 :: t12 :: t13 :: t14 :: t15 :: t16 :: t17 :: t18 :: t19 :: t20 :: t21 :: t22 :: t23 :: t24 :: t25 :: t26 :: t27 :: t28 :: (.agg #[.int .i64 b, .int .i64 p, .int .i64 z]) :: (.agg #[.slice ca n1 c1, .slice fa n2 c2, .slice ba n3 c3]) :: (.agg #[.slice ca m1 c1, .slice fa m2 c2, .slice ba m3 c3]) :: t32 :: t33 :: t34 :: t35 :: t36 :: t37 :: t38 :: t39 :: t40 :: t41 :: t42 :: t43 :: t44 :: t45 :: t46 :: t47 :: t48 :: t49 :: t50 :: t51 :: t52 :: t53 :: t54 :: t55 :: t56 :: t57 :: t58 :: t59 :: t60 :: t61 :: t62 :: t63 :: t64 :: t65 :: t66 :: t67 :: t68 :: t69 :: t70 :: t71 :: t72 :: []), defers := [] } wx := by
    rintro l wx rfl hHeld PA
    have hH := hHeld
    refine wpAnyH_ready (rs := [3, 4]) (by kernel_rfl) (by simp) ?_
    refine AllReadyH.cons (o := { dst := some 32, op := Op.call { callee := Callee.value (Operand.func 12), args := #[Operand.tmp 29, Operand.tmp 31], argTypes := #[23, 27] }, type := 39, pos := "law.go:214", after := #[{ on := 0, ground := Ground.data }, { on := 2, ground := Ground.data }, { on := 2, ground := Ground.chain }], guard := none }) rfl (fun K hK => ?_) ?_
    · go_simp
      go_wp2_with (go_at_call 12; refine (hbeg _ PA).mono ?_; rintro e w6 ⟨X, rfl, b6, k6⟩)
      refine hK.out _ _ (hHeld.call k6) (fun hHeld => ?_)
      clear hK K
      try simp only [List.setIfInBounds_toArray, List.set_cons_zero, List.set_cons_succ]
      exact gE _ _ _ (by kernel_rfl) hHeld b6
    refine AllReadyH.cons (o := { dst := some 10, op := Op.alloc 39, type := 0, pos := "law.go:214", after := #[], guard := none }) rfl (fun K hK => ?_) AllReadyH.nil
    go_simp
    refine hK.out _ _ (hHeld.call ((Below.refl _ _).alloc (Nat.le_refl _) _)) (fun hHeld => ?_)
    clear hK K
    try simp only [List.setIfInBounds_toArray, List.set_cons_zero, List.set_cons_succ]
    exact gF _ _ _ (by kernel_rfl) hHeld ⟨hPa _ _ PA ((Below.refl _ _).alloc (Nat.le_refl _) _), ⟨heap_alloc_new wx _, by have := (Array.getElem?_eq_some_iff.1 hH.1).1; omega, by have := (Array.getElem?_eq_some_iff.1 hH.2).1; omega, hTn wx (Or.inl PA)⟩⟩
  have gD : ∀ (l : Array Bool) (T : Nat) (wx : World), l = #[true, true, false, false, true, false] → (S5 b p z ca fa ba n1 n2 n3 c1 c2 c3 G F) wx → Pa wx ∧ wx.heap[T]? = some (.cells z39 39 (0, 0)) ∧ G ≠ T ∧ F ≠ T ∧ Tn T → wpAnyH Try.prog .any ops5 Q (S5 b p z ca fa ba n1 n2 n3 c1 c2 c3 G F) 3 l { tmps := List.toArray (t0 :: t1 :: t2 :: t3 :: (.pointer (some ⟨F, 0, none⟩)) :: t5 :: t6 :: (.pointer (some ⟨G, 0, none⟩)) :: t8 :: t9 :: (.pointer (some ⟨T, 0, none⟩)) :: t11 :: t12 :: t13 :: t14 :: t15 :: t16 :: t17 :: t18 :: t19 :: t20 :: t21 :: t22 :: t23 :: t24 :: t25 :: t26 :: t27 :: t28 :: (.agg #[.int .i64 b, .int .i64 p, .int .i64 z]) :: (.agg #[.slice ca n1 c1, .slice fa n2 c2, .slice ba n3 c3]) :: t31 :: t32 :: t33 :: t34 :: t35 :: t36 :: t37 :: t38 :: t39 :: t40 :: t41 :: t42 :: t43 :: t44 :: t45 :: t46 :: t47 :: t48 :: t49 :: t50 :: t51 :: t52 :: t53 :: t54 :: t55 :: t56 :: t57 :: t58 :: t59 :: t60 :: t61 :: t62 :: t63 :: t64 :: t65 :: t66 :: t67 :: t68 :: t69 :: t70 :: t71 :: t72 :: []), defers := [] } wx := by
    rintro l T wx rfl hHeld ⟨PA, hz⟩
    refine wpAnyH_ready (rs := [2]) (by kernel_rfl) (by simp) ?_
    refine AllReadyH.cons (o := { dst := some 31, op := Op.call { callee := Callee.value (Operand.func 10), args := #[Operand.tmp 30], argTypes := #[27] }, type := 27, pos := "law.go:214", after := #[{ on := 1, ground := Ground.data }], guard := none }) rfl (fun K hK => ?_) AllReadyH.nil
    go_simp
    go_wp2_with (go_at_call 10; refine (hcut _).mono ?_; rintro e w5 ⟨rfl, b5⟩)
    refine hK.out _ _ (hHeld.call b5) (fun hHeld => ?_)
    clear hK K
    try simp only [List.setIfInBounds_toArray, List.set_cons_zero, List.set_cons_succ]
    exact gF _ _ _ (by kernel_rfl) hHeld ⟨hPa _ _ PA b5, ⟨(b5.block _ (Array.getElem?_eq_some_iff.1 hz.1).1).trans hz.1, hz.2⟩⟩
  have gA : ∀ (l : Array Bool) (wx : World), l = #[true, true, false, false, false, false] → (S5 b p z ca fa ba n1 n2 n3 c1 c2 c3 G F) wx → Pa wx → wpAnyH Try.prog .any ops5 Q (S5 b p z ca fa ba n1 n2 n3 c1 c2 c3 G F) 4 l { tmps := List.toArray (t0 :: t1 :: t2 :: t3 :: (.pointer (some ⟨F, 0, none⟩)) :: t5 :: t6 :: (.pointer (some ⟨G, 0, none⟩)) :: t8 :: t9 :: t10 :: t11 :: t12 :: t13 :: t14 :: t15 :: t16 :: t17 :: t18 :: t19 :: t20 :: t21 :: t22 :: t23 :: t24 :: t25 :: t26 :: t27 :: t28 :: (.agg #[.int .i64 b, .int .i64 p, .int .i64 z]) :: (.agg #[.slice ca n1 c1, .slice fa n2 c2, .slice ba n3 c3]) :: t31 :: t32 :: t33 :: t34 :: t35 :: t36 :: t37 :: t38 :: t39 :: t40 :: t41 :: t42 :: t43 :: t44 :: t45 :: t46 :: t47 :: t48 :: t49 :: t50 :: t51 :: t52 :: t53 :: t54 :: t55 :: t56 :: t57 :: t58 :: t59 :: t60 :: t61 :: t62 :: t63 :: t64 :: t65 :: t66 :: t67 :: t68 :: t69 :: t70 :: t71 :: t72 :: []), defers := [] } wx := by
    rintro l wx rfl hHeld PA
    have hH := hHeld
    refine wpAnyH_ready (rs := [2, 4]) (by kernel_rfl) (by simp) ?_
    refine AllReadyH.cons (o := { dst := some 31, op := Op.call { callee := Callee.value (Operand.func 10), args := #[Operand.tmp 30], argTypes := #[27] }, type := 27, pos := "law.go:214", after := #[{ on := 1, ground := Ground.data }], guard := none }) rfl (fun K hK => ?_) ?_
    · go_simp
      go_wp2_with (go_at_call 10; refine (hcut _).mono ?_; rintro e w5 ⟨rfl, b5⟩)
      refine hK.out _ _ (hHeld.call b5) (fun hHeld => ?_)
      clear hK K
      try simp only [List.setIfInBounds_toArray, List.set_cons_zero, List.set_cons_succ]
      exact gB _ _ (by kernel_rfl) hHeld (hPa _ _ PA b5)
    refine AllReadyH.cons (o := { dst := some 10, op := Op.alloc 39, type := 0, pos := "law.go:214", after := #[], guard := none }) rfl (fun K hK => ?_) AllReadyH.nil
    go_simp
    refine hK.out _ _ (hHeld.call ((Below.refl _ _).alloc (Nat.le_refl _) _)) (fun hHeld => ?_)
    clear hK K
    try simp only [List.setIfInBounds_toArray, List.set_cons_zero, List.set_cons_succ]
    exact gD _ _ _ (by kernel_rfl) hHeld ⟨hPa _ _ PA ((Below.refl _ _).alloc (Nat.le_refl _) _), ⟨heap_alloc_new wx _, by have := (Array.getElem?_eq_some_iff.1 hH.1).1; omega, by have := (Array.getElem?_eq_some_iff.1 hH.2).1; omega, hTn wx (Or.inl PA)⟩⟩
  refine wp_region_held_drew (S := (S5 b p z ca fa ba n1 n2 n3 c1 c2 c3 G F)) (by kernel_rfl) (hS.call (Below.refl _ _).drew) (fun hHeld => ?_)
  refine wpAnyH_take (i := 0) (oi := { dst := some 29, op := Op.load 23 (Operand.tmp 7), type := 23, pos := "law.go:214", after := #[], guard := none }) (v := ?vv0n1) rfl (by kernel_rfl) (by kernel_rfl) (by kernel_rfl) (fun c a w h => hQ c a _ _ w h) (Or.inl ⟨by rfl, ?yy0n1⟩) hHeld ?rr0n1
  case yy0n1 => (intro w0 hSw; obtain ⟨s1, s2⟩ := hSw; have u0 := cell_of_row _ _ 0 _ 23 _ s1; have u1 := cell_of_row _ _ 1 _ 23 _ s1; have u2 := cell_of_row _ _ 2 _ 23 _ s1; have v0 := cell_of_row _ _ 0 _ 27 _ s2; have v1 := cell_of_row _ _ 1 _ 27 _ s2; have v2 := cell_of_row _ _ 2 _ 27 _ s2; simp only [List.getElem?_toArray, List.getElem?_cons_zero, List.getElem?_cons_succ] at u0 u1 u2 v0 v1 v2; go_simp; try (first | with_reducible rfl | rfl))
  try simp only [Act.put, List.setIfInBounds_toArray, List.set_cons_zero, List.set_cons_succ]
  refine wpAnyH_take (i := 1) (oi := { dst := some 30, op := Op.load 27 (Operand.tmp 4), type := 27, pos := "law.go:214", after := #[], guard := none }) (v := ?vv1n2) rfl (by kernel_rfl) (by kernel_rfl) (by kernel_rfl) (fun c a w h => hQ c a _ _ w h) (Or.inl ⟨by rfl, ?yy1n2⟩) hHeld ?rr1n2
  case yy1n2 => (intro w0 hSw; obtain ⟨s1, s2⟩ := hSw; have u0 := cell_of_row _ _ 0 _ 23 _ s1; have u1 := cell_of_row _ _ 1 _ 23 _ s1; have u2 := cell_of_row _ _ 2 _ 23 _ s1; have v0 := cell_of_row _ _ 0 _ 27 _ s2; have v1 := cell_of_row _ _ 1 _ 27 _ s2; have v2 := cell_of_row _ _ 2 _ 27 _ s2; simp only [List.getElem?_toArray, List.getElem?_cons_zero, List.getElem?_cons_succ] at u0 u1 u2 v0 v1 v2; go_simp; try (first | with_reducible rfl | rfl))
  try simp only [Act.put, List.setIfInBounds_toArray, List.set_cons_zero, List.set_cons_succ]
  exact gA _ _ (by kernel_rfl) hHeld (hPa _ _ PA (Below.refl _ _).drew)
end Go.Proofs.Ytkfkepjegdaadaa
