/-
  The law NandPlays: its drawn region around do. No condition.
-/
import Derived.Test.YtkfkepjegdaadaaPl
namespace Go.Proofs.Ytkfkepjegdaadaa
open Go Go.RowKit

/-- what the law's region around do reads -/
def S9 (T g o k : Nat) (X : Mx) (C : Ch) (K b p f : Int) (wx : World) : Prop := MdAt wx T X C ∧ wx.cell? ⟨g, o + k * 4, none⟩ = some (.int .i64 K) ∧ wx.cell? ⟨g, o + k * 4 + 1, none⟩ = some (.int .i64 b) ∧ wx.cell? ⟨g, o + k * 4 + 2, none⟩ = some (.int .i64 p) ∧ wx.cell? ⟨g, o + k * 4 + 3, none⟩ = some (.int .u8 f) ∧ g < wx.heap.size
theorem S9.of_blocks {T g o k : Nat} {X : Mx} {C : Ch} {K b p f : Int} {wx w2 : World} (h : S9 T g o k X C K b p f wx) (h1 : w2.heap[T]? = wx.heap[T]?) (h2 : w2.heap[g]? = wx.heap[g]?) (hs : wx.heap.size ≤ w2.heap.size) : S9 T g o k X C K b p f w2 := by
  have e : ∀ j, w2.cell? ⟨g, j, none⟩ = wx.cell? ⟨g, j, none⟩ := fun j => World.cell?_of_block (w := wx) (a := ⟨g, j, none⟩) h2
  exact ⟨h1.trans h.1, (e _).trans h.2.1, (e _).trans h.2.2.1, (e _).trans h.2.2.2.1, (e _).trans h.2.2.2.2.1, Nat.lt_of_lt_of_le h.2.2.2.2.2 hs⟩
theorem S9.call {T g o k : Nat} {X : Mx} {C : Ch} {K b p f : Int} {wx w2 : World} (h : S9 T g o k X C K b p f wx) (b' : Below wx.heap.size wx w2) : S9 T g o k X C K b p f w2 := h.of_blocks (b'.block _ h.1.lt) (b'.block _ h.2.2.2.2.2) b'.size
theorem S9.kept {T g o k : Nat} {X : Mx} {C : Ch} {K b p f : Int} {S : Nat → Prop} {wx w2 : World} (h : S9 T g o k X C K b p f wx) (b' : Kp S wx w2) (h1 : ¬ S T) (h2 : ¬ S g) : S9 T g o k X C K b p f w2 := h.of_blocks (b'.block _ h.1.lt h1) (b'.block _ h.2.2.2.2.2 h2) b'.size
theorem S9.put {T g o k N : Nat} {X : Mx} {C : Ch} {K b p f : Int} {wx w2 : World} {ob : Obj} (h : S9 T g o k X C K b p f wx) (b' : Put wx w2 N ob) (h1 : T ≠ N) (h2 : g ≠ N) : S9 T g o k X C K b p f w2 := h.of_blocks (b'.other _ h1) (b'.other _ h2) (Nat.le_of_eq b'.size.symm)
def ops9 : Array Oper := #[
  { dst := some 44, op := Op.load 39 (Operand.tmp 10), type := 39, pos := "law.go:216", after := #[], guard := none },
  { dst := some 45, op := Op.move (Operand.tmp 8), type := 30, pos := "law.go:216", after := #[], guard := none },
  { dst := some 46, op := Op.move (Operand.tmp 2), type := 28, pos := "law.go:216", after := #[], guard := none },
  { dst := some 47, op := Op.move (Operand.tmp 11), type := 3, pos := "law.go:216", after := #[], guard := none },
  { dst := some 48, op := Op.indexAddr 28 (Operand.tmp 46) (Operand.tmp 47), type := 0, pos := "law.go:216", after := #[{ on := 2, ground := Ground.data }, { on := 3, ground := Ground.data }], guard := none },
  { dst := some 49, op := Op.load 44 (Operand.tmp 48), type := 44, pos := "law.go:216", after := #[{ on := 4, ground := Ground.data }], guard := none },
  { dst := some 50, op := Op.call { callee := Callee.value (Operand.func 13), args := #[Operand.tmp 44, Operand.tmp 45, Operand.tmp 49], argTypes := #[39, 30, 44] }, type := 41, pos := "law.go:216", after := #[{ on := 0, ground := Ground.data }, { on := 1, ground := Ground.data }, { on := 5, ground := Ground.data }], guard := none },
  { dst := some 43, op := Op.move (Operand.tmp 50), type := 41, pos := "law.go:216", after := #[{ on := 6, ground := Ground.data }], guard := none },
  { dst := some 51, op := Op.extract (Operand.tmp 43) 0, type := 39, pos := "law.go:216", after := #[{ on := 7, ground := Ground.data }], guard := none },
  { dst := some 52, op := Op.extract (Operand.tmp 43) 1, type := 4, pos := "law.go:216", after := #[{ on := 7, ground := Ground.data }, { on := 11, ground := Ground.gcOnly Departure.lateStores }], guard := none },
  { dst := some 12, op := Op.alloc 39, type := 0, pos := "law.go:216", after := #[], guard := none },
  { dst := none, op := Op.store 39 (Operand.tmp 12) (Operand.tmp 51), type := 0, pos := "law.go:216", after := #[{ on := 10, ground := Ground.data }, { on := 8, ground := Ground.data }, { on := 6, ground := Ground.chain }, { on := 0, ground := Ground.phase }, { on := 1, ground := Ground.phase }, { on := 2, ground := Ground.phase }, { on := 3, ground := Ground.phase }, { on := 4, ground := Ground.phase }, { on := 5, ground := Ground.phase }, { on := 6, ground := Ground.phase }, { on := 7, ground := Ground.phase }, { on := 8, ground := Ground.phase }, { on := 9, ground := Ground.textOnly Departure.lateStores }, { on := 10, ground := Ground.phase }], guard := none },
  { dst := some 13, op := Op.assign (Operand.tmp 52), type := 4, pos := "law.go:216", after := #[{ on := 9, ground := Ground.data }, { on := 11, ground := Ground.chain }, { on := 0, ground := Ground.phase }, { on := 1, ground := Ground.phase }, { on := 2, ground := Ground.phase }, { on := 3, ground := Ground.phase }, { on := 4, ground := Ground.phase }, { on := 5, ground := Ground.phase }, { on := 6, ground := Ground.phase }, { on := 7, ground := Ground.phase }, { on := 8, ground := Ground.phase }, { on := 9, ground := Ground.phase }, { on := 10, ground := Ground.phase }, { on := 11, ground := Ground.phase }], guard := none }]
set_option maxRecDepth 100000 in
set_option maxHeartbeats 4000000 in
theorem reg9 {Q : Exit → Act → World → Prop} (hQ : ∀ c (a : Act) (d : Nat) (v : Value) (w : World), Q (.panic c) (a.put (some d) v) w → Q (.panic c) a w) (w : World) (L : Ly) (X : Mx) (C : Ch) (T g o k len cap : Nat) (K b p f : Int) (hk : (k : Int) < len) (hT : w.heap.size ≤ T ∧ ¬ L.own C.B T) (hg : g < w.heap.size ∧ ¬ L.own C.B g)
    (hdo : ∀ W, Pq w L X C W → Calls Try.prog 13 #[.agg (mdA X C), .pointer (some ⟨L.a, 0, none⟩), .agg #[.int .i64 K, .int .i64 b, .int .i64 p, .int .u8 f]] W fun e w' => ∃ X' C', e = .returned (.tuple #[.agg (mdA X' C'), .bool true]) ∧ Pq w L X' C' w' ∧ Kp (L.own C.B) W w' ∧ Step C C') {t0 t1 t3 t4 t5 t6 t7 t9 t12 t13 t14 t15 t16 t17 t18 t19 t20 t21 t22 t23 t24 t25 t26 t27 t28 t29 t30 t31 t32 t33 t34 t35 t36 t37 t38 t39 t40 t41 t42 t43 t44 t45 t46 t47 t48 t49 t50 t51 t52 t53 t54 t55 t56 t57 t58 t59 t60 t61 t62 t63 t64 t65 t66 t67 t68 t69 t70 t71 t72 : Value} (hend : ∀ (N : Nat) (X' : Mx) (C' : Ch) (wx : World), Pq w L X' C' wx → MdAt wx N X' C' → MdAt wx T X C → Step C C' → N ≠ T → Q .normal { tmps := List.toArray (t0 :: t1 :: (.slice (some ⟨g, o, none⟩) len cap) :: t3 :: t4 :: t5 :: t6 :: t7 :: (.pointer (some ⟨L.a, 0, none⟩)) :: t9 :: (.pointer (some ⟨T, 0, none⟩)) :: (.int .i64 k) :: (.pointer (some ⟨N, 0, none⟩)) :: (.bool true) :: t14 :: t15 :: t16 :: t17 :: t18 :: t19 :: t20 :: t21 :: t22 :: t23 :: t24 :: t25 :: t26 :: t27 :: t28 :: t29 :: t30 :: t31 :: t32 :: t33 :: t34 :: t35 :: t36 :: t37 :: t38 :: t39 :: t40 :: t41 :: t42 :: (.tuple #[.agg (mdA X' C'), .bool true]) :: (.agg (mdA X C)) :: (.pointer (some ⟨L.a, 0, none⟩)) :: (.slice (some ⟨g, o, none⟩) len cap) :: (.int .i64 k) :: (.pointer (some ⟨g, o + k * 4, none⟩)) :: (.agg #[.int .i64 K, .int .i64 b, .int .i64 p, .int .u8 f]) :: (.tuple #[.agg (mdA X' C'), .bool true]) :: (.agg (mdA X' C')) :: (.bool true) :: t53 :: t54 :: t55 :: t56 :: t57 :: t58 :: t59 :: t60 :: t61 :: t62 :: t63 :: t64 :: t65 :: t66 :: t67 :: t68 :: t69 :: t70 :: t71 :: t72 :: []), defers := [] } wx) {id : Nat} {wx : World} (hS : (S9 T g o k X C K b p f) wx) (PA : Pq w L X C wx) : (Code.region id ops9 true).wp Try.prog Q { tmps := List.toArray (t0 :: t1 :: (.slice (some ⟨g, o, none⟩) len cap) :: t3 :: t4 :: t5 :: t6 :: t7 :: (.pointer (some ⟨L.a, 0, none⟩)) :: t9 :: (.pointer (some ⟨T, 0, none⟩)) :: (.int .i64 k) :: t12 :: t13 :: t14 :: t15 :: t16 :: t17 :: t18 :: t19 :: t20 :: t21 :: t22 :: t23 :: t24 :: t25 :: t26 :: t27 :: t28 :: t29 :: t30 :: t31 :: t32 :: t33 :: t34 :: t35 :: t36 :: t37 :: t38 :: t39 :: t40 :: t41 :: t42 :: t43 :: t44 :: t45 :: t46 :: t47 :: t48 :: t49 :: t50 :: t51 :: t52 :: t53 :: t54 :: t55 :: t56 :: t57 :: t58 :: t59 :: t60 :: t61 :: t62 :: t63 :: t64 :: t65 :: t66 :: t67 :: t68 :: t69 :: t70 :: t71 :: t72 :: []), defers := [] } wx := by
  have gAll : ∀ (l : Array Bool) (N : Nat) (X' : Mx) (C' : Ch) (wx : World), l = #[true, true, true, true, true, true, true, true, true, true, true, false, false] → (S9 T g o k X C K b p f) wx → Pq w L X' C' wx ∧ Step C C' ∧ wx.heap[N]? = some (.cells z39 39 (0, 0)) ∧ w.heap.size ≤ N ∧ ¬ L.own C.B N ∧ T ≠ N ∧ g ≠ N → wpAnyH Try.prog .any ops9 Q (S9 T g o k X C K b p f) 2 l { tmps := List.toArray (t0 :: t1 :: (.slice (some ⟨g, o, none⟩) len cap) :: t3 :: t4 :: t5 :: t6 :: t7 :: (.pointer (some ⟨L.a, 0, none⟩)) :: t9 :: (.pointer (some ⟨T, 0, none⟩)) :: (.int .i64 k) :: (.pointer (some ⟨N, 0, none⟩)) :: t13 :: t14 :: t15 :: t16 :: t17 :: t18 :: t19 :: t20 :: t21 :: t22 :: t23 :: t24 :: t25 :: t26 :: t27 :: t28 :: t29 :: t30 :: t31 :: t32 :: t33 :: t34 :: t35 :: t36 :: t37 :: t38 :: t39 :: t40 :: t41 :: t42 :: (.tuple #[.agg (mdA X' C'), .bool true]) :: (.agg (mdA X C)) :: (.pointer (some ⟨L.a, 0, none⟩)) :: (.slice (some ⟨g, o, none⟩) len cap) :: (.int .i64 k) :: (.pointer (some ⟨g, o + k * 4, none⟩)) :: (.agg #[.int .i64 K, .int .i64 b, .int .i64 p, .int .u8 f]) :: (.tuple #[.agg (mdA X' C'), .bool true]) :: (.agg (mdA X' C')) :: (.bool true) :: t53 :: t54 :: t55 :: t56 :: t57 :: t58 :: t59 :: t60 :: t61 :: t62 :: t63 :: t64 :: t65 :: t66 :: t67 :: t68 :: t69 :: t70 :: t71 :: t72 :: []), defers := [] } wx := by
    rintro l N X' C' wx rfl hHeld ⟨hp, hst, hz, hN, hNo, hNT, hNg⟩
    obtain ⟨q0, q1, q2, q3, q4, q5, q6, q7, q8, q9, q10, q11, qf⟩ := z39_cells hz
    have P1 := putMd hz X' C'
    have hpp := hp.put P1 hN (by rw [hst.B]; exact hNo) hz ⟨_, q0⟩ ⟨_, _, _, q3⟩
    have HF := Hid.mk (And.intro hpp (And.intro (hHeld.put P1 hNT hNg) (And.intro P1.here ((P1.other _ hNT).trans hHeld.1))))
    have HST := Hid.mk hst
    clear P1 hpp hp hst
    refine wpAnyH_ready (rs := [11]) (by kernel_rfl) (by simp) ?_
    refine AllReadyH.cons (o := { dst := none, op := Op.store 39 (Operand.tmp 12) (Operand.tmp 51), type := 0, pos := "law.go:216", after := #[{ on := 10, ground := Ground.data }, { on := 8, ground := Ground.data }, { on := 6, ground := Ground.chain }, { on := 0, ground := Ground.phase }, { on := 1, ground := Ground.phase }, { on := 2, ground := Ground.phase }, { on := 3, ground := Ground.phase }, { on := 4, ground := Ground.phase }, { on := 5, ground := Ground.phase }, { on := 6, ground := Ground.phase }, { on := 7, ground := Ground.phase }, { on := 8, ground := Ground.phase }, { on := 9, ground := Ground.textOnly Departure.lateStores }, { on := 10, ground := Ground.phase }], guard := none }) rfl (fun K hK => ?_) AllReadyH.nil
    unfold mdA
    go_simp
    have eW : ((((((((((((wx.setCell ⟨N, 0, none⟩ (.int .i64 C'.B)).setCell ⟨N, 1, none⟩ (.int .i64 C'.P)).setCell ⟨N, 2, none⟩ (.int .i64 C'.Z)).setCell ⟨N, 3, none⟩ (.slice X'.ca X'.cl.length X'.cc)).setCell ⟨N, 4, none⟩ (.slice X'.fa X'.fl.length X'.fc)).setCell ⟨N, 5, none⟩ (.slice X'.ba X'.bn X'.bc)).setCell ⟨N, 6, none⟩ (.slice (some ⟨X'.gp, 0, none⟩) (C'.B * C'.P) X'.cp)).setCell ⟨N, 7, none⟩ (.slice (some ⟨X'.gw, 0, none⟩) C'.B X'.cw)).setCell ⟨N, 8, none⟩ (.slice (some ⟨X'.gd, 0, none⟩) C'.B X'.cd)).setCell ⟨N, 9, none⟩ (.slice (some ⟨X'.gm, 0, none⟩) C'.B X'.cm)).setCell ⟨N, 10, none⟩ (.int .i64 C'.did)).setCell ⟨N, 11, none⟩ (.bool C'.off)) = setMd wx N X' C' := rfl
    rw [eW]
    clear eW
    refine hK.out _ _ HF.out.2.1 (fun hHeld => ?_)
    clear hK K
    refine wpAnyH_take (i := 12) (oi := { dst := some 13, op := Op.assign (Operand.tmp 52), type := 4, pos := "law.go:216", after := #[{ on := 9, ground := Ground.data }, { on := 11, ground := Ground.chain }, { on := 0, ground := Ground.phase }, { on := 1, ground := Ground.phase }, { on := 2, ground := Ground.phase }, { on := 3, ground := Ground.phase }, { on := 4, ground := Ground.phase }, { on := 5, ground := Ground.phase }, { on := 6, ground := Ground.phase }, { on := 7, ground := Ground.phase }, { on := 8, ground := Ground.phase }, { on := 9, ground := Ground.phase }, { on := 10, ground := Ground.phase }, { on := 11, ground := Ground.phase }], guard := none }) (v := ?vv12n3) rfl (by kernel_rfl) (by kernel_rfl) (by kernel_rfl) (fun c a w h => hQ c a _ _ w h) (Or.inl ⟨by rfl, ?yy12n3⟩) hHeld ?rr12n3
    case yy12n3 => (intro w0 hSw; skip; go_simp; try (first | with_reducible rfl | rfl))
    try simp only [Act.put, List.setIfInBounds_toArray, List.set_cons_zero, List.set_cons_succ]
    refine wpAnyH_done (by kernel_rfl) ?_ _
    exact hend N X' C' _ HF.out.1 HF.out.2.2.1 HF.out.2.2.2 HST.out (Ne.symm hNT)
  have gB : ∀ (l : Array Bool) (X' : Mx) (C' : Ch) (wx : World), l = #[true, true, true, true, true, true, true, false, false, false, false, false, false] → (S9 T g o k X C K b p f) wx → Pq w L X' C' wx ∧ Step C C' ∧ w.heap.size ≤ wx.heap.size ∧ (∀ i, L.own C.B i → i < wx.heap.size) → wpAnyH Try.prog .any ops9 Q (S9 T g o k X C K b p f) 6 l { tmps := List.toArray (t0 :: t1 :: (.slice (some ⟨g, o, none⟩) len cap) :: t3 :: t4 :: t5 :: t6 :: t7 :: (.pointer (some ⟨L.a, 0, none⟩)) :: t9 :: (.pointer (some ⟨T, 0, none⟩)) :: (.int .i64 k) :: t12 :: t13 :: t14 :: t15 :: t16 :: t17 :: t18 :: t19 :: t20 :: t21 :: t22 :: t23 :: t24 :: t25 :: t26 :: t27 :: t28 :: t29 :: t30 :: t31 :: t32 :: t33 :: t34 :: t35 :: t36 :: t37 :: t38 :: t39 :: t40 :: t41 :: t42 :: t43 :: (.agg (mdA X C)) :: (.pointer (some ⟨L.a, 0, none⟩)) :: (.slice (some ⟨g, o, none⟩) len cap) :: (.int .i64 k) :: (.pointer (some ⟨g, o + k * 4, none⟩)) :: (.agg #[.int .i64 K, .int .i64 b, .int .i64 p, .int .u8 f]) :: (.tuple #[.agg (mdA X' C'), .bool true]) :: t51 :: t52 :: t53 :: t54 :: t55 :: t56 :: t57 :: t58 :: t59 :: t60 :: t61 :: t62 :: t63 :: t64 :: t65 :: t66 :: t67 :: t68 :: t69 :: t70 :: t71 :: t72 :: []), defers := [] } wx := by
    rintro l X' C' wx rfl hHeld ⟨hp, hst, hsz, how⟩
    have hH := hHeld
    refine wpAnyH_take (i := 7) (oi := { dst := some 43, op := Op.move (Operand.tmp 50), type := 41, pos := "law.go:216", after := #[{ on := 6, ground := Ground.data }], guard := none }) (v := ?vv7n4) rfl (by kernel_rfl) (by kernel_rfl) (by kernel_rfl) (fun c a w h => hQ c a _ _ w h) (Or.inl ⟨by rfl, ?yy7n4⟩) hHeld ?rr7n4
    case yy7n4 => (intro w0 hSw; skip; go_simp; try (first | with_reducible rfl | rfl))
    try simp only [Act.put, List.setIfInBounds_toArray, List.set_cons_zero, List.set_cons_succ]
    refine wpAnyH_take (i := 8) (oi := { dst := some 51, op := Op.extract (Operand.tmp 43) 0, type := 39, pos := "law.go:216", after := #[{ on := 7, ground := Ground.data }], guard := none }) (v := ?vv8n5) rfl (by kernel_rfl) (by kernel_rfl) (by kernel_rfl) (fun c a w h => hQ c a _ _ w h) (Or.inl ⟨by rfl, ?yy8n5⟩) hHeld ?rr8n5
    case yy8n5 => (intro w0 hSw; skip; go_simp; try (first | with_reducible rfl | rfl))
    try simp only [Act.put, List.setIfInBounds_toArray, List.set_cons_zero, List.set_cons_succ]
    refine wpAnyH_take (i := 9) (oi := { dst := some 52, op := Op.extract (Operand.tmp 43) 1, type := 4, pos := "law.go:216", after := #[{ on := 7, ground := Ground.data }, { on := 11, ground := Ground.gcOnly Departure.lateStores }], guard := none }) (v := ?vv9n6) rfl (by kernel_rfl) (by kernel_rfl) (by kernel_rfl) (fun c a w h => hQ c a _ _ w h) (Or.inl ⟨by rfl, ?yy9n6⟩) hHeld ?rr9n6
    case yy9n6 => (intro w0 hSw; skip; go_simp; try (first | with_reducible rfl | rfl))
    try simp only [Act.put, List.setIfInBounds_toArray, List.set_cons_zero, List.set_cons_succ]
    refine wpAnyH_ready (rs := [10]) (by kernel_rfl) (by simp) ?_
    refine AllReadyH.cons (o := { dst := some 12, op := Op.alloc 39, type := 0, pos := "law.go:216", after := #[], guard := none }) rfl (fun K hK => ?_) AllReadyH.nil
    go_simp
    refine hK.out _ _ (hHeld.call ((Below.refl _ _).alloc (Nat.le_refl _) _)) (fun hHeld => ?_)
    clear hK K
    try simp only [List.setIfInBounds_toArray, List.set_cons_zero, List.set_cons_succ]
    exact gAll _ _ _ _ _ (by kernel_rfl) hHeld ⟨hp.call ((Below.refl _ _).alloc (Nat.le_refl _) _), hst, heap_alloc_new wx _, hsz, fun x => by have := how _ x; omega, by have := hH.1.lt; omega, by have := hH.2.2.2.2.2; omega⟩
  have gD : ∀ (l : Array Bool) (N : Nat) (wx : World), l = #[true, true, true, true, true, true, false, false, false, false, true, false, false] → (S9 T g o k X C K b p f) wx → Pq w L X C wx ∧ wx.heap[N]? = some (.cells z39 39 (0, 0)) ∧ w.heap.size ≤ N ∧ ¬ L.own C.B N ∧ T ≠ N ∧ g ≠ N → wpAnyH Try.prog .any ops9 Q (S9 T g o k X C K b p f) 6 l { tmps := List.toArray (t0 :: t1 :: (.slice (some ⟨g, o, none⟩) len cap) :: t3 :: t4 :: t5 :: t6 :: t7 :: (.pointer (some ⟨L.a, 0, none⟩)) :: t9 :: (.pointer (some ⟨T, 0, none⟩)) :: (.int .i64 k) :: (.pointer (some ⟨N, 0, none⟩)) :: t13 :: t14 :: t15 :: t16 :: t17 :: t18 :: t19 :: t20 :: t21 :: t22 :: t23 :: t24 :: t25 :: t26 :: t27 :: t28 :: t29 :: t30 :: t31 :: t32 :: t33 :: t34 :: t35 :: t36 :: t37 :: t38 :: t39 :: t40 :: t41 :: t42 :: t43 :: (.agg (mdA X C)) :: (.pointer (some ⟨L.a, 0, none⟩)) :: (.slice (some ⟨g, o, none⟩) len cap) :: (.int .i64 k) :: (.pointer (some ⟨g, o + k * 4, none⟩)) :: (.agg #[.int .i64 K, .int .i64 b, .int .i64 p, .int .u8 f]) :: t50 :: t51 :: t52 :: t53 :: t54 :: t55 :: t56 :: t57 :: t58 :: t59 :: t60 :: t61 :: t62 :: t63 :: t64 :: t65 :: t66 :: t67 :: t68 :: t69 :: t70 :: t71 :: t72 :: []), defers := [] } wx := by
    rintro l N wx rfl hHeld ⟨PA, hz, hN, hNo, hNT, hNg⟩
    refine wpAnyH_ready (rs := [6]) (by kernel_rfl) (by simp) ?_
    refine AllReadyH.cons (o := { dst := some 50, op := Op.call { callee := Callee.value (Operand.func 13), args := #[Operand.tmp 44, Operand.tmp 45, Operand.tmp 49], argTypes := #[39, 30, 44] }, type := 41, pos := "law.go:216", after := #[{ on := 0, ground := Ground.data }, { on := 1, ground := Ground.data }, { on := 5, ground := Ground.data }], guard := none }) rfl (fun K hK => ?_) AllReadyH.nil
    go_simp
    go_wp2_with (go_at_call 13; refine (hdo _ PA).mono ?_; rintro e w6 ⟨X', C', rfl, P6, k6, st6⟩)
    refine hK.out _ _ (hHeld.kept k6 hT.2 hg.2) (fun hHeld => ?_)
    clear hK K
    try simp only [List.setIfInBounds_toArray, List.set_cons_zero, List.set_cons_succ]
    refine wpAnyH_take (i := 7) (oi := { dst := some 43, op := Op.move (Operand.tmp 50), type := 41, pos := "law.go:216", after := #[{ on := 6, ground := Ground.data }], guard := none }) (v := ?vv7n7) rfl (by kernel_rfl) (by kernel_rfl) (by kernel_rfl) (fun c a w h => hQ c a _ _ w h) (Or.inl ⟨by rfl, ?yy7n7⟩) hHeld ?rr7n7
    case yy7n7 => (intro w0 hSw; skip; go_simp; try (first | with_reducible rfl | rfl))
    try simp only [Act.put, List.setIfInBounds_toArray, List.set_cons_zero, List.set_cons_succ]
    refine wpAnyH_take (i := 8) (oi := { dst := some 51, op := Op.extract (Operand.tmp 43) 0, type := 39, pos := "law.go:216", after := #[{ on := 7, ground := Ground.data }], guard := none }) (v := ?vv8n8) rfl (by kernel_rfl) (by kernel_rfl) (by kernel_rfl) (fun c a w h => hQ c a _ _ w h) (Or.inl ⟨by rfl, ?yy8n8⟩) hHeld ?rr8n8
    case yy8n8 => (intro w0 hSw; skip; go_simp; try (first | with_reducible rfl | rfl))
    try simp only [Act.put, List.setIfInBounds_toArray, List.set_cons_zero, List.set_cons_succ]
    refine wpAnyH_take (i := 9) (oi := { dst := some 52, op := Op.extract (Operand.tmp 43) 1, type := 4, pos := "law.go:216", after := #[{ on := 7, ground := Ground.data }, { on := 11, ground := Ground.gcOnly Departure.lateStores }], guard := none }) (v := ?vv9n9) rfl (by kernel_rfl) (by kernel_rfl) (by kernel_rfl) (fun c a w h => hQ c a _ _ w h) (Or.inl ⟨by rfl, ?yy9n9⟩) hHeld ?rr9n9
    case yy9n9 => (intro w0 hSw; skip; go_simp; try (first | with_reducible rfl | rfl))
    try simp only [Act.put, List.setIfInBounds_toArray, List.set_cons_zero, List.set_cons_succ]
    exact gAll _ _ _ _ _ (by kernel_rfl) hHeld ⟨P6, st6, (k6.block _ (Array.getElem?_eq_some_iff.1 hz).1 hNo).trans hz, hN, hNo, hNT, hNg⟩
  have gA : ∀ (l : Array Bool) (wx : World), l = #[true, true, true, true, true, true, false, false, false, false, false, false, false] → (S9 T g o k X C K b p f) wx → Pq w L X C wx → wpAnyH Try.prog .any ops9 Q (S9 T g o k X C K b p f) 7 l { tmps := List.toArray (t0 :: t1 :: (.slice (some ⟨g, o, none⟩) len cap) :: t3 :: t4 :: t5 :: t6 :: t7 :: (.pointer (some ⟨L.a, 0, none⟩)) :: t9 :: (.pointer (some ⟨T, 0, none⟩)) :: (.int .i64 k) :: t12 :: t13 :: t14 :: t15 :: t16 :: t17 :: t18 :: t19 :: t20 :: t21 :: t22 :: t23 :: t24 :: t25 :: t26 :: t27 :: t28 :: t29 :: t30 :: t31 :: t32 :: t33 :: t34 :: t35 :: t36 :: t37 :: t38 :: t39 :: t40 :: t41 :: t42 :: t43 :: (.agg (mdA X C)) :: (.pointer (some ⟨L.a, 0, none⟩)) :: (.slice (some ⟨g, o, none⟩) len cap) :: (.int .i64 k) :: (.pointer (some ⟨g, o + k * 4, none⟩)) :: (.agg #[.int .i64 K, .int .i64 b, .int .i64 p, .int .u8 f]) :: t50 :: t51 :: t52 :: t53 :: t54 :: t55 :: t56 :: t57 :: t58 :: t59 :: t60 :: t61 :: t62 :: t63 :: t64 :: t65 :: t66 :: t67 :: t68 :: t69 :: t70 :: t71 :: t72 :: []), defers := [] } wx := by
    rintro l wx rfl hHeld PA
    have hH := hHeld
    refine wpAnyH_ready (rs := [6, 10]) (by kernel_rfl) (by simp) ?_
    refine AllReadyH.cons (o := { dst := some 50, op := Op.call { callee := Callee.value (Operand.func 13), args := #[Operand.tmp 44, Operand.tmp 45, Operand.tmp 49], argTypes := #[39, 30, 44] }, type := 41, pos := "law.go:216", after := #[{ on := 0, ground := Ground.data }, { on := 1, ground := Ground.data }, { on := 5, ground := Ground.data }], guard := none }) rfl (fun K hK => ?_) ?_
    · go_simp
      go_wp2_with (go_at_call 13; refine (hdo _ PA).mono ?_; rintro e w6 ⟨X', C', rfl, P6, k6, st6⟩)
      refine hK.out _ _ (hHeld.kept k6 hT.2 hg.2) (fun hHeld => ?_)
      clear hK K
      try simp only [List.setIfInBounds_toArray, List.set_cons_zero, List.set_cons_succ]
      exact gB _ _ _ _ (by kernel_rfl) hHeld ⟨P6, st6, Nat.le_trans PA.below.size k6.size, fun i hi => Nat.lt_of_lt_of_le (PA.chip.lt hi) k6.size⟩
    refine AllReadyH.cons (o := { dst := some 12, op := Op.alloc 39, type := 0, pos := "law.go:216", after := #[], guard := none }) rfl (fun K hK => ?_) AllReadyH.nil
    go_simp
    refine hK.out _ _ (hHeld.call ((Below.refl _ _).alloc (Nat.le_refl _) _)) (fun hHeld => ?_)
    clear hK K
    try simp only [List.setIfInBounds_toArray, List.set_cons_zero, List.set_cons_succ]
    exact gD _ _ _ (by kernel_rfl) hHeld ⟨PA.call ((Below.refl _ _).alloc (Nat.le_refl _) _), heap_alloc_new wx _, PA.below.size, fun x => by have := PA.chip.lt x; omega, by have := hH.1.lt; omega, by have := hH.2.2.2.2.2; omega⟩
  refine wp_region_held_drew (S := (S9 T g o k X C K b p f)) (by kernel_rfl) (hS.call (Below.refl _ _).drew) (fun hHeld => ?_)
  refine wpAnyH_take (i := 0) (oi := { dst := some 44, op := Op.load 39 (Operand.tmp 10), type := 39, pos := "law.go:216", after := #[], guard := none }) (v := .agg (mdA X C)) rfl (by kernel_rfl) (by kernel_rfl) (by kernel_rfl) (fun c a w h => hQ c a _ _ w h) (Or.inl ⟨by rfl, ?yy0n10⟩) hHeld ?rr0n10
  case yy0n10 => (intro w0 hSw; obtain ⟨s1, s2, s3, s4, s5, _⟩ := hSw; obtain ⟨p0, p1, p2, p3, p4, p5, p6, p7, p8, p9, p10, p11⟩ := s1.cells; go_simp; try (first | with_reducible rfl | rfl))
  try simp only [Act.put, List.setIfInBounds_toArray, List.set_cons_zero, List.set_cons_succ]
  refine wpAnyH_take (i := 1) (oi := { dst := some 45, op := Op.move (Operand.tmp 8), type := 30, pos := "law.go:216", after := #[], guard := none }) (v := ?vv1n11) rfl (by kernel_rfl) (by kernel_rfl) (by kernel_rfl) (fun c a w h => hQ c a _ _ w h) (Or.inl ⟨by rfl, ?yy1n11⟩) hHeld ?rr1n11
  case yy1n11 => (intro w0 hSw; obtain ⟨s1, s2, s3, s4, s5, _⟩ := hSw; obtain ⟨p0, p1, p2, p3, p4, p5, p6, p7, p8, p9, p10, p11⟩ := s1.cells; go_simp; try (first | with_reducible rfl | rfl))
  try simp only [Act.put, List.setIfInBounds_toArray, List.set_cons_zero, List.set_cons_succ]
  refine wpAnyH_take (i := 2) (oi := { dst := some 46, op := Op.move (Operand.tmp 2), type := 28, pos := "law.go:216", after := #[], guard := none }) (v := ?vv2n12) rfl (by kernel_rfl) (by kernel_rfl) (by kernel_rfl) (fun c a w h => hQ c a _ _ w h) (Or.inl ⟨by rfl, ?yy2n12⟩) hHeld ?rr2n12
  case yy2n12 => (intro w0 hSw; obtain ⟨s1, s2, s3, s4, s5, _⟩ := hSw; obtain ⟨p0, p1, p2, p3, p4, p5, p6, p7, p8, p9, p10, p11⟩ := s1.cells; go_simp; try (first | with_reducible rfl | rfl))
  try simp only [Act.put, List.setIfInBounds_toArray, List.set_cons_zero, List.set_cons_succ]
  refine wpAnyH_take (i := 3) (oi := { dst := some 47, op := Op.move (Operand.tmp 11), type := 3, pos := "law.go:216", after := #[], guard := none }) (v := ?vv3n13) rfl (by kernel_rfl) (by kernel_rfl) (by kernel_rfl) (fun c a w h => hQ c a _ _ w h) (Or.inl ⟨by rfl, ?yy3n13⟩) hHeld ?rr3n13
  case yy3n13 => (intro w0 hSw; obtain ⟨s1, s2, s3, s4, s5, _⟩ := hSw; obtain ⟨p0, p1, p2, p3, p4, p5, p6, p7, p8, p9, p10, p11⟩ := s1.cells; go_simp; try (first | with_reducible rfl | rfl))
  try simp only [Act.put, List.setIfInBounds_toArray, List.set_cons_zero, List.set_cons_succ]
  refine wpAnyH_take (i := 4) (oi := { dst := some 48, op := Op.indexAddr 28 (Operand.tmp 46) (Operand.tmp 47), type := 0, pos := "law.go:216", after := #[{ on := 2, ground := Ground.data }, { on := 3, ground := Ground.data }], guard := none }) (v := .pointer (some ⟨g, o + k * 4, none⟩)) rfl (by kernel_rfl) (by kernel_rfl) (by kernel_rfl) (fun c a w h => hQ c a _ _ w h) (Or.inl ⟨by rfl, ?yy4n14⟩) hHeld ?rr4n14
  case yy4n14 => (intro w0 hSw; obtain ⟨s1, s2, s3, s4, s5, _⟩ := hSw; obtain ⟨p0, p1, p2, p3, p4, p5, p6, p7, p8, p9, p10, p11⟩ := s1.cells; go_simp; try (first | with_reducible rfl | rfl))
  try simp only [Act.put, List.setIfInBounds_toArray, List.set_cons_zero, List.set_cons_succ]
  refine wpAnyH_take (i := 5) (oi := { dst := some 49, op := Op.load 44 (Operand.tmp 48), type := 44, pos := "law.go:216", after := #[{ on := 4, ground := Ground.data }], guard := none }) (v := .agg #[.int .i64 K, .int .i64 b, .int .i64 p, .int .u8 f]) rfl (by kernel_rfl) (by kernel_rfl) (by kernel_rfl) (fun c a w h => hQ c a _ _ w h) (Or.inl ⟨by rfl, ?yy5n15⟩) hHeld ?rr5n15
  case yy5n15 => (intro w0 hSw; obtain ⟨s1, s2, s3, s4, s5, _⟩ := hSw; obtain ⟨p0, p1, p2, p3, p4, p5, p6, p7, p8, p9, p10, p11⟩ := s1.cells; go_simp; try (first | with_reducible rfl | rfl))
  try simp only [Act.put, List.setIfInBounds_toArray, List.set_cons_zero, List.set_cons_succ]
  exact gA _ _ (by kernel_rfl) hHeld PA.drew
end Go.Proofs.Ytkfkepjegdaadaa
