/-
  The law NandPlays: its drawn region around New. No condition.
-/
import Derived.Test.YtkfkepjegdaadaaPl2
namespace Go.Proofs.Ytkfkepjegdaadaa
open Go Go.RowKit

def ops2 : Array Oper := #[
  { dst := some 17, op := Op.load 23 (Operand.tmp 7), type := 23, pos := "law.go:210", after := #[], guard := none },
  { dst := some 18, op := Op.load 27 (Operand.tmp 4), type := 27, pos := "law.go:210", after := #[], guard := none },
  { dst := some 19, op := Op.call { callee := Callee.value (Operand.func 10), args := #[Operand.tmp 18], argTypes := #[27] }, type := 27, pos := "law.go:210", after := #[{ on := 1, ground := Ground.data }], guard := none },
  { dst := some 20, op := Op.call { callee := Callee.value (Operand.func 9), args := #[Operand.tmp 17, Operand.tmp 19], argTypes := #[23, 27] }, type := 32, pos := "law.go:210", after := #[{ on := 0, ground := Ground.data }, { on := 2, ground := Ground.data }, { on := 2, ground := Ground.chain }], guard := none },
  { dst := some 16, op := Op.move (Operand.tmp 20), type := 32, pos := "law.go:210", after := #[{ on := 3, ground := Ground.data }], guard := none },
  { dst := some 21, op := Op.extract (Operand.tmp 16) 0, type := 30, pos := "law.go:210", after := #[{ on := 4, ground := Ground.data }], guard := none },
  { dst := some 22, op := Op.extract (Operand.tmp 16) 1, type := 31, pos := "law.go:210", after := #[{ on := 4, ground := Ground.data }, { on := 7, ground := Ground.gcOnly Departure.lateStores }], guard := none },
  { dst := some 8, op := Op.assign (Operand.tmp 21), type := 30, pos := "law.go:210", after := #[{ on := 5, ground := Ground.data }, { on := 3, ground := Ground.chain }, { on := 0, ground := Ground.phase }, { on := 1, ground := Ground.phase }, { on := 2, ground := Ground.phase }, { on := 3, ground := Ground.phase }, { on := 4, ground := Ground.phase }, { on := 5, ground := Ground.phase }, { on := 6, ground := Ground.textOnly Departure.lateStores }], guard := none },
  { dst := some 9, op := Op.assign (Operand.tmp 22), type := 31, pos := "law.go:210", after := #[{ on := 6, ground := Ground.data }, { on := 7, ground := Ground.chain }, { on := 0, ground := Ground.phase }, { on := 1, ground := Ground.phase }, { on := 2, ground := Ground.phase }, { on := 3, ground := Ground.phase }, { on := 4, ground := Ground.phase }, { on := 5, ground := Ground.phase }, { on := 6, ground := Ground.phase }, { on := 7, ground := Ground.phase }], guard := none }]
set_option maxRecDepth 100000 in
set_option maxHeartbeats 4000000 in
theorem reg2 {Q : Exit → Act → World → Prop} (hQ : ∀ c (a : Act) (d : Nat) (v : Value) (w : World), Q (.panic c) (a.put (some d) v) w → Q (.panic c) a w) (b p z : Nat) (ca fa ba : Option Addr) (n1 n2 n3 c1 c2 c3 m1 m2 m3 : Nat) (G F : Nat) (Pa : World → Prop) (Pc : Ly → World → Prop) (hPa : ∀ W W2, Pa W → Below W.heap.size W W2 → Pa W2) (hcut : ∀ W, Calls Try.prog 10 #[.agg #[.slice ca n1 c1, .slice fa n2 c2, .slice ba n3 c3]] W fun e w' => e = .returned (.agg #[.slice ca m1 c1, .slice fa m2 c2, .slice ba m3 c3]) ∧ Below W.heap.size W w') (hnew : ∀ W, Pa W → Calls Try.prog 9 #[.agg #[.int .i64 b, .int .i64 p, .int .i64 z], .agg #[.slice ca m1 c1, .slice fa m2 c2, .slice ba m3 c3]] W fun e w' => ∃ L : Ly, e = .returned (.tuple #[.pointer (some ⟨L.a, 0, none⟩), .int .i64 0]) ∧ Pc L w' ∧ Below W.heap.size W w') {t0 t1 t2 t3 t5 t6 t8 t9 t10 t11 t12 t13 t14 t15 t16 t17 t18 t19 t20 t21 t22 t23 t24 t25 t26 t27 t28 t29 t30 t31 t32 t33 t34 t35 t36 t37 t38 t39 t40 t41 t42 t43 t44 t45 t46 t47 t48 t49 t50 t51 t52 t53 t54 t55 t56 t57 t58 t59 t60 t61 t62 t63 t64 t65 t66 t67 t68 t69 t70 t71 t72 : Value} (hend : ∀ (L : Ly) (wx : World), (S5 b p z ca fa ba n1 n2 n3 c1 c2 c3 G F) wx → Pc L wx → Q .normal { tmps := List.toArray (t0 :: t1 :: t2 :: t3 :: (.pointer (some ⟨F, 0, none⟩)) :: t5 :: t6 :: (.pointer (some ⟨G, 0, none⟩)) :: (.pointer (some ⟨L.a, 0, none⟩)) :: (.int .i64 0) :: t10 :: t11 :: t12 :: t13 :: t14 :: t15 :: (.tuple #[.pointer (some ⟨L.a, 0, none⟩), .int .i64 0]) :: (.agg #[.int .i64 b, .int .i64 p, .int .i64 z]) :: (.agg #[.slice ca n1 c1, .slice fa n2 c2, .slice ba n3 c3]) :: (.agg #[.slice ca m1 c1, .slice fa m2 c2, .slice ba m3 c3]) :: (.tuple #[.pointer (some ⟨L.a, 0, none⟩), .int .i64 0]) :: (.pointer (some ⟨L.a, 0, none⟩)) :: (.int .i64 0) :: t23 :: t24 :: t25 :: t26 :: t27 :: t28 :: t29 :: t30 :: t31 :: t32 :: t33 :: t34 :: t35 :: t36 :: t37 :: t38 :: t39 :: t40 :: t41 :: t42 :: t43 :: t44 :: t45 :: t46 :: t47 :: t48 :: t49 :: t50 :: t51 :: t52 :: t53 :: t54 :: t55 :: t56 :: t57 :: t58 :: t59 :: t60 :: t61 :: t62 :: t63 :: t64 :: t65 :: t66 :: t67 :: t68 :: t69 :: t70 :: t71 :: t72 :: []), defers := [] } wx) {id : Nat} {wx : World} (hS : (S5 b p z ca fa ba n1 n2 n3 c1 c2 c3 G F) wx) (PA : Pa wx) : (Code.region id ops2 true).wp Try.prog Q { tmps := List.toArray (t0 :: t1 :: t2 :: t3 :: (.pointer (some ⟨F, 0, none⟩)) :: t5 :: t6 :: (.pointer (some ⟨G, 0, none⟩)) :: t8 :: t9 :: t10 :: t11 :: t12 :: t13 :: t14 :: t15 :: t16 :: t17 :: t18 :: t19 :: t20 :: t21 :: t22 :: t23 :: t24 :: t25 :: t26 :: t27 :: t28 :: t29 :: t30 :: t31 :: t32 :: t33 :: t34 :: t35 :: t36 :: t37 :: t38 :: t39 :: t40 :: t41 :: t42 :: t43 :: t44 :: t45 :: t46 :: t47 :: t48 :: t49 :: t50 :: t51 :: t52 :: t53 :: t54 :: t55 :: t56 :: t57 :: t58 :: t59 :: t60 :: t61 :: t62 :: t63 :: t64 :: t65 :: t66 :: t67 :: t68 :: t69 :: t70 :: t71 :: t72 :: []), defers := [] } wx := by
  refine wp_region_held_drew (S := (S5 b p z ca fa ba n1 n2 n3 c1 c2 c3 G F)) (by kernel_rfl) (hS.call (Below.refl _ _).drew) (fun hHeld => ?_)
  refine wpAnyH_take (i := 0) (oi := { dst := some 17, op := Op.load 23 (Operand.tmp 7), type := 23, pos := "law.go:210", after := #[], guard := none }) (v := ?vv0n16) rfl (by kernel_rfl) (by kernel_rfl) (by kernel_rfl) (fun c a w h => hQ c a _ _ w h) (Or.inl ⟨by rfl, ?yy0n16⟩) hHeld ?rr0n16
  case yy0n16 => (intro w0 hSw; obtain ⟨s1, s2⟩ := hSw; have u0 := cell_of_row _ _ 0 _ 23 _ s1; have u1 := cell_of_row _ _ 1 _ 23 _ s1; have u2 := cell_of_row _ _ 2 _ 23 _ s1; have v0 := cell_of_row _ _ 0 _ 27 _ s2; have v1 := cell_of_row _ _ 1 _ 27 _ s2; have v2 := cell_of_row _ _ 2 _ 27 _ s2; simp only [List.getElem?_toArray, List.getElem?_cons_zero, List.getElem?_cons_succ] at u0 u1 u2 v0 v1 v2; go_simp; try (first | with_reducible rfl | rfl))
  try simp only [Act.put, List.setIfInBounds_toArray, List.set_cons_zero, List.set_cons_succ]
  refine wpAnyH_take (i := 1) (oi := { dst := some 18, op := Op.load 27 (Operand.tmp 4), type := 27, pos := "law.go:210", after := #[], guard := none }) (v := ?vv1n17) rfl (by kernel_rfl) (by kernel_rfl) (by kernel_rfl) (fun c a w h => hQ c a _ _ w h) (Or.inl ⟨by rfl, ?yy1n17⟩) hHeld ?rr1n17
  case yy1n17 => (intro w0 hSw; obtain ⟨s1, s2⟩ := hSw; have u0 := cell_of_row _ _ 0 _ 23 _ s1; have u1 := cell_of_row _ _ 1 _ 23 _ s1; have u2 := cell_of_row _ _ 2 _ 23 _ s1; have v0 := cell_of_row _ _ 0 _ 27 _ s2; have v1 := cell_of_row _ _ 1 _ 27 _ s2; have v2 := cell_of_row _ _ 2 _ 27 _ s2; simp only [List.getElem?_toArray, List.getElem?_cons_zero, List.getElem?_cons_succ] at u0 u1 u2 v0 v1 v2; go_simp; try (first | with_reducible rfl | rfl))
  try simp only [Act.put, List.setIfInBounds_toArray, List.set_cons_zero, List.set_cons_succ]
  refine wpAnyH_ready (rs := [2]) (by kernel_rfl) (by simp) ?_
  refine AllReadyH.cons (o := { dst := some 19, op := Op.call { callee := Callee.value (Operand.func 10), args := #[Operand.tmp 18], argTypes := #[27] }, type := 27, pos := "law.go:210", after := #[{ on := 1, ground := Ground.data }], guard := none }) rfl (fun K hK => ?_) AllReadyH.nil
  go_simp
  go_wp2_with (go_at_call 10; refine (hcut _).mono ?_; rintro e w5 ⟨rfl, b5⟩)
  refine hK.out _ _ (hHeld.call b5) (fun hHeld => ?_)
  clear hK K
  try simp only [List.setIfInBounds_toArray, List.set_cons_zero, List.set_cons_succ]
  have PA5 := hPa _ _ (hPa _ _ PA (Below.refl _ _).drew) b5
  refine wpAnyH_ready (rs := [3]) (by kernel_rfl) (by simp) ?_
  refine AllReadyH.cons (o := { dst := some 20, op := Op.call { callee := Callee.value (Operand.func 9), args := #[Operand.tmp 17, Operand.tmp 19], argTypes := #[23, 27] }, type := 32, pos := "law.go:210", after := #[{ on := 0, ground := Ground.data }, { on := 2, ground := Ground.data }, { on := 2, ground := Ground.chain }], guard := none }) rfl (fun K hK => ?_) AllReadyH.nil
  go_simp
  go_wp2_with (go_at_call 9; refine (hnew _ PA5).mono ?_; rintro e w6 ⟨L, rfl, b6, k6⟩)
  refine hK.out _ _ (hHeld.call k6) (fun hHeld => ?_)
  clear hK K
  try simp only [List.setIfInBounds_toArray, List.set_cons_zero, List.set_cons_succ]
  refine wpAnyH_take (i := 4) (oi := { dst := some 16, op := Op.move (Operand.tmp 20), type := 32, pos := "law.go:210", after := #[{ on := 3, ground := Ground.data }], guard := none }) (v := ?vv4n18) rfl (by kernel_rfl) (by kernel_rfl) (by kernel_rfl) (fun c a w h => hQ c a _ _ w h) (Or.inl ⟨by rfl, ?yy4n18⟩) hHeld ?rr4n18
  case yy4n18 => (intro w0 hSw; skip; go_simp; try (first | with_reducible rfl | rfl))
  try simp only [Act.put, List.setIfInBounds_toArray, List.set_cons_zero, List.set_cons_succ]
  refine wpAnyH_take (i := 5) (oi := { dst := some 21, op := Op.extract (Operand.tmp 16) 0, type := 30, pos := "law.go:210", after := #[{ on := 4, ground := Ground.data }], guard := none }) (v := ?vv5n19) rfl (by kernel_rfl) (by kernel_rfl) (by kernel_rfl) (fun c a w h => hQ c a _ _ w h) (Or.inl ⟨by rfl, ?yy5n19⟩) hHeld ?rr5n19
  case yy5n19 => (intro w0 hSw; skip; go_simp; try (first | with_reducible rfl | rfl))
  try simp only [Act.put, List.setIfInBounds_toArray, List.set_cons_zero, List.set_cons_succ]
  refine wpAnyH_take (i := 6) (oi := { dst := some 22, op := Op.extract (Operand.tmp 16) 1, type := 31, pos := "law.go:210", after := #[{ on := 4, ground := Ground.data }, { on := 7, ground := Ground.gcOnly Departure.lateStores }], guard := none }) (v := ?vv6n20) rfl (by kernel_rfl) (by kernel_rfl) (by kernel_rfl) (fun c a w h => hQ c a _ _ w h) (Or.inl ⟨by rfl, ?yy6n20⟩) hHeld ?rr6n20
  case yy6n20 => (intro w0 hSw; skip; go_simp; try (first | with_reducible rfl | rfl))
  try simp only [Act.put, List.setIfInBounds_toArray, List.set_cons_zero, List.set_cons_succ]
  refine wpAnyH_take (i := 7) (oi := { dst := some 8, op := Op.assign (Operand.tmp 21), type := 30, pos := "law.go:210", after := #[{ on := 5, ground := Ground.data }, { on := 3, ground := Ground.chain }, { on := 0, ground := Ground.phase }, { on := 1, ground := Ground.phase }, { on := 2, ground := Ground.phase }, { on := 3, ground := Ground.phase }, { on := 4, ground := Ground.phase }, { on := 5, ground := Ground.phase }, { on := 6, ground := Ground.textOnly Departure.lateStores }], guard := none }) (v := ?vv7n21) rfl (by kernel_rfl) (by kernel_rfl) (by kernel_rfl) (fun c a w h => hQ c a _ _ w h) (Or.inl ⟨by rfl, ?yy7n21⟩) hHeld ?rr7n21
  case yy7n21 => (intro w0 hSw; skip; go_simp; try (first | with_reducible rfl | rfl))
  try simp only [Act.put, List.setIfInBounds_toArray, List.set_cons_zero, List.set_cons_succ]
  refine wpAnyH_take (i := 8) (oi := { dst := some 9, op := Op.assign (Operand.tmp 22), type := 31, pos := "law.go:210", after := #[{ on := 6, ground := Ground.data }, { on := 7, ground := Ground.chain }, { on := 0, ground := Ground.phase }, { on := 1, ground := Ground.phase }, { on := 2, ground := Ground.phase }, { on := 3, ground := Ground.phase }, { on := 4, ground := Ground.phase }, { on := 5, ground := Ground.phase }, { on := 6, ground := Ground.phase }, { on := 7, ground := Ground.phase }], guard := none }) (v := ?vv8n22) rfl (by kernel_rfl) (by kernel_rfl) (by kernel_rfl) (fun c a w h => hQ c a _ _ w h) (Or.inl ⟨by rfl, ?yy8n22⟩) hHeld ?rr8n22
  case yy8n22 => (intro w0 hSw; skip; go_simp; try (first | with_reducible rfl | rfl))
  try simp only [Act.put, List.setIfInBounds_toArray, List.set_cons_zero, List.set_cons_succ]
  refine wpAnyH_done (by kernel_rfl) ?_ _
  exact hend L _ hHeld b6
end Go.Proofs.Ytkfkepjegdaadaa
