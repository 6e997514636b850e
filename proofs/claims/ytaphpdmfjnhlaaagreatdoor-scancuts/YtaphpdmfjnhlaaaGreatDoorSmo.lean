/-
  Same, of a state and an answer that may differ: it answers. No condition.
-/
import Derived.Test.YtaphpdmfjnhlaaaGreatDoorH9
namespace Go.Proofs.YtaphpdmfjnhlaaaGreatDoor.S8
open Go Go.RowKit Go.Maps

def SmB (w : World) (e : Ending) (w' : World) : Prop := ∃ b : Bool, e = .returned (.bool b) ∧ Below w.heap.size w w'
theorem smb {w w1 w' : World} {G : Nat} (b : Bool) (hG : w.heap.size = G) (h1 : Below G w w1) (h2 : Below w1.heap.size w1 w') : SmB w (.returned (.bool b)) w' := ⟨b, rfl, hG ▸ below3 (hG.symm ▸ h1) h2⟩
/-- what stays while Same looks on -/
structure SmG (s : St) (t : Ab) (B G : Nat) (v0 v1 v2 v3 vl : Value) (Bl : Nat) (W : World) : Prop where
  box : Box4 W G v0 v1 v2 v3
  at' : RAt W B v0 v1 v2 v3 (rs t)
  ls : Ow W Bl 108 4 vl ((ab s).sp.map svR)
  st : Whole W s
theorem SmG.call {s t B G v0 v1 v2 v3 vl Bl W W'} (h : SmG s t B G v0 v1 v2 v3 vl Bl W) (b : Below W.heap.size W W') : SmG s t B G v0 v1 v2 v3 vl Bl W' := ⟨h.box.call b, h.at'.call b, h.ls.call b, h.st.call b⟩
/-- what Space answers of any name -/
theorem space_of {s : St} {id : Int} (hi : K64 id) : ∃ z1 z2 z3 : Int, ∃ z4 zb : Bool, (∀ x, gsp s.sp id = some x → z1 = x.id ∧ z2 = x.q ∧ z3 = (x.ps.length : Int) ∧ z4 = x.sl ∧ zb = true) ∧
    ∀ W, StAt W s → Calls Tryz.prog 44 #[.pointer (some ⟨s.p, 0, none⟩), .int .i64 id] W fun e w' => e = .returned (.tuple #[sv z1 z2 z3 z4, .bool zb]) ∧ Below W.heap.size W w' := by
  cases hg : gsp s.sp id with
  | none => exact ⟨0, 0, 0, false, false, (fun x hx => by cases hx), fun W h => space_none h hi hg⟩
  | some z =>
    have e := (gsp_some hg).2
    refine ⟨z.id, z.q, z.ps.length, z.sl, true, (fun x hx => by cases hx; exact ⟨rfl, rfl, rfl, rfl, rfl⟩), fun W h => ?_⟩
    rw [← e] at hi hg ⊢
    exact space_some h hi hg
set_option maxRecDepth 20000 in
set_option maxHeartbeats 4000000 in
theorem same_some {w : World} {s : St} {t : Ab} {B v0 v1 v2 v3} (h : Whole w s) (hr : RAt w B v0 v1 v2 v3 (rs t)) (ht : InvA t) : Calls Tryz.prog 12 #[.pointer (some ⟨s.p, 0, none⟩), .agg #[v0, v1, v2, v3]] w fun e w' => SmB w e w' := by
  have hinv := h.inv
  obtain ⟨a0, c0, rfl⟩ := hr.sp.form
  obtain ⟨a1, c1, rfl⟩ := hr.lv.form
  obtain ⟨a2, c2, rfl⟩ := hr.bad.form
  obtain ⟨a3, n3, c3, rfl⟩ := hr.worn.isSl
  have e0 : ((rs t).sp.map rS).length = t.sp.length := by simp [rs]
  have e1 : ((rs t).lv.map rL).length = pagesN t.sp := by rw [List.length_map]; exact lvA_len _
  have e2 : (rI (rs t).bad).length = t.bad.length := by rw [rI_len]; simp [rs]
  rw [e0, e1, e2] at hr ⊢
  clear e0 e1 e2
  have hsps := fun o => spaces_any (h.call (below_al w o))
  have H := Hid.mk (And.intro h hr)
  have HP := Hid.mk hsps
  clear h hr hsps
  go_enter Tryz.func12, Tryz.ntmps12
  go_upto_region 2 with (first | (go_at_call 39; refine (HP.out _).mono ?_; rintro e w1 ⟨vl, rfl, ol, bl⟩))
  obtain ⟨la, lc, rfl⟩ := ol.form
  rw [List.length_map] at ol ⊢
  have b0 := below_al w (.cells #[.slice a0 t.sp.length c0, .slice a1 (pagesN t.sp) c1, .slice a2 t.bad.length c2, .slice a3 n3 c3] 38)
  have bw : Below w.heap.size w w1 := below3 b0 bl
  have FA : Hid (∀ W, Below w1.heap.size w1 W → SmG s t B w.heap.size (.slice a0 t.sp.length c0) (.slice a1 (pagesN t.sp) c1) (.slice a2 t.bad.length c2) (.slice a3 n3 c3) (.slice la (ab s).sp.length lc) (w.heap.size + 1) W) := fun W b => by
    refine SmG.call (W := w1) ⟨(Box4.fresh w _ _ _ _).call bl, H.out.2.call bw, ?_, H.out.1.call bw⟩ b
    rw [size_alloc] at ol
    exact ol
  have hbw := Hid.mk (And.intro bw hinv)
  clear b0 bw bl ol H HP hinv
  generalize hG : w.heap.size = G at *
  replace hG := Hid.mk hG
  have C26 : ∀ W, Below w1.heap.size w1 W → Calls Tryz.prog 40 #[.pointer (some ⟨s.p, 0, none⟩)] W fun e w' => e = .returned (.int .i64 (pagesN (ab s).sp : Int)) ∧ Below W.heap.size W w' := fun W b => keys_any (FA.out W b).st
  have C25 : ∀ W, Below w1.heap.size w1 W → Calls Tryz.prog 41 #[.pointer (some ⟨s.p, 0, none⟩)] W fun e w' => e = .returned (.int .i64 (s.refs.length : Int)) ∧ W = w' := fun W b => live_any (FA.out W b).st.at'
  have C20 : ∀ W, Below w1.heap.size w1 W → Calls Tryz.prog 43 #[.pointer (some ⟨s.p, 0, none⟩)] W fun e w' => e = .returned (.int .i64 ((ab s).bad.length : Int)) ∧ W = w' := fun W b => bads_any (FA.out W b).st.at'
  have C38 : ∀ W, Below w1.heap.size w1 W → Calls Tryz.prog 42 #[.agg #[.slice a0 t.sp.length c0, .slice a1 (pagesN t.sp) c1, .slice a2 t.bad.length c2, .slice a3 n3 c3]] W fun e w' => e = .returned (.int .i64 (nL (rs t).lv (rs t).lv.length : Int)) ∧ Below W.heap.size W w' := fun W b => rlive_any (FA.out W b).at' (by have := (lens_rs ht).2.1; omega)
  have kS : Hid (∀ w', Below w1.heap.size w1 w' → w'.cell? ⟨G, 0, none⟩ = some (.slice a0 t.sp.length c0) ∧ w'.cell? ⟨G, 1, none⟩ = some (.slice a1 (pagesN t.sp) c1) ∧ w'.cell? ⟨G, 2, none⟩ = some (.slice a2 t.bad.length c2) ∧ w'.cell? ⟨G, 3, none⟩ = some (.slice a3 n3 c3) ∧ Below w1.heap.size w1 w') := fun w' q => by
    obtain ⟨q0, q1, q2, q3⟩ := (FA.out w' q).box.cells
    exact ⟨q0, q1, q2, q3, q⟩
  have HC := Hid.mk (And.intro C26 (And.intro C25 (And.intro C38 C20)))
  clear C26 C25 C38 C20
  generalize hn : (ab s).sp.length = n at *
  generalize hn' : t.sp.length = n' at *
  generalize hnl : pagesN (ab s).sp = ml at *
  generalize hnl' : pagesN t.sp = nl at *
  generalize hnb : (ab s).bad.length = mb at *
  generalize hnb' : t.bad.length = nb at *
  generalize hnr : (s.refs : Pl).length = mr at *
  generalize hnr' : nL (rs t).lv (rs t).lv.length = nr at *
  have hn15 : n' ≤ 15 := by have := ht.len; omega
  replace hn := Hid.mk hn
  replace hn' := Hid.mk hn'
  replace hnl' := Hid.mk hnl'
  clear hnr hnr' hnl hnb hnb'
  have HT := Hid.mk ht
  clear ht
  by_cases q0 : n' = n
  rotate_left
  · have qI : ((n : Int) != (n' : Int)) = true := by simp; omega
    refine wp_region_held_drew (S := fun w' => w'.cell? ⟨G, 0, none⟩ = some (.slice a0 n' c0) ∧ w'.cell? ⟨G, 1, none⟩ = some (.slice a1 nl c1) ∧ w'.cell? ⟨G, 2, none⟩ = some (.slice a2 nb c2) ∧ w'.cell? ⟨G, 3, none⟩ = some (.slice a3 n3 c3) ∧ Below w1.heap.size w1 w') (by kernel_rfl) (kS.out _ (Below.refl _ w1).drew) (fun hHeld => ?_)
    refine wpAnyH_take (i := 0) (oi := { dst := some 19, op := Op.move (Operand.tmp 5), type := 102, pos := "law.go:23", after := #[], guard := none }) (v := ?vva0) rfl (by kernel_rfl) (by kernel_rfl) (by kernel_rfl) (fun _ _ _ h => h) (Or.inl ⟨by rfl, ?yya0⟩) hHeld ?rra0
    case yya0 => (intro w0 hSw; obtain ⟨n0, n1, n2, n9, n4⟩ := hSw; go_simp; try with_reducible rfl)
    try simp only [Act.put, List.setIfInBounds_toArray, List.set_cons_zero, List.set_cons_succ]
    refine wpAnyH_take (i := 1) (oi := { dst := some 20, op := Op.call { callee := Callee.builtin Builtin.len, args := #[Operand.tmp 19], argTypes := #[102] }, type := 3, pos := "law.go:23", after := #[{ on := 0, ground := Ground.data }], guard := none }) (v := ?vva1) rfl (by kernel_rfl) (by kernel_rfl) (by kernel_rfl) (fun _ _ _ h => h) (Or.inl ⟨by rfl, ?yya1⟩) hHeld ?rra1
    case yya1 => (intro w0 hSw; obtain ⟨n0, n1, n2, n9, n4⟩ := hSw; go_simp; try with_reducible rfl)
    try simp only [Act.put, List.setIfInBounds_toArray, List.set_cons_zero, List.set_cons_succ]
    refine wpAnyH_take (i := 2) (oi := { dst := some 21, op := Op.fieldAddr 38 (Operand.tmp 3) 0, type := 0, pos := "law.go:23", after := #[], guard := none }) (v := ?vva2) rfl (by kernel_rfl) (by kernel_rfl) (by kernel_rfl) (fun _ _ _ h => h) (Or.inl ⟨by rfl, ?yya2⟩) hHeld ?rra2
    case yya2 => (intro w0 hSw; obtain ⟨n0, n1, n2, n9, n4⟩ := hSw; go_simp; try with_reducible rfl)
    try simp only [Act.put, List.setIfInBounds_toArray, List.set_cons_zero, List.set_cons_succ]
    refine wpAnyH_take (i := 3) (oi := { dst := some 22, op := Op.load 34 (Operand.tmp 21), type := 34, pos := "law.go:23", after := #[{ on := 2, ground := Ground.data }], guard := none }) (v := ?vva3) rfl (by kernel_rfl) (by kernel_rfl) (by kernel_rfl) (fun _ _ _ h => h) (Or.inl ⟨by rfl, ?yya3⟩) hHeld ?rra3
    case yya3 => (intro w0 hSw; obtain ⟨n0, n1, n2, n9, n4⟩ := hSw; go_simp; try with_reducible rfl)
    try simp only [Act.put, List.setIfInBounds_toArray, List.set_cons_zero, List.set_cons_succ]
    refine wpAnyH_take (i := 4) (oi := { dst := some 23, op := Op.call { callee := Callee.builtin Builtin.len, args := #[Operand.tmp 22], argTypes := #[34] }, type := 3, pos := "law.go:23", after := #[{ on := 3, ground := Ground.data }], guard := none }) (v := ?vva4) rfl (by kernel_rfl) (by kernel_rfl) (by kernel_rfl) (fun _ _ _ h => h) (Or.inl ⟨by rfl, ?yya4⟩) hHeld ?rra4
    case yya4 => (intro w0 hSw; obtain ⟨n0, n1, n2, n9, n4⟩ := hSw; go_simp; try with_reducible rfl)
    try simp only [Act.put, List.setIfInBounds_toArray, List.set_cons_zero, List.set_cons_succ]
    refine wpAnyH_take (i := 5) (oi := { dst := some 24, op := Op.binOp BinOp.neq 3 (Operand.tmp 20) (Operand.tmp 23) 3, type := 4, pos := "law.go:23", after := #[{ on := 1, ground := Ground.data }, { on := 4, ground := Ground.data }], guard := none }) (v := ?vva5) rfl (by kernel_rfl) (by kernel_rfl) (by kernel_rfl) (fun _ _ _ h => h) (Or.inl ⟨by rfl, ?yya5⟩) hHeld ?rra5
    case yya5 => (intro w0 hSw; obtain ⟨n0, n1, n2, n9, n4⟩ := hSw; go_simp; try with_reducible rfl)
    try simp only [Act.put, List.setIfInBounds_toArray, List.set_cons_zero, List.set_cons_succ]
    try simp only [qI]
    refine wpAnyH_take (i := 6) (oi := { dst := some 25, op := Op.move (Operand.tmp 24), type := 4, pos := "law.go:23", after := #[{ on := 5, ground := Ground.data }], guard := none }) (v := ?vva6) rfl (by kernel_rfl) (by kernel_rfl) (by kernel_rfl) (fun _ _ _ h => h) (Or.inl ⟨by rfl, ?yya6⟩) hHeld ?rra6
    case yya6 => (intro w0 hSw; obtain ⟨n0, n1, n2, n9, n4⟩ := hSw; go_simp; try with_reducible rfl)
    try simp only [Act.put, List.setIfInBounds_toArray, List.set_cons_zero, List.set_cons_succ]
    refine wpAnyH_take (i := 7) (oi := { dst := some 26, op := Op.move (Operand.tmp 0), type := 50, pos := "law.go:23", after := #[{ on := 6, ground := Ground.guard }], guard := some (6, false) }) (v := undef) rfl (by kernel_rfl) (by kernel_rfl) (by kernel_rfl) (fun _ _ _ h => h) (Or.inr ⟨by rfl, rfl⟩) hHeld ?_
    try simp only [Act.put, List.setIfInBounds_toArray, List.set_cons_zero, List.set_cons_succ]
    refine wpAnyH_take (i := 8) (oi := { dst := some 27, op := Op.call { callee := Callee.value (Operand.func 40), args := #[Operand.tmp 26], argTypes := #[50] }, type := 3, pos := "law.go:23", after := #[{ on := 7, ground := Ground.data }, { on := 6, ground := Ground.chain }, { on := 6, ground := Ground.guard }], guard := some (6, false) }) (v := undef) rfl (by kernel_rfl) (by kernel_rfl) (by kernel_rfl) (fun _ _ _ h => h) (Or.inr ⟨by rfl, rfl⟩) hHeld ?_
    try simp only [Act.put, List.setIfInBounds_toArray, List.set_cons_zero, List.set_cons_succ]
    refine wpAnyH_take (i := 9) (oi := { dst := some 28, op := Op.fieldAddr 38 (Operand.tmp 3) 1, type := 0, pos := "law.go:23", after := #[{ on := 6, ground := Ground.guard }], guard := some (6, false) }) (v := undef) rfl (by kernel_rfl) (by kernel_rfl) (by kernel_rfl) (fun _ _ _ h => h) (Or.inr ⟨by rfl, rfl⟩) hHeld ?_
    try simp only [Act.put, List.setIfInBounds_toArray, List.set_cons_zero, List.set_cons_succ]
    refine wpAnyH_take (i := 10) (oi := { dst := some 29, op := Op.load 35 (Operand.tmp 28), type := 35, pos := "law.go:23", after := #[{ on := 9, ground := Ground.data }, { on := 6, ground := Ground.guard }], guard := some (6, false) }) (v := undef) rfl (by kernel_rfl) (by kernel_rfl) (by kernel_rfl) (fun _ _ _ h => h) (Or.inr ⟨by rfl, rfl⟩) hHeld ?_
    try simp only [Act.put, List.setIfInBounds_toArray, List.set_cons_zero, List.set_cons_succ]
    refine wpAnyH_take (i := 11) (oi := { dst := some 30, op := Op.call { callee := Callee.builtin Builtin.len, args := #[Operand.tmp 29], argTypes := #[35] }, type := 3, pos := "law.go:23", after := #[{ on := 10, ground := Ground.data }, { on := 6, ground := Ground.guard }], guard := some (6, false) }) (v := undef) rfl (by kernel_rfl) (by kernel_rfl) (by kernel_rfl) (fun _ _ _ h => h) (Or.inr ⟨by rfl, rfl⟩) hHeld ?_
    try simp only [Act.put, List.setIfInBounds_toArray, List.set_cons_zero, List.set_cons_succ]
    refine wpAnyH_take (i := 12) (oi := { dst := some 31, op := Op.binOp BinOp.neq 3 (Operand.tmp 27) (Operand.tmp 30) 3, type := 4, pos := "law.go:23", after := #[{ on := 8, ground := Ground.data }, { on := 11, ground := Ground.data }, { on := 6, ground := Ground.guard }], guard := some (6, false) }) (v := undef) rfl (by kernel_rfl) (by kernel_rfl) (by kernel_rfl) (fun _ _ _ h => h) (Or.inr ⟨by rfl, rfl⟩) hHeld ?_
    try simp only [Act.put, List.setIfInBounds_toArray, List.set_cons_zero, List.set_cons_succ]
    refine wpAnyH_take (i := 13) (oi := { dst := some 32, op := Op.pick (Operand.tmp 25) (Operand.const (Value.bool true)) (Operand.tmp 31), type := 4, pos := "law.go:23", after := #[{ on := 6, ground := Ground.data }, { on := 12, ground := Ground.data }], guard := none }) (v := ?vva13) rfl (by kernel_rfl) (by kernel_rfl) (by kernel_rfl) (fun _ _ _ h => h) (Or.inl ⟨by rfl, ?yya13⟩) hHeld ?rra13
    case yya13 => (intro w0 hSw; obtain ⟨n0, n1, n2, n9, n4⟩ := hSw; go_simp; try with_reducible rfl)
    try simp only [Act.put, List.setIfInBounds_toArray, List.set_cons_zero, List.set_cons_succ]
    refine wpAnyH_take (i := 14) (oi := { dst := some 33, op := Op.move (Operand.tmp 32), type := 4, pos := "law.go:23", after := #[{ on := 13, ground := Ground.data }, { on := 8, ground := Ground.chain }], guard := none }) (v := ?vva14) rfl (by kernel_rfl) (by kernel_rfl) (by kernel_rfl) (fun _ _ _ h => h) (Or.inl ⟨by rfl, ?yya14⟩) hHeld ?rra14
    case yya14 => (intro w0 hSw; obtain ⟨n0, n1, n2, n9, n4⟩ := hSw; go_simp; try with_reducible rfl)
    try simp only [Act.put, List.setIfInBounds_toArray, List.set_cons_zero, List.set_cons_succ]
    refine wpAnyH_take (i := 15) (oi := { dst := some 34, op := Op.move (Operand.tmp 0), type := 50, pos := "law.go:23", after := #[{ on := 14, ground := Ground.guard }], guard := some (14, false) }) (v := undef) rfl (by kernel_rfl) (by kernel_rfl) (by kernel_rfl) (fun _ _ _ h => h) (Or.inr ⟨by rfl, rfl⟩) hHeld ?_
    try simp only [Act.put, List.setIfInBounds_toArray, List.set_cons_zero, List.set_cons_succ]
    refine wpAnyH_take (i := 16) (oi := { dst := some 35, op := Op.call { callee := Callee.value (Operand.func 41), args := #[Operand.tmp 34], argTypes := #[50] }, type := 3, pos := "law.go:23", after := #[{ on := 15, ground := Ground.data }, { on := 14, ground := Ground.chain }, { on := 14, ground := Ground.guard }], guard := some (14, false) }) (v := undef) rfl (by kernel_rfl) (by kernel_rfl) (by kernel_rfl) (fun _ _ _ h => h) (Or.inr ⟨by rfl, rfl⟩) hHeld ?_
    try simp only [Act.put, List.setIfInBounds_toArray, List.set_cons_zero, List.set_cons_succ]
    refine wpAnyH_take (i := 17) (oi := { dst := some 36, op := Op.load 38 (Operand.tmp 3), type := 38, pos := "law.go:23", after := #[{ on := 14, ground := Ground.guard }], guard := some (14, false) }) (v := undef) rfl (by kernel_rfl) (by kernel_rfl) (by kernel_rfl) (fun _ _ _ h => h) (Or.inr ⟨by rfl, rfl⟩) hHeld ?_
    try simp only [Act.put, List.setIfInBounds_toArray, List.set_cons_zero, List.set_cons_succ]
    refine wpAnyH_take (i := 18) (oi := { dst := some 37, op := Op.call { callee := Callee.value (Operand.func 42), args := #[Operand.tmp 36], argTypes := #[38] }, type := 3, pos := "law.go:23", after := #[{ on := 17, ground := Ground.data }, { on := 16, ground := Ground.chain }, { on := 14, ground := Ground.guard }], guard := some (14, false) }) (v := undef) rfl (by kernel_rfl) (by kernel_rfl) (by kernel_rfl) (fun _ _ _ h => h) (Or.inr ⟨by rfl, rfl⟩) hHeld ?_
    try simp only [Act.put, List.setIfInBounds_toArray, List.set_cons_zero, List.set_cons_succ]
    refine wpAnyH_take (i := 19) (oi := { dst := some 38, op := Op.binOp BinOp.neq 3 (Operand.tmp 35) (Operand.tmp 37) 3, type := 4, pos := "law.go:23", after := #[{ on := 16, ground := Ground.data }, { on := 18, ground := Ground.data }, { on := 14, ground := Ground.guard }], guard := some (14, false) }) (v := undef) rfl (by kernel_rfl) (by kernel_rfl) (by kernel_rfl) (fun _ _ _ h => h) (Or.inr ⟨by rfl, rfl⟩) hHeld ?_
    try simp only [Act.put, List.setIfInBounds_toArray, List.set_cons_zero, List.set_cons_succ]
    refine wpAnyH_take (i := 20) (oi := { dst := some 39, op := Op.pick (Operand.tmp 33) (Operand.const (Value.bool true)) (Operand.tmp 38), type := 4, pos := "law.go:23", after := #[{ on := 14, ground := Ground.data }, { on := 19, ground := Ground.data }], guard := none }) (v := ?vva20) rfl (by kernel_rfl) (by kernel_rfl) (by kernel_rfl) (fun _ _ _ h => h) (Or.inl ⟨by rfl, ?yya20⟩) hHeld ?rra20
    case yya20 => (intro w0 hSw; obtain ⟨n0, n1, n2, n9, n4⟩ := hSw; go_simp; try with_reducible rfl)
    try simp only [Act.put, List.setIfInBounds_toArray, List.set_cons_zero, List.set_cons_succ]
    refine wpAnyH_take (i := 21) (oi := { dst := some 40, op := Op.move (Operand.tmp 39), type := 4, pos := "law.go:23", after := #[{ on := 20, ground := Ground.data }, { on := 18, ground := Ground.chain }], guard := none }) (v := ?vva21) rfl (by kernel_rfl) (by kernel_rfl) (by kernel_rfl) (fun _ _ _ h => h) (Or.inl ⟨by rfl, ?yya21⟩) hHeld ?rra21
    case yya21 => (intro w0 hSw; obtain ⟨n0, n1, n2, n9, n4⟩ := hSw; go_simp; try with_reducible rfl)
    try simp only [Act.put, List.setIfInBounds_toArray, List.set_cons_zero, List.set_cons_succ]
    refine wpAnyH_take (i := 22) (oi := { dst := some 41, op := Op.move (Operand.tmp 0), type := 50, pos := "law.go:23", after := #[{ on := 21, ground := Ground.guard }], guard := some (21, false) }) (v := undef) rfl (by kernel_rfl) (by kernel_rfl) (by kernel_rfl) (fun _ _ _ h => h) (Or.inr ⟨by rfl, rfl⟩) hHeld ?_
    try simp only [Act.put, List.setIfInBounds_toArray, List.set_cons_zero, List.set_cons_succ]
    refine wpAnyH_take (i := 23) (oi := { dst := some 42, op := Op.call { callee := Callee.value (Operand.func 43), args := #[Operand.tmp 41], argTypes := #[50] }, type := 3, pos := "law.go:23", after := #[{ on := 22, ground := Ground.data }, { on := 21, ground := Ground.chain }, { on := 21, ground := Ground.guard }], guard := some (21, false) }) (v := undef) rfl (by kernel_rfl) (by kernel_rfl) (by kernel_rfl) (fun _ _ _ h => h) (Or.inr ⟨by rfl, rfl⟩) hHeld ?_
    try simp only [Act.put, List.setIfInBounds_toArray, List.set_cons_zero, List.set_cons_succ]
    refine wpAnyH_take (i := 24) (oi := { dst := some 43, op := Op.fieldAddr 38 (Operand.tmp 3) 2, type := 0, pos := "law.go:23", after := #[{ on := 21, ground := Ground.guard }], guard := some (21, false) }) (v := undef) rfl (by kernel_rfl) (by kernel_rfl) (by kernel_rfl) (fun _ _ _ h => h) (Or.inr ⟨by rfl, rfl⟩) hHeld ?_
    try simp only [Act.put, List.setIfInBounds_toArray, List.set_cons_zero, List.set_cons_succ]
    refine wpAnyH_take (i := 25) (oi := { dst := some 44, op := Op.load 30 (Operand.tmp 43), type := 30, pos := "law.go:23", after := #[{ on := 24, ground := Ground.data }, { on := 21, ground := Ground.guard }], guard := some (21, false) }) (v := undef) rfl (by kernel_rfl) (by kernel_rfl) (by kernel_rfl) (fun _ _ _ h => h) (Or.inr ⟨by rfl, rfl⟩) hHeld ?_
    try simp only [Act.put, List.setIfInBounds_toArray, List.set_cons_zero, List.set_cons_succ]
    refine wpAnyH_take (i := 26) (oi := { dst := some 45, op := Op.call { callee := Callee.builtin Builtin.len, args := #[Operand.tmp 44], argTypes := #[30] }, type := 3, pos := "law.go:23", after := #[{ on := 25, ground := Ground.data }, { on := 21, ground := Ground.guard }], guard := some (21, false) }) (v := undef) rfl (by kernel_rfl) (by kernel_rfl) (by kernel_rfl) (fun _ _ _ h => h) (Or.inr ⟨by rfl, rfl⟩) hHeld ?_
    try simp only [Act.put, List.setIfInBounds_toArray, List.set_cons_zero, List.set_cons_succ]
    refine wpAnyH_take (i := 27) (oi := { dst := some 46, op := Op.binOp BinOp.neq 3 (Operand.tmp 42) (Operand.tmp 45) 3, type := 4, pos := "law.go:23", after := #[{ on := 23, ground := Ground.data }, { on := 26, ground := Ground.data }, { on := 21, ground := Ground.guard }], guard := some (21, false) }) (v := undef) rfl (by kernel_rfl) (by kernel_rfl) (by kernel_rfl) (fun _ _ _ h => h) (Or.inr ⟨by rfl, rfl⟩) hHeld ?_
    try simp only [Act.put, List.setIfInBounds_toArray, List.set_cons_zero, List.set_cons_succ]
    refine wpAnyH_take (i := 28) (oi := { dst := some 47, op := Op.pick (Operand.tmp 40) (Operand.const (Value.bool true)) (Operand.tmp 46), type := 4, pos := "law.go:23", after := #[{ on := 21, ground := Ground.data }, { on := 27, ground := Ground.data }], guard := none }) (v := ?vva28) rfl (by kernel_rfl) (by kernel_rfl) (by kernel_rfl) (fun _ _ _ h => h) (Or.inl ⟨by rfl, ?yya28⟩) hHeld ?rra28
    case yya28 => (intro w0 hSw; obtain ⟨n0, n1, n2, n9, n4⟩ := hSw; go_simp; try with_reducible rfl)
    try simp only [Act.put, List.setIfInBounds_toArray, List.set_cons_zero, List.set_cons_succ]
    refine wpAnyH_done (by kernel_rfl) ?_ _
    go_wp2_with fail
    go_ret
    exact smb _ hG.out hbw.out.1 hHeld.2.2.2.2
  subst q0
  by_cases q1 : nl = ml
  rotate_left
  · have qI : ((ml : Int) != (nl : Int)) = true := by simp; omega
    refine wp_region_held_drew (S := fun w' => w'.cell? ⟨G, 0, none⟩ = some (.slice a0 n' c0) ∧ w'.cell? ⟨G, 1, none⟩ = some (.slice a1 nl c1) ∧ w'.cell? ⟨G, 2, none⟩ = some (.slice a2 nb c2) ∧ w'.cell? ⟨G, 3, none⟩ = some (.slice a3 n3 c3) ∧ Below w1.heap.size w1 w') (by kernel_rfl) (kS.out _ (Below.refl _ w1).drew) (fun hHeld => ?_)
    refine wpAnyH_take (i := 0) (oi := { dst := some 19, op := Op.move (Operand.tmp 5), type := 102, pos := "law.go:23", after := #[], guard := none }) (v := ?vvb0) rfl (by kernel_rfl) (by kernel_rfl) (by kernel_rfl) (fun _ _ _ h => h) (Or.inl ⟨by rfl, ?yyb0⟩) hHeld ?rrb0
    case yyb0 => (intro w0 hSw; obtain ⟨n0, n1, n2, n9, n4⟩ := hSw; go_simp; try with_reducible rfl)
    try simp only [Act.put, List.setIfInBounds_toArray, List.set_cons_zero, List.set_cons_succ]
    refine wpAnyH_take (i := 1) (oi := { dst := some 20, op := Op.call { callee := Callee.builtin Builtin.len, args := #[Operand.tmp 19], argTypes := #[102] }, type := 3, pos := "law.go:23", after := #[{ on := 0, ground := Ground.data }], guard := none }) (v := ?vvb1) rfl (by kernel_rfl) (by kernel_rfl) (by kernel_rfl) (fun _ _ _ h => h) (Or.inl ⟨by rfl, ?yyb1⟩) hHeld ?rrb1
    case yyb1 => (intro w0 hSw; obtain ⟨n0, n1, n2, n9, n4⟩ := hSw; go_simp; try with_reducible rfl)
    try simp only [Act.put, List.setIfInBounds_toArray, List.set_cons_zero, List.set_cons_succ]
    refine wpAnyH_take (i := 2) (oi := { dst := some 21, op := Op.fieldAddr 38 (Operand.tmp 3) 0, type := 0, pos := "law.go:23", after := #[], guard := none }) (v := ?vvb2) rfl (by kernel_rfl) (by kernel_rfl) (by kernel_rfl) (fun _ _ _ h => h) (Or.inl ⟨by rfl, ?yyb2⟩) hHeld ?rrb2
    case yyb2 => (intro w0 hSw; obtain ⟨n0, n1, n2, n9, n4⟩ := hSw; go_simp; try with_reducible rfl)
    try simp only [Act.put, List.setIfInBounds_toArray, List.set_cons_zero, List.set_cons_succ]
    refine wpAnyH_take (i := 3) (oi := { dst := some 22, op := Op.load 34 (Operand.tmp 21), type := 34, pos := "law.go:23", after := #[{ on := 2, ground := Ground.data }], guard := none }) (v := ?vvb3) rfl (by kernel_rfl) (by kernel_rfl) (by kernel_rfl) (fun _ _ _ h => h) (Or.inl ⟨by rfl, ?yyb3⟩) hHeld ?rrb3
    case yyb3 => (intro w0 hSw; obtain ⟨n0, n1, n2, n9, n4⟩ := hSw; go_simp; try with_reducible rfl)
    try simp only [Act.put, List.setIfInBounds_toArray, List.set_cons_zero, List.set_cons_succ]
    refine wpAnyH_take (i := 4) (oi := { dst := some 23, op := Op.call { callee := Callee.builtin Builtin.len, args := #[Operand.tmp 22], argTypes := #[34] }, type := 3, pos := "law.go:23", after := #[{ on := 3, ground := Ground.data }], guard := none }) (v := ?vvb4) rfl (by kernel_rfl) (by kernel_rfl) (by kernel_rfl) (fun _ _ _ h => h) (Or.inl ⟨by rfl, ?yyb4⟩) hHeld ?rrb4
    case yyb4 => (intro w0 hSw; obtain ⟨n0, n1, n2, n9, n4⟩ := hSw; go_simp; try with_reducible rfl)
    try simp only [Act.put, List.setIfInBounds_toArray, List.set_cons_zero, List.set_cons_succ]
    refine wpAnyH_take (i := 5) (oi := { dst := some 24, op := Op.binOp BinOp.neq 3 (Operand.tmp 20) (Operand.tmp 23) 3, type := 4, pos := "law.go:23", after := #[{ on := 1, ground := Ground.data }, { on := 4, ground := Ground.data }], guard := none }) (v := ?vvb5) rfl (by kernel_rfl) (by kernel_rfl) (by kernel_rfl) (fun _ _ _ h => h) (Or.inl ⟨by rfl, ?yyb5⟩) hHeld ?rrb5
    case yyb5 => (intro w0 hSw; obtain ⟨n0, n1, n2, n9, n4⟩ := hSw; go_simp; try with_reducible rfl)
    try simp only [Act.put, List.setIfInBounds_toArray, List.set_cons_zero, List.set_cons_succ]
    try simp only [bne_self_eq_false]
    refine wpAnyH_take (i := 6) (oi := { dst := some 25, op := Op.move (Operand.tmp 24), type := 4, pos := "law.go:23", after := #[{ on := 5, ground := Ground.data }], guard := none }) (v := ?vvb6) rfl (by kernel_rfl) (by kernel_rfl) (by kernel_rfl) (fun _ _ _ h => h) (Or.inl ⟨by rfl, ?yyb6⟩) hHeld ?rrb6
    case yyb6 => (intro w0 hSw; obtain ⟨n0, n1, n2, n9, n4⟩ := hSw; go_simp; try with_reducible rfl)
    try simp only [Act.put, List.setIfInBounds_toArray, List.set_cons_zero, List.set_cons_succ]
    refine wpAnyH_take (i := 7) (oi := { dst := some 26, op := Op.move (Operand.tmp 0), type := 50, pos := "law.go:23", after := #[{ on := 6, ground := Ground.guard }], guard := some (6, false) }) (v := ?vvb7) rfl (by kernel_rfl) (by kernel_rfl) (by kernel_rfl) (fun _ _ _ h => h) (Or.inl ⟨by rfl, ?yyb7⟩) hHeld ?rrb7
    case yyb7 => (intro w0 hSw; obtain ⟨n0, n1, n2, n9, n4⟩ := hSw; go_simp; try with_reducible rfl)
    try simp only [Act.put, List.setIfInBounds_toArray, List.set_cons_zero, List.set_cons_succ]
    refine wpAnyH_take (i := 9) (oi := { dst := some 28, op := Op.fieldAddr 38 (Operand.tmp 3) 1, type := 0, pos := "law.go:23", after := #[{ on := 6, ground := Ground.guard }], guard := some (6, false) }) (v := ?vvb9) rfl (by kernel_rfl) (by kernel_rfl) (by kernel_rfl) (fun _ _ _ h => h) (Or.inl ⟨by rfl, ?yyb9⟩) hHeld ?rrb9
    case yyb9 => (intro w0 hSw; obtain ⟨n0, n1, n2, n9, n4⟩ := hSw; go_simp; try with_reducible rfl)
    try simp only [Act.put, List.setIfInBounds_toArray, List.set_cons_zero, List.set_cons_succ]
    refine wpAnyH_take (i := 10) (oi := { dst := some 29, op := Op.load 35 (Operand.tmp 28), type := 35, pos := "law.go:23", after := #[{ on := 9, ground := Ground.data }, { on := 6, ground := Ground.guard }], guard := some (6, false) }) (v := ?vvb10) rfl (by kernel_rfl) (by kernel_rfl) (by kernel_rfl) (fun _ _ _ h => h) (Or.inl ⟨by rfl, ?yyb10⟩) hHeld ?rrb10
    case yyb10 => (intro w0 hSw; obtain ⟨n0, n1, n2, n9, n4⟩ := hSw; go_simp; try with_reducible rfl)
    try simp only [Act.put, List.setIfInBounds_toArray, List.set_cons_zero, List.set_cons_succ]
    refine wpAnyH_take (i := 11) (oi := { dst := some 30, op := Op.call { callee := Callee.builtin Builtin.len, args := #[Operand.tmp 29], argTypes := #[35] }, type := 3, pos := "law.go:23", after := #[{ on := 10, ground := Ground.data }, { on := 6, ground := Ground.guard }], guard := some (6, false) }) (v := ?vvb11) rfl (by kernel_rfl) (by kernel_rfl) (by kernel_rfl) (fun _ _ _ h => h) (Or.inl ⟨by rfl, ?yyb11⟩) hHeld ?rrb11
    case yyb11 => (intro w0 hSw; obtain ⟨n0, n1, n2, n9, n4⟩ := hSw; go_simp; try with_reducible rfl)
    try simp only [Act.put, List.setIfInBounds_toArray, List.set_cons_zero, List.set_cons_succ]
    refine wpAnyH_ready (rs := [8]) (by kernel_rfl) (by simp) ?_
    refine AllReadyH.cons (o := { dst := some 27, op := Op.call { callee := Callee.value (Operand.func 40), args := #[Operand.tmp 26], argTypes := #[50] }, type := 3, pos := "law.go:23", after := #[{ on := 7, ground := Ground.data }, { on := 6, ground := Ground.chain }, { on := 6, ground := Ground.guard }], guard := some (6, false) }) rfl (fun K hK => ?_) AllReadyH.nil
    go_simp
    go_at_call 40
    refine (HC.out.1 _ hHeld.2.2.2.2).mono ?_
    rintro e w5 ⟨rfl, b5⟩
    refine hK.out _ _ (kS.out _ (below3 hHeld.2.2.2.2 b5)) (fun hHeld => ?_)
    clear hK K
    try simp only [Act.put, List.setIfInBounds_toArray, List.set_cons_zero, List.set_cons_succ]
    refine wpAnyH_take (i := 12) (oi := { dst := some 31, op := Op.binOp BinOp.neq 3 (Operand.tmp 27) (Operand.tmp 30) 3, type := 4, pos := "law.go:23", after := #[{ on := 8, ground := Ground.data }, { on := 11, ground := Ground.data }, { on := 6, ground := Ground.guard }], guard := some (6, false) }) (v := ?vvb12) rfl (by kernel_rfl) (by kernel_rfl) (by kernel_rfl) (fun _ _ _ h => h) (Or.inl ⟨by rfl, ?yyb12⟩) hHeld ?rrb12
    case yyb12 => (intro w0 hSw; obtain ⟨n0, n1, n2, n9, n4⟩ := hSw; go_simp; try with_reducible rfl)
    try simp only [Act.put, List.setIfInBounds_toArray, List.set_cons_zero, List.set_cons_succ]
    try simp only [qI]
    refine wpAnyH_take (i := 13) (oi := { dst := some 32, op := Op.pick (Operand.tmp 25) (Operand.const (Value.bool true)) (Operand.tmp 31), type := 4, pos := "law.go:23", after := #[{ on := 6, ground := Ground.data }, { on := 12, ground := Ground.data }], guard := none }) (v := ?vvb13) rfl (by kernel_rfl) (by kernel_rfl) (by kernel_rfl) (fun _ _ _ h => h) (Or.inl ⟨by rfl, ?yyb13⟩) hHeld ?rrb13
    case yyb13 => (intro w0 hSw; obtain ⟨n0, n1, n2, n9, n4⟩ := hSw; go_simp; try with_reducible rfl)
    try simp only [Act.put, List.setIfInBounds_toArray, List.set_cons_zero, List.set_cons_succ]
    refine wpAnyH_take (i := 14) (oi := { dst := some 33, op := Op.move (Operand.tmp 32), type := 4, pos := "law.go:23", after := #[{ on := 13, ground := Ground.data }, { on := 8, ground := Ground.chain }], guard := none }) (v := ?vvb14) rfl (by kernel_rfl) (by kernel_rfl) (by kernel_rfl) (fun _ _ _ h => h) (Or.inl ⟨by rfl, ?yyb14⟩) hHeld ?rrb14
    case yyb14 => (intro w0 hSw; obtain ⟨n0, n1, n2, n9, n4⟩ := hSw; go_simp; try with_reducible rfl)
    try simp only [Act.put, List.setIfInBounds_toArray, List.set_cons_zero, List.set_cons_succ]
    refine wpAnyH_take (i := 15) (oi := { dst := some 34, op := Op.move (Operand.tmp 0), type := 50, pos := "law.go:23", after := #[{ on := 14, ground := Ground.guard }], guard := some (14, false) }) (v := undef) rfl (by kernel_rfl) (by kernel_rfl) (by kernel_rfl) (fun _ _ _ h => h) (Or.inr ⟨by rfl, rfl⟩) hHeld ?_
    try simp only [Act.put, List.setIfInBounds_toArray, List.set_cons_zero, List.set_cons_succ]
    refine wpAnyH_take (i := 16) (oi := { dst := some 35, op := Op.call { callee := Callee.value (Operand.func 41), args := #[Operand.tmp 34], argTypes := #[50] }, type := 3, pos := "law.go:23", after := #[{ on := 15, ground := Ground.data }, { on := 14, ground := Ground.chain }, { on := 14, ground := Ground.guard }], guard := some (14, false) }) (v := undef) rfl (by kernel_rfl) (by kernel_rfl) (by kernel_rfl) (fun _ _ _ h => h) (Or.inr ⟨by rfl, rfl⟩) hHeld ?_
    try simp only [Act.put, List.setIfInBounds_toArray, List.set_cons_zero, List.set_cons_succ]
    refine wpAnyH_take (i := 17) (oi := { dst := some 36, op := Op.load 38 (Operand.tmp 3), type := 38, pos := "law.go:23", after := #[{ on := 14, ground := Ground.guard }], guard := some (14, false) }) (v := undef) rfl (by kernel_rfl) (by kernel_rfl) (by kernel_rfl) (fun _ _ _ h => h) (Or.inr ⟨by rfl, rfl⟩) hHeld ?_
    try simp only [Act.put, List.setIfInBounds_toArray, List.set_cons_zero, List.set_cons_succ]
    refine wpAnyH_take (i := 18) (oi := { dst := some 37, op := Op.call { callee := Callee.value (Operand.func 42), args := #[Operand.tmp 36], argTypes := #[38] }, type := 3, pos := "law.go:23", after := #[{ on := 17, ground := Ground.data }, { on := 16, ground := Ground.chain }, { on := 14, ground := Ground.guard }], guard := some (14, false) }) (v := undef) rfl (by kernel_rfl) (by kernel_rfl) (by kernel_rfl) (fun _ _ _ h => h) (Or.inr ⟨by rfl, rfl⟩) hHeld ?_
    try simp only [Act.put, List.setIfInBounds_toArray, List.set_cons_zero, List.set_cons_succ]
    refine wpAnyH_take (i := 19) (oi := { dst := some 38, op := Op.binOp BinOp.neq 3 (Operand.tmp 35) (Operand.tmp 37) 3, type := 4, pos := "law.go:23", after := #[{ on := 16, ground := Ground.data }, { on := 18, ground := Ground.data }, { on := 14, ground := Ground.guard }], guard := some (14, false) }) (v := undef) rfl (by kernel_rfl) (by kernel_rfl) (by kernel_rfl) (fun _ _ _ h => h) (Or.inr ⟨by rfl, rfl⟩) hHeld ?_
    try simp only [Act.put, List.setIfInBounds_toArray, List.set_cons_zero, List.set_cons_succ]
    refine wpAnyH_take (i := 20) (oi := { dst := some 39, op := Op.pick (Operand.tmp 33) (Operand.const (Value.bool true)) (Operand.tmp 38), type := 4, pos := "law.go:23", after := #[{ on := 14, ground := Ground.data }, { on := 19, ground := Ground.data }], guard := none }) (v := ?vvb20) rfl (by kernel_rfl) (by kernel_rfl) (by kernel_rfl) (fun _ _ _ h => h) (Or.inl ⟨by rfl, ?yyb20⟩) hHeld ?rrb20
    case yyb20 => (intro w0 hSw; obtain ⟨n0, n1, n2, n9, n4⟩ := hSw; go_simp; try with_reducible rfl)
    try simp only [Act.put, List.setIfInBounds_toArray, List.set_cons_zero, List.set_cons_succ]
    refine wpAnyH_take (i := 21) (oi := { dst := some 40, op := Op.move (Operand.tmp 39), type := 4, pos := "law.go:23", after := #[{ on := 20, ground := Ground.data }, { on := 18, ground := Ground.chain }], guard := none }) (v := ?vvb21) rfl (by kernel_rfl) (by kernel_rfl) (by kernel_rfl) (fun _ _ _ h => h) (Or.inl ⟨by rfl, ?yyb21⟩) hHeld ?rrb21
    case yyb21 => (intro w0 hSw; obtain ⟨n0, n1, n2, n9, n4⟩ := hSw; go_simp; try with_reducible rfl)
    try simp only [Act.put, List.setIfInBounds_toArray, List.set_cons_zero, List.set_cons_succ]
    refine wpAnyH_take (i := 22) (oi := { dst := some 41, op := Op.move (Operand.tmp 0), type := 50, pos := "law.go:23", after := #[{ on := 21, ground := Ground.guard }], guard := some (21, false) }) (v := undef) rfl (by kernel_rfl) (by kernel_rfl) (by kernel_rfl) (fun _ _ _ h => h) (Or.inr ⟨by rfl, rfl⟩) hHeld ?_
    try simp only [Act.put, List.setIfInBounds_toArray, List.set_cons_zero, List.set_cons_succ]
    refine wpAnyH_take (i := 23) (oi := { dst := some 42, op := Op.call { callee := Callee.value (Operand.func 43), args := #[Operand.tmp 41], argTypes := #[50] }, type := 3, pos := "law.go:23", after := #[{ on := 22, ground := Ground.data }, { on := 21, ground := Ground.chain }, { on := 21, ground := Ground.guard }], guard := some (21, false) }) (v := undef) rfl (by kernel_rfl) (by kernel_rfl) (by kernel_rfl) (fun _ _ _ h => h) (Or.inr ⟨by rfl, rfl⟩) hHeld ?_
    try simp only [Act.put, List.setIfInBounds_toArray, List.set_cons_zero, List.set_cons_succ]
    refine wpAnyH_take (i := 24) (oi := { dst := some 43, op := Op.fieldAddr 38 (Operand.tmp 3) 2, type := 0, pos := "law.go:23", after := #[{ on := 21, ground := Ground.guard }], guard := some (21, false) }) (v := undef) rfl (by kernel_rfl) (by kernel_rfl) (by kernel_rfl) (fun _ _ _ h => h) (Or.inr ⟨by rfl, rfl⟩) hHeld ?_
    try simp only [Act.put, List.setIfInBounds_toArray, List.set_cons_zero, List.set_cons_succ]
    refine wpAnyH_take (i := 25) (oi := { dst := some 44, op := Op.load 30 (Operand.tmp 43), type := 30, pos := "law.go:23", after := #[{ on := 24, ground := Ground.data }, { on := 21, ground := Ground.guard }], guard := some (21, false) }) (v := undef) rfl (by kernel_rfl) (by kernel_rfl) (by kernel_rfl) (fun _ _ _ h => h) (Or.inr ⟨by rfl, rfl⟩) hHeld ?_
    try simp only [Act.put, List.setIfInBounds_toArray, List.set_cons_zero, List.set_cons_succ]
    refine wpAnyH_take (i := 26) (oi := { dst := some 45, op := Op.call { callee := Callee.builtin Builtin.len, args := #[Operand.tmp 44], argTypes := #[30] }, type := 3, pos := "law.go:23", after := #[{ on := 25, ground := Ground.data }, { on := 21, ground := Ground.guard }], guard := some (21, false) }) (v := undef) rfl (by kernel_rfl) (by kernel_rfl) (by kernel_rfl) (fun _ _ _ h => h) (Or.inr ⟨by rfl, rfl⟩) hHeld ?_
    try simp only [Act.put, List.setIfInBounds_toArray, List.set_cons_zero, List.set_cons_succ]
    refine wpAnyH_take (i := 27) (oi := { dst := some 46, op := Op.binOp BinOp.neq 3 (Operand.tmp 42) (Operand.tmp 45) 3, type := 4, pos := "law.go:23", after := #[{ on := 23, ground := Ground.data }, { on := 26, ground := Ground.data }, { on := 21, ground := Ground.guard }], guard := some (21, false) }) (v := undef) rfl (by kernel_rfl) (by kernel_rfl) (by kernel_rfl) (fun _ _ _ h => h) (Or.inr ⟨by rfl, rfl⟩) hHeld ?_
    try simp only [Act.put, List.setIfInBounds_toArray, List.set_cons_zero, List.set_cons_succ]
    refine wpAnyH_take (i := 28) (oi := { dst := some 47, op := Op.pick (Operand.tmp 40) (Operand.const (Value.bool true)) (Operand.tmp 46), type := 4, pos := "law.go:23", after := #[{ on := 21, ground := Ground.data }, { on := 27, ground := Ground.data }], guard := none }) (v := ?vvb28) rfl (by kernel_rfl) (by kernel_rfl) (by kernel_rfl) (fun _ _ _ h => h) (Or.inl ⟨by rfl, ?yyb28⟩) hHeld ?rrb28
    case yyb28 => (intro w0 hSw; obtain ⟨n0, n1, n2, n9, n4⟩ := hSw; go_simp; try with_reducible rfl)
    try simp only [Act.put, List.setIfInBounds_toArray, List.set_cons_zero, List.set_cons_succ]
    refine wpAnyH_done (by kernel_rfl) ?_ _
    go_wp2_with fail
    go_ret
    exact smb _ hG.out hbw.out.1 hHeld.2.2.2.2
  subst q1
  by_cases q2 : nr = mr
  rotate_left
  · have qI : ((mr : Int) != (nr : Int)) = true := by simp; omega
    refine wp_region_held_drew (S := fun w' => w'.cell? ⟨G, 0, none⟩ = some (.slice a0 n' c0) ∧ w'.cell? ⟨G, 1, none⟩ = some (.slice a1 nl c1) ∧ w'.cell? ⟨G, 2, none⟩ = some (.slice a2 nb c2) ∧ w'.cell? ⟨G, 3, none⟩ = some (.slice a3 n3 c3) ∧ Below w1.heap.size w1 w') (by kernel_rfl) (kS.out _ (Below.refl _ w1).drew) (fun hHeld => ?_)
    refine wpAnyH_take (i := 0) (oi := { dst := some 19, op := Op.move (Operand.tmp 5), type := 102, pos := "law.go:23", after := #[], guard := none }) (v := ?vvc0) rfl (by kernel_rfl) (by kernel_rfl) (by kernel_rfl) (fun _ _ _ h => h) (Or.inl ⟨by rfl, ?yyc0⟩) hHeld ?rrc0
    case yyc0 => (intro w0 hSw; obtain ⟨n0, n1, n2, n9, n4⟩ := hSw; go_simp; try with_reducible rfl)
    try simp only [Act.put, List.setIfInBounds_toArray, List.set_cons_zero, List.set_cons_succ]
    refine wpAnyH_take (i := 1) (oi := { dst := some 20, op := Op.call { callee := Callee.builtin Builtin.len, args := #[Operand.tmp 19], argTypes := #[102] }, type := 3, pos := "law.go:23", after := #[{ on := 0, ground := Ground.data }], guard := none }) (v := ?vvc1) rfl (by kernel_rfl) (by kernel_rfl) (by kernel_rfl) (fun _ _ _ h => h) (Or.inl ⟨by rfl, ?yyc1⟩) hHeld ?rrc1
    case yyc1 => (intro w0 hSw; obtain ⟨n0, n1, n2, n9, n4⟩ := hSw; go_simp; try with_reducible rfl)
    try simp only [Act.put, List.setIfInBounds_toArray, List.set_cons_zero, List.set_cons_succ]
    refine wpAnyH_take (i := 2) (oi := { dst := some 21, op := Op.fieldAddr 38 (Operand.tmp 3) 0, type := 0, pos := "law.go:23", after := #[], guard := none }) (v := ?vvc2) rfl (by kernel_rfl) (by kernel_rfl) (by kernel_rfl) (fun _ _ _ h => h) (Or.inl ⟨by rfl, ?yyc2⟩) hHeld ?rrc2
    case yyc2 => (intro w0 hSw; obtain ⟨n0, n1, n2, n9, n4⟩ := hSw; go_simp; try with_reducible rfl)
    try simp only [Act.put, List.setIfInBounds_toArray, List.set_cons_zero, List.set_cons_succ]
    refine wpAnyH_take (i := 3) (oi := { dst := some 22, op := Op.load 34 (Operand.tmp 21), type := 34, pos := "law.go:23", after := #[{ on := 2, ground := Ground.data }], guard := none }) (v := ?vvc3) rfl (by kernel_rfl) (by kernel_rfl) (by kernel_rfl) (fun _ _ _ h => h) (Or.inl ⟨by rfl, ?yyc3⟩) hHeld ?rrc3
    case yyc3 => (intro w0 hSw; obtain ⟨n0, n1, n2, n9, n4⟩ := hSw; go_simp; try with_reducible rfl)
    try simp only [Act.put, List.setIfInBounds_toArray, List.set_cons_zero, List.set_cons_succ]
    refine wpAnyH_take (i := 4) (oi := { dst := some 23, op := Op.call { callee := Callee.builtin Builtin.len, args := #[Operand.tmp 22], argTypes := #[34] }, type := 3, pos := "law.go:23", after := #[{ on := 3, ground := Ground.data }], guard := none }) (v := ?vvc4) rfl (by kernel_rfl) (by kernel_rfl) (by kernel_rfl) (fun _ _ _ h => h) (Or.inl ⟨by rfl, ?yyc4⟩) hHeld ?rrc4
    case yyc4 => (intro w0 hSw; obtain ⟨n0, n1, n2, n9, n4⟩ := hSw; go_simp; try with_reducible rfl)
    try simp only [Act.put, List.setIfInBounds_toArray, List.set_cons_zero, List.set_cons_succ]
    refine wpAnyH_take (i := 5) (oi := { dst := some 24, op := Op.binOp BinOp.neq 3 (Operand.tmp 20) (Operand.tmp 23) 3, type := 4, pos := "law.go:23", after := #[{ on := 1, ground := Ground.data }, { on := 4, ground := Ground.data }], guard := none }) (v := ?vvc5) rfl (by kernel_rfl) (by kernel_rfl) (by kernel_rfl) (fun _ _ _ h => h) (Or.inl ⟨by rfl, ?yyc5⟩) hHeld ?rrc5
    case yyc5 => (intro w0 hSw; obtain ⟨n0, n1, n2, n9, n4⟩ := hSw; go_simp; try with_reducible rfl)
    try simp only [Act.put, List.setIfInBounds_toArray, List.set_cons_zero, List.set_cons_succ]
    try simp only [bne_self_eq_false]
    refine wpAnyH_take (i := 6) (oi := { dst := some 25, op := Op.move (Operand.tmp 24), type := 4, pos := "law.go:23", after := #[{ on := 5, ground := Ground.data }], guard := none }) (v := ?vvc6) rfl (by kernel_rfl) (by kernel_rfl) (by kernel_rfl) (fun _ _ _ h => h) (Or.inl ⟨by rfl, ?yyc6⟩) hHeld ?rrc6
    case yyc6 => (intro w0 hSw; obtain ⟨n0, n1, n2, n9, n4⟩ := hSw; go_simp; try with_reducible rfl)
    try simp only [Act.put, List.setIfInBounds_toArray, List.set_cons_zero, List.set_cons_succ]
    refine wpAnyH_take (i := 7) (oi := { dst := some 26, op := Op.move (Operand.tmp 0), type := 50, pos := "law.go:23", after := #[{ on := 6, ground := Ground.guard }], guard := some (6, false) }) (v := ?vvc7) rfl (by kernel_rfl) (by kernel_rfl) (by kernel_rfl) (fun _ _ _ h => h) (Or.inl ⟨by rfl, ?yyc7⟩) hHeld ?rrc7
    case yyc7 => (intro w0 hSw; obtain ⟨n0, n1, n2, n9, n4⟩ := hSw; go_simp; try with_reducible rfl)
    try simp only [Act.put, List.setIfInBounds_toArray, List.set_cons_zero, List.set_cons_succ]
    refine wpAnyH_take (i := 9) (oi := { dst := some 28, op := Op.fieldAddr 38 (Operand.tmp 3) 1, type := 0, pos := "law.go:23", after := #[{ on := 6, ground := Ground.guard }], guard := some (6, false) }) (v := ?vvc9) rfl (by kernel_rfl) (by kernel_rfl) (by kernel_rfl) (fun _ _ _ h => h) (Or.inl ⟨by rfl, ?yyc9⟩) hHeld ?rrc9
    case yyc9 => (intro w0 hSw; obtain ⟨n0, n1, n2, n9, n4⟩ := hSw; go_simp; try with_reducible rfl)
    try simp only [Act.put, List.setIfInBounds_toArray, List.set_cons_zero, List.set_cons_succ]
    refine wpAnyH_take (i := 10) (oi := { dst := some 29, op := Op.load 35 (Operand.tmp 28), type := 35, pos := "law.go:23", after := #[{ on := 9, ground := Ground.data }, { on := 6, ground := Ground.guard }], guard := some (6, false) }) (v := ?vvc10) rfl (by kernel_rfl) (by kernel_rfl) (by kernel_rfl) (fun _ _ _ h => h) (Or.inl ⟨by rfl, ?yyc10⟩) hHeld ?rrc10
    case yyc10 => (intro w0 hSw; obtain ⟨n0, n1, n2, n9, n4⟩ := hSw; go_simp; try with_reducible rfl)
    try simp only [Act.put, List.setIfInBounds_toArray, List.set_cons_zero, List.set_cons_succ]
    refine wpAnyH_take (i := 11) (oi := { dst := some 30, op := Op.call { callee := Callee.builtin Builtin.len, args := #[Operand.tmp 29], argTypes := #[35] }, type := 3, pos := "law.go:23", after := #[{ on := 10, ground := Ground.data }, { on := 6, ground := Ground.guard }], guard := some (6, false) }) (v := ?vvc11) rfl (by kernel_rfl) (by kernel_rfl) (by kernel_rfl) (fun _ _ _ h => h) (Or.inl ⟨by rfl, ?yyc11⟩) hHeld ?rrc11
    case yyc11 => (intro w0 hSw; obtain ⟨n0, n1, n2, n9, n4⟩ := hSw; go_simp; try with_reducible rfl)
    try simp only [Act.put, List.setIfInBounds_toArray, List.set_cons_zero, List.set_cons_succ]
    refine wpAnyH_ready (rs := [8]) (by kernel_rfl) (by simp) ?_
    refine AllReadyH.cons (o := { dst := some 27, op := Op.call { callee := Callee.value (Operand.func 40), args := #[Operand.tmp 26], argTypes := #[50] }, type := 3, pos := "law.go:23", after := #[{ on := 7, ground := Ground.data }, { on := 6, ground := Ground.chain }, { on := 6, ground := Ground.guard }], guard := some (6, false) }) rfl (fun K hK => ?_) AllReadyH.nil
    go_simp
    go_at_call 40
    refine (HC.out.1 _ hHeld.2.2.2.2).mono ?_
    rintro e w5 ⟨rfl, b5⟩
    refine hK.out _ _ (kS.out _ (below3 hHeld.2.2.2.2 b5)) (fun hHeld => ?_)
    clear hK K
    try simp only [Act.put, List.setIfInBounds_toArray, List.set_cons_zero, List.set_cons_succ]
    refine wpAnyH_take (i := 12) (oi := { dst := some 31, op := Op.binOp BinOp.neq 3 (Operand.tmp 27) (Operand.tmp 30) 3, type := 4, pos := "law.go:23", after := #[{ on := 8, ground := Ground.data }, { on := 11, ground := Ground.data }, { on := 6, ground := Ground.guard }], guard := some (6, false) }) (v := ?vvc12) rfl (by kernel_rfl) (by kernel_rfl) (by kernel_rfl) (fun _ _ _ h => h) (Or.inl ⟨by rfl, ?yyc12⟩) hHeld ?rrc12
    case yyc12 => (intro w0 hSw; obtain ⟨n0, n1, n2, n9, n4⟩ := hSw; go_simp; try with_reducible rfl)
    try simp only [Act.put, List.setIfInBounds_toArray, List.set_cons_zero, List.set_cons_succ]
    try simp only [bne_self_eq_false]
    refine wpAnyH_take (i := 13) (oi := { dst := some 32, op := Op.pick (Operand.tmp 25) (Operand.const (Value.bool true)) (Operand.tmp 31), type := 4, pos := "law.go:23", after := #[{ on := 6, ground := Ground.data }, { on := 12, ground := Ground.data }], guard := none }) (v := ?vvc13) rfl (by kernel_rfl) (by kernel_rfl) (by kernel_rfl) (fun _ _ _ h => h) (Or.inl ⟨by rfl, ?yyc13⟩) hHeld ?rrc13
    case yyc13 => (intro w0 hSw; obtain ⟨n0, n1, n2, n9, n4⟩ := hSw; go_simp; try with_reducible rfl)
    try simp only [Act.put, List.setIfInBounds_toArray, List.set_cons_zero, List.set_cons_succ]
    refine wpAnyH_take (i := 14) (oi := { dst := some 33, op := Op.move (Operand.tmp 32), type := 4, pos := "law.go:23", after := #[{ on := 13, ground := Ground.data }, { on := 8, ground := Ground.chain }], guard := none }) (v := ?vvc14) rfl (by kernel_rfl) (by kernel_rfl) (by kernel_rfl) (fun _ _ _ h => h) (Or.inl ⟨by rfl, ?yyc14⟩) hHeld ?rrc14
    case yyc14 => (intro w0 hSw; obtain ⟨n0, n1, n2, n9, n4⟩ := hSw; go_simp; try with_reducible rfl)
    try simp only [Act.put, List.setIfInBounds_toArray, List.set_cons_zero, List.set_cons_succ]
    refine wpAnyH_take (i := 15) (oi := { dst := some 34, op := Op.move (Operand.tmp 0), type := 50, pos := "law.go:23", after := #[{ on := 14, ground := Ground.guard }], guard := some (14, false) }) (v := ?vvc15) rfl (by kernel_rfl) (by kernel_rfl) (by kernel_rfl) (fun _ _ _ h => h) (Or.inl ⟨by rfl, ?yyc15⟩) hHeld ?rrc15
    case yyc15 => (intro w0 hSw; obtain ⟨n0, n1, n2, n9, n4⟩ := hSw; go_simp; try with_reducible rfl)
    try simp only [Act.put, List.setIfInBounds_toArray, List.set_cons_zero, List.set_cons_succ]
    refine wpAnyH_take (i := 17) (oi := { dst := some 36, op := Op.load 38 (Operand.tmp 3), type := 38, pos := "law.go:23", after := #[{ on := 14, ground := Ground.guard }], guard := some (14, false) }) (v := ?vvc17) rfl (by kernel_rfl) (by kernel_rfl) (by kernel_rfl) (fun _ _ _ h => h) (Or.inl ⟨by rfl, ?yyc17⟩) hHeld ?rrc17
    case yyc17 => (intro w0 hSw; obtain ⟨n0, n1, n2, n9, n4⟩ := hSw; go_simp; try with_reducible rfl)
    try simp only [Act.put, List.setIfInBounds_toArray, List.set_cons_zero, List.set_cons_succ]
    refine wpAnyH_ready (rs := [16]) (by kernel_rfl) (by simp) ?_
    refine AllReadyH.cons (o := { dst := some 35, op := Op.call { callee := Callee.value (Operand.func 41), args := #[Operand.tmp 34], argTypes := #[50] }, type := 3, pos := "law.go:23", after := #[{ on := 15, ground := Ground.data }, { on := 14, ground := Ground.chain }, { on := 14, ground := Ground.guard }], guard := some (14, false) }) rfl (fun K hK => ?_) AllReadyH.nil
    go_simp
    go_at_call 41
    refine (HC.out.2.1 _ hHeld.2.2.2.2).mono ?_
    rintro e w6 ⟨rfl, rfl⟩
    refine hK.out _ _ hHeld (fun hHeld => ?_)
    clear hK K
    try simp only [Act.put, List.setIfInBounds_toArray, List.set_cons_zero, List.set_cons_succ]
    refine wpAnyH_ready (rs := [18]) (by kernel_rfl) (by simp) ?_
    refine AllReadyH.cons (o := { dst := some 37, op := Op.call { callee := Callee.value (Operand.func 42), args := #[Operand.tmp 36], argTypes := #[38] }, type := 3, pos := "law.go:23", after := #[{ on := 17, ground := Ground.data }, { on := 16, ground := Ground.chain }, { on := 14, ground := Ground.guard }], guard := some (14, false) }) rfl (fun K hK => ?_) AllReadyH.nil
    go_simp
    go_at_call 42
    refine (HC.out.2.2.1 _ hHeld.2.2.2.2).mono ?_
    rintro e w7 ⟨rfl, b7⟩
    refine hK.out _ _ (kS.out _ (below3 hHeld.2.2.2.2 b7)) (fun hHeld => ?_)
    clear hK K
    try simp only [Act.put, List.setIfInBounds_toArray, List.set_cons_zero, List.set_cons_succ]
    refine wpAnyH_take (i := 19) (oi := { dst := some 38, op := Op.binOp BinOp.neq 3 (Operand.tmp 35) (Operand.tmp 37) 3, type := 4, pos := "law.go:23", after := #[{ on := 16, ground := Ground.data }, { on := 18, ground := Ground.data }, { on := 14, ground := Ground.guard }], guard := some (14, false) }) (v := ?vvc19) rfl (by kernel_rfl) (by kernel_rfl) (by kernel_rfl) (fun _ _ _ h => h) (Or.inl ⟨by rfl, ?yyc19⟩) hHeld ?rrc19
    case yyc19 => (intro w0 hSw; obtain ⟨n0, n1, n2, n9, n4⟩ := hSw; go_simp; try with_reducible rfl)
    try simp only [Act.put, List.setIfInBounds_toArray, List.set_cons_zero, List.set_cons_succ]
    try simp only [qI]
    refine wpAnyH_take (i := 20) (oi := { dst := some 39, op := Op.pick (Operand.tmp 33) (Operand.const (Value.bool true)) (Operand.tmp 38), type := 4, pos := "law.go:23", after := #[{ on := 14, ground := Ground.data }, { on := 19, ground := Ground.data }], guard := none }) (v := ?vvc20) rfl (by kernel_rfl) (by kernel_rfl) (by kernel_rfl) (fun _ _ _ h => h) (Or.inl ⟨by rfl, ?yyc20⟩) hHeld ?rrc20
    case yyc20 => (intro w0 hSw; obtain ⟨n0, n1, n2, n9, n4⟩ := hSw; go_simp; try with_reducible rfl)
    try simp only [Act.put, List.setIfInBounds_toArray, List.set_cons_zero, List.set_cons_succ]
    refine wpAnyH_take (i := 21) (oi := { dst := some 40, op := Op.move (Operand.tmp 39), type := 4, pos := "law.go:23", after := #[{ on := 20, ground := Ground.data }, { on := 18, ground := Ground.chain }], guard := none }) (v := ?vvc21) rfl (by kernel_rfl) (by kernel_rfl) (by kernel_rfl) (fun _ _ _ h => h) (Or.inl ⟨by rfl, ?yyc21⟩) hHeld ?rrc21
    case yyc21 => (intro w0 hSw; obtain ⟨n0, n1, n2, n9, n4⟩ := hSw; go_simp; try with_reducible rfl)
    try simp only [Act.put, List.setIfInBounds_toArray, List.set_cons_zero, List.set_cons_succ]
    refine wpAnyH_take (i := 22) (oi := { dst := some 41, op := Op.move (Operand.tmp 0), type := 50, pos := "law.go:23", after := #[{ on := 21, ground := Ground.guard }], guard := some (21, false) }) (v := undef) rfl (by kernel_rfl) (by kernel_rfl) (by kernel_rfl) (fun _ _ _ h => h) (Or.inr ⟨by rfl, rfl⟩) hHeld ?_
    try simp only [Act.put, List.setIfInBounds_toArray, List.set_cons_zero, List.set_cons_succ]
    refine wpAnyH_take (i := 23) (oi := { dst := some 42, op := Op.call { callee := Callee.value (Operand.func 43), args := #[Operand.tmp 41], argTypes := #[50] }, type := 3, pos := "law.go:23", after := #[{ on := 22, ground := Ground.data }, { on := 21, ground := Ground.chain }, { on := 21, ground := Ground.guard }], guard := some (21, false) }) (v := undef) rfl (by kernel_rfl) (by kernel_rfl) (by kernel_rfl) (fun _ _ _ h => h) (Or.inr ⟨by rfl, rfl⟩) hHeld ?_
    try simp only [Act.put, List.setIfInBounds_toArray, List.set_cons_zero, List.set_cons_succ]
    refine wpAnyH_take (i := 24) (oi := { dst := some 43, op := Op.fieldAddr 38 (Operand.tmp 3) 2, type := 0, pos := "law.go:23", after := #[{ on := 21, ground := Ground.guard }], guard := some (21, false) }) (v := undef) rfl (by kernel_rfl) (by kernel_rfl) (by kernel_rfl) (fun _ _ _ h => h) (Or.inr ⟨by rfl, rfl⟩) hHeld ?_
    try simp only [Act.put, List.setIfInBounds_toArray, List.set_cons_zero, List.set_cons_succ]
    refine wpAnyH_take (i := 25) (oi := { dst := some 44, op := Op.load 30 (Operand.tmp 43), type := 30, pos := "law.go:23", after := #[{ on := 24, ground := Ground.data }, { on := 21, ground := Ground.guard }], guard := some (21, false) }) (v := undef) rfl (by kernel_rfl) (by kernel_rfl) (by kernel_rfl) (fun _ _ _ h => h) (Or.inr ⟨by rfl, rfl⟩) hHeld ?_
    try simp only [Act.put, List.setIfInBounds_toArray, List.set_cons_zero, List.set_cons_succ]
    refine wpAnyH_take (i := 26) (oi := { dst := some 45, op := Op.call { callee := Callee.builtin Builtin.len, args := #[Operand.tmp 44], argTypes := #[30] }, type := 3, pos := "law.go:23", after := #[{ on := 25, ground := Ground.data }, { on := 21, ground := Ground.guard }], guard := some (21, false) }) (v := undef) rfl (by kernel_rfl) (by kernel_rfl) (by kernel_rfl) (fun _ _ _ h => h) (Or.inr ⟨by rfl, rfl⟩) hHeld ?_
    try simp only [Act.put, List.setIfInBounds_toArray, List.set_cons_zero, List.set_cons_succ]
    refine wpAnyH_take (i := 27) (oi := { dst := some 46, op := Op.binOp BinOp.neq 3 (Operand.tmp 42) (Operand.tmp 45) 3, type := 4, pos := "law.go:23", after := #[{ on := 23, ground := Ground.data }, { on := 26, ground := Ground.data }, { on := 21, ground := Ground.guard }], guard := some (21, false) }) (v := undef) rfl (by kernel_rfl) (by kernel_rfl) (by kernel_rfl) (fun _ _ _ h => h) (Or.inr ⟨by rfl, rfl⟩) hHeld ?_
    try simp only [Act.put, List.setIfInBounds_toArray, List.set_cons_zero, List.set_cons_succ]
    refine wpAnyH_take (i := 28) (oi := { dst := some 47, op := Op.pick (Operand.tmp 40) (Operand.const (Value.bool true)) (Operand.tmp 46), type := 4, pos := "law.go:23", after := #[{ on := 21, ground := Ground.data }, { on := 27, ground := Ground.data }], guard := none }) (v := ?vvc28) rfl (by kernel_rfl) (by kernel_rfl) (by kernel_rfl) (fun _ _ _ h => h) (Or.inl ⟨by rfl, ?yyc28⟩) hHeld ?rrc28
    case yyc28 => (intro w0 hSw; obtain ⟨n0, n1, n2, n9, n4⟩ := hSw; go_simp; try with_reducible rfl)
    try simp only [Act.put, List.setIfInBounds_toArray, List.set_cons_zero, List.set_cons_succ]
    refine wpAnyH_done (by kernel_rfl) ?_ _
    go_wp2_with fail
    go_ret
    exact smb _ hG.out hbw.out.1 hHeld.2.2.2.2
  subst q2
  by_cases q3 : nb = mb
  rotate_left
  · have qI : ((mb : Int) != (nb : Int)) = true := by simp; omega
    refine wp_region_held_drew (S := fun w' => w'.cell? ⟨G, 0, none⟩ = some (.slice a0 n' c0) ∧ w'.cell? ⟨G, 1, none⟩ = some (.slice a1 nl c1) ∧ w'.cell? ⟨G, 2, none⟩ = some (.slice a2 nb c2) ∧ w'.cell? ⟨G, 3, none⟩ = some (.slice a3 n3 c3) ∧ Below w1.heap.size w1 w') (by kernel_rfl) (kS.out _ (Below.refl _ w1).drew) (fun hHeld => ?_)
    refine wpAnyH_take (i := 0) (oi := { dst := some 19, op := Op.move (Operand.tmp 5), type := 102, pos := "law.go:23", after := #[], guard := none }) (v := ?vvd0) rfl (by kernel_rfl) (by kernel_rfl) (by kernel_rfl) (fun _ _ _ h => h) (Or.inl ⟨by rfl, ?yyd0⟩) hHeld ?rrd0
    case yyd0 => (intro w0 hSw; obtain ⟨n0, n1, n2, n9, n4⟩ := hSw; go_simp; try with_reducible rfl)
    try simp only [Act.put, List.setIfInBounds_toArray, List.set_cons_zero, List.set_cons_succ]
    refine wpAnyH_take (i := 1) (oi := { dst := some 20, op := Op.call { callee := Callee.builtin Builtin.len, args := #[Operand.tmp 19], argTypes := #[102] }, type := 3, pos := "law.go:23", after := #[{ on := 0, ground := Ground.data }], guard := none }) (v := ?vvd1) rfl (by kernel_rfl) (by kernel_rfl) (by kernel_rfl) (fun _ _ _ h => h) (Or.inl ⟨by rfl, ?yyd1⟩) hHeld ?rrd1
    case yyd1 => (intro w0 hSw; obtain ⟨n0, n1, n2, n9, n4⟩ := hSw; go_simp; try with_reducible rfl)
    try simp only [Act.put, List.setIfInBounds_toArray, List.set_cons_zero, List.set_cons_succ]
    refine wpAnyH_take (i := 2) (oi := { dst := some 21, op := Op.fieldAddr 38 (Operand.tmp 3) 0, type := 0, pos := "law.go:23", after := #[], guard := none }) (v := ?vvd2) rfl (by kernel_rfl) (by kernel_rfl) (by kernel_rfl) (fun _ _ _ h => h) (Or.inl ⟨by rfl, ?yyd2⟩) hHeld ?rrd2
    case yyd2 => (intro w0 hSw; obtain ⟨n0, n1, n2, n9, n4⟩ := hSw; go_simp; try with_reducible rfl)
    try simp only [Act.put, List.setIfInBounds_toArray, List.set_cons_zero, List.set_cons_succ]
    refine wpAnyH_take (i := 3) (oi := { dst := some 22, op := Op.load 34 (Operand.tmp 21), type := 34, pos := "law.go:23", after := #[{ on := 2, ground := Ground.data }], guard := none }) (v := ?vvd3) rfl (by kernel_rfl) (by kernel_rfl) (by kernel_rfl) (fun _ _ _ h => h) (Or.inl ⟨by rfl, ?yyd3⟩) hHeld ?rrd3
    case yyd3 => (intro w0 hSw; obtain ⟨n0, n1, n2, n9, n4⟩ := hSw; go_simp; try with_reducible rfl)
    try simp only [Act.put, List.setIfInBounds_toArray, List.set_cons_zero, List.set_cons_succ]
    refine wpAnyH_take (i := 4) (oi := { dst := some 23, op := Op.call { callee := Callee.builtin Builtin.len, args := #[Operand.tmp 22], argTypes := #[34] }, type := 3, pos := "law.go:23", after := #[{ on := 3, ground := Ground.data }], guard := none }) (v := ?vvd4) rfl (by kernel_rfl) (by kernel_rfl) (by kernel_rfl) (fun _ _ _ h => h) (Or.inl ⟨by rfl, ?yyd4⟩) hHeld ?rrd4
    case yyd4 => (intro w0 hSw; obtain ⟨n0, n1, n2, n9, n4⟩ := hSw; go_simp; try with_reducible rfl)
    try simp only [Act.put, List.setIfInBounds_toArray, List.set_cons_zero, List.set_cons_succ]
    refine wpAnyH_take (i := 5) (oi := { dst := some 24, op := Op.binOp BinOp.neq 3 (Operand.tmp 20) (Operand.tmp 23) 3, type := 4, pos := "law.go:23", after := #[{ on := 1, ground := Ground.data }, { on := 4, ground := Ground.data }], guard := none }) (v := ?vvd5) rfl (by kernel_rfl) (by kernel_rfl) (by kernel_rfl) (fun _ _ _ h => h) (Or.inl ⟨by rfl, ?yyd5⟩) hHeld ?rrd5
    case yyd5 => (intro w0 hSw; obtain ⟨n0, n1, n2, n9, n4⟩ := hSw; go_simp; try with_reducible rfl)
    try simp only [Act.put, List.setIfInBounds_toArray, List.set_cons_zero, List.set_cons_succ]
    try simp only [bne_self_eq_false]
    refine wpAnyH_take (i := 6) (oi := { dst := some 25, op := Op.move (Operand.tmp 24), type := 4, pos := "law.go:23", after := #[{ on := 5, ground := Ground.data }], guard := none }) (v := ?vvd6) rfl (by kernel_rfl) (by kernel_rfl) (by kernel_rfl) (fun _ _ _ h => h) (Or.inl ⟨by rfl, ?yyd6⟩) hHeld ?rrd6
    case yyd6 => (intro w0 hSw; obtain ⟨n0, n1, n2, n9, n4⟩ := hSw; go_simp; try with_reducible rfl)
    try simp only [Act.put, List.setIfInBounds_toArray, List.set_cons_zero, List.set_cons_succ]
    refine wpAnyH_take (i := 7) (oi := { dst := some 26, op := Op.move (Operand.tmp 0), type := 50, pos := "law.go:23", after := #[{ on := 6, ground := Ground.guard }], guard := some (6, false) }) (v := ?vvd7) rfl (by kernel_rfl) (by kernel_rfl) (by kernel_rfl) (fun _ _ _ h => h) (Or.inl ⟨by rfl, ?yyd7⟩) hHeld ?rrd7
    case yyd7 => (intro w0 hSw; obtain ⟨n0, n1, n2, n9, n4⟩ := hSw; go_simp; try with_reducible rfl)
    try simp only [Act.put, List.setIfInBounds_toArray, List.set_cons_zero, List.set_cons_succ]
    refine wpAnyH_take (i := 9) (oi := { dst := some 28, op := Op.fieldAddr 38 (Operand.tmp 3) 1, type := 0, pos := "law.go:23", after := #[{ on := 6, ground := Ground.guard }], guard := some (6, false) }) (v := ?vvd9) rfl (by kernel_rfl) (by kernel_rfl) (by kernel_rfl) (fun _ _ _ h => h) (Or.inl ⟨by rfl, ?yyd9⟩) hHeld ?rrd9
    case yyd9 => (intro w0 hSw; obtain ⟨n0, n1, n2, n9, n4⟩ := hSw; go_simp; try with_reducible rfl)
    try simp only [Act.put, List.setIfInBounds_toArray, List.set_cons_zero, List.set_cons_succ]
    refine wpAnyH_take (i := 10) (oi := { dst := some 29, op := Op.load 35 (Operand.tmp 28), type := 35, pos := "law.go:23", after := #[{ on := 9, ground := Ground.data }, { on := 6, ground := Ground.guard }], guard := some (6, false) }) (v := ?vvd10) rfl (by kernel_rfl) (by kernel_rfl) (by kernel_rfl) (fun _ _ _ h => h) (Or.inl ⟨by rfl, ?yyd10⟩) hHeld ?rrd10
    case yyd10 => (intro w0 hSw; obtain ⟨n0, n1, n2, n9, n4⟩ := hSw; go_simp; try with_reducible rfl)
    try simp only [Act.put, List.setIfInBounds_toArray, List.set_cons_zero, List.set_cons_succ]
    refine wpAnyH_take (i := 11) (oi := { dst := some 30, op := Op.call { callee := Callee.builtin Builtin.len, args := #[Operand.tmp 29], argTypes := #[35] }, type := 3, pos := "law.go:23", after := #[{ on := 10, ground := Ground.data }, { on := 6, ground := Ground.guard }], guard := some (6, false) }) (v := ?vvd11) rfl (by kernel_rfl) (by kernel_rfl) (by kernel_rfl) (fun _ _ _ h => h) (Or.inl ⟨by rfl, ?yyd11⟩) hHeld ?rrd11
    case yyd11 => (intro w0 hSw; obtain ⟨n0, n1, n2, n9, n4⟩ := hSw; go_simp; try with_reducible rfl)
    try simp only [Act.put, List.setIfInBounds_toArray, List.set_cons_zero, List.set_cons_succ]
    refine wpAnyH_ready (rs := [8]) (by kernel_rfl) (by simp) ?_
    refine AllReadyH.cons (o := { dst := some 27, op := Op.call { callee := Callee.value (Operand.func 40), args := #[Operand.tmp 26], argTypes := #[50] }, type := 3, pos := "law.go:23", after := #[{ on := 7, ground := Ground.data }, { on := 6, ground := Ground.chain }, { on := 6, ground := Ground.guard }], guard := some (6, false) }) rfl (fun K hK => ?_) AllReadyH.nil
    go_simp
    go_at_call 40
    refine (HC.out.1 _ hHeld.2.2.2.2).mono ?_
    rintro e w5 ⟨rfl, b5⟩
    refine hK.out _ _ (kS.out _ (below3 hHeld.2.2.2.2 b5)) (fun hHeld => ?_)
    clear hK K
    try simp only [Act.put, List.setIfInBounds_toArray, List.set_cons_zero, List.set_cons_succ]
    refine wpAnyH_take (i := 12) (oi := { dst := some 31, op := Op.binOp BinOp.neq 3 (Operand.tmp 27) (Operand.tmp 30) 3, type := 4, pos := "law.go:23", after := #[{ on := 8, ground := Ground.data }, { on := 11, ground := Ground.data }, { on := 6, ground := Ground.guard }], guard := some (6, false) }) (v := ?vvd12) rfl (by kernel_rfl) (by kernel_rfl) (by kernel_rfl) (fun _ _ _ h => h) (Or.inl ⟨by rfl, ?yyd12⟩) hHeld ?rrd12
    case yyd12 => (intro w0 hSw; obtain ⟨n0, n1, n2, n9, n4⟩ := hSw; go_simp; try with_reducible rfl)
    try simp only [Act.put, List.setIfInBounds_toArray, List.set_cons_zero, List.set_cons_succ]
    try simp only [bne_self_eq_false]
    refine wpAnyH_take (i := 13) (oi := { dst := some 32, op := Op.pick (Operand.tmp 25) (Operand.const (Value.bool true)) (Operand.tmp 31), type := 4, pos := "law.go:23", after := #[{ on := 6, ground := Ground.data }, { on := 12, ground := Ground.data }], guard := none }) (v := ?vvd13) rfl (by kernel_rfl) (by kernel_rfl) (by kernel_rfl) (fun _ _ _ h => h) (Or.inl ⟨by rfl, ?yyd13⟩) hHeld ?rrd13
    case yyd13 => (intro w0 hSw; obtain ⟨n0, n1, n2, n9, n4⟩ := hSw; go_simp; try with_reducible rfl)
    try simp only [Act.put, List.setIfInBounds_toArray, List.set_cons_zero, List.set_cons_succ]
    refine wpAnyH_take (i := 14) (oi := { dst := some 33, op := Op.move (Operand.tmp 32), type := 4, pos := "law.go:23", after := #[{ on := 13, ground := Ground.data }, { on := 8, ground := Ground.chain }], guard := none }) (v := ?vvd14) rfl (by kernel_rfl) (by kernel_rfl) (by kernel_rfl) (fun _ _ _ h => h) (Or.inl ⟨by rfl, ?yyd14⟩) hHeld ?rrd14
    case yyd14 => (intro w0 hSw; obtain ⟨n0, n1, n2, n9, n4⟩ := hSw; go_simp; try with_reducible rfl)
    try simp only [Act.put, List.setIfInBounds_toArray, List.set_cons_zero, List.set_cons_succ]
    refine wpAnyH_take (i := 15) (oi := { dst := some 34, op := Op.move (Operand.tmp 0), type := 50, pos := "law.go:23", after := #[{ on := 14, ground := Ground.guard }], guard := some (14, false) }) (v := ?vvd15) rfl (by kernel_rfl) (by kernel_rfl) (by kernel_rfl) (fun _ _ _ h => h) (Or.inl ⟨by rfl, ?yyd15⟩) hHeld ?rrd15
    case yyd15 => (intro w0 hSw; obtain ⟨n0, n1, n2, n9, n4⟩ := hSw; go_simp; try with_reducible rfl)
    try simp only [Act.put, List.setIfInBounds_toArray, List.set_cons_zero, List.set_cons_succ]
    refine wpAnyH_take (i := 17) (oi := { dst := some 36, op := Op.load 38 (Operand.tmp 3), type := 38, pos := "law.go:23", after := #[{ on := 14, ground := Ground.guard }], guard := some (14, false) }) (v := ?vvd17) rfl (by kernel_rfl) (by kernel_rfl) (by kernel_rfl) (fun _ _ _ h => h) (Or.inl ⟨by rfl, ?yyd17⟩) hHeld ?rrd17
    case yyd17 => (intro w0 hSw; obtain ⟨n0, n1, n2, n9, n4⟩ := hSw; go_simp; try with_reducible rfl)
    try simp only [Act.put, List.setIfInBounds_toArray, List.set_cons_zero, List.set_cons_succ]
    refine wpAnyH_ready (rs := [16]) (by kernel_rfl) (by simp) ?_
    refine AllReadyH.cons (o := { dst := some 35, op := Op.call { callee := Callee.value (Operand.func 41), args := #[Operand.tmp 34], argTypes := #[50] }, type := 3, pos := "law.go:23", after := #[{ on := 15, ground := Ground.data }, { on := 14, ground := Ground.chain }, { on := 14, ground := Ground.guard }], guard := some (14, false) }) rfl (fun K hK => ?_) AllReadyH.nil
    go_simp
    go_at_call 41
    refine (HC.out.2.1 _ hHeld.2.2.2.2).mono ?_
    rintro e w6 ⟨rfl, rfl⟩
    refine hK.out _ _ hHeld (fun hHeld => ?_)
    clear hK K
    try simp only [Act.put, List.setIfInBounds_toArray, List.set_cons_zero, List.set_cons_succ]
    refine wpAnyH_ready (rs := [18]) (by kernel_rfl) (by simp) ?_
    refine AllReadyH.cons (o := { dst := some 37, op := Op.call { callee := Callee.value (Operand.func 42), args := #[Operand.tmp 36], argTypes := #[38] }, type := 3, pos := "law.go:23", after := #[{ on := 17, ground := Ground.data }, { on := 16, ground := Ground.chain }, { on := 14, ground := Ground.guard }], guard := some (14, false) }) rfl (fun K hK => ?_) AllReadyH.nil
    go_simp
    go_at_call 42
    refine (HC.out.2.2.1 _ hHeld.2.2.2.2).mono ?_
    rintro e w7 ⟨rfl, b7⟩
    refine hK.out _ _ (kS.out _ (below3 hHeld.2.2.2.2 b7)) (fun hHeld => ?_)
    clear hK K
    try simp only [Act.put, List.setIfInBounds_toArray, List.set_cons_zero, List.set_cons_succ]
    refine wpAnyH_take (i := 19) (oi := { dst := some 38, op := Op.binOp BinOp.neq 3 (Operand.tmp 35) (Operand.tmp 37) 3, type := 4, pos := "law.go:23", after := #[{ on := 16, ground := Ground.data }, { on := 18, ground := Ground.data }, { on := 14, ground := Ground.guard }], guard := some (14, false) }) (v := ?vvd19) rfl (by kernel_rfl) (by kernel_rfl) (by kernel_rfl) (fun _ _ _ h => h) (Or.inl ⟨by rfl, ?yyd19⟩) hHeld ?rrd19
    case yyd19 => (intro w0 hSw; obtain ⟨n0, n1, n2, n9, n4⟩ := hSw; go_simp; try with_reducible rfl)
    try simp only [Act.put, List.setIfInBounds_toArray, List.set_cons_zero, List.set_cons_succ]
    try simp only [bne_self_eq_false]
    refine wpAnyH_take (i := 20) (oi := { dst := some 39, op := Op.pick (Operand.tmp 33) (Operand.const (Value.bool true)) (Operand.tmp 38), type := 4, pos := "law.go:23", after := #[{ on := 14, ground := Ground.data }, { on := 19, ground := Ground.data }], guard := none }) (v := ?vvd20) rfl (by kernel_rfl) (by kernel_rfl) (by kernel_rfl) (fun _ _ _ h => h) (Or.inl ⟨by rfl, ?yyd20⟩) hHeld ?rrd20
    case yyd20 => (intro w0 hSw; obtain ⟨n0, n1, n2, n9, n4⟩ := hSw; go_simp; try with_reducible rfl)
    try simp only [Act.put, List.setIfInBounds_toArray, List.set_cons_zero, List.set_cons_succ]
    refine wpAnyH_take (i := 21) (oi := { dst := some 40, op := Op.move (Operand.tmp 39), type := 4, pos := "law.go:23", after := #[{ on := 20, ground := Ground.data }, { on := 18, ground := Ground.chain }], guard := none }) (v := ?vvd21) rfl (by kernel_rfl) (by kernel_rfl) (by kernel_rfl) (fun _ _ _ h => h) (Or.inl ⟨by rfl, ?yyd21⟩) hHeld ?rrd21
    case yyd21 => (intro w0 hSw; obtain ⟨n0, n1, n2, n9, n4⟩ := hSw; go_simp; try with_reducible rfl)
    try simp only [Act.put, List.setIfInBounds_toArray, List.set_cons_zero, List.set_cons_succ]
    refine wpAnyH_take (i := 22) (oi := { dst := some 41, op := Op.move (Operand.tmp 0), type := 50, pos := "law.go:23", after := #[{ on := 21, ground := Ground.guard }], guard := some (21, false) }) (v := ?vvd22) rfl (by kernel_rfl) (by kernel_rfl) (by kernel_rfl) (fun _ _ _ h => h) (Or.inl ⟨by rfl, ?yyd22⟩) hHeld ?rrd22
    case yyd22 => (intro w0 hSw; obtain ⟨n0, n1, n2, n9, n4⟩ := hSw; go_simp; try with_reducible rfl)
    try simp only [Act.put, List.setIfInBounds_toArray, List.set_cons_zero, List.set_cons_succ]
    refine wpAnyH_take (i := 24) (oi := { dst := some 43, op := Op.fieldAddr 38 (Operand.tmp 3) 2, type := 0, pos := "law.go:23", after := #[{ on := 21, ground := Ground.guard }], guard := some (21, false) }) (v := ?vvd24) rfl (by kernel_rfl) (by kernel_rfl) (by kernel_rfl) (fun _ _ _ h => h) (Or.inl ⟨by rfl, ?yyd24⟩) hHeld ?rrd24
    case yyd24 => (intro w0 hSw; obtain ⟨n0, n1, n2, n9, n4⟩ := hSw; go_simp; try with_reducible rfl)
    try simp only [Act.put, List.setIfInBounds_toArray, List.set_cons_zero, List.set_cons_succ]
    refine wpAnyH_take (i := 25) (oi := { dst := some 44, op := Op.load 30 (Operand.tmp 43), type := 30, pos := "law.go:23", after := #[{ on := 24, ground := Ground.data }, { on := 21, ground := Ground.guard }], guard := some (21, false) }) (v := ?vvd25) rfl (by kernel_rfl) (by kernel_rfl) (by kernel_rfl) (fun _ _ _ h => h) (Or.inl ⟨by rfl, ?yyd25⟩) hHeld ?rrd25
    case yyd25 => (intro w0 hSw; obtain ⟨n0, n1, n2, n9, n4⟩ := hSw; go_simp; try with_reducible rfl)
    try simp only [Act.put, List.setIfInBounds_toArray, List.set_cons_zero, List.set_cons_succ]
    refine wpAnyH_take (i := 26) (oi := { dst := some 45, op := Op.call { callee := Callee.builtin Builtin.len, args := #[Operand.tmp 44], argTypes := #[30] }, type := 3, pos := "law.go:23", after := #[{ on := 25, ground := Ground.data }, { on := 21, ground := Ground.guard }], guard := some (21, false) }) (v := ?vvd26) rfl (by kernel_rfl) (by kernel_rfl) (by kernel_rfl) (fun _ _ _ h => h) (Or.inl ⟨by rfl, ?yyd26⟩) hHeld ?rrd26
    case yyd26 => (intro w0 hSw; obtain ⟨n0, n1, n2, n9, n4⟩ := hSw; go_simp; try with_reducible rfl)
    try simp only [Act.put, List.setIfInBounds_toArray, List.set_cons_zero, List.set_cons_succ]
    refine wpAnyH_ready (rs := [23]) (by kernel_rfl) (by simp) ?_
    refine AllReadyH.cons (o := { dst := some 42, op := Op.call { callee := Callee.value (Operand.func 43), args := #[Operand.tmp 41], argTypes := #[50] }, type := 3, pos := "law.go:23", after := #[{ on := 22, ground := Ground.data }, { on := 21, ground := Ground.chain }, { on := 21, ground := Ground.guard }], guard := some (21, false) }) rfl (fun K hK => ?_) AllReadyH.nil
    go_simp
    go_at_call 43
    refine (HC.out.2.2.2 _ hHeld.2.2.2.2).mono ?_
    rintro e w8 ⟨rfl, rfl⟩
    refine hK.out _ _ hHeld (fun hHeld => ?_)
    clear hK K
    try simp only [Act.put, List.setIfInBounds_toArray, List.set_cons_zero, List.set_cons_succ]
    refine wpAnyH_take (i := 27) (oi := { dst := some 46, op := Op.binOp BinOp.neq 3 (Operand.tmp 42) (Operand.tmp 45) 3, type := 4, pos := "law.go:23", after := #[{ on := 23, ground := Ground.data }, { on := 26, ground := Ground.data }, { on := 21, ground := Ground.guard }], guard := some (21, false) }) (v := ?vvd27) rfl (by kernel_rfl) (by kernel_rfl) (by kernel_rfl) (fun _ _ _ h => h) (Or.inl ⟨by rfl, ?yyd27⟩) hHeld ?rrd27
    case yyd27 => (intro w0 hSw; obtain ⟨n0, n1, n2, n9, n4⟩ := hSw; go_simp; try with_reducible rfl)
    try simp only [Act.put, List.setIfInBounds_toArray, List.set_cons_zero, List.set_cons_succ]
    try simp only [qI]
    refine wpAnyH_take (i := 28) (oi := { dst := some 47, op := Op.pick (Operand.tmp 40) (Operand.const (Value.bool true)) (Operand.tmp 46), type := 4, pos := "law.go:23", after := #[{ on := 21, ground := Ground.data }, { on := 27, ground := Ground.data }], guard := none }) (v := ?vvd28) rfl (by kernel_rfl) (by kernel_rfl) (by kernel_rfl) (fun _ _ _ h => h) (Or.inl ⟨by rfl, ?yyd28⟩) hHeld ?rrd28
    case yyd28 => (intro w0 hSw; obtain ⟨n0, n1, n2, n9, n4⟩ := hSw; go_simp; try with_reducible rfl)
    try simp only [Act.put, List.setIfInBounds_toArray, List.set_cons_zero, List.set_cons_succ]
    refine wpAnyH_done (by kernel_rfl) ?_ _
    go_wp2_with fail
    go_ret
    exact smb _ hG.out hbw.out.1 hHeld.2.2.2.2
  subst q3
  refine wp_region_held_drew (S := fun w' => w'.cell? ⟨G, 0, none⟩ = some (.slice a0 n' c0) ∧ w'.cell? ⟨G, 1, none⟩ = some (.slice a1 nl c1) ∧ w'.cell? ⟨G, 2, none⟩ = some (.slice a2 nb c2) ∧ w'.cell? ⟨G, 3, none⟩ = some (.slice a3 n3 c3) ∧ Below w1.heap.size w1 w') (by kernel_rfl) (kS.out _ (Below.refl _ w1).drew) (fun hHeld => ?_)
  refine wpAnyH_take (i := 0) (oi := { dst := some 19, op := Op.move (Operand.tmp 5), type := 102, pos := "law.go:23", after := #[], guard := none }) (v := ?vve0) rfl (by kernel_rfl) (by kernel_rfl) (by kernel_rfl) (fun _ _ _ h => h) (Or.inl ⟨by rfl, ?yye0⟩) hHeld ?rre0
  case yye0 => (intro w0 hSw; obtain ⟨n0, n1, n2, n9, n4⟩ := hSw; go_simp; try with_reducible rfl)
  try simp only [Act.put, List.setIfInBounds_toArray, List.set_cons_zero, List.set_cons_succ]
  refine wpAnyH_take (i := 1) (oi := { dst := some 20, op := Op.call { callee := Callee.builtin Builtin.len, args := #[Operand.tmp 19], argTypes := #[102] }, type := 3, pos := "law.go:23", after := #[{ on := 0, ground := Ground.data }], guard := none }) (v := ?vve1) rfl (by kernel_rfl) (by kernel_rfl) (by kernel_rfl) (fun _ _ _ h => h) (Or.inl ⟨by rfl, ?yye1⟩) hHeld ?rre1
  case yye1 => (intro w0 hSw; obtain ⟨n0, n1, n2, n9, n4⟩ := hSw; go_simp; try with_reducible rfl)
  try simp only [Act.put, List.setIfInBounds_toArray, List.set_cons_zero, List.set_cons_succ]
  refine wpAnyH_take (i := 2) (oi := { dst := some 21, op := Op.fieldAddr 38 (Operand.tmp 3) 0, type := 0, pos := "law.go:23", after := #[], guard := none }) (v := ?vve2) rfl (by kernel_rfl) (by kernel_rfl) (by kernel_rfl) (fun _ _ _ h => h) (Or.inl ⟨by rfl, ?yye2⟩) hHeld ?rre2
  case yye2 => (intro w0 hSw; obtain ⟨n0, n1, n2, n9, n4⟩ := hSw; go_simp; try with_reducible rfl)
  try simp only [Act.put, List.setIfInBounds_toArray, List.set_cons_zero, List.set_cons_succ]
  refine wpAnyH_take (i := 3) (oi := { dst := some 22, op := Op.load 34 (Operand.tmp 21), type := 34, pos := "law.go:23", after := #[{ on := 2, ground := Ground.data }], guard := none }) (v := ?vve3) rfl (by kernel_rfl) (by kernel_rfl) (by kernel_rfl) (fun _ _ _ h => h) (Or.inl ⟨by rfl, ?yye3⟩) hHeld ?rre3
  case yye3 => (intro w0 hSw; obtain ⟨n0, n1, n2, n9, n4⟩ := hSw; go_simp; try with_reducible rfl)
  try simp only [Act.put, List.setIfInBounds_toArray, List.set_cons_zero, List.set_cons_succ]
  refine wpAnyH_take (i := 4) (oi := { dst := some 23, op := Op.call { callee := Callee.builtin Builtin.len, args := #[Operand.tmp 22], argTypes := #[34] }, type := 3, pos := "law.go:23", after := #[{ on := 3, ground := Ground.data }], guard := none }) (v := ?vve4) rfl (by kernel_rfl) (by kernel_rfl) (by kernel_rfl) (fun _ _ _ h => h) (Or.inl ⟨by rfl, ?yye4⟩) hHeld ?rre4
  case yye4 => (intro w0 hSw; obtain ⟨n0, n1, n2, n9, n4⟩ := hSw; go_simp; try with_reducible rfl)
  try simp only [Act.put, List.setIfInBounds_toArray, List.set_cons_zero, List.set_cons_succ]
  refine wpAnyH_take (i := 5) (oi := { dst := some 24, op := Op.binOp BinOp.neq 3 (Operand.tmp 20) (Operand.tmp 23) 3, type := 4, pos := "law.go:23", after := #[{ on := 1, ground := Ground.data }, { on := 4, ground := Ground.data }], guard := none }) (v := ?vve5) rfl (by kernel_rfl) (by kernel_rfl) (by kernel_rfl) (fun _ _ _ h => h) (Or.inl ⟨by rfl, ?yye5⟩) hHeld ?rre5
  case yye5 => (intro w0 hSw; obtain ⟨n0, n1, n2, n9, n4⟩ := hSw; go_simp; try with_reducible rfl)
  try simp only [Act.put, List.setIfInBounds_toArray, List.set_cons_zero, List.set_cons_succ]
  try simp only [bne_self_eq_false]
  refine wpAnyH_take (i := 6) (oi := { dst := some 25, op := Op.move (Operand.tmp 24), type := 4, pos := "law.go:23", after := #[{ on := 5, ground := Ground.data }], guard := none }) (v := ?vve6) rfl (by kernel_rfl) (by kernel_rfl) (by kernel_rfl) (fun _ _ _ h => h) (Or.inl ⟨by rfl, ?yye6⟩) hHeld ?rre6
  case yye6 => (intro w0 hSw; obtain ⟨n0, n1, n2, n9, n4⟩ := hSw; go_simp; try with_reducible rfl)
  try simp only [Act.put, List.setIfInBounds_toArray, List.set_cons_zero, List.set_cons_succ]
  refine wpAnyH_take (i := 7) (oi := { dst := some 26, op := Op.move (Operand.tmp 0), type := 50, pos := "law.go:23", after := #[{ on := 6, ground := Ground.guard }], guard := some (6, false) }) (v := ?vve7) rfl (by kernel_rfl) (by kernel_rfl) (by kernel_rfl) (fun _ _ _ h => h) (Or.inl ⟨by rfl, ?yye7⟩) hHeld ?rre7
  case yye7 => (intro w0 hSw; obtain ⟨n0, n1, n2, n9, n4⟩ := hSw; go_simp; try with_reducible rfl)
  try simp only [Act.put, List.setIfInBounds_toArray, List.set_cons_zero, List.set_cons_succ]
  refine wpAnyH_take (i := 9) (oi := { dst := some 28, op := Op.fieldAddr 38 (Operand.tmp 3) 1, type := 0, pos := "law.go:23", after := #[{ on := 6, ground := Ground.guard }], guard := some (6, false) }) (v := ?vve9) rfl (by kernel_rfl) (by kernel_rfl) (by kernel_rfl) (fun _ _ _ h => h) (Or.inl ⟨by rfl, ?yye9⟩) hHeld ?rre9
  case yye9 => (intro w0 hSw; obtain ⟨n0, n1, n2, n9, n4⟩ := hSw; go_simp; try with_reducible rfl)
  try simp only [Act.put, List.setIfInBounds_toArray, List.set_cons_zero, List.set_cons_succ]
  refine wpAnyH_take (i := 10) (oi := { dst := some 29, op := Op.load 35 (Operand.tmp 28), type := 35, pos := "law.go:23", after := #[{ on := 9, ground := Ground.data }, { on := 6, ground := Ground.guard }], guard := some (6, false) }) (v := ?vve10) rfl (by kernel_rfl) (by kernel_rfl) (by kernel_rfl) (fun _ _ _ h => h) (Or.inl ⟨by rfl, ?yye10⟩) hHeld ?rre10
  case yye10 => (intro w0 hSw; obtain ⟨n0, n1, n2, n9, n4⟩ := hSw; go_simp; try with_reducible rfl)
  try simp only [Act.put, List.setIfInBounds_toArray, List.set_cons_zero, List.set_cons_succ]
  refine wpAnyH_take (i := 11) (oi := { dst := some 30, op := Op.call { callee := Callee.builtin Builtin.len, args := #[Operand.tmp 29], argTypes := #[35] }, type := 3, pos := "law.go:23", after := #[{ on := 10, ground := Ground.data }, { on := 6, ground := Ground.guard }], guard := some (6, false) }) (v := ?vve11) rfl (by kernel_rfl) (by kernel_rfl) (by kernel_rfl) (fun _ _ _ h => h) (Or.inl ⟨by rfl, ?yye11⟩) hHeld ?rre11
  case yye11 => (intro w0 hSw; obtain ⟨n0, n1, n2, n9, n4⟩ := hSw; go_simp; try with_reducible rfl)
  try simp only [Act.put, List.setIfInBounds_toArray, List.set_cons_zero, List.set_cons_succ]
  refine wpAnyH_ready (rs := [8]) (by kernel_rfl) (by simp) ?_
  refine AllReadyH.cons (o := { dst := some 27, op := Op.call { callee := Callee.value (Operand.func 40), args := #[Operand.tmp 26], argTypes := #[50] }, type := 3, pos := "law.go:23", after := #[{ on := 7, ground := Ground.data }, { on := 6, ground := Ground.chain }, { on := 6, ground := Ground.guard }], guard := some (6, false) }) rfl (fun K hK => ?_) AllReadyH.nil
  go_simp
  go_at_call 40
  refine (HC.out.1 _ hHeld.2.2.2.2).mono ?_
  rintro e w5 ⟨rfl, b5⟩
  refine hK.out _ _ (kS.out _ (below3 hHeld.2.2.2.2 b5)) (fun hHeld => ?_)
  clear hK K
  try simp only [Act.put, List.setIfInBounds_toArray, List.set_cons_zero, List.set_cons_succ]
  refine wpAnyH_take (i := 12) (oi := { dst := some 31, op := Op.binOp BinOp.neq 3 (Operand.tmp 27) (Operand.tmp 30) 3, type := 4, pos := "law.go:23", after := #[{ on := 8, ground := Ground.data }, { on := 11, ground := Ground.data }, { on := 6, ground := Ground.guard }], guard := some (6, false) }) (v := ?vve12) rfl (by kernel_rfl) (by kernel_rfl) (by kernel_rfl) (fun _ _ _ h => h) (Or.inl ⟨by rfl, ?yye12⟩) hHeld ?rre12
  case yye12 => (intro w0 hSw; obtain ⟨n0, n1, n2, n9, n4⟩ := hSw; go_simp; try with_reducible rfl)
  try simp only [Act.put, List.setIfInBounds_toArray, List.set_cons_zero, List.set_cons_succ]
  try simp only [bne_self_eq_false]
  refine wpAnyH_take (i := 13) (oi := { dst := some 32, op := Op.pick (Operand.tmp 25) (Operand.const (Value.bool true)) (Operand.tmp 31), type := 4, pos := "law.go:23", after := #[{ on := 6, ground := Ground.data }, { on := 12, ground := Ground.data }], guard := none }) (v := ?vve13) rfl (by kernel_rfl) (by kernel_rfl) (by kernel_rfl) (fun _ _ _ h => h) (Or.inl ⟨by rfl, ?yye13⟩) hHeld ?rre13
  case yye13 => (intro w0 hSw; obtain ⟨n0, n1, n2, n9, n4⟩ := hSw; go_simp; try with_reducible rfl)
  try simp only [Act.put, List.setIfInBounds_toArray, List.set_cons_zero, List.set_cons_succ]
  refine wpAnyH_take (i := 14) (oi := { dst := some 33, op := Op.move (Operand.tmp 32), type := 4, pos := "law.go:23", after := #[{ on := 13, ground := Ground.data }, { on := 8, ground := Ground.chain }], guard := none }) (v := ?vve14) rfl (by kernel_rfl) (by kernel_rfl) (by kernel_rfl) (fun _ _ _ h => h) (Or.inl ⟨by rfl, ?yye14⟩) hHeld ?rre14
  case yye14 => (intro w0 hSw; obtain ⟨n0, n1, n2, n9, n4⟩ := hSw; go_simp; try with_reducible rfl)
  try simp only [Act.put, List.setIfInBounds_toArray, List.set_cons_zero, List.set_cons_succ]
  refine wpAnyH_take (i := 15) (oi := { dst := some 34, op := Op.move (Operand.tmp 0), type := 50, pos := "law.go:23", after := #[{ on := 14, ground := Ground.guard }], guard := some (14, false) }) (v := ?vve15) rfl (by kernel_rfl) (by kernel_rfl) (by kernel_rfl) (fun _ _ _ h => h) (Or.inl ⟨by rfl, ?yye15⟩) hHeld ?rre15
  case yye15 => (intro w0 hSw; obtain ⟨n0, n1, n2, n9, n4⟩ := hSw; go_simp; try with_reducible rfl)
  try simp only [Act.put, List.setIfInBounds_toArray, List.set_cons_zero, List.set_cons_succ]
  refine wpAnyH_take (i := 17) (oi := { dst := some 36, op := Op.load 38 (Operand.tmp 3), type := 38, pos := "law.go:23", after := #[{ on := 14, ground := Ground.guard }], guard := some (14, false) }) (v := ?vve17) rfl (by kernel_rfl) (by kernel_rfl) (by kernel_rfl) (fun _ _ _ h => h) (Or.inl ⟨by rfl, ?yye17⟩) hHeld ?rre17
  case yye17 => (intro w0 hSw; obtain ⟨n0, n1, n2, n9, n4⟩ := hSw; go_simp; try with_reducible rfl)
  try simp only [Act.put, List.setIfInBounds_toArray, List.set_cons_zero, List.set_cons_succ]
  refine wpAnyH_ready (rs := [16]) (by kernel_rfl) (by simp) ?_
  refine AllReadyH.cons (o := { dst := some 35, op := Op.call { callee := Callee.value (Operand.func 41), args := #[Operand.tmp 34], argTypes := #[50] }, type := 3, pos := "law.go:23", after := #[{ on := 15, ground := Ground.data }, { on := 14, ground := Ground.chain }, { on := 14, ground := Ground.guard }], guard := some (14, false) }) rfl (fun K hK => ?_) AllReadyH.nil
  go_simp
  go_at_call 41
  refine (HC.out.2.1 _ hHeld.2.2.2.2).mono ?_
  rintro e w6 ⟨rfl, rfl⟩
  refine hK.out _ _ hHeld (fun hHeld => ?_)
  clear hK K
  try simp only [Act.put, List.setIfInBounds_toArray, List.set_cons_zero, List.set_cons_succ]
  refine wpAnyH_ready (rs := [18]) (by kernel_rfl) (by simp) ?_
  refine AllReadyH.cons (o := { dst := some 37, op := Op.call { callee := Callee.value (Operand.func 42), args := #[Operand.tmp 36], argTypes := #[38] }, type := 3, pos := "law.go:23", after := #[{ on := 17, ground := Ground.data }, { on := 16, ground := Ground.chain }, { on := 14, ground := Ground.guard }], guard := some (14, false) }) rfl (fun K hK => ?_) AllReadyH.nil
  go_simp
  go_at_call 42
  refine (HC.out.2.2.1 _ hHeld.2.2.2.2).mono ?_
  rintro e w7 ⟨rfl, b7⟩
  refine hK.out _ _ (kS.out _ (below3 hHeld.2.2.2.2 b7)) (fun hHeld => ?_)
  clear hK K
  try simp only [Act.put, List.setIfInBounds_toArray, List.set_cons_zero, List.set_cons_succ]
  refine wpAnyH_take (i := 19) (oi := { dst := some 38, op := Op.binOp BinOp.neq 3 (Operand.tmp 35) (Operand.tmp 37) 3, type := 4, pos := "law.go:23", after := #[{ on := 16, ground := Ground.data }, { on := 18, ground := Ground.data }, { on := 14, ground := Ground.guard }], guard := some (14, false) }) (v := ?vve19) rfl (by kernel_rfl) (by kernel_rfl) (by kernel_rfl) (fun _ _ _ h => h) (Or.inl ⟨by rfl, ?yye19⟩) hHeld ?rre19
  case yye19 => (intro w0 hSw; obtain ⟨n0, n1, n2, n9, n4⟩ := hSw; go_simp; try with_reducible rfl)
  try simp only [Act.put, List.setIfInBounds_toArray, List.set_cons_zero, List.set_cons_succ]
  try simp only [bne_self_eq_false]
  refine wpAnyH_take (i := 20) (oi := { dst := some 39, op := Op.pick (Operand.tmp 33) (Operand.const (Value.bool true)) (Operand.tmp 38), type := 4, pos := "law.go:23", after := #[{ on := 14, ground := Ground.data }, { on := 19, ground := Ground.data }], guard := none }) (v := ?vve20) rfl (by kernel_rfl) (by kernel_rfl) (by kernel_rfl) (fun _ _ _ h => h) (Or.inl ⟨by rfl, ?yye20⟩) hHeld ?rre20
  case yye20 => (intro w0 hSw; obtain ⟨n0, n1, n2, n9, n4⟩ := hSw; go_simp; try with_reducible rfl)
  try simp only [Act.put, List.setIfInBounds_toArray, List.set_cons_zero, List.set_cons_succ]
  refine wpAnyH_take (i := 21) (oi := { dst := some 40, op := Op.move (Operand.tmp 39), type := 4, pos := "law.go:23", after := #[{ on := 20, ground := Ground.data }, { on := 18, ground := Ground.chain }], guard := none }) (v := ?vve21) rfl (by kernel_rfl) (by kernel_rfl) (by kernel_rfl) (fun _ _ _ h => h) (Or.inl ⟨by rfl, ?yye21⟩) hHeld ?rre21
  case yye21 => (intro w0 hSw; obtain ⟨n0, n1, n2, n9, n4⟩ := hSw; go_simp; try with_reducible rfl)
  try simp only [Act.put, List.setIfInBounds_toArray, List.set_cons_zero, List.set_cons_succ]
  refine wpAnyH_take (i := 22) (oi := { dst := some 41, op := Op.move (Operand.tmp 0), type := 50, pos := "law.go:23", after := #[{ on := 21, ground := Ground.guard }], guard := some (21, false) }) (v := ?vve22) rfl (by kernel_rfl) (by kernel_rfl) (by kernel_rfl) (fun _ _ _ h => h) (Or.inl ⟨by rfl, ?yye22⟩) hHeld ?rre22
  case yye22 => (intro w0 hSw; obtain ⟨n0, n1, n2, n9, n4⟩ := hSw; go_simp; try with_reducible rfl)
  try simp only [Act.put, List.setIfInBounds_toArray, List.set_cons_zero, List.set_cons_succ]
  refine wpAnyH_take (i := 24) (oi := { dst := some 43, op := Op.fieldAddr 38 (Operand.tmp 3) 2, type := 0, pos := "law.go:23", after := #[{ on := 21, ground := Ground.guard }], guard := some (21, false) }) (v := ?vve24) rfl (by kernel_rfl) (by kernel_rfl) (by kernel_rfl) (fun _ _ _ h => h) (Or.inl ⟨by rfl, ?yye24⟩) hHeld ?rre24
  case yye24 => (intro w0 hSw; obtain ⟨n0, n1, n2, n9, n4⟩ := hSw; go_simp; try with_reducible rfl)
  try simp only [Act.put, List.setIfInBounds_toArray, List.set_cons_zero, List.set_cons_succ]
  refine wpAnyH_take (i := 25) (oi := { dst := some 44, op := Op.load 30 (Operand.tmp 43), type := 30, pos := "law.go:23", after := #[{ on := 24, ground := Ground.data }, { on := 21, ground := Ground.guard }], guard := some (21, false) }) (v := ?vve25) rfl (by kernel_rfl) (by kernel_rfl) (by kernel_rfl) (fun _ _ _ h => h) (Or.inl ⟨by rfl, ?yye25⟩) hHeld ?rre25
  case yye25 => (intro w0 hSw; obtain ⟨n0, n1, n2, n9, n4⟩ := hSw; go_simp; try with_reducible rfl)
  try simp only [Act.put, List.setIfInBounds_toArray, List.set_cons_zero, List.set_cons_succ]
  refine wpAnyH_take (i := 26) (oi := { dst := some 45, op := Op.call { callee := Callee.builtin Builtin.len, args := #[Operand.tmp 44], argTypes := #[30] }, type := 3, pos := "law.go:23", after := #[{ on := 25, ground := Ground.data }, { on := 21, ground := Ground.guard }], guard := some (21, false) }) (v := ?vve26) rfl (by kernel_rfl) (by kernel_rfl) (by kernel_rfl) (fun _ _ _ h => h) (Or.inl ⟨by rfl, ?yye26⟩) hHeld ?rre26
  case yye26 => (intro w0 hSw; obtain ⟨n0, n1, n2, n9, n4⟩ := hSw; go_simp; try with_reducible rfl)
  try simp only [Act.put, List.setIfInBounds_toArray, List.set_cons_zero, List.set_cons_succ]
  refine wpAnyH_ready (rs := [23]) (by kernel_rfl) (by simp) ?_
  refine AllReadyH.cons (o := { dst := some 42, op := Op.call { callee := Callee.value (Operand.func 43), args := #[Operand.tmp 41], argTypes := #[50] }, type := 3, pos := "law.go:23", after := #[{ on := 22, ground := Ground.data }, { on := 21, ground := Ground.chain }, { on := 21, ground := Ground.guard }], guard := some (21, false) }) rfl (fun K hK => ?_) AllReadyH.nil
  go_simp
  go_at_call 43
  refine (HC.out.2.2.2 _ hHeld.2.2.2.2).mono ?_
  rintro e w8 ⟨rfl, rfl⟩
  refine hK.out _ _ hHeld (fun hHeld => ?_)
  clear hK K
  try simp only [Act.put, List.setIfInBounds_toArray, List.set_cons_zero, List.set_cons_succ]
  refine wpAnyH_take (i := 27) (oi := { dst := some 46, op := Op.binOp BinOp.neq 3 (Operand.tmp 42) (Operand.tmp 45) 3, type := 4, pos := "law.go:23", after := #[{ on := 23, ground := Ground.data }, { on := 26, ground := Ground.data }, { on := 21, ground := Ground.guard }], guard := some (21, false) }) (v := ?vve27) rfl (by kernel_rfl) (by kernel_rfl) (by kernel_rfl) (fun _ _ _ h => h) (Or.inl ⟨by rfl, ?yye27⟩) hHeld ?rre27
  case yye27 => (intro w0 hSw; obtain ⟨n0, n1, n2, n9, n4⟩ := hSw; go_simp; try with_reducible rfl)
  try simp only [Act.put, List.setIfInBounds_toArray, List.set_cons_zero, List.set_cons_succ]
  try simp only [bne_self_eq_false]
  refine wpAnyH_take (i := 28) (oi := { dst := some 47, op := Op.pick (Operand.tmp 40) (Operand.const (Value.bool true)) (Operand.tmp 46), type := 4, pos := "law.go:23", after := #[{ on := 21, ground := Ground.data }, { on := 27, ground := Ground.data }], guard := none }) (v := ?vve28) rfl (by kernel_rfl) (by kernel_rfl) (by kernel_rfl) (fun _ _ _ h => h) (Or.inl ⟨by rfl, ?yye28⟩) hHeld ?rre28
  case yye28 => (intro w0 hSw; obtain ⟨n0, n1, n2, n9, n4⟩ := hSw; go_simp; try with_reducible rfl)
  try simp only [Act.put, List.setIfInBounds_toArray, List.set_cons_zero, List.set_cons_succ]
  refine wpAnyH_done (by kernel_rfl) ?_ _
  have hb := Hid.mk hHeld.2.2.2.2
  clear b5 b7 HC kS hHeld
  go_upto_region 5 with fail
  go_loopw [6] (fun i wr => ∃ k : Nat, k ≤ n' ∧ i = .int .i64 k ∧ Below w1.heap.size w1 wr) (fun i _ => n' - (intOf i).toNat)
  case atStart => exact ⟨0, Nat.zero_le _, rfl, hb.out⟩
  case round =>
    clear hb
    obtain ⟨k, hk, rfl, hb⟩ := hrel
    have F := FA.out wr hb
    obtain ⟨k0, k1, k2, k3⟩ := F.box.cells
    have hGl := F.box.lt
    by_cases hkn : k < n'
    · have hka : k < (ab s).sp.length := by have := hn.out; omega
      have hkt : k < t.sp.length := by have := hn'.out; omega
      have hkl : k < s.sp.length := by simpa [ab] using hka
      have hx := List.getElem_mem hkl
      have hy := List.getElem_mem hkt
      have hxa : (ab s).sp[k] = (s.sp[k]).a := by simp [ab]
      obtain ⟨g, rfl, hgB, hgl, d0, d1, d2⟩ := F.at'.sp.at3s (j := k) (by simp only [rs, List.length_map]; exact hkt)
      have hge : (rs t).sp.getD k (0, 0, false) = fS (t.sp[k]) := by
        simp only [rs]
        rw [List.getD_eq_getElem?_getD, List.getElem?_map, List.getElem?_eq_getElem hkt]; rfl
      obtain ⟨gl, rfl, hglB, hgll, hlc⟩ := F.ls.at (j := k) (by rw [List.length_map]; exact hka)
      have hle : ((ab s).sp.map svR).getD k [] = svR (s.sp[k]).a := by
        rw [← hxa, List.getD_eq_getElem?_getD, List.getElem?_map, List.getElem?_eq_getElem hka]; rfl
      rw [hge] at d0 d1 d2
      rw [hle] at hlc
      generalize s.sp[k] = x at *
      generalize t.sp[k] = y at *
      replace d0 : wr.cell? ⟨g, k * 3, none⟩ = some (.int .i64 y.id) := d0
      replace d1 : wr.cell? ⟨g, k * 3 + 1, none⟩ = some (.int .i64 y.q) := d1
      replace d2 : wr.cell? ⟨g, k * 3 + 2, none⟩ = some (.bool y.sl) := d2
      have l0 : wr.cell? ⟨gl, k * 4, none⟩ = some (.int .i64 x.id) := hlc 0 (by decide)
      have l1 : wr.cell? ⟨gl, k * 4 + 1, none⟩ = some (.int .i64 x.q) := hlc 1 (by decide)
      have l2 : wr.cell? ⟨gl, k * 4 + 2, none⟩ = some (.int .i64 (x.ps.length : Int)) := hlc 2 (by decide)
      have l3 : wr.cell? ⟨gl, k * 4 + 3, none⟩ = some (.bool x.sl) := hlc 3 (by decide)
      have hgx : gsp s.sp x.id = some x := by
        have h1 : (gsp s.sp x.id).isSome = true := by unfold gsp; rw [List.find?_isSome]; exact ⟨x, hx, by simp⟩
        obtain ⟨z, hz⟩ := Option.isSome_iff_exists.1 h1
        rw [hz, up_one F.st.at'.hS.up (gsp_some hz).1 hx (gsp_some hz).2]
      obtain ⟨z1, z2, z3, z4, zb, hz, hzc⟩ := space_of (s := s) (k15 (HT.out.ids _ hy))
      have hzq : y.id = x.id → z1 = x.id ∧ z2 = x.q ∧ z3 = (x.ps.length : Int) ∧ z4 = x.sl ∧ zb = true := fun e => hz x (by rw [e]; exact hgx)
      have C21 : ∀ W, Below w1.heap.size w1 W → Calls Tryz.prog 44 #[.pointer (some ⟨s.p, 0, none⟩), .int .i64 y.id] W fun e w' => e = .returned (.tuple #[sv z1 z2 z3 z4, .bool zb]) ∧ Below W.heap.size W w' := fun W b => hzc W (FA.out W b).st.at'
      have C39 : ∀ W, Below w1.heap.size w1 W → Calls Tryz.prog 45 #[.agg #[.slice (some ⟨g, 0, none⟩) n' c0, .slice a1 nl c1, .slice a2 nb c2, .slice a3 n3 c3], .int .i64 y.id] W fun e w' => e = .returned (.int .i64 (pL y.id (rs t).lv : Int)) ∧ Below W.heap.size W w' := fun W b => rpages_any (FA.out W b).at' (by have := (lens_rs HT.out).2.1; omega) y.id
      generalize (x.ps.length : Int) = x4 at *
      generalize (pL y.id (rs t).lv : Int) = m at *
      have HK := Hid.mk (And.intro C21 (And.intro C39 (And.intro hb (And.intro F (And.intro l0 (And.intro l1 (And.intro l2 l3)))))))
      replace hzq := Hid.mk hzq
      clear C21 C39 hgx hlc hle hge hxa hkl hka hkt F hz hzc hx hy
      go_upto_region 9 with (first | (go_at_call 44; refine (HK.out.1 _ (below3 hb (below_al wr _))).mono ?_; rintro e w2 ⟨rfl, b2⟩; unfold sv svC))
      have X8 : (w2.alloc (.cells #[.int .i64 z1, .int .i64 z2, .int .i64 z3, .bool z4] 108)).heap[wr.heap.size]? = some (.cells #[.int .i64 y.id, .int .i64 y.q, .bool y.sl] 106 (0, 0)) := by
        have h1 : wr.heap.size < (wr.alloc (.cells #[.int .i64 y.id, .int .i64 y.q, .bool y.sl] 106)).heap.size := by rw [size_alloc]; omega
        exact ((Below.heap_alloc w2 _ _ (Nat.lt_of_lt_of_le h1 b2.size)).trans (b2.block _ h1)).trans (heap_alloc_new wr _)
      have Y8 : (w2.alloc (.cells #[.int .i64 z1, .int .i64 z2, .int .i64 z3, .bool z4] 108)).heap[w2.heap.size]? = some (.cells #[.int .i64 z1, .int .i64 z2, .int .i64 z3, .bool z4] 108 (0, 0)) := heap_alloc_new w2 _
      have B8 : Below wr.heap.size wr (w2.alloc (.cells #[.int .i64 z1, .int .i64 z2, .int .i64 z3, .bool z4] 108)) := below3 (below3 (below_al wr _) b2) (below_al w2 _)
      generalize w2.alloc (.cells #[.int .i64 z1, .int .i64 z2, .int .i64 z3, .bool z4] 108) = W8 at *
      have kS : Hid (∀ w', Below W8.heap.size W8 w' → Below w1.heap.size w1 w' ∧ (w'.cell? ⟨G, 0, none⟩ = some (.slice (some ⟨g, 0, none⟩) n' c0) ∧ w'.cell? ⟨G, 1, none⟩ = some (.slice a1 nl c1) ∧ w'.cell? ⟨G, 2, none⟩ = some (.slice a2 nb c2) ∧ w'.cell? ⟨G, 3, none⟩ = some (.slice a3 n3 c3)) ∧ (w'.cell? ⟨wr.heap.size, 0, none⟩ = some (.int .i64 y.id) ∧ w'.cell? ⟨wr.heap.size, 1, none⟩ = some (.int .i64 y.q) ∧ w'.cell? ⟨wr.heap.size, 2, none⟩ = some (.bool y.sl)) ∧ (w'.cell? ⟨w2.heap.size, 0, none⟩ = some (.int .i64 z1) ∧ w'.cell? ⟨w2.heap.size, 1, none⟩ = some (.int .i64 z2) ∧ w'.cell? ⟨w2.heap.size, 2, none⟩ = some (.int .i64 z3) ∧ w'.cell? ⟨w2.heap.size, 3, none⟩ = some (.bool z4)) ∧ (w'.cell? ⟨gl, k * 4, none⟩ = some (.int .i64 x.id) ∧ w'.cell? ⟨gl, k * 4 + 1, none⟩ = some (.int .i64 x.q) ∧ w'.cell? ⟨gl, k * 4 + 2, none⟩ = some (.int .i64 x4) ∧ w'.cell? ⟨gl, k * 4 + 3, none⟩ = some (.bool x.sl)) ∧ Below W8.heap.size W8 w') := fun w' q => by
        have q2 := below3 B8 q
        have q3 := below3 HK.out.2.2.1 q2
        have hX := (q.block _ (Array.getElem?_eq_some_iff.1 X8).1).trans X8
        have hY := (q.block _ (Array.getElem?_eq_some_iff.1 Y8).1).trans Y8
        refine ⟨q3, (FA.out w' q3).box.cells, ⟨?_, ?_, ?_⟩, ⟨?_, ?_, ?_, ?_⟩, ⟨?_, ?_, ?_, ?_⟩, q⟩
        · rw [cell_of_row w' _ 0 _ 106 _ hX]; rfl
        · rw [cell_of_row w' _ 1 _ 106 _ hX]; rfl
        · rw [cell_of_row w' _ 2 _ 106 _ hX]; rfl
        · rw [cell_of_row w' _ 0 _ 108 _ hY]; rfl
        · rw [cell_of_row w' _ 1 _ 108 _ hY]; rfl
        · rw [cell_of_row w' _ 2 _ 108 _ hY]; rfl
        · rw [cell_of_row w' _ 3 _ 108 _ hY]; rfl
        · exact (q2.cell (p := ⟨gl, k * 4, none⟩) hgll).trans HK.out.2.2.2.2.1
        · exact (q2.cell (p := ⟨gl, k * 4 + 1, none⟩) hgll).trans HK.out.2.2.2.2.2.1
        · exact (q2.cell (p := ⟨gl, k * 4 + 2, none⟩) hgll).trans HK.out.2.2.2.2.2.2.1
        · exact (q2.cell (p := ⟨gl, k * 4 + 3, none⟩) hgll).trans HK.out.2.2.2.2.2.2.2
      clear X8 Y8 B8 k0 k1 k2 k3 d0 d1 d2 l0 l1 l2 l3 b2 hb
      generalize wr.heap.size = gx at *
      generalize w2.heap.size = gy at *
      generalize x.id = x1 at *
      generalize x.q = x2 at *
      generalize x.sl = x3 at *
      generalize y.id = y1 at *
      generalize y.q = y2 at *
      generalize y.sl = y3 at *
      by_cases s1 : y1 = x1
      rotate_left
      · have qI : ((x1 : Int) == (y1 : Int)) = false := by simpa using fun e => s1 e.symm
        refine wp_region_held_drew (S := fun w' => Below w1.heap.size w1 w' ∧ (w'.cell? ⟨G, 0, none⟩ = some (.slice (some ⟨g, 0, none⟩) n' c0) ∧ w'.cell? ⟨G, 1, none⟩ = some (.slice a1 nl c1) ∧ w'.cell? ⟨G, 2, none⟩ = some (.slice a2 nb c2) ∧ w'.cell? ⟨G, 3, none⟩ = some (.slice a3 n3 c3)) ∧ (w'.cell? ⟨gx, 0, none⟩ = some (.int .i64 y1) ∧ w'.cell? ⟨gx, 1, none⟩ = some (.int .i64 y2) ∧ w'.cell? ⟨gx, 2, none⟩ = some (.bool y3)) ∧ (w'.cell? ⟨gy, 0, none⟩ = some (.int .i64 z1) ∧ w'.cell? ⟨gy, 1, none⟩ = some (.int .i64 z2) ∧ w'.cell? ⟨gy, 2, none⟩ = some (.int .i64 z3) ∧ w'.cell? ⟨gy, 3, none⟩ = some (.bool z4)) ∧ (w'.cell? ⟨gl, k * 4, none⟩ = some (.int .i64 x1) ∧ w'.cell? ⟨gl, k * 4 + 1, none⟩ = some (.int .i64 x2) ∧ w'.cell? ⟨gl, k * 4 + 2, none⟩ = some (.int .i64 x4) ∧ w'.cell? ⟨gl, k * 4 + 3, none⟩ = some (.bool x3)) ∧ Below W8.heap.size W8 w') (by kernel_rfl) (kS.out _ (Below.refl _ W8).drew) (fun hHeld => ?_)
        refine wpAnyH_take (i := 0) (oi := { dst := some 66, op := Op.move (Operand.tmp 5), type := 102, pos := "law.go:29", after := #[], guard := none }) (v := ?vvns10) rfl (by kernel_rfl) (by kernel_rfl) (by kernel_rfl) (fun _ _ _ h => h) (Or.inl ⟨by rfl, ?yyns10⟩) hHeld ?rrns10
        case yyns10 => (intro w0 hSw; obtain ⟨m0, ⟨m1, m2, m3, m4⟩, ⟨m5, m6, m7⟩, ⟨m8, m9, m10, m11⟩, ⟨m12, m13, m14, m15⟩, m16⟩ := hSw; go_simp; try with_reducible rfl)
        try simp only [Act.put, List.setIfInBounds_toArray, List.set_cons_zero, List.set_cons_succ]
        refine wpAnyH_take (i := 1) (oi := { dst := some 67, op := Op.move (Operand.tmp 6), type := 3, pos := "law.go:29", after := #[], guard := none }) (v := ?vvns11) rfl (by kernel_rfl) (by kernel_rfl) (by kernel_rfl) (fun _ _ _ h => h) (Or.inl ⟨by rfl, ?yyns11⟩) hHeld ?rrns11
        case yyns11 => (intro w0 hSw; obtain ⟨m0, ⟨m1, m2, m3, m4⟩, ⟨m5, m6, m7⟩, ⟨m8, m9, m10, m11⟩, ⟨m12, m13, m14, m15⟩, m16⟩ := hSw; go_simp; try with_reducible rfl)
        try simp only [Act.put, List.setIfInBounds_toArray, List.set_cons_zero, List.set_cons_succ]
        refine wpAnyH_take (i := 2) (oi := { dst := some 68, op := Op.indexAddr 102 (Operand.tmp 66) (Operand.tmp 67), type := 0, pos := "law.go:29", after := #[{ on := 0, ground := Ground.data }, { on := 1, ground := Ground.data }], guard := none }) (v := ?vvns12) rfl (by kernel_rfl) (by kernel_rfl) (by kernel_rfl) (fun _ _ _ h => h) (Or.inl ⟨by rfl, ?yyns12⟩) hHeld ?rrns12
        case yyns12 => (intro w0 hSw; obtain ⟨m0, ⟨m1, m2, m3, m4⟩, ⟨m5, m6, m7⟩, ⟨m8, m9, m10, m11⟩, ⟨m12, m13, m14, m15⟩, m16⟩ := hSw; go_simp; try with_reducible rfl)
        try simp only [Act.put, List.setIfInBounds_toArray, List.set_cons_zero, List.set_cons_succ]
        refine wpAnyH_take (i := 3) (oi := { dst := some 69, op := Op.load 108 (Operand.tmp 68), type := 108, pos := "law.go:29", after := #[{ on := 2, ground := Ground.data }], guard := none }) (v := ?vvns13) rfl (by kernel_rfl) (by kernel_rfl) (by kernel_rfl) (fun _ _ _ h => h) (Or.inl ⟨by rfl, ?yyns13⟩) hHeld ?rrns13
        case yyns13 => (intro w0 hSw; obtain ⟨m0, ⟨m1, m2, m3, m4⟩, ⟨m5, m6, m7⟩, ⟨m8, m9, m10, m11⟩, ⟨m12, m13, m14, m15⟩, m16⟩ := hSw; go_simp; try with_reducible rfl)
        try simp only [Act.put, List.setIfInBounds_toArray, List.set_cons_zero, List.set_cons_succ]
        refine wpAnyH_take (i := 4) (oi := { dst := some 70, op := Op.fieldAddr 106 (Operand.tmp 7) 0, type := 0, pos := "law.go:29", after := #[], guard := none }) (v := ?vvns14) rfl (by kernel_rfl) (by kernel_rfl) (by kernel_rfl) (fun _ _ _ h => h) (Or.inl ⟨by rfl, ?yyns14⟩) hHeld ?rrns14
        case yyns14 => (intro w0 hSw; obtain ⟨m0, ⟨m1, m2, m3, m4⟩, ⟨m5, m6, m7⟩, ⟨m8, m9, m10, m11⟩, ⟨m12, m13, m14, m15⟩, m16⟩ := hSw; go_simp; try with_reducible rfl)
        try simp only [Act.put, List.setIfInBounds_toArray, List.set_cons_zero, List.set_cons_succ]
        refine wpAnyH_take (i := 5) (oi := { dst := some 71, op := Op.load 3 (Operand.tmp 70), type := 3, pos := "law.go:29", after := #[{ on := 4, ground := Ground.data }], guard := none }) (v := ?vvns15) rfl (by kernel_rfl) (by kernel_rfl) (by kernel_rfl) (fun _ _ _ h => h) (Or.inl ⟨by rfl, ?yyns15⟩) hHeld ?rrns15
        case yyns15 => (intro w0 hSw; obtain ⟨m0, ⟨m1, m2, m3, m4⟩, ⟨m5, m6, m7⟩, ⟨m8, m9, m10, m11⟩, ⟨m12, m13, m14, m15⟩, m16⟩ := hSw; go_simp; try with_reducible rfl)
        try simp only [Act.put, List.setIfInBounds_toArray, List.set_cons_zero, List.set_cons_succ]
        refine wpAnyH_take (i := 6) (oi := { dst := some 72, op := Op.fieldAddr 106 (Operand.tmp 7) 1, type := 0, pos := "law.go:29", after := #[], guard := none }) (v := ?vvns16) rfl (by kernel_rfl) (by kernel_rfl) (by kernel_rfl) (fun _ _ _ h => h) (Or.inl ⟨by rfl, ?yyns16⟩) hHeld ?rrns16
        case yyns16 => (intro w0 hSw; obtain ⟨m0, ⟨m1, m2, m3, m4⟩, ⟨m5, m6, m7⟩, ⟨m8, m9, m10, m11⟩, ⟨m12, m13, m14, m15⟩, m16⟩ := hSw; go_simp; try with_reducible rfl)
        try simp only [Act.put, List.setIfInBounds_toArray, List.set_cons_zero, List.set_cons_succ]
        refine wpAnyH_take (i := 7) (oi := { dst := some 73, op := Op.load 3 (Operand.tmp 72), type := 3, pos := "law.go:29", after := #[{ on := 6, ground := Ground.data }], guard := none }) (v := ?vvns17) rfl (by kernel_rfl) (by kernel_rfl) (by kernel_rfl) (fun _ _ _ h => h) (Or.inl ⟨by rfl, ?yyns17⟩) hHeld ?rrns17
        case yyns17 => (intro w0 hSw; obtain ⟨m0, ⟨m1, m2, m3, m4⟩, ⟨m5, m6, m7⟩, ⟨m8, m9, m10, m11⟩, ⟨m12, m13, m14, m15⟩, m16⟩ := hSw; go_simp; try with_reducible rfl)
        try simp only [Act.put, List.setIfInBounds_toArray, List.set_cons_zero, List.set_cons_succ]
        refine wpAnyH_take (i := 8) (oi := { dst := some 74, op := Op.load 38 (Operand.tmp 3), type := 38, pos := "law.go:29", after := #[], guard := none }) (v := ?vvns18) rfl (by kernel_rfl) (by kernel_rfl) (by kernel_rfl) (fun _ _ _ h => h) (Or.inl ⟨by rfl, ?yyns18⟩) hHeld ?rrns18
        case yyns18 => (intro w0 hSw; obtain ⟨m0, ⟨m1, m2, m3, m4⟩, ⟨m5, m6, m7⟩, ⟨m8, m9, m10, m11⟩, ⟨m12, m13, m14, m15⟩, m16⟩ := hSw; go_simp; try with_reducible rfl)
        try simp only [Act.put, List.setIfInBounds_toArray, List.set_cons_zero, List.set_cons_succ]
        refine wpAnyH_take (i := 9) (oi := { dst := some 75, op := Op.fieldAddr 106 (Operand.tmp 7) 0, type := 0, pos := "law.go:29", after := #[], guard := none }) (v := ?vvns19) rfl (by kernel_rfl) (by kernel_rfl) (by kernel_rfl) (fun _ _ _ h => h) (Or.inl ⟨by rfl, ?yyns19⟩) hHeld ?rrns19
        case yyns19 => (intro w0 hSw; obtain ⟨m0, ⟨m1, m2, m3, m4⟩, ⟨m5, m6, m7⟩, ⟨m8, m9, m10, m11⟩, ⟨m12, m13, m14, m15⟩, m16⟩ := hSw; go_simp; try with_reducible rfl)
        try simp only [Act.put, List.setIfInBounds_toArray, List.set_cons_zero, List.set_cons_succ]
        refine wpAnyH_take (i := 10) (oi := { dst := some 76, op := Op.load 3 (Operand.tmp 75), type := 3, pos := "law.go:29", after := #[{ on := 9, ground := Ground.data }], guard := none }) (v := ?vvns110) rfl (by kernel_rfl) (by kernel_rfl) (by kernel_rfl) (fun _ _ _ h => h) (Or.inl ⟨by rfl, ?yyns110⟩) hHeld ?rrns110
        case yyns110 => (intro w0 hSw; obtain ⟨m0, ⟨m1, m2, m3, m4⟩, ⟨m5, m6, m7⟩, ⟨m8, m9, m10, m11⟩, ⟨m12, m13, m14, m15⟩, m16⟩ := hSw; go_simp; try with_reducible rfl)
        try simp only [Act.put, List.setIfInBounds_toArray, List.set_cons_zero, List.set_cons_succ]
        refine wpAnyH_take (i := 12) (oi := { dst := some 78, op := Op.fieldAddr 106 (Operand.tmp 7) 2, type := 0, pos := "law.go:29", after := #[], guard := none }) (v := ?vvns112) rfl (by kernel_rfl) (by kernel_rfl) (by kernel_rfl) (fun _ _ _ h => h) (Or.inl ⟨by rfl, ?yyns112⟩) hHeld ?rrns112
        case yyns112 => (intro w0 hSw; obtain ⟨m0, ⟨m1, m2, m3, m4⟩, ⟨m5, m6, m7⟩, ⟨m8, m9, m10, m11⟩, ⟨m12, m13, m14, m15⟩, m16⟩ := hSw; go_simp; try with_reducible rfl)
        try simp only [Act.put, List.setIfInBounds_toArray, List.set_cons_zero, List.set_cons_succ]
        refine wpAnyH_take (i := 13) (oi := { dst := some 79, op := Op.load 4 (Operand.tmp 78), type := 4, pos := "law.go:29", after := #[{ on := 12, ground := Ground.data }], guard := none }) (v := ?vvns113) rfl (by kernel_rfl) (by kernel_rfl) (by kernel_rfl) (fun _ _ _ h => h) (Or.inl ⟨by rfl, ?yyns113⟩) hHeld ?rrns113
        case yyns113 => (intro w0 hSw; obtain ⟨m0, ⟨m1, m2, m3, m4⟩, ⟨m5, m6, m7⟩, ⟨m8, m9, m10, m11⟩, ⟨m12, m13, m14, m15⟩, m16⟩ := hSw; go_simp; try with_reducible rfl)
        try simp only [Act.put, List.setIfInBounds_toArray, List.set_cons_zero, List.set_cons_succ]
        refine wpAnyH_ready (rs := [11]) (by kernel_rfl) (by simp) ?_
        refine AllReadyH.cons (o := { dst := some 77, op := Op.call { callee := Callee.value (Operand.func 45), args := #[Operand.tmp 74, Operand.tmp 76], argTypes := #[38, 3] }, type := 3, pos := "law.go:29", after := #[{ on := 8, ground := Ground.data }, { on := 10, ground := Ground.data }], guard := none }) rfl (fun K hK => ?_) AllReadyH.nil
        go_simp
        go_at_call 45
        refine (HK.out.2.1 _ hHeld.1).mono ?_
        rintro e w9 ⟨rfl, b9⟩
        refine hK.out _ _ (kS.out _ (below3 (r6 hHeld) b9)) (fun hHeld => ?_)
        clear hK K
        try simp only [Act.put, List.setIfInBounds_toArray, List.set_cons_zero, List.set_cons_succ]
        refine wpAnyH_take (i := 14) (oi := { dst := some 80, op := Op.build 108 #[(0, Operand.tmp 71), (1, Operand.tmp 73), (2, Operand.tmp 77), (3, Operand.tmp 79)], type := 108, pos := "law.go:29", after := #[{ on := 5, ground := Ground.data }, { on := 7, ground := Ground.data }, { on := 11, ground := Ground.data }, { on := 13, ground := Ground.data }], guard := none }) (v := ?vvns114) rfl (by kernel_rfl) (by kernel_rfl) (by kernel_rfl) (fun _ _ _ h => h) (Or.inl ⟨by rfl, ?yyns114⟩) hHeld ?rrns114
        case yyns114 => (intro w0 hSw; obtain ⟨m0, ⟨m1, m2, m3, m4⟩, ⟨m5, m6, m7⟩, ⟨m8, m9, m10, m11⟩, ⟨m12, m13, m14, m15⟩, m16⟩ := hSw; go_simp; try with_reducible rfl)
        try simp only [Act.put, List.setIfInBounds_toArray, List.set_cons_zero, List.set_cons_succ]
        refine wpAnyH_take (i := 15) (oi := { dst := some 81, op := Op.binOp BinOp.neq 108 (Operand.tmp 69) (Operand.tmp 80) 108, type := 4, pos := "law.go:29", after := #[{ on := 3, ground := Ground.data }, { on := 14, ground := Ground.data }], guard := none }) (v := ?vvns115) rfl (by kernel_rfl) (by kernel_rfl) (by kernel_rfl) (fun _ _ _ h => h) (Or.inl ⟨by rfl, ?yyns115⟩) hHeld ?rrns115
        case yyns115 => (intro w0 hSw; obtain ⟨m0, ⟨m1, m2, m3, m4⟩, ⟨m5, m6, m7⟩, ⟨m8, m9, m10, m11⟩, ⟨m12, m13, m14, m15⟩, m16⟩ := hSw; go_simp; try with_reducible rfl)
        try simp only [Act.put, List.setIfInBounds_toArray, List.set_cons_zero, List.set_cons_succ]
        try simp only [qI, Bool.false_and, Bool.and_false, Bool.not_false, Bool.true_and, beq_self_eq_true, bne, Bool.not_true]
        refine wpAnyH_take (i := 16) (oi := { dst := some 82, op := Op.move (Operand.tmp 81), type := 4, pos := "law.go:29", after := #[{ on := 15, ground := Ground.data }, { on := 11, ground := Ground.chain }], guard := none }) (v := ?vvns116) rfl (by kernel_rfl) (by kernel_rfl) (by kernel_rfl) (fun _ _ _ h => h) (Or.inl ⟨by rfl, ?yyns116⟩) hHeld ?rrns116
        case yyns116 => (intro w0 hSw; obtain ⟨m0, ⟨m1, m2, m3, m4⟩, ⟨m5, m6, m7⟩, ⟨m8, m9, m10, m11⟩, ⟨m12, m13, m14, m15⟩, m16⟩ := hSw; go_simp; try with_reducible rfl)
        try simp only [Act.put, List.setIfInBounds_toArray, List.set_cons_zero, List.set_cons_succ]
        refine wpAnyH_take (i := 17) (oi := { dst := some 83, op := Op.move (Operand.tmp 9), type := 4, pos := "law.go:29", after := #[{ on := 16, ground := Ground.guard }], guard := some (16, false) }) (v := undef) rfl (by kernel_rfl) (by kernel_rfl) (by kernel_rfl) (fun _ _ _ h => h) (Or.inr ⟨by rfl, rfl⟩) hHeld ?_
        try simp only [Act.put, List.setIfInBounds_toArray, List.set_cons_zero, List.set_cons_succ]
        refine wpAnyH_take (i := 18) (oi := { dst := some 84, op := Op.unOp UnOp.not 4 (Operand.tmp 83), type := 4, pos := "law.go:29", after := #[{ on := 17, ground := Ground.data }, { on := 16, ground := Ground.guard }], guard := some (16, false) }) (v := undef) rfl (by kernel_rfl) (by kernel_rfl) (by kernel_rfl) (fun _ _ _ h => h) (Or.inr ⟨by rfl, rfl⟩) hHeld ?_
        try simp only [Act.put, List.setIfInBounds_toArray, List.set_cons_zero, List.set_cons_succ]
        refine wpAnyH_take (i := 19) (oi := { dst := some 85, op := Op.pick (Operand.tmp 82) (Operand.const (Value.bool true)) (Operand.tmp 84), type := 4, pos := "law.go:29", after := #[{ on := 16, ground := Ground.data }, { on := 18, ground := Ground.data }], guard := none }) (v := ?vvns119) rfl (by kernel_rfl) (by kernel_rfl) (by kernel_rfl) (fun _ _ _ h => h) (Or.inl ⟨by rfl, ?yyns119⟩) hHeld ?rrns119
        case yyns119 => (intro w0 hSw; obtain ⟨m0, ⟨m1, m2, m3, m4⟩, ⟨m5, m6, m7⟩, ⟨m8, m9, m10, m11⟩, ⟨m12, m13, m14, m15⟩, m16⟩ := hSw; go_simp; try with_reducible rfl)
        try simp only [Act.put, List.setIfInBounds_toArray, List.set_cons_zero, List.set_cons_succ]
        refine wpAnyH_take (i := 20) (oi := { dst := some 86, op := Op.move (Operand.tmp 85), type := 4, pos := "law.go:29", after := #[{ on := 19, ground := Ground.data }, { on := 16, ground := Ground.chain }], guard := none }) (v := ?vvns120) rfl (by kernel_rfl) (by kernel_rfl) (by kernel_rfl) (fun _ _ _ h => h) (Or.inl ⟨by rfl, ?yyns120⟩) hHeld ?rrns120
        case yyns120 => (intro w0 hSw; obtain ⟨m0, ⟨m1, m2, m3, m4⟩, ⟨m5, m6, m7⟩, ⟨m8, m9, m10, m11⟩, ⟨m12, m13, m14, m15⟩, m16⟩ := hSw; go_simp; try with_reducible rfl)
        try simp only [Act.put, List.setIfInBounds_toArray, List.set_cons_zero, List.set_cons_succ]
        refine wpAnyH_take (i := 21) (oi := { dst := some 87, op := Op.load 108 (Operand.tmp 8), type := 108, pos := "law.go:29", after := #[{ on := 20, ground := Ground.guard }], guard := some (20, false) }) (v := undef) rfl (by kernel_rfl) (by kernel_rfl) (by kernel_rfl) (fun _ _ _ h => h) (Or.inr ⟨by rfl, rfl⟩) hHeld ?_
        try simp only [Act.put, List.setIfInBounds_toArray, List.set_cons_zero, List.set_cons_succ]
        refine wpAnyH_take (i := 22) (oi := { dst := some 88, op := Op.move (Operand.tmp 5), type := 102, pos := "law.go:29", after := #[{ on := 20, ground := Ground.guard }], guard := some (20, false) }) (v := undef) rfl (by kernel_rfl) (by kernel_rfl) (by kernel_rfl) (fun _ _ _ h => h) (Or.inr ⟨by rfl, rfl⟩) hHeld ?_
        try simp only [Act.put, List.setIfInBounds_toArray, List.set_cons_zero, List.set_cons_succ]
        refine wpAnyH_take (i := 23) (oi := { dst := some 89, op := Op.move (Operand.tmp 6), type := 3, pos := "law.go:29", after := #[{ on := 20, ground := Ground.guard }], guard := some (20, false) }) (v := undef) rfl (by kernel_rfl) (by kernel_rfl) (by kernel_rfl) (fun _ _ _ h => h) (Or.inr ⟨by rfl, rfl⟩) hHeld ?_
        try simp only [Act.put, List.setIfInBounds_toArray, List.set_cons_zero, List.set_cons_succ]
        refine wpAnyH_take (i := 24) (oi := { dst := some 90, op := Op.indexAddr 102 (Operand.tmp 88) (Operand.tmp 89), type := 0, pos := "law.go:29", after := #[{ on := 22, ground := Ground.data }, { on := 23, ground := Ground.data }, { on := 20, ground := Ground.guard }], guard := some (20, false) }) (v := undef) rfl (by kernel_rfl) (by kernel_rfl) (by kernel_rfl) (fun _ _ _ h => h) (Or.inr ⟨by rfl, rfl⟩) hHeld ?_
        try simp only [Act.put, List.setIfInBounds_toArray, List.set_cons_zero, List.set_cons_succ]
        refine wpAnyH_take (i := 25) (oi := { dst := some 91, op := Op.load 108 (Operand.tmp 90), type := 108, pos := "law.go:29", after := #[{ on := 24, ground := Ground.data }, { on := 20, ground := Ground.guard }], guard := some (20, false) }) (v := undef) rfl (by kernel_rfl) (by kernel_rfl) (by kernel_rfl) (fun _ _ _ h => h) (Or.inr ⟨by rfl, rfl⟩) hHeld ?_
        try simp only [Act.put, List.setIfInBounds_toArray, List.set_cons_zero, List.set_cons_succ]
        refine wpAnyH_take (i := 26) (oi := { dst := some 92, op := Op.binOp BinOp.neq 108 (Operand.tmp 87) (Operand.tmp 91) 108, type := 4, pos := "law.go:29", after := #[{ on := 21, ground := Ground.data }, { on := 25, ground := Ground.data }, { on := 20, ground := Ground.guard }], guard := some (20, false) }) (v := undef) rfl (by kernel_rfl) (by kernel_rfl) (by kernel_rfl) (fun _ _ _ h => h) (Or.inr ⟨by rfl, rfl⟩) hHeld ?_
        try simp only [Act.put, List.setIfInBounds_toArray, List.set_cons_zero, List.set_cons_succ]
        refine wpAnyH_take (i := 27) (oi := { dst := some 93, op := Op.pick (Operand.tmp 86) (Operand.const (Value.bool true)) (Operand.tmp 92), type := 4, pos := "law.go:29", after := #[{ on := 20, ground := Ground.data }, { on := 26, ground := Ground.data }], guard := none }) (v := ?vvns127) rfl (by kernel_rfl) (by kernel_rfl) (by kernel_rfl) (fun _ _ _ h => h) (Or.inl ⟨by rfl, ?yyns127⟩) hHeld ?rrns127
        case yyns127 => (intro w0 hSw; obtain ⟨m0, ⟨m1, m2, m3, m4⟩, ⟨m5, m6, m7⟩, ⟨m8, m9, m10, m11⟩, ⟨m12, m13, m14, m15⟩, m16⟩ := hSw; go_simp; try with_reducible rfl)
        try simp only [Act.put, List.setIfInBounds_toArray, List.set_cons_zero, List.set_cons_succ]
        refine wpAnyH_done (by kernel_rfl) ?_ _
        go_wp2_with fail
        go_ret
        exact smb _ hG.out hbw.out.1 hHeld.1
      subst s1
      by_cases s2 : y2 = x2
      rotate_left
      · have qI : ((x2 : Int) == (y2 : Int)) = false := by simpa using fun e => s2 e.symm
        refine wp_region_held_drew (S := fun w' => Below w1.heap.size w1 w' ∧ (w'.cell? ⟨G, 0, none⟩ = some (.slice (some ⟨g, 0, none⟩) n' c0) ∧ w'.cell? ⟨G, 1, none⟩ = some (.slice a1 nl c1) ∧ w'.cell? ⟨G, 2, none⟩ = some (.slice a2 nb c2) ∧ w'.cell? ⟨G, 3, none⟩ = some (.slice a3 n3 c3)) ∧ (w'.cell? ⟨gx, 0, none⟩ = some (.int .i64 y1) ∧ w'.cell? ⟨gx, 1, none⟩ = some (.int .i64 y2) ∧ w'.cell? ⟨gx, 2, none⟩ = some (.bool y3)) ∧ (w'.cell? ⟨gy, 0, none⟩ = some (.int .i64 z1) ∧ w'.cell? ⟨gy, 1, none⟩ = some (.int .i64 z2) ∧ w'.cell? ⟨gy, 2, none⟩ = some (.int .i64 z3) ∧ w'.cell? ⟨gy, 3, none⟩ = some (.bool z4)) ∧ (w'.cell? ⟨gl, k * 4, none⟩ = some (.int .i64 y1) ∧ w'.cell? ⟨gl, k * 4 + 1, none⟩ = some (.int .i64 x2) ∧ w'.cell? ⟨gl, k * 4 + 2, none⟩ = some (.int .i64 x4) ∧ w'.cell? ⟨gl, k * 4 + 3, none⟩ = some (.bool x3)) ∧ Below W8.heap.size W8 w') (by kernel_rfl) (kS.out _ (Below.refl _ W8).drew) (fun hHeld => ?_)
        refine wpAnyH_take (i := 0) (oi := { dst := some 66, op := Op.move (Operand.tmp 5), type := 102, pos := "law.go:29", after := #[], guard := none }) (v := ?vvns20) rfl (by kernel_rfl) (by kernel_rfl) (by kernel_rfl) (fun _ _ _ h => h) (Or.inl ⟨by rfl, ?yyns20⟩) hHeld ?rrns20
        case yyns20 => (intro w0 hSw; obtain ⟨m0, ⟨m1, m2, m3, m4⟩, ⟨m5, m6, m7⟩, ⟨m8, m9, m10, m11⟩, ⟨m12, m13, m14, m15⟩, m16⟩ := hSw; go_simp; try with_reducible rfl)
        try simp only [Act.put, List.setIfInBounds_toArray, List.set_cons_zero, List.set_cons_succ]
        refine wpAnyH_take (i := 1) (oi := { dst := some 67, op := Op.move (Operand.tmp 6), type := 3, pos := "law.go:29", after := #[], guard := none }) (v := ?vvns21) rfl (by kernel_rfl) (by kernel_rfl) (by kernel_rfl) (fun _ _ _ h => h) (Or.inl ⟨by rfl, ?yyns21⟩) hHeld ?rrns21
        case yyns21 => (intro w0 hSw; obtain ⟨m0, ⟨m1, m2, m3, m4⟩, ⟨m5, m6, m7⟩, ⟨m8, m9, m10, m11⟩, ⟨m12, m13, m14, m15⟩, m16⟩ := hSw; go_simp; try with_reducible rfl)
        try simp only [Act.put, List.setIfInBounds_toArray, List.set_cons_zero, List.set_cons_succ]
        refine wpAnyH_take (i := 2) (oi := { dst := some 68, op := Op.indexAddr 102 (Operand.tmp 66) (Operand.tmp 67), type := 0, pos := "law.go:29", after := #[{ on := 0, ground := Ground.data }, { on := 1, ground := Ground.data }], guard := none }) (v := ?vvns22) rfl (by kernel_rfl) (by kernel_rfl) (by kernel_rfl) (fun _ _ _ h => h) (Or.inl ⟨by rfl, ?yyns22⟩) hHeld ?rrns22
        case yyns22 => (intro w0 hSw; obtain ⟨m0, ⟨m1, m2, m3, m4⟩, ⟨m5, m6, m7⟩, ⟨m8, m9, m10, m11⟩, ⟨m12, m13, m14, m15⟩, m16⟩ := hSw; go_simp; try with_reducible rfl)
        try simp only [Act.put, List.setIfInBounds_toArray, List.set_cons_zero, List.set_cons_succ]
        refine wpAnyH_take (i := 3) (oi := { dst := some 69, op := Op.load 108 (Operand.tmp 68), type := 108, pos := "law.go:29", after := #[{ on := 2, ground := Ground.data }], guard := none }) (v := ?vvns23) rfl (by kernel_rfl) (by kernel_rfl) (by kernel_rfl) (fun _ _ _ h => h) (Or.inl ⟨by rfl, ?yyns23⟩) hHeld ?rrns23
        case yyns23 => (intro w0 hSw; obtain ⟨m0, ⟨m1, m2, m3, m4⟩, ⟨m5, m6, m7⟩, ⟨m8, m9, m10, m11⟩, ⟨m12, m13, m14, m15⟩, m16⟩ := hSw; go_simp; try with_reducible rfl)
        try simp only [Act.put, List.setIfInBounds_toArray, List.set_cons_zero, List.set_cons_succ]
        refine wpAnyH_take (i := 4) (oi := { dst := some 70, op := Op.fieldAddr 106 (Operand.tmp 7) 0, type := 0, pos := "law.go:29", after := #[], guard := none }) (v := ?vvns24) rfl (by kernel_rfl) (by kernel_rfl) (by kernel_rfl) (fun _ _ _ h => h) (Or.inl ⟨by rfl, ?yyns24⟩) hHeld ?rrns24
        case yyns24 => (intro w0 hSw; obtain ⟨m0, ⟨m1, m2, m3, m4⟩, ⟨m5, m6, m7⟩, ⟨m8, m9, m10, m11⟩, ⟨m12, m13, m14, m15⟩, m16⟩ := hSw; go_simp; try with_reducible rfl)
        try simp only [Act.put, List.setIfInBounds_toArray, List.set_cons_zero, List.set_cons_succ]
        refine wpAnyH_take (i := 5) (oi := { dst := some 71, op := Op.load 3 (Operand.tmp 70), type := 3, pos := "law.go:29", after := #[{ on := 4, ground := Ground.data }], guard := none }) (v := ?vvns25) rfl (by kernel_rfl) (by kernel_rfl) (by kernel_rfl) (fun _ _ _ h => h) (Or.inl ⟨by rfl, ?yyns25⟩) hHeld ?rrns25
        case yyns25 => (intro w0 hSw; obtain ⟨m0, ⟨m1, m2, m3, m4⟩, ⟨m5, m6, m7⟩, ⟨m8, m9, m10, m11⟩, ⟨m12, m13, m14, m15⟩, m16⟩ := hSw; go_simp; try with_reducible rfl)
        try simp only [Act.put, List.setIfInBounds_toArray, List.set_cons_zero, List.set_cons_succ]
        refine wpAnyH_take (i := 6) (oi := { dst := some 72, op := Op.fieldAddr 106 (Operand.tmp 7) 1, type := 0, pos := "law.go:29", after := #[], guard := none }) (v := ?vvns26) rfl (by kernel_rfl) (by kernel_rfl) (by kernel_rfl) (fun _ _ _ h => h) (Or.inl ⟨by rfl, ?yyns26⟩) hHeld ?rrns26
        case yyns26 => (intro w0 hSw; obtain ⟨m0, ⟨m1, m2, m3, m4⟩, ⟨m5, m6, m7⟩, ⟨m8, m9, m10, m11⟩, ⟨m12, m13, m14, m15⟩, m16⟩ := hSw; go_simp; try with_reducible rfl)
        try simp only [Act.put, List.setIfInBounds_toArray, List.set_cons_zero, List.set_cons_succ]
        refine wpAnyH_take (i := 7) (oi := { dst := some 73, op := Op.load 3 (Operand.tmp 72), type := 3, pos := "law.go:29", after := #[{ on := 6, ground := Ground.data }], guard := none }) (v := ?vvns27) rfl (by kernel_rfl) (by kernel_rfl) (by kernel_rfl) (fun _ _ _ h => h) (Or.inl ⟨by rfl, ?yyns27⟩) hHeld ?rrns27
        case yyns27 => (intro w0 hSw; obtain ⟨m0, ⟨m1, m2, m3, m4⟩, ⟨m5, m6, m7⟩, ⟨m8, m9, m10, m11⟩, ⟨m12, m13, m14, m15⟩, m16⟩ := hSw; go_simp; try with_reducible rfl)
        try simp only [Act.put, List.setIfInBounds_toArray, List.set_cons_zero, List.set_cons_succ]
        refine wpAnyH_take (i := 8) (oi := { dst := some 74, op := Op.load 38 (Operand.tmp 3), type := 38, pos := "law.go:29", after := #[], guard := none }) (v := ?vvns28) rfl (by kernel_rfl) (by kernel_rfl) (by kernel_rfl) (fun _ _ _ h => h) (Or.inl ⟨by rfl, ?yyns28⟩) hHeld ?rrns28
        case yyns28 => (intro w0 hSw; obtain ⟨m0, ⟨m1, m2, m3, m4⟩, ⟨m5, m6, m7⟩, ⟨m8, m9, m10, m11⟩, ⟨m12, m13, m14, m15⟩, m16⟩ := hSw; go_simp; try with_reducible rfl)
        try simp only [Act.put, List.setIfInBounds_toArray, List.set_cons_zero, List.set_cons_succ]
        refine wpAnyH_take (i := 9) (oi := { dst := some 75, op := Op.fieldAddr 106 (Operand.tmp 7) 0, type := 0, pos := "law.go:29", after := #[], guard := none }) (v := ?vvns29) rfl (by kernel_rfl) (by kernel_rfl) (by kernel_rfl) (fun _ _ _ h => h) (Or.inl ⟨by rfl, ?yyns29⟩) hHeld ?rrns29
        case yyns29 => (intro w0 hSw; obtain ⟨m0, ⟨m1, m2, m3, m4⟩, ⟨m5, m6, m7⟩, ⟨m8, m9, m10, m11⟩, ⟨m12, m13, m14, m15⟩, m16⟩ := hSw; go_simp; try with_reducible rfl)
        try simp only [Act.put, List.setIfInBounds_toArray, List.set_cons_zero, List.set_cons_succ]
        refine wpAnyH_take (i := 10) (oi := { dst := some 76, op := Op.load 3 (Operand.tmp 75), type := 3, pos := "law.go:29", after := #[{ on := 9, ground := Ground.data }], guard := none }) (v := ?vvns210) rfl (by kernel_rfl) (by kernel_rfl) (by kernel_rfl) (fun _ _ _ h => h) (Or.inl ⟨by rfl, ?yyns210⟩) hHeld ?rrns210
        case yyns210 => (intro w0 hSw; obtain ⟨m0, ⟨m1, m2, m3, m4⟩, ⟨m5, m6, m7⟩, ⟨m8, m9, m10, m11⟩, ⟨m12, m13, m14, m15⟩, m16⟩ := hSw; go_simp; try with_reducible rfl)
        try simp only [Act.put, List.setIfInBounds_toArray, List.set_cons_zero, List.set_cons_succ]
        refine wpAnyH_take (i := 12) (oi := { dst := some 78, op := Op.fieldAddr 106 (Operand.tmp 7) 2, type := 0, pos := "law.go:29", after := #[], guard := none }) (v := ?vvns212) rfl (by kernel_rfl) (by kernel_rfl) (by kernel_rfl) (fun _ _ _ h => h) (Or.inl ⟨by rfl, ?yyns212⟩) hHeld ?rrns212
        case yyns212 => (intro w0 hSw; obtain ⟨m0, ⟨m1, m2, m3, m4⟩, ⟨m5, m6, m7⟩, ⟨m8, m9, m10, m11⟩, ⟨m12, m13, m14, m15⟩, m16⟩ := hSw; go_simp; try with_reducible rfl)
        try simp only [Act.put, List.setIfInBounds_toArray, List.set_cons_zero, List.set_cons_succ]
        refine wpAnyH_take (i := 13) (oi := { dst := some 79, op := Op.load 4 (Operand.tmp 78), type := 4, pos := "law.go:29", after := #[{ on := 12, ground := Ground.data }], guard := none }) (v := ?vvns213) rfl (by kernel_rfl) (by kernel_rfl) (by kernel_rfl) (fun _ _ _ h => h) (Or.inl ⟨by rfl, ?yyns213⟩) hHeld ?rrns213
        case yyns213 => (intro w0 hSw; obtain ⟨m0, ⟨m1, m2, m3, m4⟩, ⟨m5, m6, m7⟩, ⟨m8, m9, m10, m11⟩, ⟨m12, m13, m14, m15⟩, m16⟩ := hSw; go_simp; try with_reducible rfl)
        try simp only [Act.put, List.setIfInBounds_toArray, List.set_cons_zero, List.set_cons_succ]
        refine wpAnyH_ready (rs := [11]) (by kernel_rfl) (by simp) ?_
        refine AllReadyH.cons (o := { dst := some 77, op := Op.call { callee := Callee.value (Operand.func 45), args := #[Operand.tmp 74, Operand.tmp 76], argTypes := #[38, 3] }, type := 3, pos := "law.go:29", after := #[{ on := 8, ground := Ground.data }, { on := 10, ground := Ground.data }], guard := none }) rfl (fun K hK => ?_) AllReadyH.nil
        go_simp
        go_at_call 45
        refine (HK.out.2.1 _ hHeld.1).mono ?_
        rintro e w9 ⟨rfl, b9⟩
        refine hK.out _ _ (kS.out _ (below3 (r6 hHeld) b9)) (fun hHeld => ?_)
        clear hK K
        try simp only [Act.put, List.setIfInBounds_toArray, List.set_cons_zero, List.set_cons_succ]
        refine wpAnyH_take (i := 14) (oi := { dst := some 80, op := Op.build 108 #[(0, Operand.tmp 71), (1, Operand.tmp 73), (2, Operand.tmp 77), (3, Operand.tmp 79)], type := 108, pos := "law.go:29", after := #[{ on := 5, ground := Ground.data }, { on := 7, ground := Ground.data }, { on := 11, ground := Ground.data }, { on := 13, ground := Ground.data }], guard := none }) (v := ?vvns214) rfl (by kernel_rfl) (by kernel_rfl) (by kernel_rfl) (fun _ _ _ h => h) (Or.inl ⟨by rfl, ?yyns214⟩) hHeld ?rrns214
        case yyns214 => (intro w0 hSw; obtain ⟨m0, ⟨m1, m2, m3, m4⟩, ⟨m5, m6, m7⟩, ⟨m8, m9, m10, m11⟩, ⟨m12, m13, m14, m15⟩, m16⟩ := hSw; go_simp; try with_reducible rfl)
        try simp only [Act.put, List.setIfInBounds_toArray, List.set_cons_zero, List.set_cons_succ]
        refine wpAnyH_take (i := 15) (oi := { dst := some 81, op := Op.binOp BinOp.neq 108 (Operand.tmp 69) (Operand.tmp 80) 108, type := 4, pos := "law.go:29", after := #[{ on := 3, ground := Ground.data }, { on := 14, ground := Ground.data }], guard := none }) (v := ?vvns215) rfl (by kernel_rfl) (by kernel_rfl) (by kernel_rfl) (fun _ _ _ h => h) (Or.inl ⟨by rfl, ?yyns215⟩) hHeld ?rrns215
        case yyns215 => (intro w0 hSw; obtain ⟨m0, ⟨m1, m2, m3, m4⟩, ⟨m5, m6, m7⟩, ⟨m8, m9, m10, m11⟩, ⟨m12, m13, m14, m15⟩, m16⟩ := hSw; go_simp; try with_reducible rfl)
        try simp only [Act.put, List.setIfInBounds_toArray, List.set_cons_zero, List.set_cons_succ]
        try simp only [qI, Bool.false_and, Bool.and_false, Bool.not_false, Bool.true_and, beq_self_eq_true, bne, Bool.not_true]
        refine wpAnyH_take (i := 16) (oi := { dst := some 82, op := Op.move (Operand.tmp 81), type := 4, pos := "law.go:29", after := #[{ on := 15, ground := Ground.data }, { on := 11, ground := Ground.chain }], guard := none }) (v := ?vvns216) rfl (by kernel_rfl) (by kernel_rfl) (by kernel_rfl) (fun _ _ _ h => h) (Or.inl ⟨by rfl, ?yyns216⟩) hHeld ?rrns216
        case yyns216 => (intro w0 hSw; obtain ⟨m0, ⟨m1, m2, m3, m4⟩, ⟨m5, m6, m7⟩, ⟨m8, m9, m10, m11⟩, ⟨m12, m13, m14, m15⟩, m16⟩ := hSw; go_simp; try with_reducible rfl)
        try simp only [Act.put, List.setIfInBounds_toArray, List.set_cons_zero, List.set_cons_succ]
        refine wpAnyH_take (i := 17) (oi := { dst := some 83, op := Op.move (Operand.tmp 9), type := 4, pos := "law.go:29", after := #[{ on := 16, ground := Ground.guard }], guard := some (16, false) }) (v := undef) rfl (by kernel_rfl) (by kernel_rfl) (by kernel_rfl) (fun _ _ _ h => h) (Or.inr ⟨by rfl, rfl⟩) hHeld ?_
        try simp only [Act.put, List.setIfInBounds_toArray, List.set_cons_zero, List.set_cons_succ]
        refine wpAnyH_take (i := 18) (oi := { dst := some 84, op := Op.unOp UnOp.not 4 (Operand.tmp 83), type := 4, pos := "law.go:29", after := #[{ on := 17, ground := Ground.data }, { on := 16, ground := Ground.guard }], guard := some (16, false) }) (v := undef) rfl (by kernel_rfl) (by kernel_rfl) (by kernel_rfl) (fun _ _ _ h => h) (Or.inr ⟨by rfl, rfl⟩) hHeld ?_
        try simp only [Act.put, List.setIfInBounds_toArray, List.set_cons_zero, List.set_cons_succ]
        refine wpAnyH_take (i := 19) (oi := { dst := some 85, op := Op.pick (Operand.tmp 82) (Operand.const (Value.bool true)) (Operand.tmp 84), type := 4, pos := "law.go:29", after := #[{ on := 16, ground := Ground.data }, { on := 18, ground := Ground.data }], guard := none }) (v := ?vvns219) rfl (by kernel_rfl) (by kernel_rfl) (by kernel_rfl) (fun _ _ _ h => h) (Or.inl ⟨by rfl, ?yyns219⟩) hHeld ?rrns219
        case yyns219 => (intro w0 hSw; obtain ⟨m0, ⟨m1, m2, m3, m4⟩, ⟨m5, m6, m7⟩, ⟨m8, m9, m10, m11⟩, ⟨m12, m13, m14, m15⟩, m16⟩ := hSw; go_simp; try with_reducible rfl)
        try simp only [Act.put, List.setIfInBounds_toArray, List.set_cons_zero, List.set_cons_succ]
        refine wpAnyH_take (i := 20) (oi := { dst := some 86, op := Op.move (Operand.tmp 85), type := 4, pos := "law.go:29", after := #[{ on := 19, ground := Ground.data }, { on := 16, ground := Ground.chain }], guard := none }) (v := ?vvns220) rfl (by kernel_rfl) (by kernel_rfl) (by kernel_rfl) (fun _ _ _ h => h) (Or.inl ⟨by rfl, ?yyns220⟩) hHeld ?rrns220
        case yyns220 => (intro w0 hSw; obtain ⟨m0, ⟨m1, m2, m3, m4⟩, ⟨m5, m6, m7⟩, ⟨m8, m9, m10, m11⟩, ⟨m12, m13, m14, m15⟩, m16⟩ := hSw; go_simp; try with_reducible rfl)
        try simp only [Act.put, List.setIfInBounds_toArray, List.set_cons_zero, List.set_cons_succ]
        refine wpAnyH_take (i := 21) (oi := { dst := some 87, op := Op.load 108 (Operand.tmp 8), type := 108, pos := "law.go:29", after := #[{ on := 20, ground := Ground.guard }], guard := some (20, false) }) (v := undef) rfl (by kernel_rfl) (by kernel_rfl) (by kernel_rfl) (fun _ _ _ h => h) (Or.inr ⟨by rfl, rfl⟩) hHeld ?_
        try simp only [Act.put, List.setIfInBounds_toArray, List.set_cons_zero, List.set_cons_succ]
        refine wpAnyH_take (i := 22) (oi := { dst := some 88, op := Op.move (Operand.tmp 5), type := 102, pos := "law.go:29", after := #[{ on := 20, ground := Ground.guard }], guard := some (20, false) }) (v := undef) rfl (by kernel_rfl) (by kernel_rfl) (by kernel_rfl) (fun _ _ _ h => h) (Or.inr ⟨by rfl, rfl⟩) hHeld ?_
        try simp only [Act.put, List.setIfInBounds_toArray, List.set_cons_zero, List.set_cons_succ]
        refine wpAnyH_take (i := 23) (oi := { dst := some 89, op := Op.move (Operand.tmp 6), type := 3, pos := "law.go:29", after := #[{ on := 20, ground := Ground.guard }], guard := some (20, false) }) (v := undef) rfl (by kernel_rfl) (by kernel_rfl) (by kernel_rfl) (fun _ _ _ h => h) (Or.inr ⟨by rfl, rfl⟩) hHeld ?_
        try simp only [Act.put, List.setIfInBounds_toArray, List.set_cons_zero, List.set_cons_succ]
        refine wpAnyH_take (i := 24) (oi := { dst := some 90, op := Op.indexAddr 102 (Operand.tmp 88) (Operand.tmp 89), type := 0, pos := "law.go:29", after := #[{ on := 22, ground := Ground.data }, { on := 23, ground := Ground.data }, { on := 20, ground := Ground.guard }], guard := some (20, false) }) (v := undef) rfl (by kernel_rfl) (by kernel_rfl) (by kernel_rfl) (fun _ _ _ h => h) (Or.inr ⟨by rfl, rfl⟩) hHeld ?_
        try simp only [Act.put, List.setIfInBounds_toArray, List.set_cons_zero, List.set_cons_succ]
        refine wpAnyH_take (i := 25) (oi := { dst := some 91, op := Op.load 108 (Operand.tmp 90), type := 108, pos := "law.go:29", after := #[{ on := 24, ground := Ground.data }, { on := 20, ground := Ground.guard }], guard := some (20, false) }) (v := undef) rfl (by kernel_rfl) (by kernel_rfl) (by kernel_rfl) (fun _ _ _ h => h) (Or.inr ⟨by rfl, rfl⟩) hHeld ?_
        try simp only [Act.put, List.setIfInBounds_toArray, List.set_cons_zero, List.set_cons_succ]
        refine wpAnyH_take (i := 26) (oi := { dst := some 92, op := Op.binOp BinOp.neq 108 (Operand.tmp 87) (Operand.tmp 91) 108, type := 4, pos := "law.go:29", after := #[{ on := 21, ground := Ground.data }, { on := 25, ground := Ground.data }, { on := 20, ground := Ground.guard }], guard := some (20, false) }) (v := undef) rfl (by kernel_rfl) (by kernel_rfl) (by kernel_rfl) (fun _ _ _ h => h) (Or.inr ⟨by rfl, rfl⟩) hHeld ?_
        try simp only [Act.put, List.setIfInBounds_toArray, List.set_cons_zero, List.set_cons_succ]
        refine wpAnyH_take (i := 27) (oi := { dst := some 93, op := Op.pick (Operand.tmp 86) (Operand.const (Value.bool true)) (Operand.tmp 92), type := 4, pos := "law.go:29", after := #[{ on := 20, ground := Ground.data }, { on := 26, ground := Ground.data }], guard := none }) (v := ?vvns227) rfl (by kernel_rfl) (by kernel_rfl) (by kernel_rfl) (fun _ _ _ h => h) (Or.inl ⟨by rfl, ?yyns227⟩) hHeld ?rrns227
        case yyns227 => (intro w0 hSw; obtain ⟨m0, ⟨m1, m2, m3, m4⟩, ⟨m5, m6, m7⟩, ⟨m8, m9, m10, m11⟩, ⟨m12, m13, m14, m15⟩, m16⟩ := hSw; go_simp; try with_reducible rfl)
        try simp only [Act.put, List.setIfInBounds_toArray, List.set_cons_zero, List.set_cons_succ]
        refine wpAnyH_done (by kernel_rfl) ?_ _
        go_wp2_with fail
        go_ret
        exact smb _ hG.out hbw.out.1 hHeld.1
      subst s2
      by_cases s3 : m = x4
      rotate_left
      · have qI : ((x4 : Int) == (m : Int)) = false := by simpa using fun e => s3 e.symm
        refine wp_region_held_drew (S := fun w' => Below w1.heap.size w1 w' ∧ (w'.cell? ⟨G, 0, none⟩ = some (.slice (some ⟨g, 0, none⟩) n' c0) ∧ w'.cell? ⟨G, 1, none⟩ = some (.slice a1 nl c1) ∧ w'.cell? ⟨G, 2, none⟩ = some (.slice a2 nb c2) ∧ w'.cell? ⟨G, 3, none⟩ = some (.slice a3 n3 c3)) ∧ (w'.cell? ⟨gx, 0, none⟩ = some (.int .i64 y1) ∧ w'.cell? ⟨gx, 1, none⟩ = some (.int .i64 y2) ∧ w'.cell? ⟨gx, 2, none⟩ = some (.bool y3)) ∧ (w'.cell? ⟨gy, 0, none⟩ = some (.int .i64 z1) ∧ w'.cell? ⟨gy, 1, none⟩ = some (.int .i64 z2) ∧ w'.cell? ⟨gy, 2, none⟩ = some (.int .i64 z3) ∧ w'.cell? ⟨gy, 3, none⟩ = some (.bool z4)) ∧ (w'.cell? ⟨gl, k * 4, none⟩ = some (.int .i64 y1) ∧ w'.cell? ⟨gl, k * 4 + 1, none⟩ = some (.int .i64 y2) ∧ w'.cell? ⟨gl, k * 4 + 2, none⟩ = some (.int .i64 x4) ∧ w'.cell? ⟨gl, k * 4 + 3, none⟩ = some (.bool x3)) ∧ Below W8.heap.size W8 w') (by kernel_rfl) (kS.out _ (Below.refl _ W8).drew) (fun hHeld => ?_)
        refine wpAnyH_take (i := 0) (oi := { dst := some 66, op := Op.move (Operand.tmp 5), type := 102, pos := "law.go:29", after := #[], guard := none }) (v := ?vvns30) rfl (by kernel_rfl) (by kernel_rfl) (by kernel_rfl) (fun _ _ _ h => h) (Or.inl ⟨by rfl, ?yyns30⟩) hHeld ?rrns30
        case yyns30 => (intro w0 hSw; obtain ⟨m0, ⟨m1, m2, m3, m4⟩, ⟨m5, m6, m7⟩, ⟨m8, m9, m10, m11⟩, ⟨m12, m13, m14, m15⟩, m16⟩ := hSw; go_simp; try with_reducible rfl)
        try simp only [Act.put, List.setIfInBounds_toArray, List.set_cons_zero, List.set_cons_succ]
        refine wpAnyH_take (i := 1) (oi := { dst := some 67, op := Op.move (Operand.tmp 6), type := 3, pos := "law.go:29", after := #[], guard := none }) (v := ?vvns31) rfl (by kernel_rfl) (by kernel_rfl) (by kernel_rfl) (fun _ _ _ h => h) (Or.inl ⟨by rfl, ?yyns31⟩) hHeld ?rrns31
        case yyns31 => (intro w0 hSw; obtain ⟨m0, ⟨m1, m2, m3, m4⟩, ⟨m5, m6, m7⟩, ⟨m8, m9, m10, m11⟩, ⟨m12, m13, m14, m15⟩, m16⟩ := hSw; go_simp; try with_reducible rfl)
        try simp only [Act.put, List.setIfInBounds_toArray, List.set_cons_zero, List.set_cons_succ]
        refine wpAnyH_take (i := 2) (oi := { dst := some 68, op := Op.indexAddr 102 (Operand.tmp 66) (Operand.tmp 67), type := 0, pos := "law.go:29", after := #[{ on := 0, ground := Ground.data }, { on := 1, ground := Ground.data }], guard := none }) (v := ?vvns32) rfl (by kernel_rfl) (by kernel_rfl) (by kernel_rfl) (fun _ _ _ h => h) (Or.inl ⟨by rfl, ?yyns32⟩) hHeld ?rrns32
        case yyns32 => (intro w0 hSw; obtain ⟨m0, ⟨m1, m2, m3, m4⟩, ⟨m5, m6, m7⟩, ⟨m8, m9, m10, m11⟩, ⟨m12, m13, m14, m15⟩, m16⟩ := hSw; go_simp; try with_reducible rfl)
        try simp only [Act.put, List.setIfInBounds_toArray, List.set_cons_zero, List.set_cons_succ]
        refine wpAnyH_take (i := 3) (oi := { dst := some 69, op := Op.load 108 (Operand.tmp 68), type := 108, pos := "law.go:29", after := #[{ on := 2, ground := Ground.data }], guard := none }) (v := ?vvns33) rfl (by kernel_rfl) (by kernel_rfl) (by kernel_rfl) (fun _ _ _ h => h) (Or.inl ⟨by rfl, ?yyns33⟩) hHeld ?rrns33
        case yyns33 => (intro w0 hSw; obtain ⟨m0, ⟨m1, m2, m3, m4⟩, ⟨m5, m6, m7⟩, ⟨m8, m9, m10, m11⟩, ⟨m12, m13, m14, m15⟩, m16⟩ := hSw; go_simp; try with_reducible rfl)
        try simp only [Act.put, List.setIfInBounds_toArray, List.set_cons_zero, List.set_cons_succ]
        refine wpAnyH_take (i := 4) (oi := { dst := some 70, op := Op.fieldAddr 106 (Operand.tmp 7) 0, type := 0, pos := "law.go:29", after := #[], guard := none }) (v := ?vvns34) rfl (by kernel_rfl) (by kernel_rfl) (by kernel_rfl) (fun _ _ _ h => h) (Or.inl ⟨by rfl, ?yyns34⟩) hHeld ?rrns34
        case yyns34 => (intro w0 hSw; obtain ⟨m0, ⟨m1, m2, m3, m4⟩, ⟨m5, m6, m7⟩, ⟨m8, m9, m10, m11⟩, ⟨m12, m13, m14, m15⟩, m16⟩ := hSw; go_simp; try with_reducible rfl)
        try simp only [Act.put, List.setIfInBounds_toArray, List.set_cons_zero, List.set_cons_succ]
        refine wpAnyH_take (i := 5) (oi := { dst := some 71, op := Op.load 3 (Operand.tmp 70), type := 3, pos := "law.go:29", after := #[{ on := 4, ground := Ground.data }], guard := none }) (v := ?vvns35) rfl (by kernel_rfl) (by kernel_rfl) (by kernel_rfl) (fun _ _ _ h => h) (Or.inl ⟨by rfl, ?yyns35⟩) hHeld ?rrns35
        case yyns35 => (intro w0 hSw; obtain ⟨m0, ⟨m1, m2, m3, m4⟩, ⟨m5, m6, m7⟩, ⟨m8, m9, m10, m11⟩, ⟨m12, m13, m14, m15⟩, m16⟩ := hSw; go_simp; try with_reducible rfl)
        try simp only [Act.put, List.setIfInBounds_toArray, List.set_cons_zero, List.set_cons_succ]
        refine wpAnyH_take (i := 6) (oi := { dst := some 72, op := Op.fieldAddr 106 (Operand.tmp 7) 1, type := 0, pos := "law.go:29", after := #[], guard := none }) (v := ?vvns36) rfl (by kernel_rfl) (by kernel_rfl) (by kernel_rfl) (fun _ _ _ h => h) (Or.inl ⟨by rfl, ?yyns36⟩) hHeld ?rrns36
        case yyns36 => (intro w0 hSw; obtain ⟨m0, ⟨m1, m2, m3, m4⟩, ⟨m5, m6, m7⟩, ⟨m8, m9, m10, m11⟩, ⟨m12, m13, m14, m15⟩, m16⟩ := hSw; go_simp; try with_reducible rfl)
        try simp only [Act.put, List.setIfInBounds_toArray, List.set_cons_zero, List.set_cons_succ]
        refine wpAnyH_take (i := 7) (oi := { dst := some 73, op := Op.load 3 (Operand.tmp 72), type := 3, pos := "law.go:29", after := #[{ on := 6, ground := Ground.data }], guard := none }) (v := ?vvns37) rfl (by kernel_rfl) (by kernel_rfl) (by kernel_rfl) (fun _ _ _ h => h) (Or.inl ⟨by rfl, ?yyns37⟩) hHeld ?rrns37
        case yyns37 => (intro w0 hSw; obtain ⟨m0, ⟨m1, m2, m3, m4⟩, ⟨m5, m6, m7⟩, ⟨m8, m9, m10, m11⟩, ⟨m12, m13, m14, m15⟩, m16⟩ := hSw; go_simp; try with_reducible rfl)
        try simp only [Act.put, List.setIfInBounds_toArray, List.set_cons_zero, List.set_cons_succ]
        refine wpAnyH_take (i := 8) (oi := { dst := some 74, op := Op.load 38 (Operand.tmp 3), type := 38, pos := "law.go:29", after := #[], guard := none }) (v := ?vvns38) rfl (by kernel_rfl) (by kernel_rfl) (by kernel_rfl) (fun _ _ _ h => h) (Or.inl ⟨by rfl, ?yyns38⟩) hHeld ?rrns38
        case yyns38 => (intro w0 hSw; obtain ⟨m0, ⟨m1, m2, m3, m4⟩, ⟨m5, m6, m7⟩, ⟨m8, m9, m10, m11⟩, ⟨m12, m13, m14, m15⟩, m16⟩ := hSw; go_simp; try with_reducible rfl)
        try simp only [Act.put, List.setIfInBounds_toArray, List.set_cons_zero, List.set_cons_succ]
        refine wpAnyH_take (i := 9) (oi := { dst := some 75, op := Op.fieldAddr 106 (Operand.tmp 7) 0, type := 0, pos := "law.go:29", after := #[], guard := none }) (v := ?vvns39) rfl (by kernel_rfl) (by kernel_rfl) (by kernel_rfl) (fun _ _ _ h => h) (Or.inl ⟨by rfl, ?yyns39⟩) hHeld ?rrns39
        case yyns39 => (intro w0 hSw; obtain ⟨m0, ⟨m1, m2, m3, m4⟩, ⟨m5, m6, m7⟩, ⟨m8, m9, m10, m11⟩, ⟨m12, m13, m14, m15⟩, m16⟩ := hSw; go_simp; try with_reducible rfl)
        try simp only [Act.put, List.setIfInBounds_toArray, List.set_cons_zero, List.set_cons_succ]
        refine wpAnyH_take (i := 10) (oi := { dst := some 76, op := Op.load 3 (Operand.tmp 75), type := 3, pos := "law.go:29", after := #[{ on := 9, ground := Ground.data }], guard := none }) (v := ?vvns310) rfl (by kernel_rfl) (by kernel_rfl) (by kernel_rfl) (fun _ _ _ h => h) (Or.inl ⟨by rfl, ?yyns310⟩) hHeld ?rrns310
        case yyns310 => (intro w0 hSw; obtain ⟨m0, ⟨m1, m2, m3, m4⟩, ⟨m5, m6, m7⟩, ⟨m8, m9, m10, m11⟩, ⟨m12, m13, m14, m15⟩, m16⟩ := hSw; go_simp; try with_reducible rfl)
        try simp only [Act.put, List.setIfInBounds_toArray, List.set_cons_zero, List.set_cons_succ]
        refine wpAnyH_take (i := 12) (oi := { dst := some 78, op := Op.fieldAddr 106 (Operand.tmp 7) 2, type := 0, pos := "law.go:29", after := #[], guard := none }) (v := ?vvns312) rfl (by kernel_rfl) (by kernel_rfl) (by kernel_rfl) (fun _ _ _ h => h) (Or.inl ⟨by rfl, ?yyns312⟩) hHeld ?rrns312
        case yyns312 => (intro w0 hSw; obtain ⟨m0, ⟨m1, m2, m3, m4⟩, ⟨m5, m6, m7⟩, ⟨m8, m9, m10, m11⟩, ⟨m12, m13, m14, m15⟩, m16⟩ := hSw; go_simp; try with_reducible rfl)
        try simp only [Act.put, List.setIfInBounds_toArray, List.set_cons_zero, List.set_cons_succ]
        refine wpAnyH_take (i := 13) (oi := { dst := some 79, op := Op.load 4 (Operand.tmp 78), type := 4, pos := "law.go:29", after := #[{ on := 12, ground := Ground.data }], guard := none }) (v := ?vvns313) rfl (by kernel_rfl) (by kernel_rfl) (by kernel_rfl) (fun _ _ _ h => h) (Or.inl ⟨by rfl, ?yyns313⟩) hHeld ?rrns313
        case yyns313 => (intro w0 hSw; obtain ⟨m0, ⟨m1, m2, m3, m4⟩, ⟨m5, m6, m7⟩, ⟨m8, m9, m10, m11⟩, ⟨m12, m13, m14, m15⟩, m16⟩ := hSw; go_simp; try with_reducible rfl)
        try simp only [Act.put, List.setIfInBounds_toArray, List.set_cons_zero, List.set_cons_succ]
        refine wpAnyH_ready (rs := [11]) (by kernel_rfl) (by simp) ?_
        refine AllReadyH.cons (o := { dst := some 77, op := Op.call { callee := Callee.value (Operand.func 45), args := #[Operand.tmp 74, Operand.tmp 76], argTypes := #[38, 3] }, type := 3, pos := "law.go:29", after := #[{ on := 8, ground := Ground.data }, { on := 10, ground := Ground.data }], guard := none }) rfl (fun K hK => ?_) AllReadyH.nil
        go_simp
        go_at_call 45
        refine (HK.out.2.1 _ hHeld.1).mono ?_
        rintro e w9 ⟨rfl, b9⟩
        refine hK.out _ _ (kS.out _ (below3 (r6 hHeld) b9)) (fun hHeld => ?_)
        clear hK K
        try simp only [Act.put, List.setIfInBounds_toArray, List.set_cons_zero, List.set_cons_succ]
        refine wpAnyH_take (i := 14) (oi := { dst := some 80, op := Op.build 108 #[(0, Operand.tmp 71), (1, Operand.tmp 73), (2, Operand.tmp 77), (3, Operand.tmp 79)], type := 108, pos := "law.go:29", after := #[{ on := 5, ground := Ground.data }, { on := 7, ground := Ground.data }, { on := 11, ground := Ground.data }, { on := 13, ground := Ground.data }], guard := none }) (v := ?vvns314) rfl (by kernel_rfl) (by kernel_rfl) (by kernel_rfl) (fun _ _ _ h => h) (Or.inl ⟨by rfl, ?yyns314⟩) hHeld ?rrns314
        case yyns314 => (intro w0 hSw; obtain ⟨m0, ⟨m1, m2, m3, m4⟩, ⟨m5, m6, m7⟩, ⟨m8, m9, m10, m11⟩, ⟨m12, m13, m14, m15⟩, m16⟩ := hSw; go_simp; try with_reducible rfl)
        try simp only [Act.put, List.setIfInBounds_toArray, List.set_cons_zero, List.set_cons_succ]
        refine wpAnyH_take (i := 15) (oi := { dst := some 81, op := Op.binOp BinOp.neq 108 (Operand.tmp 69) (Operand.tmp 80) 108, type := 4, pos := "law.go:29", after := #[{ on := 3, ground := Ground.data }, { on := 14, ground := Ground.data }], guard := none }) (v := ?vvns315) rfl (by kernel_rfl) (by kernel_rfl) (by kernel_rfl) (fun _ _ _ h => h) (Or.inl ⟨by rfl, ?yyns315⟩) hHeld ?rrns315
        case yyns315 => (intro w0 hSw; obtain ⟨m0, ⟨m1, m2, m3, m4⟩, ⟨m5, m6, m7⟩, ⟨m8, m9, m10, m11⟩, ⟨m12, m13, m14, m15⟩, m16⟩ := hSw; go_simp; try with_reducible rfl)
        try simp only [Act.put, List.setIfInBounds_toArray, List.set_cons_zero, List.set_cons_succ]
        try simp only [qI, Bool.false_and, Bool.and_false, Bool.not_false, Bool.true_and, beq_self_eq_true, bne, Bool.not_true]
        refine wpAnyH_take (i := 16) (oi := { dst := some 82, op := Op.move (Operand.tmp 81), type := 4, pos := "law.go:29", after := #[{ on := 15, ground := Ground.data }, { on := 11, ground := Ground.chain }], guard := none }) (v := ?vvns316) rfl (by kernel_rfl) (by kernel_rfl) (by kernel_rfl) (fun _ _ _ h => h) (Or.inl ⟨by rfl, ?yyns316⟩) hHeld ?rrns316
        case yyns316 => (intro w0 hSw; obtain ⟨m0, ⟨m1, m2, m3, m4⟩, ⟨m5, m6, m7⟩, ⟨m8, m9, m10, m11⟩, ⟨m12, m13, m14, m15⟩, m16⟩ := hSw; go_simp; try with_reducible rfl)
        try simp only [Act.put, List.setIfInBounds_toArray, List.set_cons_zero, List.set_cons_succ]
        refine wpAnyH_take (i := 17) (oi := { dst := some 83, op := Op.move (Operand.tmp 9), type := 4, pos := "law.go:29", after := #[{ on := 16, ground := Ground.guard }], guard := some (16, false) }) (v := undef) rfl (by kernel_rfl) (by kernel_rfl) (by kernel_rfl) (fun _ _ _ h => h) (Or.inr ⟨by rfl, rfl⟩) hHeld ?_
        try simp only [Act.put, List.setIfInBounds_toArray, List.set_cons_zero, List.set_cons_succ]
        refine wpAnyH_take (i := 18) (oi := { dst := some 84, op := Op.unOp UnOp.not 4 (Operand.tmp 83), type := 4, pos := "law.go:29", after := #[{ on := 17, ground := Ground.data }, { on := 16, ground := Ground.guard }], guard := some (16, false) }) (v := undef) rfl (by kernel_rfl) (by kernel_rfl) (by kernel_rfl) (fun _ _ _ h => h) (Or.inr ⟨by rfl, rfl⟩) hHeld ?_
        try simp only [Act.put, List.setIfInBounds_toArray, List.set_cons_zero, List.set_cons_succ]
        refine wpAnyH_take (i := 19) (oi := { dst := some 85, op := Op.pick (Operand.tmp 82) (Operand.const (Value.bool true)) (Operand.tmp 84), type := 4, pos := "law.go:29", after := #[{ on := 16, ground := Ground.data }, { on := 18, ground := Ground.data }], guard := none }) (v := ?vvns319) rfl (by kernel_rfl) (by kernel_rfl) (by kernel_rfl) (fun _ _ _ h => h) (Or.inl ⟨by rfl, ?yyns319⟩) hHeld ?rrns319
        case yyns319 => (intro w0 hSw; obtain ⟨m0, ⟨m1, m2, m3, m4⟩, ⟨m5, m6, m7⟩, ⟨m8, m9, m10, m11⟩, ⟨m12, m13, m14, m15⟩, m16⟩ := hSw; go_simp; try with_reducible rfl)
        try simp only [Act.put, List.setIfInBounds_toArray, List.set_cons_zero, List.set_cons_succ]
        refine wpAnyH_take (i := 20) (oi := { dst := some 86, op := Op.move (Operand.tmp 85), type := 4, pos := "law.go:29", after := #[{ on := 19, ground := Ground.data }, { on := 16, ground := Ground.chain }], guard := none }) (v := ?vvns320) rfl (by kernel_rfl) (by kernel_rfl) (by kernel_rfl) (fun _ _ _ h => h) (Or.inl ⟨by rfl, ?yyns320⟩) hHeld ?rrns320
        case yyns320 => (intro w0 hSw; obtain ⟨m0, ⟨m1, m2, m3, m4⟩, ⟨m5, m6, m7⟩, ⟨m8, m9, m10, m11⟩, ⟨m12, m13, m14, m15⟩, m16⟩ := hSw; go_simp; try with_reducible rfl)
        try simp only [Act.put, List.setIfInBounds_toArray, List.set_cons_zero, List.set_cons_succ]
        refine wpAnyH_take (i := 21) (oi := { dst := some 87, op := Op.load 108 (Operand.tmp 8), type := 108, pos := "law.go:29", after := #[{ on := 20, ground := Ground.guard }], guard := some (20, false) }) (v := undef) rfl (by kernel_rfl) (by kernel_rfl) (by kernel_rfl) (fun _ _ _ h => h) (Or.inr ⟨by rfl, rfl⟩) hHeld ?_
        try simp only [Act.put, List.setIfInBounds_toArray, List.set_cons_zero, List.set_cons_succ]
        refine wpAnyH_take (i := 22) (oi := { dst := some 88, op := Op.move (Operand.tmp 5), type := 102, pos := "law.go:29", after := #[{ on := 20, ground := Ground.guard }], guard := some (20, false) }) (v := undef) rfl (by kernel_rfl) (by kernel_rfl) (by kernel_rfl) (fun _ _ _ h => h) (Or.inr ⟨by rfl, rfl⟩) hHeld ?_
        try simp only [Act.put, List.setIfInBounds_toArray, List.set_cons_zero, List.set_cons_succ]
        refine wpAnyH_take (i := 23) (oi := { dst := some 89, op := Op.move (Operand.tmp 6), type := 3, pos := "law.go:29", after := #[{ on := 20, ground := Ground.guard }], guard := some (20, false) }) (v := undef) rfl (by kernel_rfl) (by kernel_rfl) (by kernel_rfl) (fun _ _ _ h => h) (Or.inr ⟨by rfl, rfl⟩) hHeld ?_
        try simp only [Act.put, List.setIfInBounds_toArray, List.set_cons_zero, List.set_cons_succ]
        refine wpAnyH_take (i := 24) (oi := { dst := some 90, op := Op.indexAddr 102 (Operand.tmp 88) (Operand.tmp 89), type := 0, pos := "law.go:29", after := #[{ on := 22, ground := Ground.data }, { on := 23, ground := Ground.data }, { on := 20, ground := Ground.guard }], guard := some (20, false) }) (v := undef) rfl (by kernel_rfl) (by kernel_rfl) (by kernel_rfl) (fun _ _ _ h => h) (Or.inr ⟨by rfl, rfl⟩) hHeld ?_
        try simp only [Act.put, List.setIfInBounds_toArray, List.set_cons_zero, List.set_cons_succ]
        refine wpAnyH_take (i := 25) (oi := { dst := some 91, op := Op.load 108 (Operand.tmp 90), type := 108, pos := "law.go:29", after := #[{ on := 24, ground := Ground.data }, { on := 20, ground := Ground.guard }], guard := some (20, false) }) (v := undef) rfl (by kernel_rfl) (by kernel_rfl) (by kernel_rfl) (fun _ _ _ h => h) (Or.inr ⟨by rfl, rfl⟩) hHeld ?_
        try simp only [Act.put, List.setIfInBounds_toArray, List.set_cons_zero, List.set_cons_succ]
        refine wpAnyH_take (i := 26) (oi := { dst := some 92, op := Op.binOp BinOp.neq 108 (Operand.tmp 87) (Operand.tmp 91) 108, type := 4, pos := "law.go:29", after := #[{ on := 21, ground := Ground.data }, { on := 25, ground := Ground.data }, { on := 20, ground := Ground.guard }], guard := some (20, false) }) (v := undef) rfl (by kernel_rfl) (by kernel_rfl) (by kernel_rfl) (fun _ _ _ h => h) (Or.inr ⟨by rfl, rfl⟩) hHeld ?_
        try simp only [Act.put, List.setIfInBounds_toArray, List.set_cons_zero, List.set_cons_succ]
        refine wpAnyH_take (i := 27) (oi := { dst := some 93, op := Op.pick (Operand.tmp 86) (Operand.const (Value.bool true)) (Operand.tmp 92), type := 4, pos := "law.go:29", after := #[{ on := 20, ground := Ground.data }, { on := 26, ground := Ground.data }], guard := none }) (v := ?vvns327) rfl (by kernel_rfl) (by kernel_rfl) (by kernel_rfl) (fun _ _ _ h => h) (Or.inl ⟨by rfl, ?yyns327⟩) hHeld ?rrns327
        case yyns327 => (intro w0 hSw; obtain ⟨m0, ⟨m1, m2, m3, m4⟩, ⟨m5, m6, m7⟩, ⟨m8, m9, m10, m11⟩, ⟨m12, m13, m14, m15⟩, m16⟩ := hSw; go_simp; try with_reducible rfl)
        try simp only [Act.put, List.setIfInBounds_toArray, List.set_cons_zero, List.set_cons_succ]
        refine wpAnyH_done (by kernel_rfl) ?_ _
        go_wp2_with fail
        go_ret
        exact smb _ hG.out hbw.out.1 hHeld.1
      subst s3
      by_cases s4 : y3 = x3
      rotate_left
      · have qI : ((x3 : Bool) == (y3 : Bool)) = false := by simpa using fun e => s4 e.symm
        refine wp_region_held_drew (S := fun w' => Below w1.heap.size w1 w' ∧ (w'.cell? ⟨G, 0, none⟩ = some (.slice (some ⟨g, 0, none⟩) n' c0) ∧ w'.cell? ⟨G, 1, none⟩ = some (.slice a1 nl c1) ∧ w'.cell? ⟨G, 2, none⟩ = some (.slice a2 nb c2) ∧ w'.cell? ⟨G, 3, none⟩ = some (.slice a3 n3 c3)) ∧ (w'.cell? ⟨gx, 0, none⟩ = some (.int .i64 y1) ∧ w'.cell? ⟨gx, 1, none⟩ = some (.int .i64 y2) ∧ w'.cell? ⟨gx, 2, none⟩ = some (.bool y3)) ∧ (w'.cell? ⟨gy, 0, none⟩ = some (.int .i64 z1) ∧ w'.cell? ⟨gy, 1, none⟩ = some (.int .i64 z2) ∧ w'.cell? ⟨gy, 2, none⟩ = some (.int .i64 z3) ∧ w'.cell? ⟨gy, 3, none⟩ = some (.bool z4)) ∧ (w'.cell? ⟨gl, k * 4, none⟩ = some (.int .i64 y1) ∧ w'.cell? ⟨gl, k * 4 + 1, none⟩ = some (.int .i64 y2) ∧ w'.cell? ⟨gl, k * 4 + 2, none⟩ = some (.int .i64 m) ∧ w'.cell? ⟨gl, k * 4 + 3, none⟩ = some (.bool x3)) ∧ Below W8.heap.size W8 w') (by kernel_rfl) (kS.out _ (Below.refl _ W8).drew) (fun hHeld => ?_)
        refine wpAnyH_take (i := 0) (oi := { dst := some 66, op := Op.move (Operand.tmp 5), type := 102, pos := "law.go:29", after := #[], guard := none }) (v := ?vvns40) rfl (by kernel_rfl) (by kernel_rfl) (by kernel_rfl) (fun _ _ _ h => h) (Or.inl ⟨by rfl, ?yyns40⟩) hHeld ?rrns40
        case yyns40 => (intro w0 hSw; obtain ⟨m0, ⟨m1, m2, m3, m4⟩, ⟨m5, m6, m7⟩, ⟨m8, m9, m10, m11⟩, ⟨m12, m13, m14, m15⟩, m16⟩ := hSw; go_simp; try with_reducible rfl)
        try simp only [Act.put, List.setIfInBounds_toArray, List.set_cons_zero, List.set_cons_succ]
        refine wpAnyH_take (i := 1) (oi := { dst := some 67, op := Op.move (Operand.tmp 6), type := 3, pos := "law.go:29", after := #[], guard := none }) (v := ?vvns41) rfl (by kernel_rfl) (by kernel_rfl) (by kernel_rfl) (fun _ _ _ h => h) (Or.inl ⟨by rfl, ?yyns41⟩) hHeld ?rrns41
        case yyns41 => (intro w0 hSw; obtain ⟨m0, ⟨m1, m2, m3, m4⟩, ⟨m5, m6, m7⟩, ⟨m8, m9, m10, m11⟩, ⟨m12, m13, m14, m15⟩, m16⟩ := hSw; go_simp; try with_reducible rfl)
        try simp only [Act.put, List.setIfInBounds_toArray, List.set_cons_zero, List.set_cons_succ]
        refine wpAnyH_take (i := 2) (oi := { dst := some 68, op := Op.indexAddr 102 (Operand.tmp 66) (Operand.tmp 67), type := 0, pos := "law.go:29", after := #[{ on := 0, ground := Ground.data }, { on := 1, ground := Ground.data }], guard := none }) (v := ?vvns42) rfl (by kernel_rfl) (by kernel_rfl) (by kernel_rfl) (fun _ _ _ h => h) (Or.inl ⟨by rfl, ?yyns42⟩) hHeld ?rrns42
        case yyns42 => (intro w0 hSw; obtain ⟨m0, ⟨m1, m2, m3, m4⟩, ⟨m5, m6, m7⟩, ⟨m8, m9, m10, m11⟩, ⟨m12, m13, m14, m15⟩, m16⟩ := hSw; go_simp; try with_reducible rfl)
        try simp only [Act.put, List.setIfInBounds_toArray, List.set_cons_zero, List.set_cons_succ]
        refine wpAnyH_take (i := 3) (oi := { dst := some 69, op := Op.load 108 (Operand.tmp 68), type := 108, pos := "law.go:29", after := #[{ on := 2, ground := Ground.data }], guard := none }) (v := ?vvns43) rfl (by kernel_rfl) (by kernel_rfl) (by kernel_rfl) (fun _ _ _ h => h) (Or.inl ⟨by rfl, ?yyns43⟩) hHeld ?rrns43
        case yyns43 => (intro w0 hSw; obtain ⟨m0, ⟨m1, m2, m3, m4⟩, ⟨m5, m6, m7⟩, ⟨m8, m9, m10, m11⟩, ⟨m12, m13, m14, m15⟩, m16⟩ := hSw; go_simp; try with_reducible rfl)
        try simp only [Act.put, List.setIfInBounds_toArray, List.set_cons_zero, List.set_cons_succ]
        refine wpAnyH_take (i := 4) (oi := { dst := some 70, op := Op.fieldAddr 106 (Operand.tmp 7) 0, type := 0, pos := "law.go:29", after := #[], guard := none }) (v := ?vvns44) rfl (by kernel_rfl) (by kernel_rfl) (by kernel_rfl) (fun _ _ _ h => h) (Or.inl ⟨by rfl, ?yyns44⟩) hHeld ?rrns44
        case yyns44 => (intro w0 hSw; obtain ⟨m0, ⟨m1, m2, m3, m4⟩, ⟨m5, m6, m7⟩, ⟨m8, m9, m10, m11⟩, ⟨m12, m13, m14, m15⟩, m16⟩ := hSw; go_simp; try with_reducible rfl)
        try simp only [Act.put, List.setIfInBounds_toArray, List.set_cons_zero, List.set_cons_succ]
        refine wpAnyH_take (i := 5) (oi := { dst := some 71, op := Op.load 3 (Operand.tmp 70), type := 3, pos := "law.go:29", after := #[{ on := 4, ground := Ground.data }], guard := none }) (v := ?vvns45) rfl (by kernel_rfl) (by kernel_rfl) (by kernel_rfl) (fun _ _ _ h => h) (Or.inl ⟨by rfl, ?yyns45⟩) hHeld ?rrns45
        case yyns45 => (intro w0 hSw; obtain ⟨m0, ⟨m1, m2, m3, m4⟩, ⟨m5, m6, m7⟩, ⟨m8, m9, m10, m11⟩, ⟨m12, m13, m14, m15⟩, m16⟩ := hSw; go_simp; try with_reducible rfl)
        try simp only [Act.put, List.setIfInBounds_toArray, List.set_cons_zero, List.set_cons_succ]
        refine wpAnyH_take (i := 6) (oi := { dst := some 72, op := Op.fieldAddr 106 (Operand.tmp 7) 1, type := 0, pos := "law.go:29", after := #[], guard := none }) (v := ?vvns46) rfl (by kernel_rfl) (by kernel_rfl) (by kernel_rfl) (fun _ _ _ h => h) (Or.inl ⟨by rfl, ?yyns46⟩) hHeld ?rrns46
        case yyns46 => (intro w0 hSw; obtain ⟨m0, ⟨m1, m2, m3, m4⟩, ⟨m5, m6, m7⟩, ⟨m8, m9, m10, m11⟩, ⟨m12, m13, m14, m15⟩, m16⟩ := hSw; go_simp; try with_reducible rfl)
        try simp only [Act.put, List.setIfInBounds_toArray, List.set_cons_zero, List.set_cons_succ]
        refine wpAnyH_take (i := 7) (oi := { dst := some 73, op := Op.load 3 (Operand.tmp 72), type := 3, pos := "law.go:29", after := #[{ on := 6, ground := Ground.data }], guard := none }) (v := ?vvns47) rfl (by kernel_rfl) (by kernel_rfl) (by kernel_rfl) (fun _ _ _ h => h) (Or.inl ⟨by rfl, ?yyns47⟩) hHeld ?rrns47
        case yyns47 => (intro w0 hSw; obtain ⟨m0, ⟨m1, m2, m3, m4⟩, ⟨m5, m6, m7⟩, ⟨m8, m9, m10, m11⟩, ⟨m12, m13, m14, m15⟩, m16⟩ := hSw; go_simp; try with_reducible rfl)
        try simp only [Act.put, List.setIfInBounds_toArray, List.set_cons_zero, List.set_cons_succ]
        refine wpAnyH_take (i := 8) (oi := { dst := some 74, op := Op.load 38 (Operand.tmp 3), type := 38, pos := "law.go:29", after := #[], guard := none }) (v := ?vvns48) rfl (by kernel_rfl) (by kernel_rfl) (by kernel_rfl) (fun _ _ _ h => h) (Or.inl ⟨by rfl, ?yyns48⟩) hHeld ?rrns48
        case yyns48 => (intro w0 hSw; obtain ⟨m0, ⟨m1, m2, m3, m4⟩, ⟨m5, m6, m7⟩, ⟨m8, m9, m10, m11⟩, ⟨m12, m13, m14, m15⟩, m16⟩ := hSw; go_simp; try with_reducible rfl)
        try simp only [Act.put, List.setIfInBounds_toArray, List.set_cons_zero, List.set_cons_succ]
        refine wpAnyH_take (i := 9) (oi := { dst := some 75, op := Op.fieldAddr 106 (Operand.tmp 7) 0, type := 0, pos := "law.go:29", after := #[], guard := none }) (v := ?vvns49) rfl (by kernel_rfl) (by kernel_rfl) (by kernel_rfl) (fun _ _ _ h => h) (Or.inl ⟨by rfl, ?yyns49⟩) hHeld ?rrns49
        case yyns49 => (intro w0 hSw; obtain ⟨m0, ⟨m1, m2, m3, m4⟩, ⟨m5, m6, m7⟩, ⟨m8, m9, m10, m11⟩, ⟨m12, m13, m14, m15⟩, m16⟩ := hSw; go_simp; try with_reducible rfl)
        try simp only [Act.put, List.setIfInBounds_toArray, List.set_cons_zero, List.set_cons_succ]
        refine wpAnyH_take (i := 10) (oi := { dst := some 76, op := Op.load 3 (Operand.tmp 75), type := 3, pos := "law.go:29", after := #[{ on := 9, ground := Ground.data }], guard := none }) (v := ?vvns410) rfl (by kernel_rfl) (by kernel_rfl) (by kernel_rfl) (fun _ _ _ h => h) (Or.inl ⟨by rfl, ?yyns410⟩) hHeld ?rrns410
        case yyns410 => (intro w0 hSw; obtain ⟨m0, ⟨m1, m2, m3, m4⟩, ⟨m5, m6, m7⟩, ⟨m8, m9, m10, m11⟩, ⟨m12, m13, m14, m15⟩, m16⟩ := hSw; go_simp; try with_reducible rfl)
        try simp only [Act.put, List.setIfInBounds_toArray, List.set_cons_zero, List.set_cons_succ]
        refine wpAnyH_take (i := 12) (oi := { dst := some 78, op := Op.fieldAddr 106 (Operand.tmp 7) 2, type := 0, pos := "law.go:29", after := #[], guard := none }) (v := ?vvns412) rfl (by kernel_rfl) (by kernel_rfl) (by kernel_rfl) (fun _ _ _ h => h) (Or.inl ⟨by rfl, ?yyns412⟩) hHeld ?rrns412
        case yyns412 => (intro w0 hSw; obtain ⟨m0, ⟨m1, m2, m3, m4⟩, ⟨m5, m6, m7⟩, ⟨m8, m9, m10, m11⟩, ⟨m12, m13, m14, m15⟩, m16⟩ := hSw; go_simp; try with_reducible rfl)
        try simp only [Act.put, List.setIfInBounds_toArray, List.set_cons_zero, List.set_cons_succ]
        refine wpAnyH_take (i := 13) (oi := { dst := some 79, op := Op.load 4 (Operand.tmp 78), type := 4, pos := "law.go:29", after := #[{ on := 12, ground := Ground.data }], guard := none }) (v := ?vvns413) rfl (by kernel_rfl) (by kernel_rfl) (by kernel_rfl) (fun _ _ _ h => h) (Or.inl ⟨by rfl, ?yyns413⟩) hHeld ?rrns413
        case yyns413 => (intro w0 hSw; obtain ⟨m0, ⟨m1, m2, m3, m4⟩, ⟨m5, m6, m7⟩, ⟨m8, m9, m10, m11⟩, ⟨m12, m13, m14, m15⟩, m16⟩ := hSw; go_simp; try with_reducible rfl)
        try simp only [Act.put, List.setIfInBounds_toArray, List.set_cons_zero, List.set_cons_succ]
        refine wpAnyH_ready (rs := [11]) (by kernel_rfl) (by simp) ?_
        refine AllReadyH.cons (o := { dst := some 77, op := Op.call { callee := Callee.value (Operand.func 45), args := #[Operand.tmp 74, Operand.tmp 76], argTypes := #[38, 3] }, type := 3, pos := "law.go:29", after := #[{ on := 8, ground := Ground.data }, { on := 10, ground := Ground.data }], guard := none }) rfl (fun K hK => ?_) AllReadyH.nil
        go_simp
        go_at_call 45
        refine (HK.out.2.1 _ hHeld.1).mono ?_
        rintro e w9 ⟨rfl, b9⟩
        refine hK.out _ _ (kS.out _ (below3 (r6 hHeld) b9)) (fun hHeld => ?_)
        clear hK K
        try simp only [Act.put, List.setIfInBounds_toArray, List.set_cons_zero, List.set_cons_succ]
        refine wpAnyH_take (i := 14) (oi := { dst := some 80, op := Op.build 108 #[(0, Operand.tmp 71), (1, Operand.tmp 73), (2, Operand.tmp 77), (3, Operand.tmp 79)], type := 108, pos := "law.go:29", after := #[{ on := 5, ground := Ground.data }, { on := 7, ground := Ground.data }, { on := 11, ground := Ground.data }, { on := 13, ground := Ground.data }], guard := none }) (v := ?vvns414) rfl (by kernel_rfl) (by kernel_rfl) (by kernel_rfl) (fun _ _ _ h => h) (Or.inl ⟨by rfl, ?yyns414⟩) hHeld ?rrns414
        case yyns414 => (intro w0 hSw; obtain ⟨m0, ⟨m1, m2, m3, m4⟩, ⟨m5, m6, m7⟩, ⟨m8, m9, m10, m11⟩, ⟨m12, m13, m14, m15⟩, m16⟩ := hSw; go_simp; try with_reducible rfl)
        try simp only [Act.put, List.setIfInBounds_toArray, List.set_cons_zero, List.set_cons_succ]
        refine wpAnyH_take (i := 15) (oi := { dst := some 81, op := Op.binOp BinOp.neq 108 (Operand.tmp 69) (Operand.tmp 80) 108, type := 4, pos := "law.go:29", after := #[{ on := 3, ground := Ground.data }, { on := 14, ground := Ground.data }], guard := none }) (v := ?vvns415) rfl (by kernel_rfl) (by kernel_rfl) (by kernel_rfl) (fun _ _ _ h => h) (Or.inl ⟨by rfl, ?yyns415⟩) hHeld ?rrns415
        case yyns415 => (intro w0 hSw; obtain ⟨m0, ⟨m1, m2, m3, m4⟩, ⟨m5, m6, m7⟩, ⟨m8, m9, m10, m11⟩, ⟨m12, m13, m14, m15⟩, m16⟩ := hSw; go_simp; try with_reducible rfl)
        try simp only [Act.put, List.setIfInBounds_toArray, List.set_cons_zero, List.set_cons_succ]
        try simp only [qI, Bool.false_and, Bool.and_false, Bool.not_false, Bool.true_and, beq_self_eq_true, bne, Bool.not_true]
        refine wpAnyH_take (i := 16) (oi := { dst := some 82, op := Op.move (Operand.tmp 81), type := 4, pos := "law.go:29", after := #[{ on := 15, ground := Ground.data }, { on := 11, ground := Ground.chain }], guard := none }) (v := ?vvns416) rfl (by kernel_rfl) (by kernel_rfl) (by kernel_rfl) (fun _ _ _ h => h) (Or.inl ⟨by rfl, ?yyns416⟩) hHeld ?rrns416
        case yyns416 => (intro w0 hSw; obtain ⟨m0, ⟨m1, m2, m3, m4⟩, ⟨m5, m6, m7⟩, ⟨m8, m9, m10, m11⟩, ⟨m12, m13, m14, m15⟩, m16⟩ := hSw; go_simp; try with_reducible rfl)
        try simp only [Act.put, List.setIfInBounds_toArray, List.set_cons_zero, List.set_cons_succ]
        refine wpAnyH_take (i := 17) (oi := { dst := some 83, op := Op.move (Operand.tmp 9), type := 4, pos := "law.go:29", after := #[{ on := 16, ground := Ground.guard }], guard := some (16, false) }) (v := undef) rfl (by kernel_rfl) (by kernel_rfl) (by kernel_rfl) (fun _ _ _ h => h) (Or.inr ⟨by rfl, rfl⟩) hHeld ?_
        try simp only [Act.put, List.setIfInBounds_toArray, List.set_cons_zero, List.set_cons_succ]
        refine wpAnyH_take (i := 18) (oi := { dst := some 84, op := Op.unOp UnOp.not 4 (Operand.tmp 83), type := 4, pos := "law.go:29", after := #[{ on := 17, ground := Ground.data }, { on := 16, ground := Ground.guard }], guard := some (16, false) }) (v := undef) rfl (by kernel_rfl) (by kernel_rfl) (by kernel_rfl) (fun _ _ _ h => h) (Or.inr ⟨by rfl, rfl⟩) hHeld ?_
        try simp only [Act.put, List.setIfInBounds_toArray, List.set_cons_zero, List.set_cons_succ]
        refine wpAnyH_take (i := 19) (oi := { dst := some 85, op := Op.pick (Operand.tmp 82) (Operand.const (Value.bool true)) (Operand.tmp 84), type := 4, pos := "law.go:29", after := #[{ on := 16, ground := Ground.data }, { on := 18, ground := Ground.data }], guard := none }) (v := ?vvns419) rfl (by kernel_rfl) (by kernel_rfl) (by kernel_rfl) (fun _ _ _ h => h) (Or.inl ⟨by rfl, ?yyns419⟩) hHeld ?rrns419
        case yyns419 => (intro w0 hSw; obtain ⟨m0, ⟨m1, m2, m3, m4⟩, ⟨m5, m6, m7⟩, ⟨m8, m9, m10, m11⟩, ⟨m12, m13, m14, m15⟩, m16⟩ := hSw; go_simp; try with_reducible rfl)
        try simp only [Act.put, List.setIfInBounds_toArray, List.set_cons_zero, List.set_cons_succ]
        refine wpAnyH_take (i := 20) (oi := { dst := some 86, op := Op.move (Operand.tmp 85), type := 4, pos := "law.go:29", after := #[{ on := 19, ground := Ground.data }, { on := 16, ground := Ground.chain }], guard := none }) (v := ?vvns420) rfl (by kernel_rfl) (by kernel_rfl) (by kernel_rfl) (fun _ _ _ h => h) (Or.inl ⟨by rfl, ?yyns420⟩) hHeld ?rrns420
        case yyns420 => (intro w0 hSw; obtain ⟨m0, ⟨m1, m2, m3, m4⟩, ⟨m5, m6, m7⟩, ⟨m8, m9, m10, m11⟩, ⟨m12, m13, m14, m15⟩, m16⟩ := hSw; go_simp; try with_reducible rfl)
        try simp only [Act.put, List.setIfInBounds_toArray, List.set_cons_zero, List.set_cons_succ]
        refine wpAnyH_take (i := 21) (oi := { dst := some 87, op := Op.load 108 (Operand.tmp 8), type := 108, pos := "law.go:29", after := #[{ on := 20, ground := Ground.guard }], guard := some (20, false) }) (v := undef) rfl (by kernel_rfl) (by kernel_rfl) (by kernel_rfl) (fun _ _ _ h => h) (Or.inr ⟨by rfl, rfl⟩) hHeld ?_
        try simp only [Act.put, List.setIfInBounds_toArray, List.set_cons_zero, List.set_cons_succ]
        refine wpAnyH_take (i := 22) (oi := { dst := some 88, op := Op.move (Operand.tmp 5), type := 102, pos := "law.go:29", after := #[{ on := 20, ground := Ground.guard }], guard := some (20, false) }) (v := undef) rfl (by kernel_rfl) (by kernel_rfl) (by kernel_rfl) (fun _ _ _ h => h) (Or.inr ⟨by rfl, rfl⟩) hHeld ?_
        try simp only [Act.put, List.setIfInBounds_toArray, List.set_cons_zero, List.set_cons_succ]
        refine wpAnyH_take (i := 23) (oi := { dst := some 89, op := Op.move (Operand.tmp 6), type := 3, pos := "law.go:29", after := #[{ on := 20, ground := Ground.guard }], guard := some (20, false) }) (v := undef) rfl (by kernel_rfl) (by kernel_rfl) (by kernel_rfl) (fun _ _ _ h => h) (Or.inr ⟨by rfl, rfl⟩) hHeld ?_
        try simp only [Act.put, List.setIfInBounds_toArray, List.set_cons_zero, List.set_cons_succ]
        refine wpAnyH_take (i := 24) (oi := { dst := some 90, op := Op.indexAddr 102 (Operand.tmp 88) (Operand.tmp 89), type := 0, pos := "law.go:29", after := #[{ on := 22, ground := Ground.data }, { on := 23, ground := Ground.data }, { on := 20, ground := Ground.guard }], guard := some (20, false) }) (v := undef) rfl (by kernel_rfl) (by kernel_rfl) (by kernel_rfl) (fun _ _ _ h => h) (Or.inr ⟨by rfl, rfl⟩) hHeld ?_
        try simp only [Act.put, List.setIfInBounds_toArray, List.set_cons_zero, List.set_cons_succ]
        refine wpAnyH_take (i := 25) (oi := { dst := some 91, op := Op.load 108 (Operand.tmp 90), type := 108, pos := "law.go:29", after := #[{ on := 24, ground := Ground.data }, { on := 20, ground := Ground.guard }], guard := some (20, false) }) (v := undef) rfl (by kernel_rfl) (by kernel_rfl) (by kernel_rfl) (fun _ _ _ h => h) (Or.inr ⟨by rfl, rfl⟩) hHeld ?_
        try simp only [Act.put, List.setIfInBounds_toArray, List.set_cons_zero, List.set_cons_succ]
        refine wpAnyH_take (i := 26) (oi := { dst := some 92, op := Op.binOp BinOp.neq 108 (Operand.tmp 87) (Operand.tmp 91) 108, type := 4, pos := "law.go:29", after := #[{ on := 21, ground := Ground.data }, { on := 25, ground := Ground.data }, { on := 20, ground := Ground.guard }], guard := some (20, false) }) (v := undef) rfl (by kernel_rfl) (by kernel_rfl) (by kernel_rfl) (fun _ _ _ h => h) (Or.inr ⟨by rfl, rfl⟩) hHeld ?_
        try simp only [Act.put, List.setIfInBounds_toArray, List.set_cons_zero, List.set_cons_succ]
        refine wpAnyH_take (i := 27) (oi := { dst := some 93, op := Op.pick (Operand.tmp 86) (Operand.const (Value.bool true)) (Operand.tmp 92), type := 4, pos := "law.go:29", after := #[{ on := 20, ground := Ground.data }, { on := 26, ground := Ground.data }], guard := none }) (v := ?vvns427) rfl (by kernel_rfl) (by kernel_rfl) (by kernel_rfl) (fun _ _ _ h => h) (Or.inl ⟨by rfl, ?yyns427⟩) hHeld ?rrns427
        case yyns427 => (intro w0 hSw; obtain ⟨m0, ⟨m1, m2, m3, m4⟩, ⟨m5, m6, m7⟩, ⟨m8, m9, m10, m11⟩, ⟨m12, m13, m14, m15⟩, m16⟩ := hSw; go_simp; try with_reducible rfl)
        try simp only [Act.put, List.setIfInBounds_toArray, List.set_cons_zero, List.set_cons_succ]
        refine wpAnyH_done (by kernel_rfl) ?_ _
        go_wp2_with fail
        go_ret
        exact smb _ hG.out hbw.out.1 hHeld.1
      subst s4
      obtain ⟨t1, t2, t3, t4, t5⟩ := hzq.out rfl
      replace t1 := t1.symm
      replace t2 := t2.symm
      replace t3 := t3.symm
      replace t4 := t4.symm
      subst t1 t2 t3 t4 t5
      refine wp_region_held_drew (S := fun w' => Below w1.heap.size w1 w' ∧ (w'.cell? ⟨G, 0, none⟩ = some (.slice (some ⟨g, 0, none⟩) n' c0) ∧ w'.cell? ⟨G, 1, none⟩ = some (.slice a1 nl c1) ∧ w'.cell? ⟨G, 2, none⟩ = some (.slice a2 nb c2) ∧ w'.cell? ⟨G, 3, none⟩ = some (.slice a3 n3 c3)) ∧ (w'.cell? ⟨gx, 0, none⟩ = some (.int .i64 y1) ∧ w'.cell? ⟨gx, 1, none⟩ = some (.int .i64 y2) ∧ w'.cell? ⟨gx, 2, none⟩ = some (.bool y3)) ∧ (w'.cell? ⟨gy, 0, none⟩ = some (.int .i64 y1) ∧ w'.cell? ⟨gy, 1, none⟩ = some (.int .i64 y2) ∧ w'.cell? ⟨gy, 2, none⟩ = some (.int .i64 m) ∧ w'.cell? ⟨gy, 3, none⟩ = some (.bool y3)) ∧ (w'.cell? ⟨gl, k * 4, none⟩ = some (.int .i64 y1) ∧ w'.cell? ⟨gl, k * 4 + 1, none⟩ = some (.int .i64 y2) ∧ w'.cell? ⟨gl, k * 4 + 2, none⟩ = some (.int .i64 m) ∧ w'.cell? ⟨gl, k * 4 + 3, none⟩ = some (.bool y3)) ∧ Below W8.heap.size W8 w') (by kernel_rfl) (kS.out _ (Below.refl _ W8).drew) (fun hHeld => ?_)
      refine wpAnyH_take (i := 0) (oi := { dst := some 66, op := Op.move (Operand.tmp 5), type := 102, pos := "law.go:29", after := #[], guard := none }) (v := ?vveq90) rfl (by kernel_rfl) (by kernel_rfl) (by kernel_rfl) (fun _ _ _ h => h) (Or.inl ⟨by rfl, ?yyeq90⟩) hHeld ?rreq90
      case yyeq90 => (intro w0 hSw; obtain ⟨m0, ⟨m1, m2, m3, m4⟩, ⟨m5, m6, m7⟩, ⟨m8, m9, m10, m11⟩, ⟨m12, m13, m14, m15⟩, m16⟩ := hSw; go_simp; try with_reducible rfl)
      try simp only [Act.put, List.setIfInBounds_toArray, List.set_cons_zero, List.set_cons_succ]
      refine wpAnyH_take (i := 1) (oi := { dst := some 67, op := Op.move (Operand.tmp 6), type := 3, pos := "law.go:29", after := #[], guard := none }) (v := ?vveq91) rfl (by kernel_rfl) (by kernel_rfl) (by kernel_rfl) (fun _ _ _ h => h) (Or.inl ⟨by rfl, ?yyeq91⟩) hHeld ?rreq91
      case yyeq91 => (intro w0 hSw; obtain ⟨m0, ⟨m1, m2, m3, m4⟩, ⟨m5, m6, m7⟩, ⟨m8, m9, m10, m11⟩, ⟨m12, m13, m14, m15⟩, m16⟩ := hSw; go_simp; try with_reducible rfl)
      try simp only [Act.put, List.setIfInBounds_toArray, List.set_cons_zero, List.set_cons_succ]
      refine wpAnyH_take (i := 2) (oi := { dst := some 68, op := Op.indexAddr 102 (Operand.tmp 66) (Operand.tmp 67), type := 0, pos := "law.go:29", after := #[{ on := 0, ground := Ground.data }, { on := 1, ground := Ground.data }], guard := none }) (v := ?vveq92) rfl (by kernel_rfl) (by kernel_rfl) (by kernel_rfl) (fun _ _ _ h => h) (Or.inl ⟨by rfl, ?yyeq92⟩) hHeld ?rreq92
      case yyeq92 => (intro w0 hSw; obtain ⟨m0, ⟨m1, m2, m3, m4⟩, ⟨m5, m6, m7⟩, ⟨m8, m9, m10, m11⟩, ⟨m12, m13, m14, m15⟩, m16⟩ := hSw; go_simp; try with_reducible rfl)
      try simp only [Act.put, List.setIfInBounds_toArray, List.set_cons_zero, List.set_cons_succ]
      refine wpAnyH_take (i := 3) (oi := { dst := some 69, op := Op.load 108 (Operand.tmp 68), type := 108, pos := "law.go:29", after := #[{ on := 2, ground := Ground.data }], guard := none }) (v := ?vveq93) rfl (by kernel_rfl) (by kernel_rfl) (by kernel_rfl) (fun _ _ _ h => h) (Or.inl ⟨by rfl, ?yyeq93⟩) hHeld ?rreq93
      case yyeq93 => (intro w0 hSw; obtain ⟨m0, ⟨m1, m2, m3, m4⟩, ⟨m5, m6, m7⟩, ⟨m8, m9, m10, m11⟩, ⟨m12, m13, m14, m15⟩, m16⟩ := hSw; go_simp; try with_reducible rfl)
      try simp only [Act.put, List.setIfInBounds_toArray, List.set_cons_zero, List.set_cons_succ]
      refine wpAnyH_take (i := 4) (oi := { dst := some 70, op := Op.fieldAddr 106 (Operand.tmp 7) 0, type := 0, pos := "law.go:29", after := #[], guard := none }) (v := ?vveq94) rfl (by kernel_rfl) (by kernel_rfl) (by kernel_rfl) (fun _ _ _ h => h) (Or.inl ⟨by rfl, ?yyeq94⟩) hHeld ?rreq94
      case yyeq94 => (intro w0 hSw; obtain ⟨m0, ⟨m1, m2, m3, m4⟩, ⟨m5, m6, m7⟩, ⟨m8, m9, m10, m11⟩, ⟨m12, m13, m14, m15⟩, m16⟩ := hSw; go_simp; try with_reducible rfl)
      try simp only [Act.put, List.setIfInBounds_toArray, List.set_cons_zero, List.set_cons_succ]
      refine wpAnyH_take (i := 5) (oi := { dst := some 71, op := Op.load 3 (Operand.tmp 70), type := 3, pos := "law.go:29", after := #[{ on := 4, ground := Ground.data }], guard := none }) (v := ?vveq95) rfl (by kernel_rfl) (by kernel_rfl) (by kernel_rfl) (fun _ _ _ h => h) (Or.inl ⟨by rfl, ?yyeq95⟩) hHeld ?rreq95
      case yyeq95 => (intro w0 hSw; obtain ⟨m0, ⟨m1, m2, m3, m4⟩, ⟨m5, m6, m7⟩, ⟨m8, m9, m10, m11⟩, ⟨m12, m13, m14, m15⟩, m16⟩ := hSw; go_simp; try with_reducible rfl)
      try simp only [Act.put, List.setIfInBounds_toArray, List.set_cons_zero, List.set_cons_succ]
      refine wpAnyH_take (i := 6) (oi := { dst := some 72, op := Op.fieldAddr 106 (Operand.tmp 7) 1, type := 0, pos := "law.go:29", after := #[], guard := none }) (v := ?vveq96) rfl (by kernel_rfl) (by kernel_rfl) (by kernel_rfl) (fun _ _ _ h => h) (Or.inl ⟨by rfl, ?yyeq96⟩) hHeld ?rreq96
      case yyeq96 => (intro w0 hSw; obtain ⟨m0, ⟨m1, m2, m3, m4⟩, ⟨m5, m6, m7⟩, ⟨m8, m9, m10, m11⟩, ⟨m12, m13, m14, m15⟩, m16⟩ := hSw; go_simp; try with_reducible rfl)
      try simp only [Act.put, List.setIfInBounds_toArray, List.set_cons_zero, List.set_cons_succ]
      refine wpAnyH_take (i := 7) (oi := { dst := some 73, op := Op.load 3 (Operand.tmp 72), type := 3, pos := "law.go:29", after := #[{ on := 6, ground := Ground.data }], guard := none }) (v := ?vveq97) rfl (by kernel_rfl) (by kernel_rfl) (by kernel_rfl) (fun _ _ _ h => h) (Or.inl ⟨by rfl, ?yyeq97⟩) hHeld ?rreq97
      case yyeq97 => (intro w0 hSw; obtain ⟨m0, ⟨m1, m2, m3, m4⟩, ⟨m5, m6, m7⟩, ⟨m8, m9, m10, m11⟩, ⟨m12, m13, m14, m15⟩, m16⟩ := hSw; go_simp; try with_reducible rfl)
      try simp only [Act.put, List.setIfInBounds_toArray, List.set_cons_zero, List.set_cons_succ]
      refine wpAnyH_take (i := 8) (oi := { dst := some 74, op := Op.load 38 (Operand.tmp 3), type := 38, pos := "law.go:29", after := #[], guard := none }) (v := ?vveq98) rfl (by kernel_rfl) (by kernel_rfl) (by kernel_rfl) (fun _ _ _ h => h) (Or.inl ⟨by rfl, ?yyeq98⟩) hHeld ?rreq98
      case yyeq98 => (intro w0 hSw; obtain ⟨m0, ⟨m1, m2, m3, m4⟩, ⟨m5, m6, m7⟩, ⟨m8, m9, m10, m11⟩, ⟨m12, m13, m14, m15⟩, m16⟩ := hSw; go_simp; try with_reducible rfl)
      try simp only [Act.put, List.setIfInBounds_toArray, List.set_cons_zero, List.set_cons_succ]
      refine wpAnyH_take (i := 9) (oi := { dst := some 75, op := Op.fieldAddr 106 (Operand.tmp 7) 0, type := 0, pos := "law.go:29", after := #[], guard := none }) (v := ?vveq99) rfl (by kernel_rfl) (by kernel_rfl) (by kernel_rfl) (fun _ _ _ h => h) (Or.inl ⟨by rfl, ?yyeq99⟩) hHeld ?rreq99
      case yyeq99 => (intro w0 hSw; obtain ⟨m0, ⟨m1, m2, m3, m4⟩, ⟨m5, m6, m7⟩, ⟨m8, m9, m10, m11⟩, ⟨m12, m13, m14, m15⟩, m16⟩ := hSw; go_simp; try with_reducible rfl)
      try simp only [Act.put, List.setIfInBounds_toArray, List.set_cons_zero, List.set_cons_succ]
      refine wpAnyH_take (i := 10) (oi := { dst := some 76, op := Op.load 3 (Operand.tmp 75), type := 3, pos := "law.go:29", after := #[{ on := 9, ground := Ground.data }], guard := none }) (v := ?vveq910) rfl (by kernel_rfl) (by kernel_rfl) (by kernel_rfl) (fun _ _ _ h => h) (Or.inl ⟨by rfl, ?yyeq910⟩) hHeld ?rreq910
      case yyeq910 => (intro w0 hSw; obtain ⟨m0, ⟨m1, m2, m3, m4⟩, ⟨m5, m6, m7⟩, ⟨m8, m9, m10, m11⟩, ⟨m12, m13, m14, m15⟩, m16⟩ := hSw; go_simp; try with_reducible rfl)
      try simp only [Act.put, List.setIfInBounds_toArray, List.set_cons_zero, List.set_cons_succ]
      refine wpAnyH_take (i := 12) (oi := { dst := some 78, op := Op.fieldAddr 106 (Operand.tmp 7) 2, type := 0, pos := "law.go:29", after := #[], guard := none }) (v := ?vveq912) rfl (by kernel_rfl) (by kernel_rfl) (by kernel_rfl) (fun _ _ _ h => h) (Or.inl ⟨by rfl, ?yyeq912⟩) hHeld ?rreq912
      case yyeq912 => (intro w0 hSw; obtain ⟨m0, ⟨m1, m2, m3, m4⟩, ⟨m5, m6, m7⟩, ⟨m8, m9, m10, m11⟩, ⟨m12, m13, m14, m15⟩, m16⟩ := hSw; go_simp; try with_reducible rfl)
      try simp only [Act.put, List.setIfInBounds_toArray, List.set_cons_zero, List.set_cons_succ]
      refine wpAnyH_take (i := 13) (oi := { dst := some 79, op := Op.load 4 (Operand.tmp 78), type := 4, pos := "law.go:29", after := #[{ on := 12, ground := Ground.data }], guard := none }) (v := ?vveq913) rfl (by kernel_rfl) (by kernel_rfl) (by kernel_rfl) (fun _ _ _ h => h) (Or.inl ⟨by rfl, ?yyeq913⟩) hHeld ?rreq913
      case yyeq913 => (intro w0 hSw; obtain ⟨m0, ⟨m1, m2, m3, m4⟩, ⟨m5, m6, m7⟩, ⟨m8, m9, m10, m11⟩, ⟨m12, m13, m14, m15⟩, m16⟩ := hSw; go_simp; try with_reducible rfl)
      try simp only [Act.put, List.setIfInBounds_toArray, List.set_cons_zero, List.set_cons_succ]
      refine wpAnyH_ready (rs := [11]) (by kernel_rfl) (by simp) ?_
      refine AllReadyH.cons (o := { dst := some 77, op := Op.call { callee := Callee.value (Operand.func 45), args := #[Operand.tmp 74, Operand.tmp 76], argTypes := #[38, 3] }, type := 3, pos := "law.go:29", after := #[{ on := 8, ground := Ground.data }, { on := 10, ground := Ground.data }], guard := none }) rfl (fun K hK => ?_) AllReadyH.nil
      go_simp
      go_at_call 45
      refine (HK.out.2.1 _ hHeld.1).mono ?_
      rintro e w9 ⟨rfl, b9⟩
      refine hK.out _ _ (kS.out _ (below3 (r6 hHeld) b9)) (fun hHeld => ?_)
      clear hK K
      try simp only [Act.put, List.setIfInBounds_toArray, List.set_cons_zero, List.set_cons_succ]
      refine wpAnyH_take (i := 14) (oi := { dst := some 80, op := Op.build 108 #[(0, Operand.tmp 71), (1, Operand.tmp 73), (2, Operand.tmp 77), (3, Operand.tmp 79)], type := 108, pos := "law.go:29", after := #[{ on := 5, ground := Ground.data }, { on := 7, ground := Ground.data }, { on := 11, ground := Ground.data }, { on := 13, ground := Ground.data }], guard := none }) (v := ?vveq914) rfl (by kernel_rfl) (by kernel_rfl) (by kernel_rfl) (fun _ _ _ h => h) (Or.inl ⟨by rfl, ?yyeq914⟩) hHeld ?rreq914
      case yyeq914 => (intro w0 hSw; obtain ⟨m0, ⟨m1, m2, m3, m4⟩, ⟨m5, m6, m7⟩, ⟨m8, m9, m10, m11⟩, ⟨m12, m13, m14, m15⟩, m16⟩ := hSw; go_simp; try with_reducible rfl)
      try simp only [Act.put, List.setIfInBounds_toArray, List.set_cons_zero, List.set_cons_succ]
      refine wpAnyH_take (i := 15) (oi := { dst := some 81, op := Op.binOp BinOp.neq 108 (Operand.tmp 69) (Operand.tmp 80) 108, type := 4, pos := "law.go:29", after := #[{ on := 3, ground := Ground.data }, { on := 14, ground := Ground.data }], guard := none }) (v := ?vveq915) rfl (by kernel_rfl) (by kernel_rfl) (by kernel_rfl) (fun _ _ _ h => h) (Or.inl ⟨by rfl, ?yyeq915⟩) hHeld ?rreq915
      case yyeq915 => (intro w0 hSw; obtain ⟨m0, ⟨m1, m2, m3, m4⟩, ⟨m5, m6, m7⟩, ⟨m8, m9, m10, m11⟩, ⟨m12, m13, m14, m15⟩, m16⟩ := hSw; go_simp; try with_reducible rfl)
      try simp only [Act.put, List.setIfInBounds_toArray, List.set_cons_zero, List.set_cons_succ]
      try simp only [beq_self_eq_true, Bool.and_self, Bool.not_true, bne_self_eq_false, Bool.and_true]
      refine wpAnyH_take (i := 16) (oi := { dst := some 82, op := Op.move (Operand.tmp 81), type := 4, pos := "law.go:29", after := #[{ on := 15, ground := Ground.data }, { on := 11, ground := Ground.chain }], guard := none }) (v := ?vveq916) rfl (by kernel_rfl) (by kernel_rfl) (by kernel_rfl) (fun _ _ _ h => h) (Or.inl ⟨by rfl, ?yyeq916⟩) hHeld ?rreq916
      case yyeq916 => (intro w0 hSw; obtain ⟨m0, ⟨m1, m2, m3, m4⟩, ⟨m5, m6, m7⟩, ⟨m8, m9, m10, m11⟩, ⟨m12, m13, m14, m15⟩, m16⟩ := hSw; go_simp; try with_reducible rfl)
      try simp only [Act.put, List.setIfInBounds_toArray, List.set_cons_zero, List.set_cons_succ]
      refine wpAnyH_take (i := 17) (oi := { dst := some 83, op := Op.move (Operand.tmp 9), type := 4, pos := "law.go:29", after := #[{ on := 16, ground := Ground.guard }], guard := some (16, false) }) (v := ?vveq917) rfl (by kernel_rfl) (by kernel_rfl) (by kernel_rfl) (fun _ _ _ h => h) (Or.inl ⟨by rfl, ?yyeq917⟩) hHeld ?rreq917
      case yyeq917 => (intro w0 hSw; obtain ⟨m0, ⟨m1, m2, m3, m4⟩, ⟨m5, m6, m7⟩, ⟨m8, m9, m10, m11⟩, ⟨m12, m13, m14, m15⟩, m16⟩ := hSw; go_simp; try with_reducible rfl)
      try simp only [Act.put, List.setIfInBounds_toArray, List.set_cons_zero, List.set_cons_succ]
      refine wpAnyH_take (i := 18) (oi := { dst := some 84, op := Op.unOp UnOp.not 4 (Operand.tmp 83), type := 4, pos := "law.go:29", after := #[{ on := 17, ground := Ground.data }, { on := 16, ground := Ground.guard }], guard := some (16, false) }) (v := ?vveq918) rfl (by kernel_rfl) (by kernel_rfl) (by kernel_rfl) (fun _ _ _ h => h) (Or.inl ⟨by rfl, ?yyeq918⟩) hHeld ?rreq918
      case yyeq918 => (intro w0 hSw; obtain ⟨m0, ⟨m1, m2, m3, m4⟩, ⟨m5, m6, m7⟩, ⟨m8, m9, m10, m11⟩, ⟨m12, m13, m14, m15⟩, m16⟩ := hSw; go_simp; try with_reducible rfl)
      try simp only [Act.put, List.setIfInBounds_toArray, List.set_cons_zero, List.set_cons_succ]
      refine wpAnyH_take (i := 19) (oi := { dst := some 85, op := Op.pick (Operand.tmp 82) (Operand.const (Value.bool true)) (Operand.tmp 84), type := 4, pos := "law.go:29", after := #[{ on := 16, ground := Ground.data }, { on := 18, ground := Ground.data }], guard := none }) (v := ?vveq919) rfl (by kernel_rfl) (by kernel_rfl) (by kernel_rfl) (fun _ _ _ h => h) (Or.inl ⟨by rfl, ?yyeq919⟩) hHeld ?rreq919
      case yyeq919 => (intro w0 hSw; obtain ⟨m0, ⟨m1, m2, m3, m4⟩, ⟨m5, m6, m7⟩, ⟨m8, m9, m10, m11⟩, ⟨m12, m13, m14, m15⟩, m16⟩ := hSw; go_simp; try with_reducible rfl)
      try simp only [Act.put, List.setIfInBounds_toArray, List.set_cons_zero, List.set_cons_succ]
      refine wpAnyH_take (i := 20) (oi := { dst := some 86, op := Op.move (Operand.tmp 85), type := 4, pos := "law.go:29", after := #[{ on := 19, ground := Ground.data }, { on := 16, ground := Ground.chain }], guard := none }) (v := ?vveq920) rfl (by kernel_rfl) (by kernel_rfl) (by kernel_rfl) (fun _ _ _ h => h) (Or.inl ⟨by rfl, ?yyeq920⟩) hHeld ?rreq920
      case yyeq920 => (intro w0 hSw; obtain ⟨m0, ⟨m1, m2, m3, m4⟩, ⟨m5, m6, m7⟩, ⟨m8, m9, m10, m11⟩, ⟨m12, m13, m14, m15⟩, m16⟩ := hSw; go_simp; try with_reducible rfl)
      try simp only [Act.put, List.setIfInBounds_toArray, List.set_cons_zero, List.set_cons_succ]
      refine wpAnyH_take (i := 21) (oi := { dst := some 87, op := Op.load 108 (Operand.tmp 8), type := 108, pos := "law.go:29", after := #[{ on := 20, ground := Ground.guard }], guard := some (20, false) }) (v := ?vveq921) rfl (by kernel_rfl) (by kernel_rfl) (by kernel_rfl) (fun _ _ _ h => h) (Or.inl ⟨by rfl, ?yyeq921⟩) hHeld ?rreq921
      case yyeq921 => (intro w0 hSw; obtain ⟨m0, ⟨m1, m2, m3, m4⟩, ⟨m5, m6, m7⟩, ⟨m8, m9, m10, m11⟩, ⟨m12, m13, m14, m15⟩, m16⟩ := hSw; go_simp; try with_reducible rfl)
      try simp only [Act.put, List.setIfInBounds_toArray, List.set_cons_zero, List.set_cons_succ]
      refine wpAnyH_take (i := 22) (oi := { dst := some 88, op := Op.move (Operand.tmp 5), type := 102, pos := "law.go:29", after := #[{ on := 20, ground := Ground.guard }], guard := some (20, false) }) (v := ?vveq922) rfl (by kernel_rfl) (by kernel_rfl) (by kernel_rfl) (fun _ _ _ h => h) (Or.inl ⟨by rfl, ?yyeq922⟩) hHeld ?rreq922
      case yyeq922 => (intro w0 hSw; obtain ⟨m0, ⟨m1, m2, m3, m4⟩, ⟨m5, m6, m7⟩, ⟨m8, m9, m10, m11⟩, ⟨m12, m13, m14, m15⟩, m16⟩ := hSw; go_simp; try with_reducible rfl)
      try simp only [Act.put, List.setIfInBounds_toArray, List.set_cons_zero, List.set_cons_succ]
      refine wpAnyH_take (i := 23) (oi := { dst := some 89, op := Op.move (Operand.tmp 6), type := 3, pos := "law.go:29", after := #[{ on := 20, ground := Ground.guard }], guard := some (20, false) }) (v := ?vveq923) rfl (by kernel_rfl) (by kernel_rfl) (by kernel_rfl) (fun _ _ _ h => h) (Or.inl ⟨by rfl, ?yyeq923⟩) hHeld ?rreq923
      case yyeq923 => (intro w0 hSw; obtain ⟨m0, ⟨m1, m2, m3, m4⟩, ⟨m5, m6, m7⟩, ⟨m8, m9, m10, m11⟩, ⟨m12, m13, m14, m15⟩, m16⟩ := hSw; go_simp; try with_reducible rfl)
      try simp only [Act.put, List.setIfInBounds_toArray, List.set_cons_zero, List.set_cons_succ]
      refine wpAnyH_take (i := 24) (oi := { dst := some 90, op := Op.indexAddr 102 (Operand.tmp 88) (Operand.tmp 89), type := 0, pos := "law.go:29", after := #[{ on := 22, ground := Ground.data }, { on := 23, ground := Ground.data }, { on := 20, ground := Ground.guard }], guard := some (20, false) }) (v := ?vveq924) rfl (by kernel_rfl) (by kernel_rfl) (by kernel_rfl) (fun _ _ _ h => h) (Or.inl ⟨by rfl, ?yyeq924⟩) hHeld ?rreq924
      case yyeq924 => (intro w0 hSw; obtain ⟨m0, ⟨m1, m2, m3, m4⟩, ⟨m5, m6, m7⟩, ⟨m8, m9, m10, m11⟩, ⟨m12, m13, m14, m15⟩, m16⟩ := hSw; go_simp; try with_reducible rfl)
      try simp only [Act.put, List.setIfInBounds_toArray, List.set_cons_zero, List.set_cons_succ]
      refine wpAnyH_take (i := 25) (oi := { dst := some 91, op := Op.load 108 (Operand.tmp 90), type := 108, pos := "law.go:29", after := #[{ on := 24, ground := Ground.data }, { on := 20, ground := Ground.guard }], guard := some (20, false) }) (v := ?vveq925) rfl (by kernel_rfl) (by kernel_rfl) (by kernel_rfl) (fun _ _ _ h => h) (Or.inl ⟨by rfl, ?yyeq925⟩) hHeld ?rreq925
      case yyeq925 => (intro w0 hSw; obtain ⟨m0, ⟨m1, m2, m3, m4⟩, ⟨m5, m6, m7⟩, ⟨m8, m9, m10, m11⟩, ⟨m12, m13, m14, m15⟩, m16⟩ := hSw; go_simp; try with_reducible rfl)
      try simp only [Act.put, List.setIfInBounds_toArray, List.set_cons_zero, List.set_cons_succ]
      refine wpAnyH_take (i := 26) (oi := { dst := some 92, op := Op.binOp BinOp.neq 108 (Operand.tmp 87) (Operand.tmp 91) 108, type := 4, pos := "law.go:29", after := #[{ on := 21, ground := Ground.data }, { on := 25, ground := Ground.data }, { on := 20, ground := Ground.guard }], guard := some (20, false) }) (v := ?vveq926) rfl (by kernel_rfl) (by kernel_rfl) (by kernel_rfl) (fun _ _ _ h => h) (Or.inl ⟨by rfl, ?yyeq926⟩) hHeld ?rreq926
      case yyeq926 => (intro w0 hSw; obtain ⟨m0, ⟨m1, m2, m3, m4⟩, ⟨m5, m6, m7⟩, ⟨m8, m9, m10, m11⟩, ⟨m12, m13, m14, m15⟩, m16⟩ := hSw; go_simp; try with_reducible rfl)
      try simp only [Act.put, List.setIfInBounds_toArray, List.set_cons_zero, List.set_cons_succ]
      try simp only [beq_self_eq_true, Bool.and_self, Bool.not_true, bne_self_eq_false, Bool.and_true]
      refine wpAnyH_take (i := 27) (oi := { dst := some 93, op := Op.pick (Operand.tmp 86) (Operand.const (Value.bool true)) (Operand.tmp 92), type := 4, pos := "law.go:29", after := #[{ on := 20, ground := Ground.data }, { on := 26, ground := Ground.data }], guard := none }) (v := ?vveq927) rfl (by kernel_rfl) (by kernel_rfl) (by kernel_rfl) (fun _ _ _ h => h) (Or.inl ⟨by rfl, ?yyeq927⟩) hHeld ?rreq927
      case yyeq927 => (intro w0 hSw; obtain ⟨m0, ⟨m1, m2, m3, m4⟩, ⟨m5, m6, m7⟩, ⟨m8, m9, m10, m11⟩, ⟨m12, m13, m14, m15⟩, m16⟩ := hSw; go_simp; try with_reducible rfl)
      try simp only [Act.put, List.setIfInBounds_toArray, List.set_cons_zero, List.set_cons_succ]
      refine wpAnyH_done (by kernel_rfl) ?_ _
      have hb9 := Hid.mk hHeld.1
      clear b9 kS HK hHeld
      go_wp2_with fail
      exact ⟨⟨k + 1, by omega, by go_num, hb9.out⟩, by simp [intOf]; omega⟩
    · have hk2 : k = n' := by omega
      subst hk2
      have HB := Hid.mk hb
      clear hb F
      go_upto_region 12 with fail
      clear k0 k1 k2 k3
      go_loopw [10] (fun i wr => ∃ j : Nat, j ≤ nl ∧ i = .int .i64 j ∧ Below w1.heap.size w1 wr) (fun i _ => nl - (intOf i).toNat)
      case atStart => exact ⟨0, Nat.zero_le _, rfl, HB.out⟩
      case round =>
        clear HB
        obtain ⟨j, hj, rfl, hb⟩ := hrel
        have F := FA.out wr hb
        obtain ⟨k0, k1, k2, k3⟩ := F.box.cells
        have hGl2 := F.box.lt
        by_cases hjn : j < nl
        · have hjl : j < (lvA t.sp).length := by rw [lvA_len]; have := hnl'.out; omega
          obtain ⟨g, rfl, hgB, hgl, d0, d1, d2⟩ := F.at'.lv.at3 (j := j) hjl
          have hy : (rs t).lv.getD j (0, 0, 0) ∈ lvA t.sp := by
            show (lvA t.sp).getD j (0, 0, 0) ∈ _
            rw [List.getD_eq_getElem?_getD, List.getElem?_eq_getElem hjl]
            exact List.getElem_mem hjl
          generalize (rs t).lv.getD j (0, 0, 0) = y at *
          obtain ⟨hg1, hg2, hg3, hg4⟩ := get_lv HT.out hy
          obtain ⟨y1, y2, y3⟩ := y
          simp only at d0 d1 d2 hg1 hg2 hg3 hg4
          have C13 : ∀ W, Below w1.heap.size w1 W → Calls Tryz.prog 28 #[.pointer (some ⟨s.p, 0, none⟩), .int .i64 y1, .int .i64 y2] W fun e w' => e = .returned (.tuple #[.int .i64 ((getA (ab s) y1 y2).getD 0), .bool (getA (ab s) y1 y2).isSome]) ∧ W = w' := fun W b => get_any (FA.out W b).st.at' hg2 hg3
          have C24 : ∀ W, Below w1.heap.size w1 W → Calls Tryz.prog 46 #[.pointer (some ⟨s.p, 0, none⟩), .int .i64 y3] W fun e w' => e = .returned (.int .i64 ((mget s.refs y3).getD 0)) ∧ W = w' := fun W b => refs_any (FA.out W b).st.at' hg4
          have C40 : ∀ W, Below w1.heap.size w1 W → Calls Tryz.prog 47 #[.agg #[.slice a0 k c0, .slice (some ⟨g, 0, none⟩) nl c1, .slice a2 nb c2, .slice a3 n3 c3], .int .i64 y3] W fun e w' => e = .returned (.int .i64 (cL y3 (rs t).lv : Int)) ∧ Below W.heap.size W w' := fun W b => rrefs_any (FA.out W b).at' (by have := (lens_rs HT.out).2.1; omega) y3
          generalize (getA (ab s) y1 y2).getD 0 = a4 at *
          generalize (getA (ab s) y1 y2).isSome = b4 at *
          generalize (mget s.refs y3).getD 0 = f1 at *
          generalize (cL y3 (rs t).lv : Int) = f2 at *
          have HK := Hid.mk (And.intro C13 (And.intro C24 (And.intro C40 hb)))
          clear C13 C24 C40 F hy hg1 hjl
          go_upto_region 16 with (first | (go_at_call 28; refine (HK.out.1 _ (below3 hb (below_al wr _))).mono ?_; rintro e w2 ⟨rfl, rfl⟩))
          have X8 := heap_alloc_new wr (.cells #[.int .i64 y1, .int .i64 y2, .int .i64 y3] 113)
          have B8 := below_al wr (.cells #[.int .i64 y1, .int .i64 y2, .int .i64 y3] 113)
          generalize wr.alloc (.cells #[.int .i64 y1, .int .i64 y2, .int .i64 y3] 113) = W8 at *
          have kS : Hid (∀ w', Below W8.heap.size W8 w' → Below w1.heap.size w1 w' ∧ (w'.cell? ⟨G, 0, none⟩ = some (.slice a0 k c0) ∧ w'.cell? ⟨G, 1, none⟩ = some (.slice (some ⟨g, 0, none⟩) nl c1) ∧ w'.cell? ⟨G, 2, none⟩ = some (.slice a2 nb c2) ∧ w'.cell? ⟨G, 3, none⟩ = some (.slice a3 n3 c3)) ∧ (w'.cell? ⟨wr.heap.size, 0, none⟩ = some (.int .i64 y1) ∧ w'.cell? ⟨wr.heap.size, 1, none⟩ = some (.int .i64 y2) ∧ w'.cell? ⟨wr.heap.size, 2, none⟩ = some (.int .i64 y3)) ∧ Below W8.heap.size W8 w') := fun w' q => by
            have q3 := below3 HK.out.2.2.2 (below3 B8 q)
            have hX := (q.block _ (Array.getElem?_eq_some_iff.1 X8).1).trans X8
            refine ⟨q3, (FA.out w' q3).box.cells, ⟨?_, ?_, ?_⟩, q⟩
            · rw [cell_of_row w' _ 0 _ 113 _ hX]; rfl
            · rw [cell_of_row w' _ 1 _ 113 _ hX]; rfl
            · rw [cell_of_row w' _ 2 _ 113 _ hX]; rfl
          clear X8 B8 k0 k1 k2 k3 d0 d1 d2 hb
          generalize wr.heap.size = gx at *
          have hnl2 : nl < 50000 := by have := (lens_rs HT.out).2.1; have := lvA_len t.sp; have := hnl'.out; simp only [rs] at *; omega
          cases b4 with
          | false =>
            refine wp_region_held_drew (S := fun w' => Below w1.heap.size w1 w' ∧ (w'.cell? ⟨G, 0, none⟩ = some (.slice a0 k c0) ∧ w'.cell? ⟨G, 1, none⟩ = some (.slice (some ⟨g, 0, none⟩) nl c1) ∧ w'.cell? ⟨G, 2, none⟩ = some (.slice a2 nb c2) ∧ w'.cell? ⟨G, 3, none⟩ = some (.slice a3 n3 c3)) ∧ (w'.cell? ⟨gx, 0, none⟩ = some (.int .i64 y1) ∧ w'.cell? ⟨gx, 1, none⟩ = some (.int .i64 y2) ∧ w'.cell? ⟨gx, 2, none⟩ = some (.int .i64 y3)) ∧ Below W8.heap.size W8 w') (by kernel_rfl) (kS.out _ (Below.refl _ W8).drew) (fun hHeld => ?_)
            refine wpAnyH_take (i := 0) (oi := { dst := some 115, op := Op.move (Operand.tmp 13), type := 4, pos := "law.go:35", after := #[], guard := none }) (v := ?vvu10) rfl (by kernel_rfl) (by kernel_rfl) (by kernel_rfl) (fun _ _ _ h => h) (Or.inl ⟨by rfl, ?yyu10⟩) hHeld ?rru10
            case yyu10 => (intro w0 hSw; obtain ⟨m0, ⟨m1, m2, m3, m4⟩, ⟨m5, m6, m7⟩, m16⟩ := hSw; go_simp; try with_reducible rfl)
            try simp only [Act.put, List.setIfInBounds_toArray, List.set_cons_zero, List.set_cons_succ]
            refine wpAnyH_take (i := 1) (oi := { dst := some 116, op := Op.unOp UnOp.not 4 (Operand.tmp 115), type := 4, pos := "law.go:35", after := #[{ on := 0, ground := Ground.data }], guard := none }) (v := ?vvu11) rfl (by kernel_rfl) (by kernel_rfl) (by kernel_rfl) (fun _ _ _ h => h) (Or.inl ⟨by rfl, ?yyu11⟩) hHeld ?rru11
            case yyu11 => (intro w0 hSw; obtain ⟨m0, ⟨m1, m2, m3, m4⟩, ⟨m5, m6, m7⟩, m16⟩ := hSw; go_simp; try with_reducible rfl)
            try simp only [Act.put, List.setIfInBounds_toArray, List.set_cons_zero, List.set_cons_succ]
            refine wpAnyH_take (i := 2) (oi := { dst := some 117, op := Op.move (Operand.tmp 116), type := 4, pos := "law.go:35", after := #[{ on := 1, ground := Ground.data }], guard := none }) (v := ?vvu12) rfl (by kernel_rfl) (by kernel_rfl) (by kernel_rfl) (fun _ _ _ h => h) (Or.inl ⟨by rfl, ?yyu12⟩) hHeld ?rru12
            case yyu12 => (intro w0 hSw; obtain ⟨m0, ⟨m1, m2, m3, m4⟩, ⟨m5, m6, m7⟩, m16⟩ := hSw; go_simp; try with_reducible rfl)
            try simp only [Act.put, List.setIfInBounds_toArray, List.set_cons_zero, List.set_cons_succ]
            refine wpAnyH_take (i := 3) (oi := { dst := some 118, op := Op.move (Operand.tmp 12), type := 3, pos := "law.go:35", after := #[{ on := 2, ground := Ground.guard }], guard := some (2, false) }) (v := undef) rfl (by kernel_rfl) (by kernel_rfl) (by kernel_rfl) (fun _ _ _ h => h) (Or.inr ⟨by rfl, rfl⟩) hHeld ?_
            try simp only [Act.put, List.setIfInBounds_toArray, List.set_cons_zero, List.set_cons_succ]
            refine wpAnyH_take (i := 4) (oi := { dst := some 119, op := Op.fieldAddr 113 (Operand.tmp 11) 2, type := 0, pos := "law.go:35", after := #[{ on := 2, ground := Ground.guard }], guard := some (2, false) }) (v := undef) rfl (by kernel_rfl) (by kernel_rfl) (by kernel_rfl) (fun _ _ _ h => h) (Or.inr ⟨by rfl, rfl⟩) hHeld ?_
            try simp only [Act.put, List.setIfInBounds_toArray, List.set_cons_zero, List.set_cons_succ]
            refine wpAnyH_take (i := 5) (oi := { dst := some 120, op := Op.load 3 (Operand.tmp 119), type := 3, pos := "law.go:35", after := #[{ on := 4, ground := Ground.data }, { on := 2, ground := Ground.guard }], guard := some (2, false) }) (v := undef) rfl (by kernel_rfl) (by kernel_rfl) (by kernel_rfl) (fun _ _ _ h => h) (Or.inr ⟨by rfl, rfl⟩) hHeld ?_
            try simp only [Act.put, List.setIfInBounds_toArray, List.set_cons_zero, List.set_cons_succ]
            refine wpAnyH_take (i := 6) (oi := { dst := some 121, op := Op.binOp BinOp.neq 3 (Operand.tmp 118) (Operand.tmp 120) 3, type := 4, pos := "law.go:35", after := #[{ on := 3, ground := Ground.data }, { on := 5, ground := Ground.data }, { on := 2, ground := Ground.guard }], guard := some (2, false) }) (v := undef) rfl (by kernel_rfl) (by kernel_rfl) (by kernel_rfl) (fun _ _ _ h => h) (Or.inr ⟨by rfl, rfl⟩) hHeld ?_
            try simp only [Act.put, List.setIfInBounds_toArray, List.set_cons_zero, List.set_cons_succ]
            refine wpAnyH_take (i := 7) (oi := { dst := some 122, op := Op.pick (Operand.tmp 117) (Operand.const (Value.bool true)) (Operand.tmp 121), type := 4, pos := "law.go:35", after := #[{ on := 2, ground := Ground.data }, { on := 6, ground := Ground.data }], guard := none }) (v := ?vvu17) rfl (by kernel_rfl) (by kernel_rfl) (by kernel_rfl) (fun _ _ _ h => h) (Or.inl ⟨by rfl, ?yyu17⟩) hHeld ?rru17
            case yyu17 => (intro w0 hSw; obtain ⟨m0, ⟨m1, m2, m3, m4⟩, ⟨m5, m6, m7⟩, m16⟩ := hSw; go_simp; try with_reducible rfl)
            try simp only [Act.put, List.setIfInBounds_toArray, List.set_cons_zero, List.set_cons_succ]
            refine wpAnyH_take (i := 8) (oi := { dst := some 123, op := Op.move (Operand.tmp 122), type := 4, pos := "law.go:35", after := #[{ on := 7, ground := Ground.data }, { on := 2, ground := Ground.chain }], guard := none }) (v := ?vvu18) rfl (by kernel_rfl) (by kernel_rfl) (by kernel_rfl) (fun _ _ _ h => h) (Or.inl ⟨by rfl, ?yyu18⟩) hHeld ?rru18
            case yyu18 => (intro w0 hSw; obtain ⟨m0, ⟨m1, m2, m3, m4⟩, ⟨m5, m6, m7⟩, m16⟩ := hSw; go_simp; try with_reducible rfl)
            try simp only [Act.put, List.setIfInBounds_toArray, List.set_cons_zero, List.set_cons_succ]
            refine wpAnyH_take (i := 9) (oi := { dst := some 124, op := Op.move (Operand.tmp 0), type := 50, pos := "law.go:35", after := #[{ on := 8, ground := Ground.guard }], guard := some (8, false) }) (v := undef) rfl (by kernel_rfl) (by kernel_rfl) (by kernel_rfl) (fun _ _ _ h => h) (Or.inr ⟨by rfl, rfl⟩) hHeld ?_
            try simp only [Act.put, List.setIfInBounds_toArray, List.set_cons_zero, List.set_cons_succ]
            refine wpAnyH_take (i := 10) (oi := { dst := some 125, op := Op.fieldAddr 113 (Operand.tmp 11) 2, type := 0, pos := "law.go:35", after := #[{ on := 8, ground := Ground.guard }], guard := some (8, false) }) (v := undef) rfl (by kernel_rfl) (by kernel_rfl) (by kernel_rfl) (fun _ _ _ h => h) (Or.inr ⟨by rfl, rfl⟩) hHeld ?_
            try simp only [Act.put, List.setIfInBounds_toArray, List.set_cons_zero, List.set_cons_succ]
            refine wpAnyH_take (i := 11) (oi := { dst := some 126, op := Op.load 3 (Operand.tmp 125), type := 3, pos := "law.go:35", after := #[{ on := 10, ground := Ground.data }, { on := 8, ground := Ground.guard }], guard := some (8, false) }) (v := undef) rfl (by kernel_rfl) (by kernel_rfl) (by kernel_rfl) (fun _ _ _ h => h) (Or.inr ⟨by rfl, rfl⟩) hHeld ?_
            try simp only [Act.put, List.setIfInBounds_toArray, List.set_cons_zero, List.set_cons_succ]
            refine wpAnyH_take (i := 12) (oi := { dst := some 127, op := Op.call { callee := Callee.value (Operand.func 46), args := #[Operand.tmp 124, Operand.tmp 126], argTypes := #[50, 3] }, type := 3, pos := "law.go:35", after := #[{ on := 9, ground := Ground.data }, { on := 11, ground := Ground.data }, { on := 8, ground := Ground.chain }, { on := 8, ground := Ground.guard }], guard := some (8, false) }) (v := undef) rfl (by kernel_rfl) (by kernel_rfl) (by kernel_rfl) (fun _ _ _ h => h) (Or.inr ⟨by rfl, rfl⟩) hHeld ?_
            try simp only [Act.put, List.setIfInBounds_toArray, List.set_cons_zero, List.set_cons_succ]
            refine wpAnyH_take (i := 13) (oi := { dst := some 128, op := Op.load 38 (Operand.tmp 3), type := 38, pos := "law.go:35", after := #[{ on := 8, ground := Ground.guard }], guard := some (8, false) }) (v := undef) rfl (by kernel_rfl) (by kernel_rfl) (by kernel_rfl) (fun _ _ _ h => h) (Or.inr ⟨by rfl, rfl⟩) hHeld ?_
            try simp only [Act.put, List.setIfInBounds_toArray, List.set_cons_zero, List.set_cons_succ]
            refine wpAnyH_take (i := 14) (oi := { dst := some 129, op := Op.fieldAddr 113 (Operand.tmp 11) 2, type := 0, pos := "law.go:35", after := #[{ on := 8, ground := Ground.guard }], guard := some (8, false) }) (v := undef) rfl (by kernel_rfl) (by kernel_rfl) (by kernel_rfl) (fun _ _ _ h => h) (Or.inr ⟨by rfl, rfl⟩) hHeld ?_
            try simp only [Act.put, List.setIfInBounds_toArray, List.set_cons_zero, List.set_cons_succ]
            refine wpAnyH_take (i := 15) (oi := { dst := some 130, op := Op.load 3 (Operand.tmp 129), type := 3, pos := "law.go:35", after := #[{ on := 14, ground := Ground.data }, { on := 8, ground := Ground.guard }], guard := some (8, false) }) (v := undef) rfl (by kernel_rfl) (by kernel_rfl) (by kernel_rfl) (fun _ _ _ h => h) (Or.inr ⟨by rfl, rfl⟩) hHeld ?_
            try simp only [Act.put, List.setIfInBounds_toArray, List.set_cons_zero, List.set_cons_succ]
            refine wpAnyH_take (i := 16) (oi := { dst := some 131, op := Op.call { callee := Callee.value (Operand.func 47), args := #[Operand.tmp 128, Operand.tmp 130], argTypes := #[38, 3] }, type := 3, pos := "law.go:35", after := #[{ on := 13, ground := Ground.data }, { on := 15, ground := Ground.data }, { on := 12, ground := Ground.chain }, { on := 8, ground := Ground.guard }], guard := some (8, false) }) (v := undef) rfl (by kernel_rfl) (by kernel_rfl) (by kernel_rfl) (fun _ _ _ h => h) (Or.inr ⟨by rfl, rfl⟩) hHeld ?_
            try simp only [Act.put, List.setIfInBounds_toArray, List.set_cons_zero, List.set_cons_succ]
            refine wpAnyH_take (i := 17) (oi := { dst := some 132, op := Op.binOp BinOp.neq 3 (Operand.tmp 127) (Operand.tmp 131) 3, type := 4, pos := "law.go:35", after := #[{ on := 12, ground := Ground.data }, { on := 16, ground := Ground.data }, { on := 8, ground := Ground.guard }], guard := some (8, false) }) (v := undef) rfl (by kernel_rfl) (by kernel_rfl) (by kernel_rfl) (fun _ _ _ h => h) (Or.inr ⟨by rfl, rfl⟩) hHeld ?_
            try simp only [Act.put, List.setIfInBounds_toArray, List.set_cons_zero, List.set_cons_succ]
            refine wpAnyH_take (i := 18) (oi := { dst := some 133, op := Op.pick (Operand.tmp 123) (Operand.const (Value.bool true)) (Operand.tmp 132), type := 4, pos := "law.go:35", after := #[{ on := 8, ground := Ground.data }, { on := 17, ground := Ground.data }], guard := none }) (v := ?vvu118) rfl (by kernel_rfl) (by kernel_rfl) (by kernel_rfl) (fun _ _ _ h => h) (Or.inl ⟨by rfl, ?yyu118⟩) hHeld ?rru118
            case yyu118 => (intro w0 hSw; obtain ⟨m0, ⟨m1, m2, m3, m4⟩, ⟨m5, m6, m7⟩, m16⟩ := hSw; go_simp; try with_reducible rfl)
            try simp only [Act.put, List.setIfInBounds_toArray, List.set_cons_zero, List.set_cons_succ]
            refine wpAnyH_done (by kernel_rfl) ?_ _
            go_wp2_with fail
            go_ret
            exact smb _ hG.out hbw.out.1 hHeld.1
          | true =>
            by_cases s1 : y3 = a4
            rotate_left
            · have qI : ((a4 : Int) != (y3 : Int)) = true := by simp; omega
              refine wp_region_held_drew (S := fun w' => Below w1.heap.size w1 w' ∧ (w'.cell? ⟨G, 0, none⟩ = some (.slice a0 k c0) ∧ w'.cell? ⟨G, 1, none⟩ = some (.slice (some ⟨g, 0, none⟩) nl c1) ∧ w'.cell? ⟨G, 2, none⟩ = some (.slice a2 nb c2) ∧ w'.cell? ⟨G, 3, none⟩ = some (.slice a3 n3 c3)) ∧ (w'.cell? ⟨gx, 0, none⟩ = some (.int .i64 y1) ∧ w'.cell? ⟨gx, 1, none⟩ = some (.int .i64 y2) ∧ w'.cell? ⟨gx, 2, none⟩ = some (.int .i64 y3)) ∧ Below W8.heap.size W8 w') (by kernel_rfl) (kS.out _ (Below.refl _ W8).drew) (fun hHeld => ?_)
              refine wpAnyH_take (i := 0) (oi := { dst := some 115, op := Op.move (Operand.tmp 13), type := 4, pos := "law.go:35", after := #[], guard := none }) (v := ?vvu20) rfl (by kernel_rfl) (by kernel_rfl) (by kernel_rfl) (fun _ _ _ h => h) (Or.inl ⟨by rfl, ?yyu20⟩) hHeld ?rru20
              case yyu20 => (intro w0 hSw; obtain ⟨m0, ⟨m1, m2, m3, m4⟩, ⟨m5, m6, m7⟩, m16⟩ := hSw; go_simp; try with_reducible rfl)
              try simp only [Act.put, List.setIfInBounds_toArray, List.set_cons_zero, List.set_cons_succ]
              refine wpAnyH_take (i := 1) (oi := { dst := some 116, op := Op.unOp UnOp.not 4 (Operand.tmp 115), type := 4, pos := "law.go:35", after := #[{ on := 0, ground := Ground.data }], guard := none }) (v := ?vvu21) rfl (by kernel_rfl) (by kernel_rfl) (by kernel_rfl) (fun _ _ _ h => h) (Or.inl ⟨by rfl, ?yyu21⟩) hHeld ?rru21
              case yyu21 => (intro w0 hSw; obtain ⟨m0, ⟨m1, m2, m3, m4⟩, ⟨m5, m6, m7⟩, m16⟩ := hSw; go_simp; try with_reducible rfl)
              try simp only [Act.put, List.setIfInBounds_toArray, List.set_cons_zero, List.set_cons_succ]
              refine wpAnyH_take (i := 2) (oi := { dst := some 117, op := Op.move (Operand.tmp 116), type := 4, pos := "law.go:35", after := #[{ on := 1, ground := Ground.data }], guard := none }) (v := ?vvu22) rfl (by kernel_rfl) (by kernel_rfl) (by kernel_rfl) (fun _ _ _ h => h) (Or.inl ⟨by rfl, ?yyu22⟩) hHeld ?rru22
              case yyu22 => (intro w0 hSw; obtain ⟨m0, ⟨m1, m2, m3, m4⟩, ⟨m5, m6, m7⟩, m16⟩ := hSw; go_simp; try with_reducible rfl)
              try simp only [Act.put, List.setIfInBounds_toArray, List.set_cons_zero, List.set_cons_succ]
              refine wpAnyH_take (i := 3) (oi := { dst := some 118, op := Op.move (Operand.tmp 12), type := 3, pos := "law.go:35", after := #[{ on := 2, ground := Ground.guard }], guard := some (2, false) }) (v := ?vvu23) rfl (by kernel_rfl) (by kernel_rfl) (by kernel_rfl) (fun _ _ _ h => h) (Or.inl ⟨by rfl, ?yyu23⟩) hHeld ?rru23
              case yyu23 => (intro w0 hSw; obtain ⟨m0, ⟨m1, m2, m3, m4⟩, ⟨m5, m6, m7⟩, m16⟩ := hSw; go_simp; try with_reducible rfl)
              try simp only [Act.put, List.setIfInBounds_toArray, List.set_cons_zero, List.set_cons_succ]
              refine wpAnyH_take (i := 4) (oi := { dst := some 119, op := Op.fieldAddr 113 (Operand.tmp 11) 2, type := 0, pos := "law.go:35", after := #[{ on := 2, ground := Ground.guard }], guard := some (2, false) }) (v := ?vvu24) rfl (by kernel_rfl) (by kernel_rfl) (by kernel_rfl) (fun _ _ _ h => h) (Or.inl ⟨by rfl, ?yyu24⟩) hHeld ?rru24
              case yyu24 => (intro w0 hSw; obtain ⟨m0, ⟨m1, m2, m3, m4⟩, ⟨m5, m6, m7⟩, m16⟩ := hSw; go_simp; try with_reducible rfl)
              try simp only [Act.put, List.setIfInBounds_toArray, List.set_cons_zero, List.set_cons_succ]
              refine wpAnyH_take (i := 5) (oi := { dst := some 120, op := Op.load 3 (Operand.tmp 119), type := 3, pos := "law.go:35", after := #[{ on := 4, ground := Ground.data }, { on := 2, ground := Ground.guard }], guard := some (2, false) }) (v := ?vvu25) rfl (by kernel_rfl) (by kernel_rfl) (by kernel_rfl) (fun _ _ _ h => h) (Or.inl ⟨by rfl, ?yyu25⟩) hHeld ?rru25
              case yyu25 => (intro w0 hSw; obtain ⟨m0, ⟨m1, m2, m3, m4⟩, ⟨m5, m6, m7⟩, m16⟩ := hSw; go_simp; try with_reducible rfl)
              try simp only [Act.put, List.setIfInBounds_toArray, List.set_cons_zero, List.set_cons_succ]
              refine wpAnyH_take (i := 6) (oi := { dst := some 121, op := Op.binOp BinOp.neq 3 (Operand.tmp 118) (Operand.tmp 120) 3, type := 4, pos := "law.go:35", after := #[{ on := 3, ground := Ground.data }, { on := 5, ground := Ground.data }, { on := 2, ground := Ground.guard }], guard := some (2, false) }) (v := ?vvu26) rfl (by kernel_rfl) (by kernel_rfl) (by kernel_rfl) (fun _ _ _ h => h) (Or.inl ⟨by rfl, ?yyu26⟩) hHeld ?rru26
              case yyu26 => (intro w0 hSw; obtain ⟨m0, ⟨m1, m2, m3, m4⟩, ⟨m5, m6, m7⟩, m16⟩ := hSw; go_simp; try with_reducible rfl)
              try simp only [Act.put, List.setIfInBounds_toArray, List.set_cons_zero, List.set_cons_succ]
              try simp only [qI]
              refine wpAnyH_take (i := 7) (oi := { dst := some 122, op := Op.pick (Operand.tmp 117) (Operand.const (Value.bool true)) (Operand.tmp 121), type := 4, pos := "law.go:35", after := #[{ on := 2, ground := Ground.data }, { on := 6, ground := Ground.data }], guard := none }) (v := ?vvu27) rfl (by kernel_rfl) (by kernel_rfl) (by kernel_rfl) (fun _ _ _ h => h) (Or.inl ⟨by rfl, ?yyu27⟩) hHeld ?rru27
              case yyu27 => (intro w0 hSw; obtain ⟨m0, ⟨m1, m2, m3, m4⟩, ⟨m5, m6, m7⟩, m16⟩ := hSw; go_simp; try with_reducible rfl)
              try simp only [Act.put, List.setIfInBounds_toArray, List.set_cons_zero, List.set_cons_succ]
              refine wpAnyH_take (i := 8) (oi := { dst := some 123, op := Op.move (Operand.tmp 122), type := 4, pos := "law.go:35", after := #[{ on := 7, ground := Ground.data }, { on := 2, ground := Ground.chain }], guard := none }) (v := ?vvu28) rfl (by kernel_rfl) (by kernel_rfl) (by kernel_rfl) (fun _ _ _ h => h) (Or.inl ⟨by rfl, ?yyu28⟩) hHeld ?rru28
              case yyu28 => (intro w0 hSw; obtain ⟨m0, ⟨m1, m2, m3, m4⟩, ⟨m5, m6, m7⟩, m16⟩ := hSw; go_simp; try with_reducible rfl)
              try simp only [Act.put, List.setIfInBounds_toArray, List.set_cons_zero, List.set_cons_succ]
              refine wpAnyH_take (i := 9) (oi := { dst := some 124, op := Op.move (Operand.tmp 0), type := 50, pos := "law.go:35", after := #[{ on := 8, ground := Ground.guard }], guard := some (8, false) }) (v := undef) rfl (by kernel_rfl) (by kernel_rfl) (by kernel_rfl) (fun _ _ _ h => h) (Or.inr ⟨by rfl, rfl⟩) hHeld ?_
              try simp only [Act.put, List.setIfInBounds_toArray, List.set_cons_zero, List.set_cons_succ]
              refine wpAnyH_take (i := 10) (oi := { dst := some 125, op := Op.fieldAddr 113 (Operand.tmp 11) 2, type := 0, pos := "law.go:35", after := #[{ on := 8, ground := Ground.guard }], guard := some (8, false) }) (v := undef) rfl (by kernel_rfl) (by kernel_rfl) (by kernel_rfl) (fun _ _ _ h => h) (Or.inr ⟨by rfl, rfl⟩) hHeld ?_
              try simp only [Act.put, List.setIfInBounds_toArray, List.set_cons_zero, List.set_cons_succ]
              refine wpAnyH_take (i := 11) (oi := { dst := some 126, op := Op.load 3 (Operand.tmp 125), type := 3, pos := "law.go:35", after := #[{ on := 10, ground := Ground.data }, { on := 8, ground := Ground.guard }], guard := some (8, false) }) (v := undef) rfl (by kernel_rfl) (by kernel_rfl) (by kernel_rfl) (fun _ _ _ h => h) (Or.inr ⟨by rfl, rfl⟩) hHeld ?_
              try simp only [Act.put, List.setIfInBounds_toArray, List.set_cons_zero, List.set_cons_succ]
              refine wpAnyH_take (i := 12) (oi := { dst := some 127, op := Op.call { callee := Callee.value (Operand.func 46), args := #[Operand.tmp 124, Operand.tmp 126], argTypes := #[50, 3] }, type := 3, pos := "law.go:35", after := #[{ on := 9, ground := Ground.data }, { on := 11, ground := Ground.data }, { on := 8, ground := Ground.chain }, { on := 8, ground := Ground.guard }], guard := some (8, false) }) (v := undef) rfl (by kernel_rfl) (by kernel_rfl) (by kernel_rfl) (fun _ _ _ h => h) (Or.inr ⟨by rfl, rfl⟩) hHeld ?_
              try simp only [Act.put, List.setIfInBounds_toArray, List.set_cons_zero, List.set_cons_succ]
              refine wpAnyH_take (i := 13) (oi := { dst := some 128, op := Op.load 38 (Operand.tmp 3), type := 38, pos := "law.go:35", after := #[{ on := 8, ground := Ground.guard }], guard := some (8, false) }) (v := undef) rfl (by kernel_rfl) (by kernel_rfl) (by kernel_rfl) (fun _ _ _ h => h) (Or.inr ⟨by rfl, rfl⟩) hHeld ?_
              try simp only [Act.put, List.setIfInBounds_toArray, List.set_cons_zero, List.set_cons_succ]
              refine wpAnyH_take (i := 14) (oi := { dst := some 129, op := Op.fieldAddr 113 (Operand.tmp 11) 2, type := 0, pos := "law.go:35", after := #[{ on := 8, ground := Ground.guard }], guard := some (8, false) }) (v := undef) rfl (by kernel_rfl) (by kernel_rfl) (by kernel_rfl) (fun _ _ _ h => h) (Or.inr ⟨by rfl, rfl⟩) hHeld ?_
              try simp only [Act.put, List.setIfInBounds_toArray, List.set_cons_zero, List.set_cons_succ]
              refine wpAnyH_take (i := 15) (oi := { dst := some 130, op := Op.load 3 (Operand.tmp 129), type := 3, pos := "law.go:35", after := #[{ on := 14, ground := Ground.data }, { on := 8, ground := Ground.guard }], guard := some (8, false) }) (v := undef) rfl (by kernel_rfl) (by kernel_rfl) (by kernel_rfl) (fun _ _ _ h => h) (Or.inr ⟨by rfl, rfl⟩) hHeld ?_
              try simp only [Act.put, List.setIfInBounds_toArray, List.set_cons_zero, List.set_cons_succ]
              refine wpAnyH_take (i := 16) (oi := { dst := some 131, op := Op.call { callee := Callee.value (Operand.func 47), args := #[Operand.tmp 128, Operand.tmp 130], argTypes := #[38, 3] }, type := 3, pos := "law.go:35", after := #[{ on := 13, ground := Ground.data }, { on := 15, ground := Ground.data }, { on := 12, ground := Ground.chain }, { on := 8, ground := Ground.guard }], guard := some (8, false) }) (v := undef) rfl (by kernel_rfl) (by kernel_rfl) (by kernel_rfl) (fun _ _ _ h => h) (Or.inr ⟨by rfl, rfl⟩) hHeld ?_
              try simp only [Act.put, List.setIfInBounds_toArray, List.set_cons_zero, List.set_cons_succ]
              refine wpAnyH_take (i := 17) (oi := { dst := some 132, op := Op.binOp BinOp.neq 3 (Operand.tmp 127) (Operand.tmp 131) 3, type := 4, pos := "law.go:35", after := #[{ on := 12, ground := Ground.data }, { on := 16, ground := Ground.data }, { on := 8, ground := Ground.guard }], guard := some (8, false) }) (v := undef) rfl (by kernel_rfl) (by kernel_rfl) (by kernel_rfl) (fun _ _ _ h => h) (Or.inr ⟨by rfl, rfl⟩) hHeld ?_
              try simp only [Act.put, List.setIfInBounds_toArray, List.set_cons_zero, List.set_cons_succ]
              refine wpAnyH_take (i := 18) (oi := { dst := some 133, op := Op.pick (Operand.tmp 123) (Operand.const (Value.bool true)) (Operand.tmp 132), type := 4, pos := "law.go:35", after := #[{ on := 8, ground := Ground.data }, { on := 17, ground := Ground.data }], guard := none }) (v := ?vvu218) rfl (by kernel_rfl) (by kernel_rfl) (by kernel_rfl) (fun _ _ _ h => h) (Or.inl ⟨by rfl, ?yyu218⟩) hHeld ?rru218
              case yyu218 => (intro w0 hSw; obtain ⟨m0, ⟨m1, m2, m3, m4⟩, ⟨m5, m6, m7⟩, m16⟩ := hSw; go_simp; try with_reducible rfl)
              try simp only [Act.put, List.setIfInBounds_toArray, List.set_cons_zero, List.set_cons_succ]
              refine wpAnyH_done (by kernel_rfl) ?_ _
              go_wp2_with fail
              go_ret
              exact smb _ hG.out hbw.out.1 hHeld.1
            subst s1
            by_cases s2 : f2 = f1
            rotate_left
            · have qI : ((f1 : Int) != (f2 : Int)) = true := by simp; omega
              refine wp_region_held_drew (S := fun w' => Below w1.heap.size w1 w' ∧ (w'.cell? ⟨G, 0, none⟩ = some (.slice a0 k c0) ∧ w'.cell? ⟨G, 1, none⟩ = some (.slice (some ⟨g, 0, none⟩) nl c1) ∧ w'.cell? ⟨G, 2, none⟩ = some (.slice a2 nb c2) ∧ w'.cell? ⟨G, 3, none⟩ = some (.slice a3 n3 c3)) ∧ (w'.cell? ⟨gx, 0, none⟩ = some (.int .i64 y1) ∧ w'.cell? ⟨gx, 1, none⟩ = some (.int .i64 y2) ∧ w'.cell? ⟨gx, 2, none⟩ = some (.int .i64 y3)) ∧ Below W8.heap.size W8 w') (by kernel_rfl) (kS.out _ (Below.refl _ W8).drew) (fun hHeld => ?_)
              refine wpAnyH_take (i := 0) (oi := { dst := some 115, op := Op.move (Operand.tmp 13), type := 4, pos := "law.go:35", after := #[], guard := none }) (v := ?vvu30) rfl (by kernel_rfl) (by kernel_rfl) (by kernel_rfl) (fun _ _ _ h => h) (Or.inl ⟨by rfl, ?yyu30⟩) hHeld ?rru30
              case yyu30 => (intro w0 hSw; obtain ⟨m0, ⟨m1, m2, m3, m4⟩, ⟨m5, m6, m7⟩, m16⟩ := hSw; go_simp; try with_reducible rfl)
              try simp only [Act.put, List.setIfInBounds_toArray, List.set_cons_zero, List.set_cons_succ]
              refine wpAnyH_take (i := 1) (oi := { dst := some 116, op := Op.unOp UnOp.not 4 (Operand.tmp 115), type := 4, pos := "law.go:35", after := #[{ on := 0, ground := Ground.data }], guard := none }) (v := ?vvu31) rfl (by kernel_rfl) (by kernel_rfl) (by kernel_rfl) (fun _ _ _ h => h) (Or.inl ⟨by rfl, ?yyu31⟩) hHeld ?rru31
              case yyu31 => (intro w0 hSw; obtain ⟨m0, ⟨m1, m2, m3, m4⟩, ⟨m5, m6, m7⟩, m16⟩ := hSw; go_simp; try with_reducible rfl)
              try simp only [Act.put, List.setIfInBounds_toArray, List.set_cons_zero, List.set_cons_succ]
              refine wpAnyH_take (i := 2) (oi := { dst := some 117, op := Op.move (Operand.tmp 116), type := 4, pos := "law.go:35", after := #[{ on := 1, ground := Ground.data }], guard := none }) (v := ?vvu32) rfl (by kernel_rfl) (by kernel_rfl) (by kernel_rfl) (fun _ _ _ h => h) (Or.inl ⟨by rfl, ?yyu32⟩) hHeld ?rru32
              case yyu32 => (intro w0 hSw; obtain ⟨m0, ⟨m1, m2, m3, m4⟩, ⟨m5, m6, m7⟩, m16⟩ := hSw; go_simp; try with_reducible rfl)
              try simp only [Act.put, List.setIfInBounds_toArray, List.set_cons_zero, List.set_cons_succ]
              refine wpAnyH_take (i := 3) (oi := { dst := some 118, op := Op.move (Operand.tmp 12), type := 3, pos := "law.go:35", after := #[{ on := 2, ground := Ground.guard }], guard := some (2, false) }) (v := ?vvu33) rfl (by kernel_rfl) (by kernel_rfl) (by kernel_rfl) (fun _ _ _ h => h) (Or.inl ⟨by rfl, ?yyu33⟩) hHeld ?rru33
              case yyu33 => (intro w0 hSw; obtain ⟨m0, ⟨m1, m2, m3, m4⟩, ⟨m5, m6, m7⟩, m16⟩ := hSw; go_simp; try with_reducible rfl)
              try simp only [Act.put, List.setIfInBounds_toArray, List.set_cons_zero, List.set_cons_succ]
              refine wpAnyH_take (i := 4) (oi := { dst := some 119, op := Op.fieldAddr 113 (Operand.tmp 11) 2, type := 0, pos := "law.go:35", after := #[{ on := 2, ground := Ground.guard }], guard := some (2, false) }) (v := ?vvu34) rfl (by kernel_rfl) (by kernel_rfl) (by kernel_rfl) (fun _ _ _ h => h) (Or.inl ⟨by rfl, ?yyu34⟩) hHeld ?rru34
              case yyu34 => (intro w0 hSw; obtain ⟨m0, ⟨m1, m2, m3, m4⟩, ⟨m5, m6, m7⟩, m16⟩ := hSw; go_simp; try with_reducible rfl)
              try simp only [Act.put, List.setIfInBounds_toArray, List.set_cons_zero, List.set_cons_succ]
              refine wpAnyH_take (i := 5) (oi := { dst := some 120, op := Op.load 3 (Operand.tmp 119), type := 3, pos := "law.go:35", after := #[{ on := 4, ground := Ground.data }, { on := 2, ground := Ground.guard }], guard := some (2, false) }) (v := ?vvu35) rfl (by kernel_rfl) (by kernel_rfl) (by kernel_rfl) (fun _ _ _ h => h) (Or.inl ⟨by rfl, ?yyu35⟩) hHeld ?rru35
              case yyu35 => (intro w0 hSw; obtain ⟨m0, ⟨m1, m2, m3, m4⟩, ⟨m5, m6, m7⟩, m16⟩ := hSw; go_simp; try with_reducible rfl)
              try simp only [Act.put, List.setIfInBounds_toArray, List.set_cons_zero, List.set_cons_succ]
              refine wpAnyH_take (i := 6) (oi := { dst := some 121, op := Op.binOp BinOp.neq 3 (Operand.tmp 118) (Operand.tmp 120) 3, type := 4, pos := "law.go:35", after := #[{ on := 3, ground := Ground.data }, { on := 5, ground := Ground.data }, { on := 2, ground := Ground.guard }], guard := some (2, false) }) (v := ?vvu36) rfl (by kernel_rfl) (by kernel_rfl) (by kernel_rfl) (fun _ _ _ h => h) (Or.inl ⟨by rfl, ?yyu36⟩) hHeld ?rru36
              case yyu36 => (intro w0 hSw; obtain ⟨m0, ⟨m1, m2, m3, m4⟩, ⟨m5, m6, m7⟩, m16⟩ := hSw; go_simp; try with_reducible rfl)
              try simp only [Act.put, List.setIfInBounds_toArray, List.set_cons_zero, List.set_cons_succ]
              try simp only [bne_self_eq_false]
              refine wpAnyH_take (i := 7) (oi := { dst := some 122, op := Op.pick (Operand.tmp 117) (Operand.const (Value.bool true)) (Operand.tmp 121), type := 4, pos := "law.go:35", after := #[{ on := 2, ground := Ground.data }, { on := 6, ground := Ground.data }], guard := none }) (v := ?vvu37) rfl (by kernel_rfl) (by kernel_rfl) (by kernel_rfl) (fun _ _ _ h => h) (Or.inl ⟨by rfl, ?yyu37⟩) hHeld ?rru37
              case yyu37 => (intro w0 hSw; obtain ⟨m0, ⟨m1, m2, m3, m4⟩, ⟨m5, m6, m7⟩, m16⟩ := hSw; go_simp; try with_reducible rfl)
              try simp only [Act.put, List.setIfInBounds_toArray, List.set_cons_zero, List.set_cons_succ]
              refine wpAnyH_take (i := 8) (oi := { dst := some 123, op := Op.move (Operand.tmp 122), type := 4, pos := "law.go:35", after := #[{ on := 7, ground := Ground.data }, { on := 2, ground := Ground.chain }], guard := none }) (v := ?vvu38) rfl (by kernel_rfl) (by kernel_rfl) (by kernel_rfl) (fun _ _ _ h => h) (Or.inl ⟨by rfl, ?yyu38⟩) hHeld ?rru38
              case yyu38 => (intro w0 hSw; obtain ⟨m0, ⟨m1, m2, m3, m4⟩, ⟨m5, m6, m7⟩, m16⟩ := hSw; go_simp; try with_reducible rfl)
              try simp only [Act.put, List.setIfInBounds_toArray, List.set_cons_zero, List.set_cons_succ]
              refine wpAnyH_take (i := 9) (oi := { dst := some 124, op := Op.move (Operand.tmp 0), type := 50, pos := "law.go:35", after := #[{ on := 8, ground := Ground.guard }], guard := some (8, false) }) (v := ?vvu39) rfl (by kernel_rfl) (by kernel_rfl) (by kernel_rfl) (fun _ _ _ h => h) (Or.inl ⟨by rfl, ?yyu39⟩) hHeld ?rru39
              case yyu39 => (intro w0 hSw; obtain ⟨m0, ⟨m1, m2, m3, m4⟩, ⟨m5, m6, m7⟩, m16⟩ := hSw; go_simp; try with_reducible rfl)
              try simp only [Act.put, List.setIfInBounds_toArray, List.set_cons_zero, List.set_cons_succ]
              refine wpAnyH_take (i := 10) (oi := { dst := some 125, op := Op.fieldAddr 113 (Operand.tmp 11) 2, type := 0, pos := "law.go:35", after := #[{ on := 8, ground := Ground.guard }], guard := some (8, false) }) (v := ?vvu310) rfl (by kernel_rfl) (by kernel_rfl) (by kernel_rfl) (fun _ _ _ h => h) (Or.inl ⟨by rfl, ?yyu310⟩) hHeld ?rru310
              case yyu310 => (intro w0 hSw; obtain ⟨m0, ⟨m1, m2, m3, m4⟩, ⟨m5, m6, m7⟩, m16⟩ := hSw; go_simp; try with_reducible rfl)
              try simp only [Act.put, List.setIfInBounds_toArray, List.set_cons_zero, List.set_cons_succ]
              refine wpAnyH_take (i := 11) (oi := { dst := some 126, op := Op.load 3 (Operand.tmp 125), type := 3, pos := "law.go:35", after := #[{ on := 10, ground := Ground.data }, { on := 8, ground := Ground.guard }], guard := some (8, false) }) (v := ?vvu311) rfl (by kernel_rfl) (by kernel_rfl) (by kernel_rfl) (fun _ _ _ h => h) (Or.inl ⟨by rfl, ?yyu311⟩) hHeld ?rru311
              case yyu311 => (intro w0 hSw; obtain ⟨m0, ⟨m1, m2, m3, m4⟩, ⟨m5, m6, m7⟩, m16⟩ := hSw; go_simp; try with_reducible rfl)
              try simp only [Act.put, List.setIfInBounds_toArray, List.set_cons_zero, List.set_cons_succ]
              refine wpAnyH_take (i := 13) (oi := { dst := some 128, op := Op.load 38 (Operand.tmp 3), type := 38, pos := "law.go:35", after := #[{ on := 8, ground := Ground.guard }], guard := some (8, false) }) (v := ?vvu313) rfl (by kernel_rfl) (by kernel_rfl) (by kernel_rfl) (fun _ _ _ h => h) (Or.inl ⟨by rfl, ?yyu313⟩) hHeld ?rru313
              case yyu313 => (intro w0 hSw; obtain ⟨m0, ⟨m1, m2, m3, m4⟩, ⟨m5, m6, m7⟩, m16⟩ := hSw; go_simp; try with_reducible rfl)
              try simp only [Act.put, List.setIfInBounds_toArray, List.set_cons_zero, List.set_cons_succ]
              refine wpAnyH_take (i := 14) (oi := { dst := some 129, op := Op.fieldAddr 113 (Operand.tmp 11) 2, type := 0, pos := "law.go:35", after := #[{ on := 8, ground := Ground.guard }], guard := some (8, false) }) (v := ?vvu314) rfl (by kernel_rfl) (by kernel_rfl) (by kernel_rfl) (fun _ _ _ h => h) (Or.inl ⟨by rfl, ?yyu314⟩) hHeld ?rru314
              case yyu314 => (intro w0 hSw; obtain ⟨m0, ⟨m1, m2, m3, m4⟩, ⟨m5, m6, m7⟩, m16⟩ := hSw; go_simp; try with_reducible rfl)
              try simp only [Act.put, List.setIfInBounds_toArray, List.set_cons_zero, List.set_cons_succ]
              refine wpAnyH_take (i := 15) (oi := { dst := some 130, op := Op.load 3 (Operand.tmp 129), type := 3, pos := "law.go:35", after := #[{ on := 14, ground := Ground.data }, { on := 8, ground := Ground.guard }], guard := some (8, false) }) (v := ?vvu315) rfl (by kernel_rfl) (by kernel_rfl) (by kernel_rfl) (fun _ _ _ h => h) (Or.inl ⟨by rfl, ?yyu315⟩) hHeld ?rru315
              case yyu315 => (intro w0 hSw; obtain ⟨m0, ⟨m1, m2, m3, m4⟩, ⟨m5, m6, m7⟩, m16⟩ := hSw; go_simp; try with_reducible rfl)
              try simp only [Act.put, List.setIfInBounds_toArray, List.set_cons_zero, List.set_cons_succ]
              refine wpAnyH_ready (rs := [12]) (by kernel_rfl) (by simp) ?_
              refine AllReadyH.cons (o := { dst := some 127, op := Op.call { callee := Callee.value (Operand.func 46), args := #[Operand.tmp 124, Operand.tmp 126], argTypes := #[50, 3] }, type := 3, pos := "law.go:35", after := #[{ on := 9, ground := Ground.data }, { on := 11, ground := Ground.data }, { on := 8, ground := Ground.chain }, { on := 8, ground := Ground.guard }], guard := some (8, false) }) rfl (fun K hK => ?_) AllReadyH.nil
              go_simp
              go_at_call 46
              refine (HK.out.2.1 _ hHeld.1).mono ?_
              rintro e w5 ⟨rfl, rfl⟩
              refine hK.out _ _ hHeld (fun hHeld => ?_)
              clear hK K
              try simp only [Act.put, List.setIfInBounds_toArray, List.set_cons_zero, List.set_cons_succ]
              refine wpAnyH_ready (rs := [16]) (by kernel_rfl) (by simp) ?_
              refine AllReadyH.cons (o := { dst := some 131, op := Op.call { callee := Callee.value (Operand.func 47), args := #[Operand.tmp 128, Operand.tmp 130], argTypes := #[38, 3] }, type := 3, pos := "law.go:35", after := #[{ on := 13, ground := Ground.data }, { on := 15, ground := Ground.data }, { on := 12, ground := Ground.chain }, { on := 8, ground := Ground.guard }], guard := some (8, false) }) rfl (fun K hK => ?_) AllReadyH.nil
              go_simp
              go_at_call 47
              refine (HK.out.2.2.1 _ hHeld.1).mono ?_
              rintro e w9 ⟨rfl, b9⟩
              refine hK.out _ _ (kS.out _ (below3 hHeld.2.2.2 b9)) (fun hHeld => ?_)
              clear hK K
              try simp only [Act.put, List.setIfInBounds_toArray, List.set_cons_zero, List.set_cons_succ]
              refine wpAnyH_take (i := 17) (oi := { dst := some 132, op := Op.binOp BinOp.neq 3 (Operand.tmp 127) (Operand.tmp 131) 3, type := 4, pos := "law.go:35", after := #[{ on := 12, ground := Ground.data }, { on := 16, ground := Ground.data }, { on := 8, ground := Ground.guard }], guard := some (8, false) }) (v := ?vvu317) rfl (by kernel_rfl) (by kernel_rfl) (by kernel_rfl) (fun _ _ _ h => h) (Or.inl ⟨by rfl, ?yyu317⟩) hHeld ?rru317
              case yyu317 => (intro w0 hSw; obtain ⟨m0, ⟨m1, m2, m3, m4⟩, ⟨m5, m6, m7⟩, m16⟩ := hSw; go_simp; try with_reducible rfl)
              try simp only [Act.put, List.setIfInBounds_toArray, List.set_cons_zero, List.set_cons_succ]
              try simp only [qI]
              refine wpAnyH_take (i := 18) (oi := { dst := some 133, op := Op.pick (Operand.tmp 123) (Operand.const (Value.bool true)) (Operand.tmp 132), type := 4, pos := "law.go:35", after := #[{ on := 8, ground := Ground.data }, { on := 17, ground := Ground.data }], guard := none }) (v := ?vvu318) rfl (by kernel_rfl) (by kernel_rfl) (by kernel_rfl) (fun _ _ _ h => h) (Or.inl ⟨by rfl, ?yyu318⟩) hHeld ?rru318
              case yyu318 => (intro w0 hSw; obtain ⟨m0, ⟨m1, m2, m3, m4⟩, ⟨m5, m6, m7⟩, m16⟩ := hSw; go_simp; try with_reducible rfl)
              try simp only [Act.put, List.setIfInBounds_toArray, List.set_cons_zero, List.set_cons_succ]
              refine wpAnyH_done (by kernel_rfl) ?_ _
              go_wp2_with fail
              go_ret
              exact smb _ hG.out hbw.out.1 hHeld.1
            subst s2
            refine wp_region_held_drew (S := fun w' => Below w1.heap.size w1 w' ∧ (w'.cell? ⟨G, 0, none⟩ = some (.slice a0 k c0) ∧ w'.cell? ⟨G, 1, none⟩ = some (.slice (some ⟨g, 0, none⟩) nl c1) ∧ w'.cell? ⟨G, 2, none⟩ = some (.slice a2 nb c2) ∧ w'.cell? ⟨G, 3, none⟩ = some (.slice a3 n3 c3)) ∧ (w'.cell? ⟨gx, 0, none⟩ = some (.int .i64 y1) ∧ w'.cell? ⟨gx, 1, none⟩ = some (.int .i64 y2) ∧ w'.cell? ⟨gx, 2, none⟩ = some (.int .i64 y3)) ∧ Below W8.heap.size W8 w') (by kernel_rfl) (kS.out _ (Below.refl _ W8).drew) (fun hHeld => ?_)
            refine wpAnyH_take (i := 0) (oi := { dst := some 115, op := Op.move (Operand.tmp 13), type := 4, pos := "law.go:35", after := #[], guard := none }) (v := ?vvu40) rfl (by kernel_rfl) (by kernel_rfl) (by kernel_rfl) (fun _ _ _ h => h) (Or.inl ⟨by rfl, ?yyu40⟩) hHeld ?rru40
            case yyu40 => (intro w0 hSw; obtain ⟨m0, ⟨m1, m2, m3, m4⟩, ⟨m5, m6, m7⟩, m16⟩ := hSw; go_simp; try with_reducible rfl)
            try simp only [Act.put, List.setIfInBounds_toArray, List.set_cons_zero, List.set_cons_succ]
            refine wpAnyH_take (i := 1) (oi := { dst := some 116, op := Op.unOp UnOp.not 4 (Operand.tmp 115), type := 4, pos := "law.go:35", after := #[{ on := 0, ground := Ground.data }], guard := none }) (v := ?vvu41) rfl (by kernel_rfl) (by kernel_rfl) (by kernel_rfl) (fun _ _ _ h => h) (Or.inl ⟨by rfl, ?yyu41⟩) hHeld ?rru41
            case yyu41 => (intro w0 hSw; obtain ⟨m0, ⟨m1, m2, m3, m4⟩, ⟨m5, m6, m7⟩, m16⟩ := hSw; go_simp; try with_reducible rfl)
            try simp only [Act.put, List.setIfInBounds_toArray, List.set_cons_zero, List.set_cons_succ]
            refine wpAnyH_take (i := 2) (oi := { dst := some 117, op := Op.move (Operand.tmp 116), type := 4, pos := "law.go:35", after := #[{ on := 1, ground := Ground.data }], guard := none }) (v := ?vvu42) rfl (by kernel_rfl) (by kernel_rfl) (by kernel_rfl) (fun _ _ _ h => h) (Or.inl ⟨by rfl, ?yyu42⟩) hHeld ?rru42
            case yyu42 => (intro w0 hSw; obtain ⟨m0, ⟨m1, m2, m3, m4⟩, ⟨m5, m6, m7⟩, m16⟩ := hSw; go_simp; try with_reducible rfl)
            try simp only [Act.put, List.setIfInBounds_toArray, List.set_cons_zero, List.set_cons_succ]
            refine wpAnyH_take (i := 3) (oi := { dst := some 118, op := Op.move (Operand.tmp 12), type := 3, pos := "law.go:35", after := #[{ on := 2, ground := Ground.guard }], guard := some (2, false) }) (v := ?vvu43) rfl (by kernel_rfl) (by kernel_rfl) (by kernel_rfl) (fun _ _ _ h => h) (Or.inl ⟨by rfl, ?yyu43⟩) hHeld ?rru43
            case yyu43 => (intro w0 hSw; obtain ⟨m0, ⟨m1, m2, m3, m4⟩, ⟨m5, m6, m7⟩, m16⟩ := hSw; go_simp; try with_reducible rfl)
            try simp only [Act.put, List.setIfInBounds_toArray, List.set_cons_zero, List.set_cons_succ]
            refine wpAnyH_take (i := 4) (oi := { dst := some 119, op := Op.fieldAddr 113 (Operand.tmp 11) 2, type := 0, pos := "law.go:35", after := #[{ on := 2, ground := Ground.guard }], guard := some (2, false) }) (v := ?vvu44) rfl (by kernel_rfl) (by kernel_rfl) (by kernel_rfl) (fun _ _ _ h => h) (Or.inl ⟨by rfl, ?yyu44⟩) hHeld ?rru44
            case yyu44 => (intro w0 hSw; obtain ⟨m0, ⟨m1, m2, m3, m4⟩, ⟨m5, m6, m7⟩, m16⟩ := hSw; go_simp; try with_reducible rfl)
            try simp only [Act.put, List.setIfInBounds_toArray, List.set_cons_zero, List.set_cons_succ]
            refine wpAnyH_take (i := 5) (oi := { dst := some 120, op := Op.load 3 (Operand.tmp 119), type := 3, pos := "law.go:35", after := #[{ on := 4, ground := Ground.data }, { on := 2, ground := Ground.guard }], guard := some (2, false) }) (v := ?vvu45) rfl (by kernel_rfl) (by kernel_rfl) (by kernel_rfl) (fun _ _ _ h => h) (Or.inl ⟨by rfl, ?yyu45⟩) hHeld ?rru45
            case yyu45 => (intro w0 hSw; obtain ⟨m0, ⟨m1, m2, m3, m4⟩, ⟨m5, m6, m7⟩, m16⟩ := hSw; go_simp; try with_reducible rfl)
            try simp only [Act.put, List.setIfInBounds_toArray, List.set_cons_zero, List.set_cons_succ]
            refine wpAnyH_take (i := 6) (oi := { dst := some 121, op := Op.binOp BinOp.neq 3 (Operand.tmp 118) (Operand.tmp 120) 3, type := 4, pos := "law.go:35", after := #[{ on := 3, ground := Ground.data }, { on := 5, ground := Ground.data }, { on := 2, ground := Ground.guard }], guard := some (2, false) }) (v := ?vvu46) rfl (by kernel_rfl) (by kernel_rfl) (by kernel_rfl) (fun _ _ _ h => h) (Or.inl ⟨by rfl, ?yyu46⟩) hHeld ?rru46
            case yyu46 => (intro w0 hSw; obtain ⟨m0, ⟨m1, m2, m3, m4⟩, ⟨m5, m6, m7⟩, m16⟩ := hSw; go_simp; try with_reducible rfl)
            try simp only [Act.put, List.setIfInBounds_toArray, List.set_cons_zero, List.set_cons_succ]
            try simp only [bne_self_eq_false]
            refine wpAnyH_take (i := 7) (oi := { dst := some 122, op := Op.pick (Operand.tmp 117) (Operand.const (Value.bool true)) (Operand.tmp 121), type := 4, pos := "law.go:35", after := #[{ on := 2, ground := Ground.data }, { on := 6, ground := Ground.data }], guard := none }) (v := ?vvu47) rfl (by kernel_rfl) (by kernel_rfl) (by kernel_rfl) (fun _ _ _ h => h) (Or.inl ⟨by rfl, ?yyu47⟩) hHeld ?rru47
            case yyu47 => (intro w0 hSw; obtain ⟨m0, ⟨m1, m2, m3, m4⟩, ⟨m5, m6, m7⟩, m16⟩ := hSw; go_simp; try with_reducible rfl)
            try simp only [Act.put, List.setIfInBounds_toArray, List.set_cons_zero, List.set_cons_succ]
            refine wpAnyH_take (i := 8) (oi := { dst := some 123, op := Op.move (Operand.tmp 122), type := 4, pos := "law.go:35", after := #[{ on := 7, ground := Ground.data }, { on := 2, ground := Ground.chain }], guard := none }) (v := ?vvu48) rfl (by kernel_rfl) (by kernel_rfl) (by kernel_rfl) (fun _ _ _ h => h) (Or.inl ⟨by rfl, ?yyu48⟩) hHeld ?rru48
            case yyu48 => (intro w0 hSw; obtain ⟨m0, ⟨m1, m2, m3, m4⟩, ⟨m5, m6, m7⟩, m16⟩ := hSw; go_simp; try with_reducible rfl)
            try simp only [Act.put, List.setIfInBounds_toArray, List.set_cons_zero, List.set_cons_succ]
            refine wpAnyH_take (i := 9) (oi := { dst := some 124, op := Op.move (Operand.tmp 0), type := 50, pos := "law.go:35", after := #[{ on := 8, ground := Ground.guard }], guard := some (8, false) }) (v := ?vvu49) rfl (by kernel_rfl) (by kernel_rfl) (by kernel_rfl) (fun _ _ _ h => h) (Or.inl ⟨by rfl, ?yyu49⟩) hHeld ?rru49
            case yyu49 => (intro w0 hSw; obtain ⟨m0, ⟨m1, m2, m3, m4⟩, ⟨m5, m6, m7⟩, m16⟩ := hSw; go_simp; try with_reducible rfl)
            try simp only [Act.put, List.setIfInBounds_toArray, List.set_cons_zero, List.set_cons_succ]
            refine wpAnyH_take (i := 10) (oi := { dst := some 125, op := Op.fieldAddr 113 (Operand.tmp 11) 2, type := 0, pos := "law.go:35", after := #[{ on := 8, ground := Ground.guard }], guard := some (8, false) }) (v := ?vvu410) rfl (by kernel_rfl) (by kernel_rfl) (by kernel_rfl) (fun _ _ _ h => h) (Or.inl ⟨by rfl, ?yyu410⟩) hHeld ?rru410
            case yyu410 => (intro w0 hSw; obtain ⟨m0, ⟨m1, m2, m3, m4⟩, ⟨m5, m6, m7⟩, m16⟩ := hSw; go_simp; try with_reducible rfl)
            try simp only [Act.put, List.setIfInBounds_toArray, List.set_cons_zero, List.set_cons_succ]
            refine wpAnyH_take (i := 11) (oi := { dst := some 126, op := Op.load 3 (Operand.tmp 125), type := 3, pos := "law.go:35", after := #[{ on := 10, ground := Ground.data }, { on := 8, ground := Ground.guard }], guard := some (8, false) }) (v := ?vvu411) rfl (by kernel_rfl) (by kernel_rfl) (by kernel_rfl) (fun _ _ _ h => h) (Or.inl ⟨by rfl, ?yyu411⟩) hHeld ?rru411
            case yyu411 => (intro w0 hSw; obtain ⟨m0, ⟨m1, m2, m3, m4⟩, ⟨m5, m6, m7⟩, m16⟩ := hSw; go_simp; try with_reducible rfl)
            try simp only [Act.put, List.setIfInBounds_toArray, List.set_cons_zero, List.set_cons_succ]
            refine wpAnyH_take (i := 13) (oi := { dst := some 128, op := Op.load 38 (Operand.tmp 3), type := 38, pos := "law.go:35", after := #[{ on := 8, ground := Ground.guard }], guard := some (8, false) }) (v := ?vvu413) rfl (by kernel_rfl) (by kernel_rfl) (by kernel_rfl) (fun _ _ _ h => h) (Or.inl ⟨by rfl, ?yyu413⟩) hHeld ?rru413
            case yyu413 => (intro w0 hSw; obtain ⟨m0, ⟨m1, m2, m3, m4⟩, ⟨m5, m6, m7⟩, m16⟩ := hSw; go_simp; try with_reducible rfl)
            try simp only [Act.put, List.setIfInBounds_toArray, List.set_cons_zero, List.set_cons_succ]
            refine wpAnyH_take (i := 14) (oi := { dst := some 129, op := Op.fieldAddr 113 (Operand.tmp 11) 2, type := 0, pos := "law.go:35", after := #[{ on := 8, ground := Ground.guard }], guard := some (8, false) }) (v := ?vvu414) rfl (by kernel_rfl) (by kernel_rfl) (by kernel_rfl) (fun _ _ _ h => h) (Or.inl ⟨by rfl, ?yyu414⟩) hHeld ?rru414
            case yyu414 => (intro w0 hSw; obtain ⟨m0, ⟨m1, m2, m3, m4⟩, ⟨m5, m6, m7⟩, m16⟩ := hSw; go_simp; try with_reducible rfl)
            try simp only [Act.put, List.setIfInBounds_toArray, List.set_cons_zero, List.set_cons_succ]
            refine wpAnyH_take (i := 15) (oi := { dst := some 130, op := Op.load 3 (Operand.tmp 129), type := 3, pos := "law.go:35", after := #[{ on := 14, ground := Ground.data }, { on := 8, ground := Ground.guard }], guard := some (8, false) }) (v := ?vvu415) rfl (by kernel_rfl) (by kernel_rfl) (by kernel_rfl) (fun _ _ _ h => h) (Or.inl ⟨by rfl, ?yyu415⟩) hHeld ?rru415
            case yyu415 => (intro w0 hSw; obtain ⟨m0, ⟨m1, m2, m3, m4⟩, ⟨m5, m6, m7⟩, m16⟩ := hSw; go_simp; try with_reducible rfl)
            try simp only [Act.put, List.setIfInBounds_toArray, List.set_cons_zero, List.set_cons_succ]
            refine wpAnyH_ready (rs := [12]) (by kernel_rfl) (by simp) ?_
            refine AllReadyH.cons (o := { dst := some 127, op := Op.call { callee := Callee.value (Operand.func 46), args := #[Operand.tmp 124, Operand.tmp 126], argTypes := #[50, 3] }, type := 3, pos := "law.go:35", after := #[{ on := 9, ground := Ground.data }, { on := 11, ground := Ground.data }, { on := 8, ground := Ground.chain }, { on := 8, ground := Ground.guard }], guard := some (8, false) }) rfl (fun K hK => ?_) AllReadyH.nil
            go_simp
            go_at_call 46
            refine (HK.out.2.1 _ hHeld.1).mono ?_
            rintro e w5 ⟨rfl, rfl⟩
            refine hK.out _ _ hHeld (fun hHeld => ?_)
            clear hK K
            try simp only [Act.put, List.setIfInBounds_toArray, List.set_cons_zero, List.set_cons_succ]
            refine wpAnyH_ready (rs := [16]) (by kernel_rfl) (by simp) ?_
            refine AllReadyH.cons (o := { dst := some 131, op := Op.call { callee := Callee.value (Operand.func 47), args := #[Operand.tmp 128, Operand.tmp 130], argTypes := #[38, 3] }, type := 3, pos := "law.go:35", after := #[{ on := 13, ground := Ground.data }, { on := 15, ground := Ground.data }, { on := 12, ground := Ground.chain }, { on := 8, ground := Ground.guard }], guard := some (8, false) }) rfl (fun K hK => ?_) AllReadyH.nil
            go_simp
            go_at_call 47
            refine (HK.out.2.2.1 _ hHeld.1).mono ?_
            rintro e w9 ⟨rfl, b9⟩
            refine hK.out _ _ (kS.out _ (below3 hHeld.2.2.2 b9)) (fun hHeld => ?_)
            clear hK K
            try simp only [Act.put, List.setIfInBounds_toArray, List.set_cons_zero, List.set_cons_succ]
            refine wpAnyH_take (i := 17) (oi := { dst := some 132, op := Op.binOp BinOp.neq 3 (Operand.tmp 127) (Operand.tmp 131) 3, type := 4, pos := "law.go:35", after := #[{ on := 12, ground := Ground.data }, { on := 16, ground := Ground.data }, { on := 8, ground := Ground.guard }], guard := some (8, false) }) (v := ?vvu417) rfl (by kernel_rfl) (by kernel_rfl) (by kernel_rfl) (fun _ _ _ h => h) (Or.inl ⟨by rfl, ?yyu417⟩) hHeld ?rru417
            case yyu417 => (intro w0 hSw; obtain ⟨m0, ⟨m1, m2, m3, m4⟩, ⟨m5, m6, m7⟩, m16⟩ := hSw; go_simp; try with_reducible rfl)
            try simp only [Act.put, List.setIfInBounds_toArray, List.set_cons_zero, List.set_cons_succ]
            try simp only [bne_self_eq_false]
            refine wpAnyH_take (i := 18) (oi := { dst := some 133, op := Op.pick (Operand.tmp 123) (Operand.const (Value.bool true)) (Operand.tmp 132), type := 4, pos := "law.go:35", after := #[{ on := 8, ground := Ground.data }, { on := 17, ground := Ground.data }], guard := none }) (v := ?vvu418) rfl (by kernel_rfl) (by kernel_rfl) (by kernel_rfl) (fun _ _ _ h => h) (Or.inl ⟨by rfl, ?yyu418⟩) hHeld ?rru418
            case yyu418 => (intro w0 hSw; obtain ⟨m0, ⟨m1, m2, m3, m4⟩, ⟨m5, m6, m7⟩, m16⟩ := hSw; go_simp; try with_reducible rfl)
            try simp only [Act.put, List.setIfInBounds_toArray, List.set_cons_zero, List.set_cons_succ]
            refine wpAnyH_done (by kernel_rfl) ?_ _
            have hb9 := Hid.mk hHeld.1
            clear b9 kS HK hHeld
            go_wp2_with fail
            exact ⟨⟨j + 1, by omega, by go_num, hb9.out⟩, by simp [intOf]; omega⟩
        · have hj2 : j = nl := by omega
          subst hj2
          have hN0 := dump_rs hbw.out.2
          rw [dump_same hbw.out.2] at hN0
          have hM0 := dump_rs HT.out
          have C16 : ∀ W, Below w1.heap.size w1 W → Calls Tryz.prog 48 #[.pointer (some ⟨s.p, 0, none⟩)] W fun e w' => ∃ a c, e = .returned (.slice a (dumpA (ab s)).length c) ∧ Ow w' G 87 6 (.slice a (dumpA (ab s)).length c) ((dumpA (ab s)).map rR) ∧ Below W.heap.size W w' := fun W b => by
            refine (dump_any (FA.out W b).st).mono ?_
            rintro e w' ⟨v, rfl, o, b'⟩
            obtain ⟨a, c, rfl⟩ := o.form
            rw [List.length_map] at o ⊢
            exact ⟨a, c, rfl, o.lower (Nat.le_of_lt (FA.out W b).box.lt), b'⟩
          have C41 : ∀ W, Below w1.heap.size w1 W → Calls Tryz.prog 29 #[.agg #[.slice a0 k c0, .slice a1 j c1, .slice a2 nb c2, .slice a3 n3 c3]] W fun e w' => ∃ a c, e = .returned (.slice a (dumpR (rs t)).length c) ∧ Ow w' G 87 6 (.slice a (dumpR (rs t)).length c) ((dumpR (rs t)).map rR) ∧ Below W.heap.size W w' := fun W b => by
            refine (rdump_any (FA.out W b).at' (dump_rs HT.out) (lens_rs HT.out)).mono ?_
            rintro e w' ⟨v, rfl, o, b'⟩
            obtain ⟨a, c, rfl⟩ := o.form
            rw [List.length_map] at o ⊢
            exact ⟨a, c, rfl, o.lower (Nat.le_of_lt (FA.out W b).box.lt), b'⟩
          generalize dumpA (ab s) = DA at *
          generalize dumpR (rs t) = DB at *
          generalize hN : DA.length = N at *
          generalize hM : DB.length = M at *
          replace hN := Hid.mk hN
          replace hM := Hid.mk hM
          have kS : Hid (∀ w', Below w1.heap.size w1 w' → Below w1.heap.size w1 w' ∧ w'.cell? ⟨G, 0, none⟩ = some (.slice a0 k c0) ∧ w'.cell? ⟨G, 1, none⟩ = some (.slice a1 j c1) ∧ w'.cell? ⟨G, 2, none⟩ = some (.slice a2 nb c2) ∧ w'.cell? ⟨G, 3, none⟩ = some (.slice a3 n3 c3)) := fun w' q => ⟨q, (FA.out w' q).box.cells⟩
          have HK := Hid.mk (And.intro C16 (And.intro C41 hb))
          clear C16 C41 hb F
          go_upto_region 18 with fail
          clear k0 k1 k2 k3
          go_region_held3 (fun w' => Below w1.heap.size w1 w' ∧ w'.cell? ⟨G, 0, none⟩ = some (.slice a0 k c0) ∧ w'.cell? ⟨G, 1, none⟩ = some (.slice a1 j c1) ∧ w'.cell? ⟨G, 2, none⟩ = some (.slice a2 nb c2) ∧ w'.cell? ⟨G, 3, none⟩ = some (.slice a3 n3 c3))
            (first | assumption | exact kS.out _ HK.out.2.2 | exact kS.out _ HK.out.2.2.drew | exact kS.out _ (below3 (And.left (by assumption)) (by assumption)) | fail)
            (first | (go_at_call 48; refine (HK.out.1 _ (And.left (by assumption))).mono ?_; rintro e w5 ⟨aa, ca, rfl, o5, b5⟩) | (go_at_call 29; refine (HK.out.2.1 _ (And.left (by assumption))).mono ?_; rintro e w6 ⟨ba, cb, rfl, o6, b6⟩))
          · have LA : Hid (∀ W, Below w6.heap.size w6 W → Ow W G 87 6 (.slice aa N ca) (DA.map rR) ∧ Ow W G 87 6 (.slice ba M cb) (DB.map rR)) := fun W b => ⟨(o5.call b6).call b, o6.call b⟩
            have hb9 : Hid (Below w1.heap.size w1 w6) := And.left (by assumption)
            clear b5 b6 o5 o6 kS HK
            by_cases hNM : M = N
            rotate_left
            · have qI : ((N : Int) != (M : Int)) = true := by simp; omega
              have qJ : ¬ (N : Int) = (M : Int) := by omega
              go_wp2_with fail
              go_ret
              exact smb _ hG.out hbw.out.1 hb9.out
            subst hNM
            go_upto_region 22 with fail
            go_loopw [16] (fun i wr => ∃ l : Nat, l ≤ M ∧ i = .int .i64 l ∧ Below w6.heap.size w6 wr) (fun i _ => M - (intOf i).toNat)
            case atStart => exact ⟨0, Nat.zero_le _, rfl, Below.refl _ w6⟩
            case round =>
              obtain ⟨l, hl, rfl, hb⟩ := hrel
              by_cases hln : l < M
              · have hll : l < (DA.map rR).length := by rw [List.length_map]; have := hN.out; omega
                have hlm : l < (DB.map rR).length := by rw [List.length_map]; have := hM.out; omega
                obtain ⟨oA, oB⟩ := LA.out wr hb
                obtain ⟨ga, rfl, hgaB, hgal, ha⟩ := oA.at hll
                obtain ⟨gb, rfl, hgbB, hgbl, hbb⟩ := oB.at hlm
                have hre : (DA.map rR).getD l [] = rR (DA.getD l (0, 0, 0, 0, 0, 0)) := by
                  rw [List.length_map] at hll
                  rw [List.getD_eq_getElem?_getD, List.getElem?_map, List.getElem?_eq_getElem hll, List.getD_eq_getElem?_getD, List.getElem?_eq_getElem hll]; rfl
                have hre2 : (DB.map rR).getD l [] = rR (DB.getD l (0, 0, 0, 0, 0, 0)) := by
                  rw [List.length_map] at hlm
                  rw [List.getD_eq_getElem?_getD, List.getElem?_map, List.getElem?_eq_getElem hlm, List.getD_eq_getElem?_getD, List.getElem?_eq_getElem hlm]; rfl
                rw [hre] at ha
                rw [hre2] at hbb
                generalize DA.getD l (0, 0, 0, 0, 0, 0) = r at *
                generalize DB.getD l (0, 0, 0, 0, 0, 0) = r' at *
                obtain ⟨r1, r2, r3, r4, r5, r6⟩ := r
                obtain ⟨p1, p2, p3, p4, p5, p6⟩ := r'
                have c0 : wr.cell? ⟨ga, l * 6, none⟩ = some (.int .i64 r1) := ha 0 (by decide)
                have c1 : wr.cell? ⟨ga, l * 6 + 1, none⟩ = some (.int .i64 r2) := ha 1 (by decide)
                have c2 : wr.cell? ⟨ga, l * 6 + 2, none⟩ = some (.int .i64 r3) := ha 2 (by decide)
                have c3 : wr.cell? ⟨ga, l * 6 + 3, none⟩ = some (.int .i64 r4) := ha 3 (by decide)
                have c4 : wr.cell? ⟨ga, l * 6 + 4, none⟩ = some (.int .i64 r5) := ha 4 (by decide)
                have c5 : wr.cell? ⟨ga, l * 6 + 5, none⟩ = some (.int .i64 r6) := ha 5 (by decide)
                have q0 : wr.cell? ⟨gb, l * 6, none⟩ = some (.int .i64 p1) := hbb 0 (by decide)
                have q1 : wr.cell? ⟨gb, l * 6 + 1, none⟩ = some (.int .i64 p2) := hbb 1 (by decide)
                have q2 : wr.cell? ⟨gb, l * 6 + 2, none⟩ = some (.int .i64 p3) := hbb 2 (by decide)
                have q3 : wr.cell? ⟨gb, l * 6 + 3, none⟩ = some (.int .i64 p4) := hbb 3 (by decide)
                have q4 : wr.cell? ⟨gb, l * 6 + 4, none⟩ = some (.int .i64 p5) := hbb 4 (by decide)
                have q5 : wr.cell? ⟨gb, l * 6 + 5, none⟩ = some (.int .i64 p6) := hbb 5 (by decide)
                have HB := Hid.mk hb
                clear hb oA oB ha hbb hre hre2 hll hlm
                go_upto_region 24 with fail
                by_cases s1 : p1 = r1
                rotate_left
                · have qI : ((r1 : Int) == (p1 : Int)) = false := by simpa using fun e => s1 e.symm
                  refine wp_region_held_drew (S := fun w' => (w'.cell? ⟨ga, l * 6, none⟩ = some (.int .i64 r1) ∧ w'.cell? ⟨ga, l * 6 + 1, none⟩ = some (.int .i64 r2) ∧ w'.cell? ⟨ga, l * 6 + 2, none⟩ = some (.int .i64 r3) ∧ w'.cell? ⟨ga, l * 6 + 3, none⟩ = some (.int .i64 r4) ∧ w'.cell? ⟨ga, l * 6 + 4, none⟩ = some (.int .i64 r5) ∧ w'.cell? ⟨ga, l * 6 + 5, none⟩ = some (.int .i64 r6)) ∧ w'.cell? ⟨gb, l * 6, none⟩ = some (.int .i64 p1) ∧ w'.cell? ⟨gb, l * 6 + 1, none⟩ = some (.int .i64 p2) ∧ w'.cell? ⟨gb, l * 6 + 2, none⟩ = some (.int .i64 p3) ∧ w'.cell? ⟨gb, l * 6 + 3, none⟩ = some (.int .i64 p4) ∧ w'.cell? ⟨gb, l * 6 + 4, none⟩ = some (.int .i64 p5) ∧ w'.cell? ⟨gb, l * 6 + 5, none⟩ = some (.int .i64 p6)) (by kernel_rfl) ⟨⟨c0, c1, c2, c3, c4, c5⟩, q0, q1, q2, q3, q4, q5⟩ (fun hHeld => ?_)
                  refine wpAnyH_take (i := 0) (oi := { dst := some 149, op := Op.move (Operand.tmp 14), type := 54, pos := "law.go:44", after := #[], guard := none }) (v := ?vvv10) rfl (by kernel_rfl) (by kernel_rfl) (by kernel_rfl) (fun _ _ _ h => h) (Or.inl ⟨by rfl, ?yyv10⟩) hHeld ?rrv10
                  case yyv10 => (intro w0 hSw; obtain ⟨⟨m0, m1, m2, m3, m4, m5⟩, m6, m7, m8, m9, m10, m11⟩ := hSw; go_simp; try with_reducible rfl)
                  try simp only [Act.put, List.setIfInBounds_toArray, List.set_cons_zero, List.set_cons_succ]
                  refine wpAnyH_take (i := 1) (oi := { dst := some 150, op := Op.move (Operand.tmp 16), type := 3, pos := "law.go:44", after := #[], guard := none }) (v := ?vvv11) rfl (by kernel_rfl) (by kernel_rfl) (by kernel_rfl) (fun _ _ _ h => h) (Or.inl ⟨by rfl, ?yyv11⟩) hHeld ?rrv11
                  case yyv11 => (intro w0 hSw; obtain ⟨⟨m0, m1, m2, m3, m4, m5⟩, m6, m7, m8, m9, m10, m11⟩ := hSw; go_simp; try with_reducible rfl)
                  try simp only [Act.put, List.setIfInBounds_toArray, List.set_cons_zero, List.set_cons_succ]
                  refine wpAnyH_take (i := 2) (oi := { dst := some 151, op := Op.indexAddr 54 (Operand.tmp 149) (Operand.tmp 150), type := 0, pos := "law.go:44", after := #[{ on := 0, ground := Ground.data }, { on := 1, ground := Ground.data }], guard := none }) (v := ?vvv12) rfl (by kernel_rfl) (by kernel_rfl) (by kernel_rfl) (fun _ _ _ h => h) (Or.inl ⟨by rfl, ?yyv12⟩) hHeld ?rrv12
                  case yyv12 => (intro w0 hSw; obtain ⟨⟨m0, m1, m2, m3, m4, m5⟩, m6, m7, m8, m9, m10, m11⟩ := hSw; go_simp; try with_reducible rfl)
                  try simp only [Act.put, List.setIfInBounds_toArray, List.set_cons_zero, List.set_cons_succ]
                  refine wpAnyH_take (i := 3) (oi := { dst := some 152, op := Op.load 87 (Operand.tmp 151), type := 87, pos := "law.go:44", after := #[{ on := 2, ground := Ground.data }], guard := none }) (v := ?vvv13) rfl (by kernel_rfl) (by kernel_rfl) (by kernel_rfl) (fun _ _ _ h => h) (Or.inl ⟨by rfl, ?yyv13⟩) hHeld ?rrv13
                  case yyv13 => (intro w0 hSw; obtain ⟨⟨m0, m1, m2, m3, m4, m5⟩, m6, m7, m8, m9, m10, m11⟩ := hSw; go_simp; try with_reducible rfl)
                  try simp only [Act.put, List.setIfInBounds_toArray, List.set_cons_zero, List.set_cons_succ]
                  refine wpAnyH_take (i := 4) (oi := { dst := some 153, op := Op.move (Operand.tmp 15), type := 54, pos := "law.go:44", after := #[], guard := none }) (v := ?vvv14) rfl (by kernel_rfl) (by kernel_rfl) (by kernel_rfl) (fun _ _ _ h => h) (Or.inl ⟨by rfl, ?yyv14⟩) hHeld ?rrv14
                  case yyv14 => (intro w0 hSw; obtain ⟨⟨m0, m1, m2, m3, m4, m5⟩, m6, m7, m8, m9, m10, m11⟩ := hSw; go_simp; try with_reducible rfl)
                  try simp only [Act.put, List.setIfInBounds_toArray, List.set_cons_zero, List.set_cons_succ]
                  refine wpAnyH_take (i := 5) (oi := { dst := some 154, op := Op.move (Operand.tmp 16), type := 3, pos := "law.go:44", after := #[], guard := none }) (v := ?vvv15) rfl (by kernel_rfl) (by kernel_rfl) (by kernel_rfl) (fun _ _ _ h => h) (Or.inl ⟨by rfl, ?yyv15⟩) hHeld ?rrv15
                  case yyv15 => (intro w0 hSw; obtain ⟨⟨m0, m1, m2, m3, m4, m5⟩, m6, m7, m8, m9, m10, m11⟩ := hSw; go_simp; try with_reducible rfl)
                  try simp only [Act.put, List.setIfInBounds_toArray, List.set_cons_zero, List.set_cons_succ]
                  refine wpAnyH_take (i := 6) (oi := { dst := some 155, op := Op.indexAddr 54 (Operand.tmp 153) (Operand.tmp 154), type := 0, pos := "law.go:44", after := #[{ on := 4, ground := Ground.data }, { on := 5, ground := Ground.data }], guard := none }) (v := ?vvv16) rfl (by kernel_rfl) (by kernel_rfl) (by kernel_rfl) (fun _ _ _ h => h) (Or.inl ⟨by rfl, ?yyv16⟩) hHeld ?rrv16
                  case yyv16 => (intro w0 hSw; obtain ⟨⟨m0, m1, m2, m3, m4, m5⟩, m6, m7, m8, m9, m10, m11⟩ := hSw; go_simp; try with_reducible rfl)
                  try simp only [Act.put, List.setIfInBounds_toArray, List.set_cons_zero, List.set_cons_succ]
                  refine wpAnyH_take (i := 7) (oi := { dst := some 156, op := Op.load 87 (Operand.tmp 155), type := 87, pos := "law.go:44", after := #[{ on := 6, ground := Ground.data }], guard := none }) (v := ?vvv17) rfl (by kernel_rfl) (by kernel_rfl) (by kernel_rfl) (fun _ _ _ h => h) (Or.inl ⟨by rfl, ?yyv17⟩) hHeld ?rrv17
                  case yyv17 => (intro w0 hSw; obtain ⟨⟨m0, m1, m2, m3, m4, m5⟩, m6, m7, m8, m9, m10, m11⟩ := hSw; go_simp; try with_reducible rfl)
                  try simp only [Act.put, List.setIfInBounds_toArray, List.set_cons_zero, List.set_cons_succ]
                  refine wpAnyH_take (i := 8) (oi := { dst := some 157, op := Op.binOp BinOp.neq 87 (Operand.tmp 152) (Operand.tmp 156) 87, type := 4, pos := "law.go:44", after := #[{ on := 3, ground := Ground.data }, { on := 7, ground := Ground.data }], guard := none }) (v := ?vvv18) rfl (by kernel_rfl) (by kernel_rfl) (by kernel_rfl) (fun _ _ _ h => h) (Or.inl ⟨by rfl, ?yyv18⟩) hHeld ?rrv18
                  case yyv18 => (intro w0 hSw; obtain ⟨⟨m0, m1, m2, m3, m4, m5⟩, m6, m7, m8, m9, m10, m11⟩ := hSw; go_simp; try with_reducible rfl)
                  try simp only [Act.put, List.setIfInBounds_toArray, List.set_cons_zero, List.set_cons_succ]
                  try simp only [qI, Bool.false_and, Bool.and_false, Bool.not_false, Bool.true_and, beq_self_eq_true, bne, Bool.not_true]
                  refine wpAnyH_done (by kernel_rfl) ?_ _
                  go_wp2_with fail
                  go_ret
                  exact smb _ hG.out hbw.out.1 (below3 hb9.out (below_drewN HB.out))
                subst s1
                by_cases s2 : p2 = r2
                rotate_left
                · have qI : ((r2 : Int) == (p2 : Int)) = false := by simpa using fun e => s2 e.symm
                  refine wp_region_held_drew (S := fun w' => (w'.cell? ⟨ga, l * 6, none⟩ = some (.int .i64 p1) ∧ w'.cell? ⟨ga, l * 6 + 1, none⟩ = some (.int .i64 r2) ∧ w'.cell? ⟨ga, l * 6 + 2, none⟩ = some (.int .i64 r3) ∧ w'.cell? ⟨ga, l * 6 + 3, none⟩ = some (.int .i64 r4) ∧ w'.cell? ⟨ga, l * 6 + 4, none⟩ = some (.int .i64 r5) ∧ w'.cell? ⟨ga, l * 6 + 5, none⟩ = some (.int .i64 r6)) ∧ w'.cell? ⟨gb, l * 6, none⟩ = some (.int .i64 p1) ∧ w'.cell? ⟨gb, l * 6 + 1, none⟩ = some (.int .i64 p2) ∧ w'.cell? ⟨gb, l * 6 + 2, none⟩ = some (.int .i64 p3) ∧ w'.cell? ⟨gb, l * 6 + 3, none⟩ = some (.int .i64 p4) ∧ w'.cell? ⟨gb, l * 6 + 4, none⟩ = some (.int .i64 p5) ∧ w'.cell? ⟨gb, l * 6 + 5, none⟩ = some (.int .i64 p6)) (by kernel_rfl) ⟨⟨c0, c1, c2, c3, c4, c5⟩, q0, q1, q2, q3, q4, q5⟩ (fun hHeld => ?_)
                  refine wpAnyH_take (i := 0) (oi := { dst := some 149, op := Op.move (Operand.tmp 14), type := 54, pos := "law.go:44", after := #[], guard := none }) (v := ?vvv20) rfl (by kernel_rfl) (by kernel_rfl) (by kernel_rfl) (fun _ _ _ h => h) (Or.inl ⟨by rfl, ?yyv20⟩) hHeld ?rrv20
                  case yyv20 => (intro w0 hSw; obtain ⟨⟨m0, m1, m2, m3, m4, m5⟩, m6, m7, m8, m9, m10, m11⟩ := hSw; go_simp; try with_reducible rfl)
                  try simp only [Act.put, List.setIfInBounds_toArray, List.set_cons_zero, List.set_cons_succ]
                  refine wpAnyH_take (i := 1) (oi := { dst := some 150, op := Op.move (Operand.tmp 16), type := 3, pos := "law.go:44", after := #[], guard := none }) (v := ?vvv21) rfl (by kernel_rfl) (by kernel_rfl) (by kernel_rfl) (fun _ _ _ h => h) (Or.inl ⟨by rfl, ?yyv21⟩) hHeld ?rrv21
                  case yyv21 => (intro w0 hSw; obtain ⟨⟨m0, m1, m2, m3, m4, m5⟩, m6, m7, m8, m9, m10, m11⟩ := hSw; go_simp; try with_reducible rfl)
                  try simp only [Act.put, List.setIfInBounds_toArray, List.set_cons_zero, List.set_cons_succ]
                  refine wpAnyH_take (i := 2) (oi := { dst := some 151, op := Op.indexAddr 54 (Operand.tmp 149) (Operand.tmp 150), type := 0, pos := "law.go:44", after := #[{ on := 0, ground := Ground.data }, { on := 1, ground := Ground.data }], guard := none }) (v := ?vvv22) rfl (by kernel_rfl) (by kernel_rfl) (by kernel_rfl) (fun _ _ _ h => h) (Or.inl ⟨by rfl, ?yyv22⟩) hHeld ?rrv22
                  case yyv22 => (intro w0 hSw; obtain ⟨⟨m0, m1, m2, m3, m4, m5⟩, m6, m7, m8, m9, m10, m11⟩ := hSw; go_simp; try with_reducible rfl)
                  try simp only [Act.put, List.setIfInBounds_toArray, List.set_cons_zero, List.set_cons_succ]
                  refine wpAnyH_take (i := 3) (oi := { dst := some 152, op := Op.load 87 (Operand.tmp 151), type := 87, pos := "law.go:44", after := #[{ on := 2, ground := Ground.data }], guard := none }) (v := ?vvv23) rfl (by kernel_rfl) (by kernel_rfl) (by kernel_rfl) (fun _ _ _ h => h) (Or.inl ⟨by rfl, ?yyv23⟩) hHeld ?rrv23
                  case yyv23 => (intro w0 hSw; obtain ⟨⟨m0, m1, m2, m3, m4, m5⟩, m6, m7, m8, m9, m10, m11⟩ := hSw; go_simp; try with_reducible rfl)
                  try simp only [Act.put, List.setIfInBounds_toArray, List.set_cons_zero, List.set_cons_succ]
                  refine wpAnyH_take (i := 4) (oi := { dst := some 153, op := Op.move (Operand.tmp 15), type := 54, pos := "law.go:44", after := #[], guard := none }) (v := ?vvv24) rfl (by kernel_rfl) (by kernel_rfl) (by kernel_rfl) (fun _ _ _ h => h) (Or.inl ⟨by rfl, ?yyv24⟩) hHeld ?rrv24
                  case yyv24 => (intro w0 hSw; obtain ⟨⟨m0, m1, m2, m3, m4, m5⟩, m6, m7, m8, m9, m10, m11⟩ := hSw; go_simp; try with_reducible rfl)
                  try simp only [Act.put, List.setIfInBounds_toArray, List.set_cons_zero, List.set_cons_succ]
                  refine wpAnyH_take (i := 5) (oi := { dst := some 154, op := Op.move (Operand.tmp 16), type := 3, pos := "law.go:44", after := #[], guard := none }) (v := ?vvv25) rfl (by kernel_rfl) (by kernel_rfl) (by kernel_rfl) (fun _ _ _ h => h) (Or.inl ⟨by rfl, ?yyv25⟩) hHeld ?rrv25
                  case yyv25 => (intro w0 hSw; obtain ⟨⟨m0, m1, m2, m3, m4, m5⟩, m6, m7, m8, m9, m10, m11⟩ := hSw; go_simp; try with_reducible rfl)
                  try simp only [Act.put, List.setIfInBounds_toArray, List.set_cons_zero, List.set_cons_succ]
                  refine wpAnyH_take (i := 6) (oi := { dst := some 155, op := Op.indexAddr 54 (Operand.tmp 153) (Operand.tmp 154), type := 0, pos := "law.go:44", after := #[{ on := 4, ground := Ground.data }, { on := 5, ground := Ground.data }], guard := none }) (v := ?vvv26) rfl (by kernel_rfl) (by kernel_rfl) (by kernel_rfl) (fun _ _ _ h => h) (Or.inl ⟨by rfl, ?yyv26⟩) hHeld ?rrv26
                  case yyv26 => (intro w0 hSw; obtain ⟨⟨m0, m1, m2, m3, m4, m5⟩, m6, m7, m8, m9, m10, m11⟩ := hSw; go_simp; try with_reducible rfl)
                  try simp only [Act.put, List.setIfInBounds_toArray, List.set_cons_zero, List.set_cons_succ]
                  refine wpAnyH_take (i := 7) (oi := { dst := some 156, op := Op.load 87 (Operand.tmp 155), type := 87, pos := "law.go:44", after := #[{ on := 6, ground := Ground.data }], guard := none }) (v := ?vvv27) rfl (by kernel_rfl) (by kernel_rfl) (by kernel_rfl) (fun _ _ _ h => h) (Or.inl ⟨by rfl, ?yyv27⟩) hHeld ?rrv27
                  case yyv27 => (intro w0 hSw; obtain ⟨⟨m0, m1, m2, m3, m4, m5⟩, m6, m7, m8, m9, m10, m11⟩ := hSw; go_simp; try with_reducible rfl)
                  try simp only [Act.put, List.setIfInBounds_toArray, List.set_cons_zero, List.set_cons_succ]
                  refine wpAnyH_take (i := 8) (oi := { dst := some 157, op := Op.binOp BinOp.neq 87 (Operand.tmp 152) (Operand.tmp 156) 87, type := 4, pos := "law.go:44", after := #[{ on := 3, ground := Ground.data }, { on := 7, ground := Ground.data }], guard := none }) (v := ?vvv28) rfl (by kernel_rfl) (by kernel_rfl) (by kernel_rfl) (fun _ _ _ h => h) (Or.inl ⟨by rfl, ?yyv28⟩) hHeld ?rrv28
                  case yyv28 => (intro w0 hSw; obtain ⟨⟨m0, m1, m2, m3, m4, m5⟩, m6, m7, m8, m9, m10, m11⟩ := hSw; go_simp; try with_reducible rfl)
                  try simp only [Act.put, List.setIfInBounds_toArray, List.set_cons_zero, List.set_cons_succ]
                  try simp only [qI, Bool.false_and, Bool.and_false, Bool.not_false, Bool.true_and, beq_self_eq_true, bne, Bool.not_true]
                  refine wpAnyH_done (by kernel_rfl) ?_ _
                  go_wp2_with fail
                  go_ret
                  exact smb _ hG.out hbw.out.1 (below3 hb9.out (below_drewN HB.out))
                subst s2
                by_cases s3 : p3 = r3
                rotate_left
                · have qI : ((r3 : Int) == (p3 : Int)) = false := by simpa using fun e => s3 e.symm
                  refine wp_region_held_drew (S := fun w' => (w'.cell? ⟨ga, l * 6, none⟩ = some (.int .i64 p1) ∧ w'.cell? ⟨ga, l * 6 + 1, none⟩ = some (.int .i64 p2) ∧ w'.cell? ⟨ga, l * 6 + 2, none⟩ = some (.int .i64 r3) ∧ w'.cell? ⟨ga, l * 6 + 3, none⟩ = some (.int .i64 r4) ∧ w'.cell? ⟨ga, l * 6 + 4, none⟩ = some (.int .i64 r5) ∧ w'.cell? ⟨ga, l * 6 + 5, none⟩ = some (.int .i64 r6)) ∧ w'.cell? ⟨gb, l * 6, none⟩ = some (.int .i64 p1) ∧ w'.cell? ⟨gb, l * 6 + 1, none⟩ = some (.int .i64 p2) ∧ w'.cell? ⟨gb, l * 6 + 2, none⟩ = some (.int .i64 p3) ∧ w'.cell? ⟨gb, l * 6 + 3, none⟩ = some (.int .i64 p4) ∧ w'.cell? ⟨gb, l * 6 + 4, none⟩ = some (.int .i64 p5) ∧ w'.cell? ⟨gb, l * 6 + 5, none⟩ = some (.int .i64 p6)) (by kernel_rfl) ⟨⟨c0, c1, c2, c3, c4, c5⟩, q0, q1, q2, q3, q4, q5⟩ (fun hHeld => ?_)
                  refine wpAnyH_take (i := 0) (oi := { dst := some 149, op := Op.move (Operand.tmp 14), type := 54, pos := "law.go:44", after := #[], guard := none }) (v := ?vvv30) rfl (by kernel_rfl) (by kernel_rfl) (by kernel_rfl) (fun _ _ _ h => h) (Or.inl ⟨by rfl, ?yyv30⟩) hHeld ?rrv30
                  case yyv30 => (intro w0 hSw; obtain ⟨⟨m0, m1, m2, m3, m4, m5⟩, m6, m7, m8, m9, m10, m11⟩ := hSw; go_simp; try with_reducible rfl)
                  try simp only [Act.put, List.setIfInBounds_toArray, List.set_cons_zero, List.set_cons_succ]
                  refine wpAnyH_take (i := 1) (oi := { dst := some 150, op := Op.move (Operand.tmp 16), type := 3, pos := "law.go:44", after := #[], guard := none }) (v := ?vvv31) rfl (by kernel_rfl) (by kernel_rfl) (by kernel_rfl) (fun _ _ _ h => h) (Or.inl ⟨by rfl, ?yyv31⟩) hHeld ?rrv31
                  case yyv31 => (intro w0 hSw; obtain ⟨⟨m0, m1, m2, m3, m4, m5⟩, m6, m7, m8, m9, m10, m11⟩ := hSw; go_simp; try with_reducible rfl)
                  try simp only [Act.put, List.setIfInBounds_toArray, List.set_cons_zero, List.set_cons_succ]
                  refine wpAnyH_take (i := 2) (oi := { dst := some 151, op := Op.indexAddr 54 (Operand.tmp 149) (Operand.tmp 150), type := 0, pos := "law.go:44", after := #[{ on := 0, ground := Ground.data }, { on := 1, ground := Ground.data }], guard := none }) (v := ?vvv32) rfl (by kernel_rfl) (by kernel_rfl) (by kernel_rfl) (fun _ _ _ h => h) (Or.inl ⟨by rfl, ?yyv32⟩) hHeld ?rrv32
                  case yyv32 => (intro w0 hSw; obtain ⟨⟨m0, m1, m2, m3, m4, m5⟩, m6, m7, m8, m9, m10, m11⟩ := hSw; go_simp; try with_reducible rfl)
                  try simp only [Act.put, List.setIfInBounds_toArray, List.set_cons_zero, List.set_cons_succ]
                  refine wpAnyH_take (i := 3) (oi := { dst := some 152, op := Op.load 87 (Operand.tmp 151), type := 87, pos := "law.go:44", after := #[{ on := 2, ground := Ground.data }], guard := none }) (v := ?vvv33) rfl (by kernel_rfl) (by kernel_rfl) (by kernel_rfl) (fun _ _ _ h => h) (Or.inl ⟨by rfl, ?yyv33⟩) hHeld ?rrv33
                  case yyv33 => (intro w0 hSw; obtain ⟨⟨m0, m1, m2, m3, m4, m5⟩, m6, m7, m8, m9, m10, m11⟩ := hSw; go_simp; try with_reducible rfl)
                  try simp only [Act.put, List.setIfInBounds_toArray, List.set_cons_zero, List.set_cons_succ]
                  refine wpAnyH_take (i := 4) (oi := { dst := some 153, op := Op.move (Operand.tmp 15), type := 54, pos := "law.go:44", after := #[], guard := none }) (v := ?vvv34) rfl (by kernel_rfl) (by kernel_rfl) (by kernel_rfl) (fun _ _ _ h => h) (Or.inl ⟨by rfl, ?yyv34⟩) hHeld ?rrv34
                  case yyv34 => (intro w0 hSw; obtain ⟨⟨m0, m1, m2, m3, m4, m5⟩, m6, m7, m8, m9, m10, m11⟩ := hSw; go_simp; try with_reducible rfl)
                  try simp only [Act.put, List.setIfInBounds_toArray, List.set_cons_zero, List.set_cons_succ]
                  refine wpAnyH_take (i := 5) (oi := { dst := some 154, op := Op.move (Operand.tmp 16), type := 3, pos := "law.go:44", after := #[], guard := none }) (v := ?vvv35) rfl (by kernel_rfl) (by kernel_rfl) (by kernel_rfl) (fun _ _ _ h => h) (Or.inl ⟨by rfl, ?yyv35⟩) hHeld ?rrv35
                  case yyv35 => (intro w0 hSw; obtain ⟨⟨m0, m1, m2, m3, m4, m5⟩, m6, m7, m8, m9, m10, m11⟩ := hSw; go_simp; try with_reducible rfl)
                  try simp only [Act.put, List.setIfInBounds_toArray, List.set_cons_zero, List.set_cons_succ]
                  refine wpAnyH_take (i := 6) (oi := { dst := some 155, op := Op.indexAddr 54 (Operand.tmp 153) (Operand.tmp 154), type := 0, pos := "law.go:44", after := #[{ on := 4, ground := Ground.data }, { on := 5, ground := Ground.data }], guard := none }) (v := ?vvv36) rfl (by kernel_rfl) (by kernel_rfl) (by kernel_rfl) (fun _ _ _ h => h) (Or.inl ⟨by rfl, ?yyv36⟩) hHeld ?rrv36
                  case yyv36 => (intro w0 hSw; obtain ⟨⟨m0, m1, m2, m3, m4, m5⟩, m6, m7, m8, m9, m10, m11⟩ := hSw; go_simp; try with_reducible rfl)
                  try simp only [Act.put, List.setIfInBounds_toArray, List.set_cons_zero, List.set_cons_succ]
                  refine wpAnyH_take (i := 7) (oi := { dst := some 156, op := Op.load 87 (Operand.tmp 155), type := 87, pos := "law.go:44", after := #[{ on := 6, ground := Ground.data }], guard := none }) (v := ?vvv37) rfl (by kernel_rfl) (by kernel_rfl) (by kernel_rfl) (fun _ _ _ h => h) (Or.inl ⟨by rfl, ?yyv37⟩) hHeld ?rrv37
                  case yyv37 => (intro w0 hSw; obtain ⟨⟨m0, m1, m2, m3, m4, m5⟩, m6, m7, m8, m9, m10, m11⟩ := hSw; go_simp; try with_reducible rfl)
                  try simp only [Act.put, List.setIfInBounds_toArray, List.set_cons_zero, List.set_cons_succ]
                  refine wpAnyH_take (i := 8) (oi := { dst := some 157, op := Op.binOp BinOp.neq 87 (Operand.tmp 152) (Operand.tmp 156) 87, type := 4, pos := "law.go:44", after := #[{ on := 3, ground := Ground.data }, { on := 7, ground := Ground.data }], guard := none }) (v := ?vvv38) rfl (by kernel_rfl) (by kernel_rfl) (by kernel_rfl) (fun _ _ _ h => h) (Or.inl ⟨by rfl, ?yyv38⟩) hHeld ?rrv38
                  case yyv38 => (intro w0 hSw; obtain ⟨⟨m0, m1, m2, m3, m4, m5⟩, m6, m7, m8, m9, m10, m11⟩ := hSw; go_simp; try with_reducible rfl)
                  try simp only [Act.put, List.setIfInBounds_toArray, List.set_cons_zero, List.set_cons_succ]
                  try simp only [qI, Bool.false_and, Bool.and_false, Bool.not_false, Bool.true_and, beq_self_eq_true, bne, Bool.not_true]
                  refine wpAnyH_done (by kernel_rfl) ?_ _
                  go_wp2_with fail
                  go_ret
                  exact smb _ hG.out hbw.out.1 (below3 hb9.out (below_drewN HB.out))
                subst s3
                by_cases s4 : p4 = r4
                rotate_left
                · have qI : ((r4 : Int) == (p4 : Int)) = false := by simpa using fun e => s4 e.symm
                  refine wp_region_held_drew (S := fun w' => (w'.cell? ⟨ga, l * 6, none⟩ = some (.int .i64 p1) ∧ w'.cell? ⟨ga, l * 6 + 1, none⟩ = some (.int .i64 p2) ∧ w'.cell? ⟨ga, l * 6 + 2, none⟩ = some (.int .i64 p3) ∧ w'.cell? ⟨ga, l * 6 + 3, none⟩ = some (.int .i64 r4) ∧ w'.cell? ⟨ga, l * 6 + 4, none⟩ = some (.int .i64 r5) ∧ w'.cell? ⟨ga, l * 6 + 5, none⟩ = some (.int .i64 r6)) ∧ w'.cell? ⟨gb, l * 6, none⟩ = some (.int .i64 p1) ∧ w'.cell? ⟨gb, l * 6 + 1, none⟩ = some (.int .i64 p2) ∧ w'.cell? ⟨gb, l * 6 + 2, none⟩ = some (.int .i64 p3) ∧ w'.cell? ⟨gb, l * 6 + 3, none⟩ = some (.int .i64 p4) ∧ w'.cell? ⟨gb, l * 6 + 4, none⟩ = some (.int .i64 p5) ∧ w'.cell? ⟨gb, l * 6 + 5, none⟩ = some (.int .i64 p6)) (by kernel_rfl) ⟨⟨c0, c1, c2, c3, c4, c5⟩, q0, q1, q2, q3, q4, q5⟩ (fun hHeld => ?_)
                  refine wpAnyH_take (i := 0) (oi := { dst := some 149, op := Op.move (Operand.tmp 14), type := 54, pos := "law.go:44", after := #[], guard := none }) (v := ?vvv40) rfl (by kernel_rfl) (by kernel_rfl) (by kernel_rfl) (fun _ _ _ h => h) (Or.inl ⟨by rfl, ?yyv40⟩) hHeld ?rrv40
                  case yyv40 => (intro w0 hSw; obtain ⟨⟨m0, m1, m2, m3, m4, m5⟩, m6, m7, m8, m9, m10, m11⟩ := hSw; go_simp; try with_reducible rfl)
                  try simp only [Act.put, List.setIfInBounds_toArray, List.set_cons_zero, List.set_cons_succ]
                  refine wpAnyH_take (i := 1) (oi := { dst := some 150, op := Op.move (Operand.tmp 16), type := 3, pos := "law.go:44", after := #[], guard := none }) (v := ?vvv41) rfl (by kernel_rfl) (by kernel_rfl) (by kernel_rfl) (fun _ _ _ h => h) (Or.inl ⟨by rfl, ?yyv41⟩) hHeld ?rrv41
                  case yyv41 => (intro w0 hSw; obtain ⟨⟨m0, m1, m2, m3, m4, m5⟩, m6, m7, m8, m9, m10, m11⟩ := hSw; go_simp; try with_reducible rfl)
                  try simp only [Act.put, List.setIfInBounds_toArray, List.set_cons_zero, List.set_cons_succ]
                  refine wpAnyH_take (i := 2) (oi := { dst := some 151, op := Op.indexAddr 54 (Operand.tmp 149) (Operand.tmp 150), type := 0, pos := "law.go:44", after := #[{ on := 0, ground := Ground.data }, { on := 1, ground := Ground.data }], guard := none }) (v := ?vvv42) rfl (by kernel_rfl) (by kernel_rfl) (by kernel_rfl) (fun _ _ _ h => h) (Or.inl ⟨by rfl, ?yyv42⟩) hHeld ?rrv42
                  case yyv42 => (intro w0 hSw; obtain ⟨⟨m0, m1, m2, m3, m4, m5⟩, m6, m7, m8, m9, m10, m11⟩ := hSw; go_simp; try with_reducible rfl)
                  try simp only [Act.put, List.setIfInBounds_toArray, List.set_cons_zero, List.set_cons_succ]
                  refine wpAnyH_take (i := 3) (oi := { dst := some 152, op := Op.load 87 (Operand.tmp 151), type := 87, pos := "law.go:44", after := #[{ on := 2, ground := Ground.data }], guard := none }) (v := ?vvv43) rfl (by kernel_rfl) (by kernel_rfl) (by kernel_rfl) (fun _ _ _ h => h) (Or.inl ⟨by rfl, ?yyv43⟩) hHeld ?rrv43
                  case yyv43 => (intro w0 hSw; obtain ⟨⟨m0, m1, m2, m3, m4, m5⟩, m6, m7, m8, m9, m10, m11⟩ := hSw; go_simp; try with_reducible rfl)
                  try simp only [Act.put, List.setIfInBounds_toArray, List.set_cons_zero, List.set_cons_succ]
                  refine wpAnyH_take (i := 4) (oi := { dst := some 153, op := Op.move (Operand.tmp 15), type := 54, pos := "law.go:44", after := #[], guard := none }) (v := ?vvv44) rfl (by kernel_rfl) (by kernel_rfl) (by kernel_rfl) (fun _ _ _ h => h) (Or.inl ⟨by rfl, ?yyv44⟩) hHeld ?rrv44
                  case yyv44 => (intro w0 hSw; obtain ⟨⟨m0, m1, m2, m3, m4, m5⟩, m6, m7, m8, m9, m10, m11⟩ := hSw; go_simp; try with_reducible rfl)
                  try simp only [Act.put, List.setIfInBounds_toArray, List.set_cons_zero, List.set_cons_succ]
                  refine wpAnyH_take (i := 5) (oi := { dst := some 154, op := Op.move (Operand.tmp 16), type := 3, pos := "law.go:44", after := #[], guard := none }) (v := ?vvv45) rfl (by kernel_rfl) (by kernel_rfl) (by kernel_rfl) (fun _ _ _ h => h) (Or.inl ⟨by rfl, ?yyv45⟩) hHeld ?rrv45
                  case yyv45 => (intro w0 hSw; obtain ⟨⟨m0, m1, m2, m3, m4, m5⟩, m6, m7, m8, m9, m10, m11⟩ := hSw; go_simp; try with_reducible rfl)
                  try simp only [Act.put, List.setIfInBounds_toArray, List.set_cons_zero, List.set_cons_succ]
                  refine wpAnyH_take (i := 6) (oi := { dst := some 155, op := Op.indexAddr 54 (Operand.tmp 153) (Operand.tmp 154), type := 0, pos := "law.go:44", after := #[{ on := 4, ground := Ground.data }, { on := 5, ground := Ground.data }], guard := none }) (v := ?vvv46) rfl (by kernel_rfl) (by kernel_rfl) (by kernel_rfl) (fun _ _ _ h => h) (Or.inl ⟨by rfl, ?yyv46⟩) hHeld ?rrv46
                  case yyv46 => (intro w0 hSw; obtain ⟨⟨m0, m1, m2, m3, m4, m5⟩, m6, m7, m8, m9, m10, m11⟩ := hSw; go_simp; try with_reducible rfl)
                  try simp only [Act.put, List.setIfInBounds_toArray, List.set_cons_zero, List.set_cons_succ]
                  refine wpAnyH_take (i := 7) (oi := { dst := some 156, op := Op.load 87 (Operand.tmp 155), type := 87, pos := "law.go:44", after := #[{ on := 6, ground := Ground.data }], guard := none }) (v := ?vvv47) rfl (by kernel_rfl) (by kernel_rfl) (by kernel_rfl) (fun _ _ _ h => h) (Or.inl ⟨by rfl, ?yyv47⟩) hHeld ?rrv47
                  case yyv47 => (intro w0 hSw; obtain ⟨⟨m0, m1, m2, m3, m4, m5⟩, m6, m7, m8, m9, m10, m11⟩ := hSw; go_simp; try with_reducible rfl)
                  try simp only [Act.put, List.setIfInBounds_toArray, List.set_cons_zero, List.set_cons_succ]
                  refine wpAnyH_take (i := 8) (oi := { dst := some 157, op := Op.binOp BinOp.neq 87 (Operand.tmp 152) (Operand.tmp 156) 87, type := 4, pos := "law.go:44", after := #[{ on := 3, ground := Ground.data }, { on := 7, ground := Ground.data }], guard := none }) (v := ?vvv48) rfl (by kernel_rfl) (by kernel_rfl) (by kernel_rfl) (fun _ _ _ h => h) (Or.inl ⟨by rfl, ?yyv48⟩) hHeld ?rrv48
                  case yyv48 => (intro w0 hSw; obtain ⟨⟨m0, m1, m2, m3, m4, m5⟩, m6, m7, m8, m9, m10, m11⟩ := hSw; go_simp; try with_reducible rfl)
                  try simp only [Act.put, List.setIfInBounds_toArray, List.set_cons_zero, List.set_cons_succ]
                  try simp only [qI, Bool.false_and, Bool.and_false, Bool.not_false, Bool.true_and, beq_self_eq_true, bne, Bool.not_true]
                  refine wpAnyH_done (by kernel_rfl) ?_ _
                  go_wp2_with fail
                  go_ret
                  exact smb _ hG.out hbw.out.1 (below3 hb9.out (below_drewN HB.out))
                subst s4
                by_cases s5 : p5 = r5
                rotate_left
                · have qI : ((r5 : Int) == (p5 : Int)) = false := by simpa using fun e => s5 e.symm
                  refine wp_region_held_drew (S := fun w' => (w'.cell? ⟨ga, l * 6, none⟩ = some (.int .i64 p1) ∧ w'.cell? ⟨ga, l * 6 + 1, none⟩ = some (.int .i64 p2) ∧ w'.cell? ⟨ga, l * 6 + 2, none⟩ = some (.int .i64 p3) ∧ w'.cell? ⟨ga, l * 6 + 3, none⟩ = some (.int .i64 p4) ∧ w'.cell? ⟨ga, l * 6 + 4, none⟩ = some (.int .i64 r5) ∧ w'.cell? ⟨ga, l * 6 + 5, none⟩ = some (.int .i64 r6)) ∧ w'.cell? ⟨gb, l * 6, none⟩ = some (.int .i64 p1) ∧ w'.cell? ⟨gb, l * 6 + 1, none⟩ = some (.int .i64 p2) ∧ w'.cell? ⟨gb, l * 6 + 2, none⟩ = some (.int .i64 p3) ∧ w'.cell? ⟨gb, l * 6 + 3, none⟩ = some (.int .i64 p4) ∧ w'.cell? ⟨gb, l * 6 + 4, none⟩ = some (.int .i64 p5) ∧ w'.cell? ⟨gb, l * 6 + 5, none⟩ = some (.int .i64 p6)) (by kernel_rfl) ⟨⟨c0, c1, c2, c3, c4, c5⟩, q0, q1, q2, q3, q4, q5⟩ (fun hHeld => ?_)
                  refine wpAnyH_take (i := 0) (oi := { dst := some 149, op := Op.move (Operand.tmp 14), type := 54, pos := "law.go:44", after := #[], guard := none }) (v := ?vvv50) rfl (by kernel_rfl) (by kernel_rfl) (by kernel_rfl) (fun _ _ _ h => h) (Or.inl ⟨by rfl, ?yyv50⟩) hHeld ?rrv50
                  case yyv50 => (intro w0 hSw; obtain ⟨⟨m0, m1, m2, m3, m4, m5⟩, m6, m7, m8, m9, m10, m11⟩ := hSw; go_simp; try with_reducible rfl)
                  try simp only [Act.put, List.setIfInBounds_toArray, List.set_cons_zero, List.set_cons_succ]
                  refine wpAnyH_take (i := 1) (oi := { dst := some 150, op := Op.move (Operand.tmp 16), type := 3, pos := "law.go:44", after := #[], guard := none }) (v := ?vvv51) rfl (by kernel_rfl) (by kernel_rfl) (by kernel_rfl) (fun _ _ _ h => h) (Or.inl ⟨by rfl, ?yyv51⟩) hHeld ?rrv51
                  case yyv51 => (intro w0 hSw; obtain ⟨⟨m0, m1, m2, m3, m4, m5⟩, m6, m7, m8, m9, m10, m11⟩ := hSw; go_simp; try with_reducible rfl)
                  try simp only [Act.put, List.setIfInBounds_toArray, List.set_cons_zero, List.set_cons_succ]
                  refine wpAnyH_take (i := 2) (oi := { dst := some 151, op := Op.indexAddr 54 (Operand.tmp 149) (Operand.tmp 150), type := 0, pos := "law.go:44", after := #[{ on := 0, ground := Ground.data }, { on := 1, ground := Ground.data }], guard := none }) (v := ?vvv52) rfl (by kernel_rfl) (by kernel_rfl) (by kernel_rfl) (fun _ _ _ h => h) (Or.inl ⟨by rfl, ?yyv52⟩) hHeld ?rrv52
                  case yyv52 => (intro w0 hSw; obtain ⟨⟨m0, m1, m2, m3, m4, m5⟩, m6, m7, m8, m9, m10, m11⟩ := hSw; go_simp; try with_reducible rfl)
                  try simp only [Act.put, List.setIfInBounds_toArray, List.set_cons_zero, List.set_cons_succ]
                  refine wpAnyH_take (i := 3) (oi := { dst := some 152, op := Op.load 87 (Operand.tmp 151), type := 87, pos := "law.go:44", after := #[{ on := 2, ground := Ground.data }], guard := none }) (v := ?vvv53) rfl (by kernel_rfl) (by kernel_rfl) (by kernel_rfl) (fun _ _ _ h => h) (Or.inl ⟨by rfl, ?yyv53⟩) hHeld ?rrv53
                  case yyv53 => (intro w0 hSw; obtain ⟨⟨m0, m1, m2, m3, m4, m5⟩, m6, m7, m8, m9, m10, m11⟩ := hSw; go_simp; try with_reducible rfl)
                  try simp only [Act.put, List.setIfInBounds_toArray, List.set_cons_zero, List.set_cons_succ]
                  refine wpAnyH_take (i := 4) (oi := { dst := some 153, op := Op.move (Operand.tmp 15), type := 54, pos := "law.go:44", after := #[], guard := none }) (v := ?vvv54) rfl (by kernel_rfl) (by kernel_rfl) (by kernel_rfl) (fun _ _ _ h => h) (Or.inl ⟨by rfl, ?yyv54⟩) hHeld ?rrv54
                  case yyv54 => (intro w0 hSw; obtain ⟨⟨m0, m1, m2, m3, m4, m5⟩, m6, m7, m8, m9, m10, m11⟩ := hSw; go_simp; try with_reducible rfl)
                  try simp only [Act.put, List.setIfInBounds_toArray, List.set_cons_zero, List.set_cons_succ]
                  refine wpAnyH_take (i := 5) (oi := { dst := some 154, op := Op.move (Operand.tmp 16), type := 3, pos := "law.go:44", after := #[], guard := none }) (v := ?vvv55) rfl (by kernel_rfl) (by kernel_rfl) (by kernel_rfl) (fun _ _ _ h => h) (Or.inl ⟨by rfl, ?yyv55⟩) hHeld ?rrv55
                  case yyv55 => (intro w0 hSw; obtain ⟨⟨m0, m1, m2, m3, m4, m5⟩, m6, m7, m8, m9, m10, m11⟩ := hSw; go_simp; try with_reducible rfl)
                  try simp only [Act.put, List.setIfInBounds_toArray, List.set_cons_zero, List.set_cons_succ]
                  refine wpAnyH_take (i := 6) (oi := { dst := some 155, op := Op.indexAddr 54 (Operand.tmp 153) (Operand.tmp 154), type := 0, pos := "law.go:44", after := #[{ on := 4, ground := Ground.data }, { on := 5, ground := Ground.data }], guard := none }) (v := ?vvv56) rfl (by kernel_rfl) (by kernel_rfl) (by kernel_rfl) (fun _ _ _ h => h) (Or.inl ⟨by rfl, ?yyv56⟩) hHeld ?rrv56
                  case yyv56 => (intro w0 hSw; obtain ⟨⟨m0, m1, m2, m3, m4, m5⟩, m6, m7, m8, m9, m10, m11⟩ := hSw; go_simp; try with_reducible rfl)
                  try simp only [Act.put, List.setIfInBounds_toArray, List.set_cons_zero, List.set_cons_succ]
                  refine wpAnyH_take (i := 7) (oi := { dst := some 156, op := Op.load 87 (Operand.tmp 155), type := 87, pos := "law.go:44", after := #[{ on := 6, ground := Ground.data }], guard := none }) (v := ?vvv57) rfl (by kernel_rfl) (by kernel_rfl) (by kernel_rfl) (fun _ _ _ h => h) (Or.inl ⟨by rfl, ?yyv57⟩) hHeld ?rrv57
                  case yyv57 => (intro w0 hSw; obtain ⟨⟨m0, m1, m2, m3, m4, m5⟩, m6, m7, m8, m9, m10, m11⟩ := hSw; go_simp; try with_reducible rfl)
                  try simp only [Act.put, List.setIfInBounds_toArray, List.set_cons_zero, List.set_cons_succ]
                  refine wpAnyH_take (i := 8) (oi := { dst := some 157, op := Op.binOp BinOp.neq 87 (Operand.tmp 152) (Operand.tmp 156) 87, type := 4, pos := "law.go:44", after := #[{ on := 3, ground := Ground.data }, { on := 7, ground := Ground.data }], guard := none }) (v := ?vvv58) rfl (by kernel_rfl) (by kernel_rfl) (by kernel_rfl) (fun _ _ _ h => h) (Or.inl ⟨by rfl, ?yyv58⟩) hHeld ?rrv58
                  case yyv58 => (intro w0 hSw; obtain ⟨⟨m0, m1, m2, m3, m4, m5⟩, m6, m7, m8, m9, m10, m11⟩ := hSw; go_simp; try with_reducible rfl)
                  try simp only [Act.put, List.setIfInBounds_toArray, List.set_cons_zero, List.set_cons_succ]
                  try simp only [qI, Bool.false_and, Bool.and_false, Bool.not_false, Bool.true_and, beq_self_eq_true, bne, Bool.not_true]
                  refine wpAnyH_done (by kernel_rfl) ?_ _
                  go_wp2_with fail
                  go_ret
                  exact smb _ hG.out hbw.out.1 (below3 hb9.out (below_drewN HB.out))
                subst s5
                by_cases s6 : p6 = r6
                rotate_left
                · have qI : ((r6 : Int) == (p6 : Int)) = false := by simpa using fun e => s6 e.symm
                  refine wp_region_held_drew (S := fun w' => (w'.cell? ⟨ga, l * 6, none⟩ = some (.int .i64 p1) ∧ w'.cell? ⟨ga, l * 6 + 1, none⟩ = some (.int .i64 p2) ∧ w'.cell? ⟨ga, l * 6 + 2, none⟩ = some (.int .i64 p3) ∧ w'.cell? ⟨ga, l * 6 + 3, none⟩ = some (.int .i64 p4) ∧ w'.cell? ⟨ga, l * 6 + 4, none⟩ = some (.int .i64 p5) ∧ w'.cell? ⟨ga, l * 6 + 5, none⟩ = some (.int .i64 r6)) ∧ w'.cell? ⟨gb, l * 6, none⟩ = some (.int .i64 p1) ∧ w'.cell? ⟨gb, l * 6 + 1, none⟩ = some (.int .i64 p2) ∧ w'.cell? ⟨gb, l * 6 + 2, none⟩ = some (.int .i64 p3) ∧ w'.cell? ⟨gb, l * 6 + 3, none⟩ = some (.int .i64 p4) ∧ w'.cell? ⟨gb, l * 6 + 4, none⟩ = some (.int .i64 p5) ∧ w'.cell? ⟨gb, l * 6 + 5, none⟩ = some (.int .i64 p6)) (by kernel_rfl) ⟨⟨c0, c1, c2, c3, c4, c5⟩, q0, q1, q2, q3, q4, q5⟩ (fun hHeld => ?_)
                  refine wpAnyH_take (i := 0) (oi := { dst := some 149, op := Op.move (Operand.tmp 14), type := 54, pos := "law.go:44", after := #[], guard := none }) (v := ?vvv60) rfl (by kernel_rfl) (by kernel_rfl) (by kernel_rfl) (fun _ _ _ h => h) (Or.inl ⟨by rfl, ?yyv60⟩) hHeld ?rrv60
                  case yyv60 => (intro w0 hSw; obtain ⟨⟨m0, m1, m2, m3, m4, m5⟩, m6, m7, m8, m9, m10, m11⟩ := hSw; go_simp; try with_reducible rfl)
                  try simp only [Act.put, List.setIfInBounds_toArray, List.set_cons_zero, List.set_cons_succ]
                  refine wpAnyH_take (i := 1) (oi := { dst := some 150, op := Op.move (Operand.tmp 16), type := 3, pos := "law.go:44", after := #[], guard := none }) (v := ?vvv61) rfl (by kernel_rfl) (by kernel_rfl) (by kernel_rfl) (fun _ _ _ h => h) (Or.inl ⟨by rfl, ?yyv61⟩) hHeld ?rrv61
                  case yyv61 => (intro w0 hSw; obtain ⟨⟨m0, m1, m2, m3, m4, m5⟩, m6, m7, m8, m9, m10, m11⟩ := hSw; go_simp; try with_reducible rfl)
                  try simp only [Act.put, List.setIfInBounds_toArray, List.set_cons_zero, List.set_cons_succ]
                  refine wpAnyH_take (i := 2) (oi := { dst := some 151, op := Op.indexAddr 54 (Operand.tmp 149) (Operand.tmp 150), type := 0, pos := "law.go:44", after := #[{ on := 0, ground := Ground.data }, { on := 1, ground := Ground.data }], guard := none }) (v := ?vvv62) rfl (by kernel_rfl) (by kernel_rfl) (by kernel_rfl) (fun _ _ _ h => h) (Or.inl ⟨by rfl, ?yyv62⟩) hHeld ?rrv62
                  case yyv62 => (intro w0 hSw; obtain ⟨⟨m0, m1, m2, m3, m4, m5⟩, m6, m7, m8, m9, m10, m11⟩ := hSw; go_simp; try with_reducible rfl)
                  try simp only [Act.put, List.setIfInBounds_toArray, List.set_cons_zero, List.set_cons_succ]
                  refine wpAnyH_take (i := 3) (oi := { dst := some 152, op := Op.load 87 (Operand.tmp 151), type := 87, pos := "law.go:44", after := #[{ on := 2, ground := Ground.data }], guard := none }) (v := ?vvv63) rfl (by kernel_rfl) (by kernel_rfl) (by kernel_rfl) (fun _ _ _ h => h) (Or.inl ⟨by rfl, ?yyv63⟩) hHeld ?rrv63
                  case yyv63 => (intro w0 hSw; obtain ⟨⟨m0, m1, m2, m3, m4, m5⟩, m6, m7, m8, m9, m10, m11⟩ := hSw; go_simp; try with_reducible rfl)
                  try simp only [Act.put, List.setIfInBounds_toArray, List.set_cons_zero, List.set_cons_succ]
                  refine wpAnyH_take (i := 4) (oi := { dst := some 153, op := Op.move (Operand.tmp 15), type := 54, pos := "law.go:44", after := #[], guard := none }) (v := ?vvv64) rfl (by kernel_rfl) (by kernel_rfl) (by kernel_rfl) (fun _ _ _ h => h) (Or.inl ⟨by rfl, ?yyv64⟩) hHeld ?rrv64
                  case yyv64 => (intro w0 hSw; obtain ⟨⟨m0, m1, m2, m3, m4, m5⟩, m6, m7, m8, m9, m10, m11⟩ := hSw; go_simp; try with_reducible rfl)
                  try simp only [Act.put, List.setIfInBounds_toArray, List.set_cons_zero, List.set_cons_succ]
                  refine wpAnyH_take (i := 5) (oi := { dst := some 154, op := Op.move (Operand.tmp 16), type := 3, pos := "law.go:44", after := #[], guard := none }) (v := ?vvv65) rfl (by kernel_rfl) (by kernel_rfl) (by kernel_rfl) (fun _ _ _ h => h) (Or.inl ⟨by rfl, ?yyv65⟩) hHeld ?rrv65
                  case yyv65 => (intro w0 hSw; obtain ⟨⟨m0, m1, m2, m3, m4, m5⟩, m6, m7, m8, m9, m10, m11⟩ := hSw; go_simp; try with_reducible rfl)
                  try simp only [Act.put, List.setIfInBounds_toArray, List.set_cons_zero, List.set_cons_succ]
                  refine wpAnyH_take (i := 6) (oi := { dst := some 155, op := Op.indexAddr 54 (Operand.tmp 153) (Operand.tmp 154), type := 0, pos := "law.go:44", after := #[{ on := 4, ground := Ground.data }, { on := 5, ground := Ground.data }], guard := none }) (v := ?vvv66) rfl (by kernel_rfl) (by kernel_rfl) (by kernel_rfl) (fun _ _ _ h => h) (Or.inl ⟨by rfl, ?yyv66⟩) hHeld ?rrv66
                  case yyv66 => (intro w0 hSw; obtain ⟨⟨m0, m1, m2, m3, m4, m5⟩, m6, m7, m8, m9, m10, m11⟩ := hSw; go_simp; try with_reducible rfl)
                  try simp only [Act.put, List.setIfInBounds_toArray, List.set_cons_zero, List.set_cons_succ]
                  refine wpAnyH_take (i := 7) (oi := { dst := some 156, op := Op.load 87 (Operand.tmp 155), type := 87, pos := "law.go:44", after := #[{ on := 6, ground := Ground.data }], guard := none }) (v := ?vvv67) rfl (by kernel_rfl) (by kernel_rfl) (by kernel_rfl) (fun _ _ _ h => h) (Or.inl ⟨by rfl, ?yyv67⟩) hHeld ?rrv67
                  case yyv67 => (intro w0 hSw; obtain ⟨⟨m0, m1, m2, m3, m4, m5⟩, m6, m7, m8, m9, m10, m11⟩ := hSw; go_simp; try with_reducible rfl)
                  try simp only [Act.put, List.setIfInBounds_toArray, List.set_cons_zero, List.set_cons_succ]
                  refine wpAnyH_take (i := 8) (oi := { dst := some 157, op := Op.binOp BinOp.neq 87 (Operand.tmp 152) (Operand.tmp 156) 87, type := 4, pos := "law.go:44", after := #[{ on := 3, ground := Ground.data }, { on := 7, ground := Ground.data }], guard := none }) (v := ?vvv68) rfl (by kernel_rfl) (by kernel_rfl) (by kernel_rfl) (fun _ _ _ h => h) (Or.inl ⟨by rfl, ?yyv68⟩) hHeld ?rrv68
                  case yyv68 => (intro w0 hSw; obtain ⟨⟨m0, m1, m2, m3, m4, m5⟩, m6, m7, m8, m9, m10, m11⟩ := hSw; go_simp; try with_reducible rfl)
                  try simp only [Act.put, List.setIfInBounds_toArray, List.set_cons_zero, List.set_cons_succ]
                  try simp only [qI, Bool.false_and, Bool.and_false, Bool.not_false, Bool.true_and, beq_self_eq_true, bne, Bool.not_true]
                  refine wpAnyH_done (by kernel_rfl) ?_ _
                  go_wp2_with fail
                  go_ret
                  exact smb _ hG.out hbw.out.1 (below3 hb9.out (below_drewN HB.out))
                subst s6
                go_quiet (fail)
                go_wp2_with fail
                exact ⟨⟨l + 1, by omega, by go_num, below_drewN HB.out⟩, by simp [intOf]; omega⟩
              · have hl2 : l = M := by omega
                subst hl2
                have HB := Hid.mk hb
                clear hb
                go_wp2_with fail
                go_ret
                exact smb _ hG.out hbw.out.1 (below3 hb9.out HB.out)
end Go.Proofs.YtaphpdmfjnhlaaaGreatDoor.S8
