/-
  The plain transaction's own functions: sealed, Fits, Get. No condition. The plain transaction's own functions: Get, Put of the plain one. No condition. The plain transaction's own functions: a page put into the plain one. No condition.
-/
import Derived.Test.YtacgemibaojbaaaSin
import Derived.Laws.OwnMore
namespace Go.Proofs.Ytacgemibaojbaaa
open Go Go.RowKit Go.Maps

def slR (id : Int) : List S3 → Int
  | [] => 80
  | y :: r => if y.1 = id then (if y.2.2 = true then 170 else 0) else slR id r
theorem slR_is (id : Int) : ∀ l : List Asp, slR id (l.map fS) = (match gA l id with | none => 80 | some x => if x.sl = true then 170 else 0)
  | [] => rfl
  | x :: r => by
    rw [List.map_cons, slR, gA_cons]
    show (if x.id = id then _ else _) = _
    by_cases h : x.id = id
    · rw [if_pos h, if_pos h]; rfl
    · rw [if_neg h, if_neg h]; exact slR_is id r
set_option maxRecDepth 20000 in
theorem sealed_any {w : World} {B v0 v1 v2 v3 m} (h : RAt w B v0 v1 v2 v3 m) (hn : m.sp.length < 1000000) (id : Int) : Calls Try.prog 31 #[.agg #[v0, v1, v2, v3], .int .i64 id] w fun e w' => e = .returned (.int .i64 (slR id m.sp)) ∧ Below w.heap.size w w' := by
  obtain ⟨a0, c0, rfl⟩ := h.sp.form
  rw [List.length_map] at h ⊢
  generalize hR : slR id m.sp = R0
  have H := Hid.mk h
  clear h
  go_enter Try.func31, Try.ntmps31
  go_upto_region 2 with fail
  have x0 := Box4.fresh w (.slice a0 m.sp.length c0) v1 v2 v3
  have h1 := H.out.sp.alloc (.cells #[.slice a0 m.sp.length c0, v1, v2, v3] 33)
  have b1 : Bel w _ := below_al w (.cells #[.slice a0 m.sp.length c0, v1, v2, v3] 33)
  obtain ⟨k0, k1, k2, k3⟩ := x0.cells
  generalize w.alloc (.cells #[.slice a0 m.sp.length c0, v1, v2, v3] 33) = W at *
  have H1 := Hid.mk (And.intro h1 b1)
  clear h1 b1 x0
  generalize w.heap.size = G at *
  generalize hl : m.sp = l at *
  clear hl
  go_loopw [5] (fun i wr => ∃ k : Nat, k ≤ l.length ∧ i = .int .i64 k ∧ slR id (l.drop k) = R0 ∧ W = wr) (fun i _ => l.length - (intOf i).toNat)
  case atStart => exact ⟨0, Nat.zero_le _, rfl, by simpa using hR, rfl⟩
  case round =>
    obtain ⟨k, hk, rfl, hgo, rfl⟩ := hrel
    by_cases hkn : k < l.length
    · obtain ⟨g, rfl, hgB, hgl, d0, d1, d2⟩ := H1.out.1.at3s hkn
      rw [dropC l k (0, 0, false) hkn, slR] at hgo
      generalize l.getD k (0, 0, false) = y at *
      obtain ⟨y1, y2, y3⟩ := y
      simp only at d0 d1 d2 hgo
      by_cases e : y1 = id
      · rw [if_pos e] at hgo
        rw [e] at d0
        cases y3
        · simp only [Bool.false_eq_true, if_false] at hgo
          subst hgo
          go_wp2_with fail
          go_ret
          exact ⟨rfl, H1.out.2⟩
        · simp only [if_true] at hgo
          subst hgo
          go_wp2_with fail
          go_ret
          exact ⟨rfl, H1.out.2⟩
      · rw [if_neg e] at hgo
        have HG := Hid.mk hgo
        clear hgo
        have eb : (y1 == id) = false := by simp [e]
        clear e
        go_wp2_with fail
        exact ⟨⟨k + 1, by omega, by go_num, HG.out, by first | rfl | trivial⟩, by simp [intOf]; omega⟩
    · have hk2 : k = l.length := by omega
      rw [hk2, List.drop_length, slR] at hgo
      subst hgo
      subst hk2
      go_wp2_with fail
      go_ret
      exact ⟨rfl, H1.out.2⟩
theorem sealed_rs {w : World} {B v0 v1 v2 v3} {Y : Ab} (h : RAt w B v0 v1 v2 v3 (rs Y)) (hi : InvA Y) (id : Int) : Calls Try.prog 31 #[.agg #[v0, v1, v2, v3], .int .i64 id] w fun e w' => e = .returned (.int .i64 (clA Y id)) ∧ Below w.heap.size w w' := by
  have q := sealed_any h (by have := (lens_rs hi).1; omega) id
  have e : slR id (rs Y).sp = clA Y id := slR_is id Y.sp
  rw [e] at q
  exact q
def rT (s : ByteArray) : List Value := [.string s]
/-- five slices in a block of their own -/
def Box5 (w : World) (g : Nat) (v0 v1 v2 v3 v4 : Value) : Prop := w.heap[g]? = some (.cells #[v0, v1, v2, v3, v4] 36 (0, 0))
theorem Box5.lt {w g v0 v1 v2 v3 v4} (h : Box5 w g v0 v1 v2 v3 v4) : g < w.heap.size := (Array.getElem?_eq_some_iff.1 h).1
theorem Box5.call {w w' : World} {g v0 v1 v2 v3 v4} (h : Box5 w g v0 v1 v2 v3 v4) (b : Below w.heap.size w w') : Box5 w' g v0 v1 v2 v3 v4 := (b.block g h.lt).trans h
theorem Box5.cells {w g v0 v1 v2 v3 v4} (h : Box5 w g v0 v1 v2 v3 v4) : w.cell? ⟨g, 0, none⟩ = some v0 ∧ w.cell? ⟨g, 1, none⟩ = some v1 ∧ w.cell? ⟨g, 2, none⟩ = some v2 ∧ w.cell? ⟨g, 3, none⟩ = some v3 ∧ w.cell? ⟨g, 4, none⟩ = some v4 := by
  refine ⟨?_, ?_, ?_, ?_, ?_⟩ <;> rw [cell_of_row w g _ _ 36 _ h] <;> rfl
theorem Box5.fz {w g v0 v1 v2 v3 v4} (h : Box5 w g v0 v1 v2 v3 v4) (j : Nat) : w.frozen? ⟨g, j, none⟩ = false := frozen_of_row w g j _ 36 h
def RmB (w : World) (g : Nat) (pl ks rr rp : Int) : Prop := w.heap[g]? = some (.cells #[.int .i64 pl, .int .i64 ks, .int .i64 rr, .int .i64 rp] 24 (0, 0))
theorem RmB.call {w w' : World} {g pl ks rr rp} (h : RmB w g pl ks rr rp) (b : Below w.heap.size w w') : RmB w' g pl ks rr rp := (b.block g (Array.getElem?_eq_some_iff.1 h).1).trans h
theorem RmB.cells {w g pl ks rr rp} (h : RmB w g pl ks rr rp) : w.cell? ⟨g, 0, none⟩ = some (.int .i64 pl) ∧ w.cell? ⟨g, 1, none⟩ = some (.int .i64 ks) ∧ w.cell? ⟨g, 2, none⟩ = some (.int .i64 rr) ∧ w.cell? ⟨g, 3, none⟩ = some (.int .i64 rp) := by
  refine ⟨?_, ?_, ?_, ?_⟩ <;> rw [cell_of_row w g _ _ 24 _ h] <;> rfl
set_option maxRecDepth 20000 in
set_option maxHeartbeats 2000000 in
theorem rfits_any {w : World} {B v0 v1 v2 v3 vt} {Y : Ab} (h : RAt w B v0 v1 v2 v3 (rs Y)) (hi : InvA Y) (ht : IsSl vt) (pl ks rr rp : Int) :
    Calls Try.prog 33 #[.agg #[v0, v1, v2, v3, vt], .agg #[.int .i64 pl, .int .i64 ks, .int .i64 rr, .int .i64 rp]] w fun e w' => e = .returned (.bool (fitB pl ks Y)) ∧ Below w.heap.size w w' := by
  obtain ⟨a0, n0, c0, rfl⟩ := h.sp.isSl
  obtain ⟨a1, c1, rfl⟩ := h.lv.form
  obtain ⟨a2, n2, c2, rfl⟩ := h.bad.isSl
  obtain ⟨a3, n3, c3, rfl⟩ := h.worn.isSl
  obtain ⟨a4, n4, c4, rfl⟩ := ht
  have el : ((rs Y).lv.map rL).length = pagesN Y.sp := by rw [List.length_map]; exact lvA_len _
  rw [el] at h ⊢
  have b2 : Below w.heap.size w ((w.alloc (.cells #[.slice a0 n0 c0, .slice a1 (pagesN Y.sp) c1, .slice a2 n2 c2, .slice a3 n3 c3, .slice a4 n4 c4] 36)).alloc (.cells #[.int .i64 pl, .int .i64 ks, .int .i64 rr, .int .i64 rp] 24)) := ((Below.refl _ w).alloc (Nat.le_refl _) _).alloc (by rw [size_alloc]; omega) _
  have x1 : Box5 ((w.alloc (.cells #[.slice a0 n0 c0, .slice a1 (pagesN Y.sp) c1, .slice a2 n2 c2, .slice a3 n3 c3, .slice a4 n4 c4] 36)).alloc (.cells #[.int .i64 pl, .int .i64 ks, .int .i64 rr, .int .i64 rp] 24)) w.heap.size (.slice a0 n0 c0) (.slice a1 (pagesN Y.sp) c1) (.slice a2 n2 c2) (.slice a3 n3 c3) (.slice a4 n4 c4) := (Below.heap_alloc _ _ w.heap.size (by rw [size_alloc]; omega)).trans (heap_alloc_new w _)
  have x2 : RmB ((w.alloc (.cells #[.slice a0 n0 c0, .slice a1 (pagesN Y.sp) c1, .slice a2 n2 c2, .slice a3 n3 c3, .slice a4 n4 c4] 36)).alloc (.cells #[.int .i64 pl, .int .i64 ks, .int .i64 rr, .int .i64 rp] 24)) (w.heap.size + 1) pl ks rr rp := by
    have q := heap_alloc_new (w.alloc (.cells #[.slice a0 n0 c0, .slice a1 (pagesN Y.sp) c1, .slice a2 n2 c2, .slice a3 n3 c3, .slice a4 n4 c4] 36)) (.cells #[.int .i64 pl, .int .i64 ks, .int .i64 rr, .int .i64 rp] 24)
    rw [size_alloc] at q
    exact q
  have hlv : ∀ W, Below w.heap.size w W → Calls Try.prog 47 #[.agg #[.slice a0 n0 c0, .slice a1 (pagesN Y.sp) c1, .slice a2 n2 c2, .slice a3 n3 c3]] W fun e w' => e = .returned (.int .i64 (liveA Y : Int)) ∧ Below W.heap.size W w' := fun W b => rlive_any (h.call b) (by have := (lens_rs hi).2.1; omega)
  have HL := Hid.mk (And.intro hlv b2)
  clear h hi el hlv b2
  unfold fitB
  generalize (liveA Y : Int) = lv at *
  generalize pagesN Y.sp = np at *
  go_enter Try.func33, Try.ntmps33
  go_upto_region 1 with fail
  generalize ((w.alloc (.cells #[.slice a0 n0 c0, .slice a1 (np) c1, .slice a2 n2 c2, .slice a3 n3 c3, .slice a4 n4 c4] 36)).alloc (.cells #[.int .i64 pl, .int .i64 ks, .int .i64 rr, .int .i64 rp] 24)) = W at *
  generalize hG : w.heap.size = G at *
  have kS : Hid (∀ w', Below W.heap.size W w' → Below W.heap.size W w' ∧ (w'.cell? ⟨G, 0, none⟩ = some (.slice a0 n0 c0) ∧ w'.cell? ⟨G, 1, none⟩ = some (.slice a1 np c1) ∧ w'.cell? ⟨G, 2, none⟩ = some (.slice a2 n2 c2) ∧ w'.cell? ⟨G, 3, none⟩ = some (.slice a3 n3 c3) ∧ w'.cell? ⟨G, 4, none⟩ = some (.slice a4 n4 c4)) ∧ w'.cell? ⟨G + 1, 0, none⟩ = some (.int .i64 pl) ∧ w'.cell? ⟨G + 1, 1, none⟩ = some (.int .i64 ks)) := fun w' q => ⟨q, (x1.call q).cells, (x2.call q).cells.1, (x2.call q).cells.2.1⟩
  clear x1 x2
  have b3 : Hid (∀ W', Below W.heap.size W W' → Below G w W') := fun W' q => by
    have := HL.out.2
    exact this.trans (q.mono (by have := this.size; omega))
  by_cases hl : lv ≤ pl
  · have hd : decide (lv ≤ pl) = true := by simpa using hl
    go_region_held3 (fun w' => Below W.heap.size W w' ∧ (w'.cell? ⟨G, 0, none⟩ = some (.slice a0 n0 c0) ∧ w'.cell? ⟨G, 1, none⟩ = some (.slice a1 np c1) ∧ w'.cell? ⟨G, 2, none⟩ = some (.slice a2 n2 c2) ∧ w'.cell? ⟨G, 3, none⟩ = some (.slice a3 n3 c3) ∧ w'.cell? ⟨G, 4, none⟩ = some (.slice a4 n4 c4)) ∧ w'.cell? ⟨G + 1, 0, none⟩ = some (.int .i64 pl) ∧ w'.cell? ⟨G + 1, 1, none⟩ = some (.int .i64 ks))
      (first | assumption | exact kS.out _ (Below.refl _ W) | exact kS.out _ (Below.refl _ W).drew | exact kS.out _ (below3 (And.left (by assumption)) (by assumption)) | fail)
      (first | (go_at_call 47; refine (HL.out.1 _ (b3.out _ (And.left (by assumption)))).mono ?_; rintro e w5 ⟨rfl, b5⟩))
    go_wp2_with fail
    go_ret
    subst hG
    exact ⟨by rw [hd]; rfl, b3.out _ (below3 (Below.refl _ W).drew b5)⟩
  · have hd : decide (lv ≤ pl) = false := by simpa using hl
    refine wp_region_held_drew (S := fun w' => Below W.heap.size W w' ∧ (w'.cell? ⟨G, 0, none⟩ = some (.slice a0 n0 c0) ∧ w'.cell? ⟨G, 1, none⟩ = some (.slice a1 np c1) ∧ w'.cell? ⟨G, 2, none⟩ = some (.slice a2 n2 c2) ∧ w'.cell? ⟨G, 3, none⟩ = some (.slice a3 n3 c3) ∧ w'.cell? ⟨G, 4, none⟩ = some (.slice a4 n4 c4)) ∧ w'.cell? ⟨G + 1, 0, none⟩ = some (.int .i64 pl) ∧ w'.cell? ⟨G + 1, 1, none⟩ = some (.int .i64 ks)) (by kernel_rfl) (kS.out _ (Below.refl _ W).drew) (fun hHeld => ?_)
    refine wpAnyH_take (i := 0) (oi := { dst := some 5, op := Op.fieldAddr 36 (Operand.tmp 2) 0, type := 0, pos := "ref.go:53", after := #[], guard := none }) (v := ?vv0) rfl (by kernel_rfl) (by kernel_rfl) (by kernel_rfl) (fun _ _ _ h => h) (Or.inl ⟨by rfl, ?yy0⟩) hHeld ?rr0
    case yy0 => (intro w0 hSw; obtain ⟨hb, ⟨h0, h1, h2, h3, h4⟩, h5, h6⟩ := hSw; go_simp; try with_reducible rfl)
    try simp only [Act.put, List.setIfInBounds_toArray, List.set_cons_zero, List.set_cons_succ]
    refine wpAnyH_take (i := 1) (oi := { dst := some 6, op := Op.load 33 (Operand.tmp 5), type := 33, pos := "ref.go:53", after := #[{ on := 0, ground := Ground.data }], guard := none }) (v := ?vv1) rfl (by kernel_rfl) (by kernel_rfl) (by kernel_rfl) (fun _ _ _ h => h) (Or.inl ⟨by rfl, ?yy1⟩) hHeld ?rr1
    case yy1 => (intro w0 hSw; obtain ⟨hb, ⟨h0, h1, h2, h3, h4⟩, h5, h6⟩ := hSw; go_simp; try with_reducible rfl)
    try simp only [Act.put, List.setIfInBounds_toArray, List.set_cons_zero, List.set_cons_succ]
    refine wpAnyH_take (i := 3) (oi := { dst := some 8, op := Op.fieldAddr 24 (Operand.tmp 3) 0, type := 0, pos := "ref.go:53", after := #[], guard := none }) (v := ?vv3) rfl (by kernel_rfl) (by kernel_rfl) (by kernel_rfl) (fun _ _ _ h => h) (Or.inl ⟨by rfl, ?yy3⟩) hHeld ?rr3
    case yy3 => (intro w0 hSw; obtain ⟨hb, ⟨h0, h1, h2, h3, h4⟩, h5, h6⟩ := hSw; go_simp; try with_reducible rfl)
    try simp only [Act.put, List.setIfInBounds_toArray, List.set_cons_zero, List.set_cons_succ]
    refine wpAnyH_take (i := 4) (oi := { dst := some 9, op := Op.load 3 (Operand.tmp 8), type := 3, pos := "ref.go:53", after := #[{ on := 3, ground := Ground.data }], guard := none }) (v := ?vv4) rfl (by kernel_rfl) (by kernel_rfl) (by kernel_rfl) (fun _ _ _ h => h) (Or.inl ⟨by rfl, ?yy4⟩) hHeld ?rr4
    case yy4 => (intro w0 hSw; obtain ⟨hb, ⟨h0, h1, h2, h3, h4⟩, h5, h6⟩ := hSw; go_simp; try with_reducible rfl)
    try simp only [Act.put, List.setIfInBounds_toArray, List.set_cons_zero, List.set_cons_succ]
    refine wpAnyH_ready (rs := [2]) (by kernel_rfl) (by simp) ?_
    refine AllReadyH.cons (o := { dst := some 7, op := Op.call { callee := Callee.value (Operand.func 47), args := #[Operand.tmp 6], argTypes := #[33] }, type := 3, pos := "ref.go:53", after := #[{ on := 1, ground := Ground.data }], guard := none }) rfl (fun K hK => ?_) AllReadyH.nil
    go_simp
    go_at_call 47
    refine (HL.out.1 _ (b3.out _ hHeld.1)).mono ?_
    rintro e w5 ⟨rfl, b5⟩
    have hH3 := kS.out _ (below3 hHeld.1 b5)
    have b5' := b3.out _ hH3.1
    clear hHeld
    refine hK.out _ _ hH3 (fun hHeld => ?_)
    clear hK K
    try simp only [Act.put, List.setIfInBounds_toArray, List.set_cons_zero, List.set_cons_succ]
    refine wpAnyH_take (i := 5) (oi := { dst := some 10, op := Op.binOp BinOp.leq 3 (Operand.tmp 7) (Operand.tmp 9) 3, type := 4, pos := "ref.go:53", after := #[{ on := 2, ground := Ground.data }, { on := 4, ground := Ground.data }], guard := none }) (v := ?vv5) rfl (by kernel_rfl) (by kernel_rfl) (by kernel_rfl) (fun _ _ _ h => h) (Or.inl ⟨by rfl, ?yy5⟩) hHeld ?rr5
    case yy5 => (intro w0 hSw; obtain ⟨hb, ⟨h0, h1, h2, h3, h4⟩, h5, h6⟩ := hSw; go_simp; try with_reducible rfl)
    try simp only [Act.put, List.setIfInBounds_toArray, List.set_cons_zero, List.set_cons_succ]
    refine wpAnyH_take (i := 6) (oi := { dst := some 11, op := Op.move (Operand.tmp 10), type := 4, pos := "ref.go:53", after := #[{ on := 5, ground := Ground.data }, { on := 2, ground := Ground.chain }], guard := none }) (v := ?vv6) rfl (by kernel_rfl) (by kernel_rfl) (by kernel_rfl) (fun _ _ _ h => h) (Or.inl ⟨by rfl, ?yy6⟩) hHeld ?rr6
    case yy6 => (intro w0 hSw; obtain ⟨hb, ⟨h0, h1, h2, h3, h4⟩, h5, h6⟩ := hSw; go_simp; try with_reducible rfl)
    try simp only [Act.put, List.setIfInBounds_toArray, List.set_cons_zero, List.set_cons_succ]
    refine wpAnyH_take (i := 7) (oi := { dst := some 12, op := Op.fieldAddr 36 (Operand.tmp 2) 0, type := 0, pos := "ref.go:53", after := #[{ on := 6, ground := Ground.guard }], guard := some (6, true) }) (v := undef) rfl (by kernel_rfl) (by kernel_rfl) (by kernel_rfl) (fun _ _ _ h => h) (Or.inr ⟨by rfl, rfl⟩) hHeld ?_
    try simp only [Act.put, List.setIfInBounds_toArray, List.set_cons_zero, List.set_cons_succ]
    refine wpAnyH_take (i := 8) (oi := { dst := some 13, op := Op.fieldAddr 33 (Operand.tmp 12) 1, type := 0, pos := "ref.go:53", after := #[{ on := 7, ground := Ground.data }, { on := 6, ground := Ground.guard }], guard := some (6, true) }) (v := undef) rfl (by kernel_rfl) (by kernel_rfl) (by kernel_rfl) (fun _ _ _ h => h) (Or.inr ⟨by rfl, rfl⟩) hHeld ?_
    try simp only [Act.put, List.setIfInBounds_toArray, List.set_cons_zero, List.set_cons_succ]
    refine wpAnyH_take (i := 9) (oi := { dst := some 14, op := Op.load 29 (Operand.tmp 13), type := 29, pos := "ref.go:53", after := #[{ on := 8, ground := Ground.data }, { on := 6, ground := Ground.guard }], guard := some (6, true) }) (v := undef) rfl (by kernel_rfl) (by kernel_rfl) (by kernel_rfl) (fun _ _ _ h => h) (Or.inr ⟨by rfl, rfl⟩) hHeld ?_
    try simp only [Act.put, List.setIfInBounds_toArray, List.set_cons_zero, List.set_cons_succ]
    refine wpAnyH_take (i := 10) (oi := { dst := some 15, op := Op.call { callee := Callee.builtin Builtin.len, args := #[Operand.tmp 14], argTypes := #[29] }, type := 3, pos := "ref.go:53", after := #[{ on := 9, ground := Ground.data }, { on := 6, ground := Ground.guard }], guard := some (6, true) }) (v := undef) rfl (by kernel_rfl) (by kernel_rfl) (by kernel_rfl) (fun _ _ _ h => h) (Or.inr ⟨by rfl, rfl⟩) hHeld ?_
    try simp only [Act.put, List.setIfInBounds_toArray, List.set_cons_zero, List.set_cons_succ]
    refine wpAnyH_take (i := 11) (oi := { dst := some 16, op := Op.fieldAddr 24 (Operand.tmp 3) 1, type := 0, pos := "ref.go:53", after := #[{ on := 6, ground := Ground.guard }], guard := some (6, true) }) (v := undef) rfl (by kernel_rfl) (by kernel_rfl) (by kernel_rfl) (fun _ _ _ h => h) (Or.inr ⟨by rfl, rfl⟩) hHeld ?_
    try simp only [Act.put, List.setIfInBounds_toArray, List.set_cons_zero, List.set_cons_succ]
    refine wpAnyH_take (i := 12) (oi := { dst := some 17, op := Op.load 3 (Operand.tmp 16), type := 3, pos := "ref.go:53", after := #[{ on := 11, ground := Ground.data }, { on := 6, ground := Ground.guard }], guard := some (6, true) }) (v := undef) rfl (by kernel_rfl) (by kernel_rfl) (by kernel_rfl) (fun _ _ _ h => h) (Or.inr ⟨by rfl, rfl⟩) hHeld ?_
    try simp only [Act.put, List.setIfInBounds_toArray, List.set_cons_zero, List.set_cons_succ]
    refine wpAnyH_take (i := 13) (oi := { dst := some 18, op := Op.binOp BinOp.leq 3 (Operand.tmp 15) (Operand.tmp 17) 3, type := 4, pos := "ref.go:53", after := #[{ on := 10, ground := Ground.data }, { on := 12, ground := Ground.data }, { on := 6, ground := Ground.guard }], guard := some (6, true) }) (v := undef) rfl (by kernel_rfl) (by kernel_rfl) (by kernel_rfl) (fun _ _ _ h => h) (Or.inr ⟨by rfl, rfl⟩) hHeld ?_
    try simp only [Act.put, List.setIfInBounds_toArray, List.set_cons_zero, List.set_cons_succ]
    refine wpAnyH_take (i := 14) (oi := { dst := some 19, op := Op.pick (Operand.tmp 11) (Operand.tmp 18) (Operand.const (Value.bool false)), type := 4, pos := "ref.go:53", after := #[{ on := 6, ground := Ground.data }, { on := 13, ground := Ground.data }], guard := none }) (v := ?vv14) rfl (by kernel_rfl) (by kernel_rfl) (by kernel_rfl) (fun _ _ _ h => h) (Or.inl ⟨by rfl, ?yy14⟩) hHeld ?rr14
    case yy14 => (intro w0 hSw; obtain ⟨hb, ⟨h0, h1, h2, h3, h4⟩, h5, h6⟩ := hSw; go_simp; try with_reducible rfl)
    try simp only [Act.put, List.setIfInBounds_toArray, List.set_cons_zero, List.set_cons_succ]
    refine wpAnyH_take (i := 15) (oi := { dst := some 4, op := Op.assign (Operand.tmp 19), type := 4, pos := "ref.go:53", after := #[{ on := 14, ground := Ground.data }, { on := 6, ground := Ground.chain }, { on := 0, ground := Ground.phase }, { on := 1, ground := Ground.phase }, { on := 2, ground := Ground.phase }, { on := 3, ground := Ground.phase }, { on := 4, ground := Ground.phase }, { on := 5, ground := Ground.phase }, { on := 6, ground := Ground.phase }, { on := 7, ground := Ground.phase }, { on := 8, ground := Ground.phase }, { on := 9, ground := Ground.phase }, { on := 10, ground := Ground.phase }, { on := 11, ground := Ground.phase }, { on := 12, ground := Ground.phase }, { on := 13, ground := Ground.phase }, { on := 14, ground := Ground.phase }], guard := none }) (v := ?vv15) rfl (by kernel_rfl) (by kernel_rfl) (by kernel_rfl) (fun _ _ _ h => h) (Or.inl ⟨by rfl, ?yy15⟩) hHeld ?rr15
    case yy15 => (intro w0 hSw; obtain ⟨hb, ⟨h0, h1, h2, h3, h4⟩, h5, h6⟩ := hSw; go_simp; try with_reducible rfl)
    try simp only [Act.put, List.setIfInBounds_toArray, List.set_cons_zero, List.set_cons_succ]
    refine wpAnyH_done (by kernel_rfl) ?_ _
    go_wp2_with fail
    go_ret
    subst hG
    exact ⟨by first | rfl | (rw [hd]; rfl), b5'⟩
/-- what a page of the plain one says -/
def getP (Y : Ab) (tx : List ByteArray) (id page : Int) : ByteArray × Bool :=
  match getA Y id page with
  | none => (ByteArray.empty, false)
  | some p => if p < 1000 ∨ (tx.length : Int) ≤ p - 1000 then (ByteArray.empty, false) else (tx.getD (p - 1000).toNat ByteArray.empty, true)
theorem rget_rs {w : World} {B v0 v1 v2 v3} {Y : Ab} (h : RAt w B v0 v1 v2 v3 (rs Y)) (hi : InvA Y) (id page : Int) : Calls Try.prog 51 #[.agg #[v0, v1, v2, v3], .int .i64 id, .int .i64 page] w fun e w' => e = .returned (.tuple #[.int .i64 ((getA Y id page).getD 0), .bool (getA Y id page).isSome]) ∧ Below w.heap.size w w' := by
  have q := rget_any h (by have := (lens_rs hi).2.1; omega) id page
  have e : gL id page (rs Y).lv = getA Y id page := by
    show gL id page (lvA Y.sp) = _
    rw [gL_lvA id page hi.up]
    unfold getA
    cases gA Y.sp id <;> rfl
  rw [e] at q
  exact q
set_option maxRecDepth 20000 in
set_option maxHeartbeats 2000000 in
theorem getP_any {w : World} {B v0 v1 v2 v3 vt} {Y : Ab} {tx : List ByteArray} (h : RAt w B v0 v1 v2 v3 (rs Y)) (hi : InvA Y) (ht : Ow w B 9 1 vt (tx.map rT)) (id page : Int) :
    Calls Try.prog 37 #[.agg #[v0, v1, v2, v3, vt], .int .i64 id, .int .i64 page] w fun e w' => e = .returned (.tuple #[.string (getP Y tx id page).1, .bool (getP Y tx id page).2]) ∧ Below w.heap.size w w' := by
  obtain ⟨a0, n0, c0, rfl⟩ := h.sp.isSl
  obtain ⟨a1, n1, c1, rfl⟩ := h.lv.isSl
  obtain ⟨a2, n2, c2, rfl⟩ := h.bad.isSl
  obtain ⟨a3, n3, c3, rfl⟩ := h.worn.isSl
  obtain ⟨a4, c4, rfl⟩ := ht.form
  rw [List.length_map] at ht ⊢
  have b1 : Below w.heap.size w (w.alloc (.cells #[.slice a0 n0 c0, .slice a1 n1 c1, .slice a2 n2 c2, .slice a3 n3 c3, .slice a4 tx.length c4] 36)) := (Below.refl _ w).alloc (Nat.le_refl _) _
  have x1 : Box5 (w.alloc (.cells #[.slice a0 n0 c0, .slice a1 n1 c1, .slice a2 n2 c2, .slice a3 n3 c3, .slice a4 tx.length c4] 36)) w.heap.size (.slice a0 n0 c0) (.slice a1 n1 c1) (.slice a2 n2 c2) (.slice a3 n3 c3) (.slice a4 tx.length c4) := heap_alloc_new w _
  have q := rget_rs (h.call b1) hi id page
  have t1 := ht.call b1
  have hp : ∀ p, getA Y id page = some p → 0 ≤ p ∧ p ≤ 2000 := fun p hp => getA_rng hi hp
  have Q := Hid.mk (And.intro q b1)
  clear h hi ht q b1
  unfold getP
  generalize getA Y id page = r at *
  cases r with
  | none =>
    go_enter Try.func37, Try.ntmps37
    go_upto_region 1 with fail
    generalize w.alloc (.cells #[.slice a0 n0 c0, .slice a1 n1 c1, .slice a2 n2 c2, .slice a3 n3 c3, .slice a4 tx.length c4] 36) = W at *
    obtain ⟨y0, y1, y2, y3, y4⟩ := x1.cells
    go_wp2_with (first | (go_at_call 51; refine Q.out.1.mono ?_; rintro e w1 ⟨rfl, b1⟩; simp only [Option.getD_none, Option.isSome_none]))
    go_ret2
    exact ⟨rfl, below3 Q.out.2 b1⟩
  | some p =>
    have hpr := hp p rfl
    clear hp
    by_cases h1 : p < 1000
    · have hd1 : decide (p < 1000) = true := by simpa using h1
      simp only [h1, true_or, if_true]
      go_enter Try.func37, Try.ntmps37
      go_upto_region 1 with fail
      generalize w.alloc (.cells #[.slice a0 n0 c0, .slice a1 n1 c1, .slice a2 n2 c2, .slice a3 n3 c3, .slice a4 tx.length c4] 36) = W at *
      obtain ⟨y0, y1, y2, y3, y4⟩ := x1.cells
      go_wp2_with (first | (go_at_call 51; refine Q.out.1.mono ?_; rintro e w1 ⟨rfl, b1⟩; simp only [Option.getD_some, Option.isSome_some]))
      go_ret2
      exact ⟨rfl, below3 Q.out.2 b1⟩
    · have hd1 : decide (p < 1000) = false := by simpa using h1
      by_cases h2 : (tx.length : Int) ≤ p - 1000
      · have hd2 : decide ((tx.length : Int) ≤ p - 1000) = true := by simpa using h2
        simp only [h2, or_true, if_true]
        go_enter Try.func37, Try.ntmps37
        go_upto_region 2 with (first | (go_at_call 51; refine Q.out.1.mono ?_; rintro e w1 ⟨rfl, b1⟩; simp only [Option.getD_some, Option.isSome_some]))
        obtain ⟨y0, y1, y2, y3, y4⟩ := (x1.call b1).cells
        generalize hG : w.heap.size = G at *
        go_wp2_with fail
        go_ret2
        exact ⟨rfl, by subst hG; exact below3 Q.out.2 b1⟩
      · have hd2 : decide ((tx.length : Int) ≤ p - 1000) = false := by simpa using h2
        simp only [h1, h2, or_self, if_false]
        have h3 : 0 ≤ p - 1000 := by omega
        have h4 : p - 1000 < (tx.length : Int) := by omega
        have hkl : (p - 1000).toNat < tx.length := by omega
        have er : ((tx.map rT).getD (p - 1000).toNat [])[0]? = some (.string (tx.getD (p - 1000).toNat ByteArray.empty)) := by
          simp [List.getD_eq_getElem?_getD, hkl, rT]
        generalize tx.getD (p - 1000).toNat ByteArray.empty = str at *
        replace er := Hid.mk er
        go_enter Try.func37, Try.ntmps37
        go_upto_region 2 with (first | (go_at_call 51; refine Q.out.1.mono ?_; rintro e w1 ⟨rfl, b1⟩; simp only [Option.getD_some, Option.isSome_some]))
        obtain ⟨y0, y1, y2, y3, y4⟩ := (x1.call b1).cells
        obtain ⟨gt, rfl, _, hgl, hc⟩ := (t1.call b1).at (j := (p - 1000).toNat) (by rw [List.length_map]; exact hkl)
        have e6 := hc 0 (by omega)
        rw [er.out, Nat.add_zero, Nat.mul_one] at e6
        clear er hc
        generalize hG : w.heap.size = G at *
        generalize tx.length = n at *
        go_wp2_with fail
        go_ret2
        exact ⟨rfl, by subst hG; exact below3 Q.out.2 b1⟩
theorem do_lay {Y : Ab} (h : InvA Y) (S P A : Int) : doR (rs Y) 1 S P A 0 0 = (rs (layA Y S P A).1, (layA Y S P A).2) := by
  unfold doR layA
  simp only [Int.reduceEq, if_false, if_true]
  cases hg : gA Y.sp S with
  | none => rw [show fndGo S (rs Y).sp 0 = -1 from fnd_none hg 0]; rfl
  | some x =>
    obtain ⟨j, e1, e2⟩ := fnd_some h.up hg
    obtain ⟨hx, hi⟩ := gA_some hg
    rw [show fndGo S (rs Y).sp 0 = j from e1, if_neg (by omega), Int.toNat_natCast, show (rs Y).sp.getD j (0, 0, false) = fS x from e2]
    rw [show (fS x).2.1 = x.q from rfl]
    by_cases hq : P < 0 ∨ x.q ≤ P
    · rw [if_pos hq]; simp only [hq, if_true]
    · rw [if_neg hq]; simp only [hq, if_false]
      rw [show (rs Y).lv = lvA Y.sp from rfl, lvA_wI S P A hi h.up hx (h.ups x hx)]
      unfold rs
      simp only [fS_sA (x := x) (x' := { x with ps := mput x.ps P A }) rfl h.up hx]
set_option maxRecDepth 20000 in
theorem ei9 : EI 34 9 1 16 := ⟨Try.underlying34, ⟨_, _, rfl, rfl, rfl, rfl, rfl⟩, by decide, by decide⟩
section
variable {ops : Array Oper} {o : Oper} {a : Act} {K : Act → World → Prop} {Q : Exit → Act → World → Prop} {E' : Prop}
/-- rows that lie anywhere, appended to none, at a step of a drawn region -/
theorem step_appE {t e sz bytes : Nat} (E : EI t e sz bytes) {w : World} {B0 B : Nat} {vE vt : Value} {rows : Rws} (hgd : o.guard = none) (s x : Operand) (ho : o.op = .call { callee := .builtin .append, args := #[s, x], argTypes := #[t, t] })
    (hE : Ow w B0 e sz vE []) (hT : Ow w B e sz vt rows) (hB : B0 ≤ w.heap.size) (hs : a.eval s = vE) (hx : a.eval x = vt) (hn : rows.length ≤ 100000)
    (hK : ∀ v' w', Ow w' B0 e sz v' rows → w.grownBy w' vE.ownBlock → K (a.put o.dst v') w') :
    if Region.wanted o (yielded ops a.tmps) = true then Oper.wp Try.prog o a w K Q else E' := by
  have hw : Region.wanted o (yielded ops a.tmps) = true := by simp [Region.wanted, hgd]
  rw [if_pos hw]
  obtain ⟨i, z, q1, q2, q3, q4, q5⟩ := E.info
  obtain ⟨ad, cap, rfl⟩ := hT.form
  cases ad with
  | none =>
    have hr : rows = [] ∧ cap = 0 := by
      rcases hT.own.2 with ⟨p, p2⟩ | ⟨g, cap', cur, p, _⟩
      · cases rows with
        | nil => simp at p; exact ⟨rfl, p⟩
        | cons x y => simp at p2
      · simp at p
    obtain ⟨rfl, rfl⟩ := hr
    have hrun := run_append_owned_none (P := Try.prog) w B0 t o.type e i sz E.under q1 vE 0 [] hE.own
    unfold Oper.wp execOp
    simp only [ho, resolve, invoke, builtin, Sem.run_bind, Sem.run_pure, Result.andThen_ok, List.map_toArray, List.map_cons, List.map_nil, hs, hx, List.length_nil, hrun]
    exact hK _ _ hE ⟨rfl, rfl, rfl, Nat.le_refl _, fun _ _ _ => rfl⟩
  | some ad =>
    have hby : (0 + rows.length) * bytes ≤ 140737488355328 := by
      have := Nat.mul_le_mul_left (0 + rows.length) E.top
      omega
    obtain ⟨v', w', hr, h2, h3, h4, h5⟩ := run_append_own_at (P := Try.prog) w B0 t o.type e i z sz bytes E.under q1 q2 q3 q4 q5 E.pos vE 0 [] hE.own ad rows.length cap rows.flatten (flat_len hT.len) (fun j u hj => by
      rcases hT.own.2 with ⟨p, _⟩ | ⟨g, cap', cur, p, _, hg, _⟩
      · cases p
      · simp only [Value.slice.injEq, Option.some.injEq] at p
        obtain ⟨rfl, _, rfl⟩ := p
        have hjl : j < rows.length * sz := by
          have := (List.getElem?_eq_some_iff.1 hj).1
          rwa [flat_len hT.len] at this
        have e1 : (⟨g, 0, none⟩ : Addr).add j = ⟨g, j, none⟩ := by unfold Addr.add; split <;> simp_all
        rw [e1, hT.own.cellAt j hjl]
        exact hj) (fun u hu => by
      obtain ⟨r, hr, hu2⟩ := List.mem_flatten.1 hu
      exact hT.one r hr u hu2) (by simp [maxLen]; omega) hby hB
    unfold Oper.wp execOp
    simp only [ho, resolve, invoke, builtin, Sem.run_bind, Sem.run_pure, Result.andThen_ok, List.map_toArray, List.map_cons, List.map_nil, hs, hx, hr]
    exact hK _ _ ⟨by simpa using h2, hT.len, hT.one⟩ h3
/-- one that lies in a block of its own, appended, at a step of a drawn region -/
theorem step_appO {t e bytes : Nat} (E : EI t e 1 bytes) {w : World} {B : Nat} {v : Value} {rows : Rws} {g : Nat} {u : Value} (hgd : o.guard = none) (s x : Operand) (ho : o.op = .call { callee := .builtin .append, args := #[s, x], argTypes := #[t, t] })
    (h : Ow w B e 1 v rows) (hg : w.heap[g]? = some (.cells #[u] e (0, 0))) (hu : u.oneCell' = true) (hB : B ≤ w.heap.size) (hs : a.eval s = v) (hx : a.eval x = .slice (some ⟨g, 0, none⟩) 1 1) (hn : rows.length < 1000000)
    (hK : ∀ v' w', Ow w' B e 1 v' (rows ++ [[u]]) → w.grownBy w' v.ownBlock → K (a.put o.dst v') w') :
    if Region.wanted o (yielded ops a.tmps) = true then Oper.wp Try.prog o a w K Q else E' := by
  obtain ⟨i, z, q1, q2, q3, q4, q5⟩ := E.info
  have hby : (rows.length + 1) * bytes ≤ 140737488355328 := by
    have := Nat.mul_le_mul_left (rows.length + 1) E.top
    omega
  refine step_append_lies w hgd s x t ho B e i z 1 bytes E.under q1 q2 q3 q4 q5 E.pos v rows.length rows.flatten hs h.own ⟨g, 0, none⟩ 1 1 [u] hx rfl (World.news_of_block hg) (fun y hy => by rw [List.mem_singleton.1 hy]; exact hu) (by omega) (by simp [maxLen]; omega) hby hB _ rfl (fun g cap w' p1 p2 p4 _ => ?_)
  exact hK _ w' (h.more rfl (fun y hy => by rw [List.mem_singleton.1 hy]; exact hu) p1) p2
end
end Go.Proofs.Ytacgemibaojbaaa
