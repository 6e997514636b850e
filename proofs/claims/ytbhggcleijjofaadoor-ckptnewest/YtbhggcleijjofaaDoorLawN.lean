/-
  Of whatever pages are found those of the newest checkpoint that is whole are told: the walk of CkptNewest. Condition: the table's cells hold what the text lays.
-/
import Derived.Test.YtbhggcleijjofaaDoorLnw
namespace Go.Proofs.YtbhggcleijjofaaDoor
open Go Go.RowKit
set_option maxRecDepth 100000

section
variable {ops : Array Oper} {o : Oper} {a : Act} {K : Act → World → Prop} {Q : Exit → Act → World → Prop} {E' : Prop}
/-- append of one that is written out, at a step of a drawn region -/
theorem step_app2 {t e sz bytes : Nat} (E : EI2 t e sz bytes) {w : World} {B : Nat} {v : Value} {rows : We.Rws} (hgd : o.guard = none) (s x : Operand) (ho : o.op = .call { callee := .builtin .append, args := #[s, x], argTypes := #[t, t] })
    (h : We.Ow w B e sz v rows) (hB : B ≤ w.heap.size) (cs : Array Value) (hs : a.eval s = v) (hx : a.eval x = .slice (some ⟨w.heap.size, 0, none⟩) 1 1) (hc : cs.size = sz) (h1 : ∀ u ∈ cs.toList, u.oneCell' = true) (hn : rows.length < 1000000)
    (hK : ∀ v' w', We.Ow w' B e sz v' (rows ++ [cs.toList]) → w.grownBy w' v.ownBlock → (v'.ownBlock = v.ownBlock ∨ ∃ g, v'.ownBlock = some g ∧ w.heap.size ≤ g) → K (a.put o.dst v') w') :
    if Region.wanted o (yielded ops a.tmps) = true then Oper.wp Tryd.prog o a (w.alloc (.cells cs e)) K Q else E' := by
  obtain ⟨i, z, q1, q2, q3, q4, q5⟩ := E.info
  have hl : cs.toList.length = 1 * sz := by rw [Array.length_toList, hc, Nat.one_mul]
  have hby : (rows.length + 1) * bytes ≤ 140737488355328 := by
    have := Nat.mul_le_mul_left (rows.length + 1) E.top
    omega
  refine step_append_lies _ hgd s x t ho B e i z sz bytes E.under q1 q2 q3 q4 q5 E.pos v rows.length rows.flatten hs (h.own.alloc _) ⟨w.heap.size, 0, none⟩ 1 1 cs.toList hx hl (We.lit_cells w cs e) h1 (by omega) (by simp [maxLen]; omega) hby (by rw [size_alloc]; omega) _ rfl (fun g cap w' p1 p2 p4 _ => ?_)
  have gr : w.grownBy w' v.ownBlock := by
    have g1 := World.grownBy_alloc w (.cells cs e) v.ownBlock
    exact ⟨p2.os.trans g1.os, p2.tape.trans g1.tape, p2.output.trans g1.output, Nat.le_trans g1.size p2.size, fun k hk hne => (p2.block k (Nat.lt_of_lt_of_le hk g1.size) hne).trans (g1.block k hk hne)⟩
  refine hK _ w' (h.more (by rw [hl, Nat.one_mul]) h1 p1) gr ?_
  rcases p4 with p4 | p4
  · exact .inl p4.symm
  · exact .inr ⟨g, rfl, by rw [p4, size_alloc]; omega⟩
end
/-- five numbers -/
abbrev P5 := Int × Int × Int × Int × Int
def Pc5 (w : World) (g o k : Nat) (c0 c1 c2 c3 c4 : Int) : Prop := w.cell? ⟨g, o + k * 5, none⟩ = some (.int .i64 c0) ∧ w.cell? ⟨g, o + k * 5 + 1, none⟩ = some (.int .i64 c1) ∧ w.cell? ⟨g, o + k * 5 + 2, none⟩ = some (.int .i64 c2) ∧ w.cell? ⟨g, o + k * 5 + 3, none⟩ = some (.int .i64 c3) ∧ w.cell? ⟨g, o + k * 5 + 4, none⟩ = some (.int .i64 c4)
theorem Pc5.call {w w' : World} {g o k c0 c1 c2 c3 c4} (h : Pc5 w g o k c0 c1 c2 c3 c4) (hg : g < w.heap.size) (b : Below w.heap.size w w') : Pc5 w' g o k c0 c1 c2 c3 c4 := by
  have e : ∀ j, w'.cell? ⟨g, j, none⟩ = w.cell? ⟨g, j, none⟩ := fun j => b.cell (p := ⟨g, j, none⟩) hg
  unfold Pc5
  simp only [e]
  exact h
/-- pieces that are handed in -/
def PcsF (w : World) (a : Option Addr) (n : Nat) (f : Nat → P5) : Prop := ∀ i, i < n → ∃ g o, a = some ⟨g, o, none⟩ ∧ g < w.heap.size ∧ Pc5 w g o i (f i).1 (f i).2.1 (f i).2.2.1 (f i).2.2.2.1 (f i).2.2.2.2
theorem PcsF.below {w w' : World} {a n f} (h : PcsF w a n f) (b : Below w.heap.size w w') : PcsF w' a n f := by
  intro i hi
  obtain ⟨g, o, ha, hg, hc⟩ := h i hi
  exact ⟨g, o, ha, Nat.lt_of_lt_of_le hg b.size, hc.call hg b⟩
theorem pt_keep {w w' : World} {g o k : Nat} {c0 c1 c2 c3 c4 : Int} {g6 : Nat} {K S I O W : Int} (h : Pc5 w g o k c0 c1 c2 c3 c4 ∧ Pg.TB w g6 K S I O W) (hg : g < w.heap.size) (b : Below w.heap.size w w') : Pc5 w' g o k c0 c1 c2 c3 c4 ∧ Pg.TB w' g6 K S I O W := ⟨h.1.call hg b, h.2.call b⟩
theorem pt_grown {w V V' : World} {v : Value} {rows : We.Rws} {g o k : Nat} {c0 c1 c2 c3 c4 : Int} {g6 : Nat} {K S I O W : Int} (ho : We.Ow V w.heap.size 53 8 v rows) (hb : Below w.heap.size w V) (gr : V.grownBy V' v.ownBlock) (hg : g < w.heap.size) (h : Pc5 V g o k c0 c1 c2 c3 c4 ∧ Pg.TB V g6 K S I O W) : Below w.heap.size w V' ∧ Pc5 V' g o k c0 c1 c2 c3 c4 ∧ Pg.TB V' g6 K S I O W := by
  refine ⟨hb.grown gr hb.size (fun j hj => (ho.lt j hj).1), ?_, (gr.block g6 h.2.lt (fun e => ow_ne_cell ho h.2 (by decide) e.symm)).trans h.2⟩
  have e : ∀ j, V'.cell? ⟨g, j, none⟩ = V.cell? ⟨g, j, none⟩ := fun j => World.cell?_of_block (gr.block g (Nat.lt_of_lt_of_le hg hb.size) (fun q => by have := (ho.lt g q.symm).1; omega))
  unfold Pc5
  simp only [e]
  exact h.1
theorem tmod3 (x : Int) : ∃ r : Int, x.tmod 3 = r ∧ -3 < r ∧ r < 3 := ⟨_, rfl, Int.lt_tmod_of_pos x (by omega), Int.tmod_lt_of_pos x (by omega)⟩
theorem tmod3p (x : Int) (h : 0 ≤ x) : ∃ r : Nat, x.tmod 3 = (r : Int) ∧ r ≤ 2 := by
  have h1 := Int.tmod_nonneg 3 h
  have h2 := Int.tmod_lt_of_pos x (show (0 : Int) < 3 by omega)
  obtain ⟨r, hr⟩ := Int.eq_ofNat_of_zero_le h1
  exact ⟨r, hr, by omega⟩
theorem tmodp (x m : Nat) (h : 0 < m) : ∃ r : Nat, ((x : Int)).tmod (m : Int) = (r : Int) ∧ r < m := by
  have h1 := Int.tmod_nonneg (m : Int) (show (0 : Int) ≤ (x : Int) by omega)
  have h2 := Int.tmod_lt_of_pos (x : Int) (show (0 : Int) < (m : Int) by omega)
  obtain ⟨r, hr⟩ := Int.eq_ofNat_of_zero_le h1
  exact ⟨r, hr, by omega⟩
/-- what a page of the answer, its text and the tag that it is held against are -/
def Nx20 (w : World) (g9 g11 j : Nat) (s : Int) (m : Nat) (ft : ByteArray) (g7 : Nat) : Prop := w.cell? ⟨g9, j * 8 + 2, none⟩ = some (.int .i64 3) ∧ w.cell? ⟨g9, j * 8 + 3, none⟩ = some (.int .u64 s) ∧ w.cell? ⟨g9, j * 8 + 4, none⟩ = some (.int .i64 j) ∧ w.cell? ⟨g9, j * 8 + 5, none⟩ = some (.int .i64 m) ∧ w.cell? ⟨g9, j * 8 + 6, none⟩ = some (.int .i64 0) ∧ w.cell? ⟨g9, j * 8 + 7, none⟩ = some (.string ft) ∧ w.cell? ⟨g11, j, none⟩ = some (.string ft) ∧ w.cell? ⟨g7, 0, none⟩ = some (.int .i64 3) ∧ w.cell? ⟨g7, 1, none⟩ = some (.int .u64 s) ∧ w.cell? ⟨g7, 3, none⟩ = some (.int .i64 m)
/-- what the second loop holds -/
structure NlS (w : World) (v9 v11 : Value) (ps : List Fd) (g7 : Nat) (s I Wt : Int) (m : Nat) (wr : World) : Prop where
  own : We.Ow wr 0 53 8 v9 (ps.map Fd.row)
  tx : We.Ow wr 0 9 1 v11 (txR ps)
  tag : Pg.TB wr g7 3 s I m Wt
  below : Below w.heap.size w wr
theorem NlS.call {w v9 v11 ps g7 s I Wt m} {wr w2 : World} (h : NlS w v9 v11 ps g7 s I Wt m wr) (b : Below wr.heap.size wr w2) : NlS w v9 v11 ps g7 s I Wt m w2 := ⟨h.own.call b, h.tx.call b, h.tag.call b, below3 h.below b⟩
theorem NlS.drew {w v9 v11 ps g7 s I Wt m} {wr : World} (h : NlS w v9 v11 ps g7 s I Wt m wr) : NlS w v9 v11 ps g7 s I Wt m wr.drew := ⟨h.own.drew, h.tx.drew, h.tag, h.below.drew⟩
theorem NlS.nx {w a9 n9 c9 a11 n11 c11 g7 s I Wt} {ls : List Fd} {m : Nat} {wr : World} (h : NlS w (.slice a9 n9 c9) (.slice a11 n11 c11) (pgs ls s m) g7 s I Wt m wr) (hok : ∀ f ∈ ls, okF f) (hw : (cntC ls).2 [s, (m : Int)] = m) {j : Nat} (hj : j < m) :
    ∃ g9 g11 ft, a9 = some ⟨g9, 0, none⟩ ∧ a11 = some ⟨g11, 0, none⟩ ∧ Nx20 wr g9 g11 j s m ft g7 := by
  obtain ⟨hlen, hat⟩ := pgs_at ls s m
  obtain ⟨f, hf, hC, hS, hO, hI, hg⟩ := hat j ((cnt_whole ls s m).1 hw j hj)
  have hk := hok f hf
  have hc := hk.isC.1 hC
  obtain ⟨g9, h1, _, c0, c1, c2, c3, c4, c5, c6, c7⟩ := Ow.fd h.own (by rw [hlen]; exact hj) hg
  have hlt : (txR (pgs ls s m)).length = m := by unfold txR; rw [List.length_map, hlen]
  obtain ⟨g11, h2, _, _, h4⟩ := h.tx.at (j := j) (by rw [hlt]; exact hj)
  have hr : (txR (pgs ls s m)).getD j [] = [.string f.t] := by
    unfold txR
    rw [← hg]
    simp [List.getD_eq_getElem?_getD, hlen, hj]
  have h5 := h4 0 (by omega)
  rw [hr, Nat.mul_one, Nat.add_zero] at h5
  obtain ⟨t0, t1, t2, t3, t4⟩ := h.tag.five
  rw [hc.2] at c2
  rw [hS] at c3
  rw [hI] at c4
  rw [hO] at c5
  rw [hk.2.2.2.2.2] at c6
  exact ⟨g9, g11, f.t, h1, h2, c2, c3, c4, c5, c6, c7, h5, t0, t1, t3⟩
set_option maxHeartbeats 4000000 in
theorem ckptNewest_any (xa : Option Addr) (xl xc : Nat) (xf : Nat → P5) (w : World) (hx : PcsF w xa xl xf) (hT : Pg.Tab w) : Calls Tryd.prog 4 #[.slice xa xl xc] w fun e w' => e = .returned (.bool true) ∧ Below w.heap.size w w' := by
  have HX := Hid.mk (And.intro hx hT)
  clear hx hT
  have H0 : Hid (We.Ow (w.alloc (.cells #[] 53)) w.heap.size 53 8 (.slice (some ⟨w.heap.size, 0, none⟩) 0 0) (([] : List Fd).map Fd.row) ∧ Below w.heap.size w (w.alloc (.cells #[] 53))) := ⟨We.Ow.made w (Nat.le_refl _) 53 8, Pg.below_one w _⟩
  go_enter Tryd.func4, Tryd.ntmps4
  go_upto_region 3 with fail
  generalize (w.alloc (.cells #[] 53)) = W at *
  go_loopw [3, 4] (fun v i wr => ∃ (k : Nat) (ls : List Fd), k ≤ 40 ∧ k ≤ xl ∧ ls.length = k ∧ (∀ f ∈ ls, okF f) ∧ i = .int .i64 k ∧ We.Ow wr w.heap.size 53 8 v (ls.map Fd.row) ∧ Below w.heap.size w wr) (fun _ i _ => 40 - (intOf i).toNat)
  case atStart => exact ⟨0, [], by omega, Nat.zero_le _, rfl, (fun f hf => by cases hf), rfl, H0.out.1, H0.out.2⟩
  case round =>
    clear H0
    obtain ⟨k, ls, hk40, hkl, hls, hok, rfl, ho, hb⟩ := hrel
    by_cases hgo : k < xl ∧ k < 40
    · obtain ⟨h1, h2⟩ := hgo
      have h2I : (k : Int) < 40 := by omega
      obtain ⟨g, o, rfl, hg, hc⟩ := HX.out.1 k h1
      have hgw := Hid.mk hg
      replace hc := hc.call hg hb
      replace hg := Nat.lt_of_lt_of_le hg hb.size
      generalize hp : xf k = p5 at *
      obtain ⟨c0, c1, c2, c3, c4⟩ := p5
      dsimp only at hc
      obtain ⟨a5, p5, rfl⟩ := ho.form
      rw [List.length_map, hls] at ho ⊢
      obtain ⟨o3, ho3, ho4⟩ := low c4 3 (by omega)
      replace ho3 : bits .and .i64 c4 3 = (o3 : Int) := ho3
      obtain ⟨OO, hOO⟩ : ∃ n : Nat, n = 1 + o3 := ⟨_, rfl⟩
      have hw1 : IntKind.i64.wrap (1 + (o3 : Int)) = (OO : Int) := by rw [IntKind.wrap_i64]; omega
      obtain ⟨s7, hs7, hs8⟩ := low c2 7 (by omega)
      replace hs7 : bits .and .i64 c2 7 = (s7 : Int) := hs7
      have hw7 : IntKind.u64.wrap (s7 : Int) = (s7 : Int) := by rw [IntKind.wrap_u64]; omega
      obtain ⟨i4, hi4, _⟩ := low c3 3 (by omega)
      replace hi4 : bits .and .i64 c3 3 = (i4 : Int) := hi4
      obtain ⟨i3, hi3, hi3O⟩ := tmodp i4 OO (by omega)
      have hwi : IntKind.i64.wrap (i3 : Int) = (i3 : Int) := by rw [IntKind.wrap_i64]; omega
      have hOO0 : ¬ (OO : Int) = 0 := by omega
      have hOO0n : ¬ OO = 0 := by omega
      obtain ⟨r1, hr1, hr2, hr3⟩ := tmod3 c1
      have hwr1 : IntKind.i64.wrap r1 = r1 := by rw [IntKind.wrap_i64]; omega
      have hwr : IntKind.i64.wrap (r1 + 3) = r1 + 3 := by rw [IntKind.wrap_i64]; omega
      obtain ⟨r2, hr4, hr5⟩ := tmod3p (r1 + 3) (by omega)
      have hwr2 : IntKind.i64.wrap (r2 : Int) = (r2 : Int) := by rw [IntKind.wrap_i64]; omega
      obtain ⟨KK, hKK⟩ : ∃ n : Nat, n = 1 + r2 := ⟨_, rfl⟩
      have hwk : IntKind.i64.wrap (1 + (r2 : Int)) = (KK : Int) := by rw [IntKind.wrap_i64]; omega
      obtain ⟨x0, x1, x2, x3, x4⟩ := id hc
      have HS := Hid.mk (And.intro ho (And.intro hb hok))
      have hgl := Hid.mk hg
      have hS6 : Hid (Pc5 wr.drew g o k c0 c1 c2 c3 c4) := hc
      have hOO1 : Hid (OO = 1 + o3) := Hid.mk hOO
      clear ho hb hok hc hOO hKK
      go_upto_region 6 with fail
      clear x0 x1 x2 x3 x4
      have q6 : Pc5 (wr.alloc (.cells #[.int .i64 (KK : Int), .int .u64 (s7 : Int), .int .i64 (i3 : Int), .int .i64 (OO : Int), .int .i64 0] 43)) g o k c0 c1 c2 c3 c4 := Pc5.call (w := wr) (show Pc5 wr g o k c0 c1 c2 c3 c4 from hS6.out) hgl.out (Pg.below_one wr _)
      have hS6b : Hid (Pc5 (wr.alloc (.cells #[.int .i64 (KK : Int), .int .u64 (s7 : Int), .int .i64 (i3 : Int), .int .i64 (OO : Int), .int .i64 0] 43)).drew g o k c0 c1 c2 c3 c4) := Hid.mk q6
      clear q6
      refine wp_region_held_drew (S := fun w' => Pc5 w' g o k c0 c1 c2 c3 c4) (by kernel_rfl) hS6.out (fun hHeld => ?_)
      refine wpAnyH_take (i := 0) (oi := { dst := some 31, op := Op.move (Operand.tmp 0), type := 47, pos := "law.go:114", after := #[], guard := none }) (v := ?vva0) rfl (by kernel_rfl) (by kernel_rfl) (by kernel_rfl) (fun _ _ _ h => h) (Or.inl ⟨by rfl, ?yya0⟩) hHeld ?rra0
      case yya0 => (intro w0 hSw; obtain ⟨x0, x1, x2, x3, x4⟩ := hSw; go_simp; try with_reducible rfl)
      try simp only [Act.put, List.setIfInBounds_toArray, List.set_cons_zero, List.set_cons_succ]
      refine wpAnyH_take (i := 1) (oi := { dst := some 32, op := Op.move (Operand.tmp 4), type := 3, pos := "law.go:114", after := #[], guard := none }) (v := ?vva1) rfl (by kernel_rfl) (by kernel_rfl) (by kernel_rfl) (fun _ _ _ h => h) (Or.inl ⟨by rfl, ?yya1⟩) hHeld ?rra1
      case yya1 => (intro w0 hSw; obtain ⟨x0, x1, x2, x3, x4⟩ := hSw; go_simp; try with_reducible rfl)
      try simp only [Act.put, List.setIfInBounds_toArray, List.set_cons_zero, List.set_cons_succ]
      refine wpAnyH_take (i := 2) (oi := { dst := some 33, op := Op.indexAddr 47 (Operand.tmp 31) (Operand.tmp 32), type := 0, pos := "law.go:114", after := #[{ on := 0, ground := Ground.data }, { on := 1, ground := Ground.data }], guard := none }) (v := ?vva2) rfl (by kernel_rfl) (by kernel_rfl) (by kernel_rfl) (fun _ _ _ h => h) (Or.inl ⟨by rfl, ?yya2⟩) hHeld ?rra2
      case yya2 => (intro w0 hSw; obtain ⟨x0, x1, x2, x3, x4⟩ := hSw; go_simp; try with_reducible rfl)
      try simp only [Act.put, List.setIfInBounds_toArray, List.set_cons_zero, List.set_cons_succ]
      refine wpAnyH_take (i := 3) (oi := { dst := some 34, op := Op.fieldAddr 50 (Operand.tmp 33) 1, type := 0, pos := "law.go:114", after := #[{ on := 2, ground := Ground.data }], guard := none }) (v := ?vva3) rfl (by kernel_rfl) (by kernel_rfl) (by kernel_rfl) (fun _ _ _ h => h) (Or.inl ⟨by rfl, ?yya3⟩) hHeld ?rra3
      case yya3 => (intro w0 hSw; obtain ⟨x0, x1, x2, x3, x4⟩ := hSw; go_simp; try with_reducible rfl)
      try simp only [Act.put, List.setIfInBounds_toArray, List.set_cons_zero, List.set_cons_succ]
      refine wpAnyH_take (i := 4) (oi := { dst := some 35, op := Op.load 3 (Operand.tmp 34), type := 3, pos := "law.go:114", after := #[{ on := 3, ground := Ground.data }], guard := none }) (v := ?vva4) rfl (by kernel_rfl) (by kernel_rfl) (by kernel_rfl) (fun _ _ _ h => h) (Or.inl ⟨by rfl, ?yya4⟩) hHeld ?rra4
      case yya4 => (intro w0 hSw; obtain ⟨x0, x1, x2, x3, x4⟩ := hSw; go_simp; try with_reducible rfl)
      try simp only [Act.put, List.setIfInBounds_toArray, List.set_cons_zero, List.set_cons_succ]
      refine wpAnyH_take (i := 5) (oi := { dst := some 36, op := Op.binOp BinOp.rem 3 (Operand.tmp 35) (Operand.const (Value.int IntKind.i64 3)) 3, type := 3, pos := "law.go:114", after := #[{ on := 4, ground := Ground.data }], guard := none }) (v := ?vva5) rfl (by kernel_rfl) (by kernel_rfl) (by kernel_rfl) (fun _ _ _ h => h) (Or.inl ⟨by rfl, ?yya5⟩) hHeld ?rra5
      case yya5 => (intro w0 hSw; obtain ⟨x0, x1, x2, x3, x4⟩ := hSw; go_simp; try with_reducible rfl)
      try simp only [Act.put, List.setIfInBounds_toArray, List.set_cons_zero, List.set_cons_succ]
      refine wpAnyH_take (i := 6) (oi := { dst := some 37, op := Op.binOp BinOp.add 3 (Operand.tmp 36) (Operand.const (Value.int IntKind.i64 3)) 3, type := 3, pos := "law.go:114", after := #[{ on := 5, ground := Ground.data }], guard := none }) (v := ?vva6) rfl (by kernel_rfl) (by kernel_rfl) (by kernel_rfl) (fun _ _ _ h => h) (Or.inl ⟨by rfl, ?yya6⟩) hHeld ?rra6
      case yya6 => (intro w0 hSw; obtain ⟨x0, x1, x2, x3, x4⟩ := hSw; go_simp; try with_reducible rfl)
      try simp only [Act.put, List.setIfInBounds_toArray, List.set_cons_zero, List.set_cons_succ]
      refine wpAnyH_take (i := 7) (oi := { dst := some 38, op := Op.binOp BinOp.rem 3 (Operand.tmp 37) (Operand.const (Value.int IntKind.i64 3)) 3, type := 3, pos := "law.go:114", after := #[{ on := 6, ground := Ground.data }], guard := none }) (v := ?vva7) rfl (by kernel_rfl) (by kernel_rfl) (by kernel_rfl) (fun _ _ _ h => h) (Or.inl ⟨by rfl, ?yya7⟩) hHeld ?rra7
      case yya7 => (intro w0 hSw; obtain ⟨x0, x1, x2, x3, x4⟩ := hSw; go_simp; try with_reducible rfl)
      try simp only [Act.put, List.setIfInBounds_toArray, List.set_cons_zero, List.set_cons_succ]
      refine wpAnyH_take (i := 8) (oi := { dst := some 39, op := Op.binOp BinOp.add 3 (Operand.const (Value.int IntKind.i64 1)) (Operand.tmp 38) 3, type := 3, pos := "law.go:114", after := #[{ on := 7, ground := Ground.data }], guard := none }) (v := ?vva8) rfl (by kernel_rfl) (by kernel_rfl) (by kernel_rfl) (fun _ _ _ h => h) (Or.inl ⟨by rfl, ?yya8⟩) hHeld ?rra8
      case yya8 => (intro w0 hSw; obtain ⟨x0, x1, x2, x3, x4⟩ := hSw; go_simp; try with_reducible rfl)
      try simp only [Act.put, List.setIfInBounds_toArray, List.set_cons_zero, List.set_cons_succ]
      refine wpAnyH_take (i := 9) (oi := { dst := some 40, op := Op.move (Operand.tmp 0), type := 47, pos := "law.go:114", after := #[], guard := none }) (v := ?vva9) rfl (by kernel_rfl) (by kernel_rfl) (by kernel_rfl) (fun _ _ _ h => h) (Or.inl ⟨by rfl, ?yya9⟩) hHeld ?rra9
      case yya9 => (intro w0 hSw; obtain ⟨x0, x1, x2, x3, x4⟩ := hSw; go_simp; try with_reducible rfl)
      try simp only [Act.put, List.setIfInBounds_toArray, List.set_cons_zero, List.set_cons_succ]
      refine wpAnyH_take (i := 10) (oi := { dst := some 41, op := Op.move (Operand.tmp 4), type := 3, pos := "law.go:114", after := #[], guard := none }) (v := ?vva10) rfl (by kernel_rfl) (by kernel_rfl) (by kernel_rfl) (fun _ _ _ h => h) (Or.inl ⟨by rfl, ?yya10⟩) hHeld ?rra10
      case yya10 => (intro w0 hSw; obtain ⟨x0, x1, x2, x3, x4⟩ := hSw; go_simp; try with_reducible rfl)
      try simp only [Act.put, List.setIfInBounds_toArray, List.set_cons_zero, List.set_cons_succ]
      refine wpAnyH_take (i := 11) (oi := { dst := some 42, op := Op.indexAddr 47 (Operand.tmp 40) (Operand.tmp 41), type := 0, pos := "law.go:114", after := #[{ on := 9, ground := Ground.data }, { on := 10, ground := Ground.data }], guard := none }) (v := ?vva11) rfl (by kernel_rfl) (by kernel_rfl) (by kernel_rfl) (fun _ _ _ h => h) (Or.inl ⟨by rfl, ?yya11⟩) hHeld ?rra11
      case yya11 => (intro w0 hSw; obtain ⟨x0, x1, x2, x3, x4⟩ := hSw; go_simp; try with_reducible rfl)
      try simp only [Act.put, List.setIfInBounds_toArray, List.set_cons_zero, List.set_cons_succ]
      refine wpAnyH_take (i := 12) (oi := { dst := some 43, op := Op.fieldAddr 50 (Operand.tmp 42) 2, type := 0, pos := "law.go:114", after := #[{ on := 11, ground := Ground.data }], guard := none }) (v := ?vva12) rfl (by kernel_rfl) (by kernel_rfl) (by kernel_rfl) (fun _ _ _ h => h) (Or.inl ⟨by rfl, ?yya12⟩) hHeld ?rra12
      case yya12 => (intro w0 hSw; obtain ⟨x0, x1, x2, x3, x4⟩ := hSw; go_simp; try with_reducible rfl)
      try simp only [Act.put, List.setIfInBounds_toArray, List.set_cons_zero, List.set_cons_succ]
      refine wpAnyH_take (i := 13) (oi := { dst := some 44, op := Op.load 3 (Operand.tmp 43), type := 3, pos := "law.go:114", after := #[{ on := 12, ground := Ground.data }], guard := none }) (v := ?vva13) rfl (by kernel_rfl) (by kernel_rfl) (by kernel_rfl) (fun _ _ _ h => h) (Or.inl ⟨by rfl, ?yya13⟩) hHeld ?rra13
      case yya13 => (intro w0 hSw; obtain ⟨x0, x1, x2, x3, x4⟩ := hSw; go_simp; try with_reducible rfl)
      try simp only [Act.put, List.setIfInBounds_toArray, List.set_cons_zero, List.set_cons_succ]
      refine wpAnyH_take (i := 14) (oi := { dst := some 45, op := Op.binOp BinOp.and 3 (Operand.tmp 44) (Operand.const (Value.int IntKind.i64 7)) 3, type := 3, pos := "law.go:114", after := #[{ on := 13, ground := Ground.data }], guard := none }) (v := ?vva14) rfl (by kernel_rfl) (by kernel_rfl) (by kernel_rfl) (fun _ _ _ h => h) (Or.inl ⟨by rfl, ?yya14⟩) hHeld ?rra14
      case yya14 => (intro w0 hSw; obtain ⟨x0, x1, x2, x3, x4⟩ := hSw; go_simp; try with_reducible rfl)
      try simp only [Act.put, List.setIfInBounds_toArray, List.set_cons_zero, List.set_cons_succ]
      refine wpAnyH_take (i := 15) (oi := { dst := some 46, op := Op.convert 3 23 (Operand.tmp 45), type := 23, pos := "law.go:114", after := #[{ on := 14, ground := Ground.data }], guard := none }) (v := ?vva15) rfl (by kernel_rfl) (by kernel_rfl) (by kernel_rfl) (fun _ _ _ h => h) (Or.inl ⟨by rfl, ?yya15⟩) hHeld ?rra15
      case yya15 => (intro w0 hSw; obtain ⟨x0, x1, x2, x3, x4⟩ := hSw; go_simp; try with_reducible rfl)
      try simp only [Act.put, List.setIfInBounds_toArray, List.set_cons_zero, List.set_cons_succ]
      refine wpAnyH_take (i := 16) (oi := { dst := some 47, op := Op.move (Operand.tmp 0), type := 47, pos := "law.go:114", after := #[], guard := none }) (v := ?vva16) rfl (by kernel_rfl) (by kernel_rfl) (by kernel_rfl) (fun _ _ _ h => h) (Or.inl ⟨by rfl, ?yya16⟩) hHeld ?rra16
      case yya16 => (intro w0 hSw; obtain ⟨x0, x1, x2, x3, x4⟩ := hSw; go_simp; try with_reducible rfl)
      try simp only [Act.put, List.setIfInBounds_toArray, List.set_cons_zero, List.set_cons_succ]
      refine wpAnyH_take (i := 17) (oi := { dst := some 48, op := Op.move (Operand.tmp 4), type := 3, pos := "law.go:114", after := #[], guard := none }) (v := ?vva17) rfl (by kernel_rfl) (by kernel_rfl) (by kernel_rfl) (fun _ _ _ h => h) (Or.inl ⟨by rfl, ?yya17⟩) hHeld ?rra17
      case yya17 => (intro w0 hSw; obtain ⟨x0, x1, x2, x3, x4⟩ := hSw; go_simp; try with_reducible rfl)
      try simp only [Act.put, List.setIfInBounds_toArray, List.set_cons_zero, List.set_cons_succ]
      refine wpAnyH_take (i := 18) (oi := { dst := some 49, op := Op.indexAddr 47 (Operand.tmp 47) (Operand.tmp 48), type := 0, pos := "law.go:114", after := #[{ on := 16, ground := Ground.data }, { on := 17, ground := Ground.data }], guard := none }) (v := ?vva18) rfl (by kernel_rfl) (by kernel_rfl) (by kernel_rfl) (fun _ _ _ h => h) (Or.inl ⟨by rfl, ?yya18⟩) hHeld ?rra18
      case yya18 => (intro w0 hSw; obtain ⟨x0, x1, x2, x3, x4⟩ := hSw; go_simp; try with_reducible rfl)
      try simp only [Act.put, List.setIfInBounds_toArray, List.set_cons_zero, List.set_cons_succ]
      refine wpAnyH_take (i := 19) (oi := { dst := some 50, op := Op.fieldAddr 50 (Operand.tmp 49) 3, type := 0, pos := "law.go:114", after := #[{ on := 18, ground := Ground.data }], guard := none }) (v := ?vva19) rfl (by kernel_rfl) (by kernel_rfl) (by kernel_rfl) (fun _ _ _ h => h) (Or.inl ⟨by rfl, ?yya19⟩) hHeld ?rra19
      case yya19 => (intro w0 hSw; obtain ⟨x0, x1, x2, x3, x4⟩ := hSw; go_simp; try with_reducible rfl)
      try simp only [Act.put, List.setIfInBounds_toArray, List.set_cons_zero, List.set_cons_succ]
      refine wpAnyH_take (i := 20) (oi := { dst := some 51, op := Op.load 3 (Operand.tmp 50), type := 3, pos := "law.go:114", after := #[{ on := 19, ground := Ground.data }], guard := none }) (v := ?vva20) rfl (by kernel_rfl) (by kernel_rfl) (by kernel_rfl) (fun _ _ _ h => h) (Or.inl ⟨by rfl, ?yya20⟩) hHeld ?rra20
      case yya20 => (intro w0 hSw; obtain ⟨x0, x1, x2, x3, x4⟩ := hSw; go_simp; try with_reducible rfl)
      try simp only [Act.put, List.setIfInBounds_toArray, List.set_cons_zero, List.set_cons_succ]
      refine wpAnyH_take (i := 21) (oi := { dst := some 52, op := Op.binOp BinOp.and 3 (Operand.tmp 51) (Operand.const (Value.int IntKind.i64 3)) 3, type := 3, pos := "law.go:114", after := #[{ on := 20, ground := Ground.data }], guard := none }) (v := ?vva21) rfl (by kernel_rfl) (by kernel_rfl) (by kernel_rfl) (fun _ _ _ h => h) (Or.inl ⟨by rfl, ?yya21⟩) hHeld ?rra21
      case yya21 => (intro w0 hSw; obtain ⟨x0, x1, x2, x3, x4⟩ := hSw; go_simp; try with_reducible rfl)
      try simp only [Act.put, List.setIfInBounds_toArray, List.set_cons_zero, List.set_cons_succ]
      refine wpAnyH_take (i := 22) (oi := { dst := some 53, op := Op.move (Operand.tmp 5), type := 3, pos := "law.go:114", after := #[], guard := none }) (v := ?vva22) rfl (by kernel_rfl) (by kernel_rfl) (by kernel_rfl) (fun _ _ _ h => h) (Or.inl ⟨by rfl, ?yya22⟩) hHeld ?rra22
      case yya22 => (intro w0 hSw; obtain ⟨x0, x1, x2, x3, x4⟩ := hSw; go_simp; try with_reducible rfl)
      try simp only [Act.put, List.setIfInBounds_toArray, List.set_cons_zero, List.set_cons_succ]
      refine wpAnyH_take (i := 23) (oi := { dst := some 54, op := Op.binOp BinOp.rem 3 (Operand.tmp 52) (Operand.tmp 53) 3, type := 3, pos := "law.go:114", after := #[{ on := 21, ground := Ground.data }, { on := 22, ground := Ground.data }], guard := none }) (v := ?vva23) rfl (by kernel_rfl) (by kernel_rfl) (by kernel_rfl) (fun _ _ _ h => h) (Or.inl ⟨by rfl, ?yya23⟩) hHeld ?rra23
      case yya23 => (intro w0 hSw; obtain ⟨x0, x1, x2, x3, x4⟩ := hSw; go_simp; try with_reducible rfl)
      try simp only [Act.put, List.setIfInBounds_toArray, List.set_cons_zero, List.set_cons_succ]
      refine wpAnyH_take (i := 24) (oi := { dst := some 55, op := Op.move (Operand.tmp 5), type := 3, pos := "law.go:114", after := #[], guard := none }) (v := ?vva24) rfl (by kernel_rfl) (by kernel_rfl) (by kernel_rfl) (fun _ _ _ h => h) (Or.inl ⟨by rfl, ?yya24⟩) hHeld ?rra24
      case yya24 => (intro w0 hSw; obtain ⟨x0, x1, x2, x3, x4⟩ := hSw; go_simp; try with_reducible rfl)
      try simp only [Act.put, List.setIfInBounds_toArray, List.set_cons_zero, List.set_cons_succ]
      refine wpAnyH_take (i := 25) (oi := { dst := some 56, op := Op.build 43 #[(0, Operand.tmp 39), (1, Operand.tmp 46), (2, Operand.tmp 54), (3, Operand.tmp 55)], type := 43, pos := "law.go:114", after := #[{ on := 8, ground := Ground.data }, { on := 15, ground := Ground.data }, { on := 23, ground := Ground.data }, { on := 24, ground := Ground.data }], guard := none }) (v := ?vva25) rfl (by kernel_rfl) (by kernel_rfl) (by kernel_rfl) (fun _ _ _ h => h) (Or.inl ⟨by rfl, ?yya25⟩) hHeld ?rra25
      case yya25 => (intro w0 hSw; obtain ⟨x0, x1, x2, x3, x4⟩ := hSw; go_simp; try with_reducible rfl)
      try simp only [Act.put, List.setIfInBounds_toArray, List.set_cons_zero, List.set_cons_succ]
      refine wpAnyH_ready (rs := [26]) (by kernel_rfl) (by simp) ?_
      refine AllReadyH.cons (o := { dst := some 6, op := Op.alloc 43, type := 0, pos := "law.go:114", after := #[], guard := none }) rfl (fun K hK => ?_) AllReadyH.nil
      go_simp
      refine hK.out _ _ (hHeld.call hgl.out (Pg.below_one _ _)) (fun hHeld => ?_)
      clear hK K
      try simp only [Act.put, List.setIfInBounds_toArray, List.set_cons_zero, List.set_cons_succ]
      refine wpAnyH_ready (rs := [27]) (by kernel_rfl) (by simp) ?_
      refine AllReadyH.cons (o := { dst := none, op := Op.store 43 (Operand.tmp 6) (Operand.tmp 56), type := 0, pos := "law.go:114", after := #[{ on := 26, ground := Ground.data }, { on := 25, ground := Ground.data }, { on := 0, ground := Ground.phase }, { on := 1, ground := Ground.phase }, { on := 2, ground := Ground.phase }, { on := 3, ground := Ground.phase }, { on := 4, ground := Ground.phase }, { on := 5, ground := Ground.phase }, { on := 6, ground := Ground.phase }, { on := 7, ground := Ground.phase }, { on := 8, ground := Ground.phase }, { on := 9, ground := Ground.phase }, { on := 10, ground := Ground.phase }, { on := 11, ground := Ground.phase }, { on := 12, ground := Ground.phase }, { on := 13, ground := Ground.phase }, { on := 14, ground := Ground.phase }, { on := 15, ground := Ground.phase }, { on := 16, ground := Ground.phase }, { on := 17, ground := Ground.phase }, { on := 18, ground := Ground.phase }, { on := 19, ground := Ground.phase }, { on := 20, ground := Ground.phase }, { on := 21, ground := Ground.phase }, { on := 22, ground := Ground.phase }, { on := 23, ground := Ground.phase }, { on := 24, ground := Ground.phase }, { on := 25, ground := Ground.phase }, { on := 26, ground := Ground.phase }], guard := none }) rfl (fun K hK => ?_) AllReadyH.nil
      go_simp
      refine hK.out _ _ (hS6b.out) (fun hHeld => ?_)
      clear hK K
      try simp only [Act.put, List.setIfInBounds_toArray, List.set_cons_zero, List.set_cons_succ]
      refine wpAnyH_done (by kernel_rfl) ?_ _
      go_upto_region 7 with fail
      have q7 := Pg.below_one wr (.cells #[.int .i64 (KK : Int), .int .u64 (s7 : Int), .int .i64 (i3 : Int), .int .i64 (OO : Int), .int .i64 0] 43)
      have HV := Hid.mk (And.intro (HS.out.1.call q7) (And.intro (below3 HS.out.2.1 q7) HS.out.2.2))
      have hS7 := Hid.mk (And.intro hS6b.out (Pg.TB.fresh wr KK s7 i3 OO 0))
      have hgl2 := Hid.mk (Nat.lt_of_lt_of_le hgl.out q7.size)
      clear q7 HS hS6 hS6b hHeld hgl hg
      generalize wr.heap.size = g6 at *
      generalize (wr.alloc (.cells #[.int .i64 (KK : Int), .int .u64 (s7 : Int), .int .i64 (i3 : Int), .int .i64 (OO : Int), .int .i64 0] 43)) = V at *
      obtain ⟨c01, hc1, hc2⟩ := low c0 1 (by omega)
      replace hc1 : bits .and .i64 c0 1 = (c01 : Int) := hc1
      obtain ⟨by1, hby⟩ : ∃ n : Nat, n = 97 + k := ⟨_, rfl⟩
      have hbw : IntKind.i64.wrap (97 + (k : Int)) = (by1 : Int) := by rw [IntKind.wrap_i64]; omega
      have hbu : IntKind.u8.wrap (by1 : Int) = (by1 : Int) := by rw [IntKind.wrap_u8]; omega
      have hb256 := Hid.mk (show by1 < 256 by omega)
      clear hby
      have hgl3 : Hid (g < (V.alloc (.cells #[.int .u8 (by1 : Int)] 5)).heap.size) := Nat.lt_of_lt_of_le hgl2.out (Pg.below_one V _).size
      have HV2 : Hid (We.Ow (V.alloc (.cells #[.int .u8 (by1 : Int)] 5)).drew.drew w.heap.size 53 8 (.slice a5 k p5) (ls.map Fd.row) ∧ Below w.heap.size w (V.alloc (.cells #[.int .u8 (by1 : Int)] 5)).drew.drew ∧ ∀ f ∈ ls, okF f) := ⟨(HV.out.1.call (Pg.below_one V (.cells #[.int .u8 (by1 : Int)] 5))).drew.drew, (below3 HV.out.2.1 (Pg.below_one V (.cells #[.int .u8 (by1 : Int)] 5))).drew.drew, HV.out.2.2⟩
      refine wp_region_held_drew (S := fun w' => Pc5 w' g o k c0 c1 c2 c3 c4 ∧ Pg.TB w' g6 KK s7 i3 OO 0) (by kernel_rfl) hS7.out (fun hHeld => ?_)
      refine wpAnyH_take (i := 0) (oi := { dst := some 57, op := Op.move (Operand.tmp 3), type := 48, pos := "law.go:115", after := #[], guard := none }) (v := ?vvb0) rfl (by kernel_rfl) (by kernel_rfl) (by kernel_rfl) (fun _ _ _ h => h) (Or.inl ⟨by rfl, ?yyb0⟩) hHeld ?rrb0
      case yyb0 => (intro w0 hSw; obtain ⟨⟨x0, x1, x2, x3, x4⟩, y0⟩ := hSw; obtain ⟨z0, z1, z2, z3, z4⟩ := y0.five; go_simp; try with_reducible rfl)
      try simp only [Act.put, List.setIfInBounds_toArray, List.set_cons_zero, List.set_cons_succ]
      refine wpAnyH_take (i := 1) (oi := { dst := some 58, op := Op.move (Operand.tmp 4), type := 3, pos := "law.go:115", after := #[], guard := none }) (v := ?vvb1) rfl (by kernel_rfl) (by kernel_rfl) (by kernel_rfl) (fun _ _ _ h => h) (Or.inl ⟨by rfl, ?yyb1⟩) hHeld ?rrb1
      case yyb1 => (intro w0 hSw; obtain ⟨⟨x0, x1, x2, x3, x4⟩, y0⟩ := hSw; obtain ⟨z0, z1, z2, z3, z4⟩ := y0.five; go_simp; try with_reducible rfl)
      try simp only [Act.put, List.setIfInBounds_toArray, List.set_cons_zero, List.set_cons_succ]
      refine wpAnyH_take (i := 2) (oi := { dst := some 59, op := Op.move (Operand.tmp 0), type := 47, pos := "law.go:115", after := #[], guard := none }) (v := ?vvb2) rfl (by kernel_rfl) (by kernel_rfl) (by kernel_rfl) (fun _ _ _ h => h) (Or.inl ⟨by rfl, ?yyb2⟩) hHeld ?rrb2
      case yyb2 => (intro w0 hSw; obtain ⟨⟨x0, x1, x2, x3, x4⟩, y0⟩ := hSw; obtain ⟨z0, z1, z2, z3, z4⟩ := y0.five; go_simp; try with_reducible rfl)
      try simp only [Act.put, List.setIfInBounds_toArray, List.set_cons_zero, List.set_cons_succ]
      refine wpAnyH_take (i := 3) (oi := { dst := some 60, op := Op.move (Operand.tmp 4), type := 3, pos := "law.go:115", after := #[], guard := none }) (v := ?vvb3) rfl (by kernel_rfl) (by kernel_rfl) (by kernel_rfl) (fun _ _ _ h => h) (Or.inl ⟨by rfl, ?yyb3⟩) hHeld ?rrb3
      case yyb3 => (intro w0 hSw; obtain ⟨⟨x0, x1, x2, x3, x4⟩, y0⟩ := hSw; obtain ⟨z0, z1, z2, z3, z4⟩ := y0.five; go_simp; try with_reducible rfl)
      try simp only [Act.put, List.setIfInBounds_toArray, List.set_cons_zero, List.set_cons_succ]
      refine wpAnyH_take (i := 4) (oi := { dst := some 61, op := Op.indexAddr 47 (Operand.tmp 59) (Operand.tmp 60), type := 0, pos := "law.go:115", after := #[{ on := 2, ground := Ground.data }, { on := 3, ground := Ground.data }], guard := none }) (v := ?vvb4) rfl (by kernel_rfl) (by kernel_rfl) (by kernel_rfl) (fun _ _ _ h => h) (Or.inl ⟨by rfl, ?yyb4⟩) hHeld ?rrb4
      case yyb4 => (intro w0 hSw; obtain ⟨⟨x0, x1, x2, x3, x4⟩, y0⟩ := hSw; obtain ⟨z0, z1, z2, z3, z4⟩ := y0.five; go_simp; try with_reducible rfl)
      try simp only [Act.put, List.setIfInBounds_toArray, List.set_cons_zero, List.set_cons_succ]
      refine wpAnyH_take (i := 5) (oi := { dst := some 62, op := Op.fieldAddr 50 (Operand.tmp 61) 0, type := 0, pos := "law.go:115", after := #[{ on := 4, ground := Ground.data }], guard := none }) (v := ?vvb5) rfl (by kernel_rfl) (by kernel_rfl) (by kernel_rfl) (fun _ _ _ h => h) (Or.inl ⟨by rfl, ?yyb5⟩) hHeld ?rrb5
      case yyb5 => (intro w0 hSw; obtain ⟨⟨x0, x1, x2, x3, x4⟩, y0⟩ := hSw; obtain ⟨z0, z1, z2, z3, z4⟩ := y0.five; go_simp; try with_reducible rfl)
      try simp only [Act.put, List.setIfInBounds_toArray, List.set_cons_zero, List.set_cons_succ]
      refine wpAnyH_take (i := 6) (oi := { dst := some 63, op := Op.load 3 (Operand.tmp 62), type := 3, pos := "law.go:115", after := #[{ on := 5, ground := Ground.data }], guard := none }) (v := ?vvb6) rfl (by kernel_rfl) (by kernel_rfl) (by kernel_rfl) (fun _ _ _ h => h) (Or.inl ⟨by rfl, ?yyb6⟩) hHeld ?rrb6
      case yyb6 => (intro w0 hSw; obtain ⟨⟨x0, x1, x2, x3, x4⟩, y0⟩ := hSw; obtain ⟨z0, z1, z2, z3, z4⟩ := y0.five; go_simp; try with_reducible rfl)
      try simp only [Act.put, List.setIfInBounds_toArray, List.set_cons_zero, List.set_cons_succ]
      refine wpAnyH_take (i := 7) (oi := { dst := some 64, op := Op.binOp BinOp.and 3 (Operand.tmp 63) (Operand.const (Value.int IntKind.i64 1)) 3, type := 3, pos := "law.go:115", after := #[{ on := 6, ground := Ground.data }], guard := none }) (v := ?vvb7) rfl (by kernel_rfl) (by kernel_rfl) (by kernel_rfl) (fun _ _ _ h => h) (Or.inl ⟨by rfl, ?yyb7⟩) hHeld ?rrb7
      case yyb7 => (intro w0 hSw; obtain ⟨⟨x0, x1, x2, x3, x4⟩, y0⟩ := hSw; obtain ⟨z0, z1, z2, z3, z4⟩ := y0.five; go_simp; try with_reducible rfl)
      try simp only [Act.put, List.setIfInBounds_toArray, List.set_cons_zero, List.set_cons_succ]
      refine wpAnyH_take (i := 8) (oi := { dst := some 65, op := Op.load 43 (Operand.tmp 6), type := 43, pos := "law.go:115", after := #[], guard := none }) (v := ?vvb8) rfl (by kernel_rfl) (by kernel_rfl) (by kernel_rfl) (fun _ _ _ h => h) (Or.inl ⟨by rfl, ?yyb8⟩) hHeld ?rrb8
      case yyb8 => (intro w0 hSw; obtain ⟨⟨x0, x1, x2, x3, x4⟩, y0⟩ := hSw; obtain ⟨z0, z1, z2, z3, z4⟩ := y0.five; go_simp; try with_reducible rfl)
      try simp only [Act.put, List.setIfInBounds_toArray, List.set_cons_zero, List.set_cons_succ]
      refine wpAnyH_take (i := 9) (oi := { dst := some 66, op := Op.move (Operand.tmp 4), type := 3, pos := "law.go:115", after := #[], guard := none }) (v := ?vvb9) rfl (by kernel_rfl) (by kernel_rfl) (by kernel_rfl) (fun _ _ _ h => h) (Or.inl ⟨by rfl, ?yyb9⟩) hHeld ?rrb9
      case yyb9 => (intro w0 hSw; obtain ⟨⟨x0, x1, x2, x3, x4⟩, y0⟩ := hSw; obtain ⟨z0, z1, z2, z3, z4⟩ := y0.five; go_simp; try with_reducible rfl)
      try simp only [Act.put, List.setIfInBounds_toArray, List.set_cons_zero, List.set_cons_succ]
      refine wpAnyH_take (i := 10) (oi := { dst := some 67, op := Op.binOp BinOp.add 3 (Operand.const (Value.int IntKind.i64 97)) (Operand.tmp 66) 3, type := 3, pos := "law.go:115", after := #[{ on := 9, ground := Ground.data }], guard := none }) (v := ?vvb10) rfl (by kernel_rfl) (by kernel_rfl) (by kernel_rfl) (fun _ _ _ h => h) (Or.inl ⟨by rfl, ?yyb10⟩) hHeld ?rrb10
      case yyb10 => (intro w0 hSw; obtain ⟨⟨x0, x1, x2, x3, x4⟩, y0⟩ := hSw; obtain ⟨z0, z1, z2, z3, z4⟩ := y0.five; go_simp; try with_reducible rfl)
      try simp only [Act.put, List.setIfInBounds_toArray, List.set_cons_zero, List.set_cons_succ]
      refine wpAnyH_take (i := 11) (oi := { dst := some 68, op := Op.convert 3 5 (Operand.tmp 67), type := 5, pos := "law.go:115", after := #[{ on := 10, ground := Ground.data }], guard := none }) (v := ?vvb11) rfl (by kernel_rfl) (by kernel_rfl) (by kernel_rfl) (fun _ _ _ h => h) (Or.inl ⟨by rfl, ?yyb11⟩) hHeld ?rrb11
      case yyb11 => (intro w0 hSw; obtain ⟨⟨x0, x1, x2, x3, x4⟩, y0⟩ := hSw; obtain ⟨z0, z1, z2, z3, z4⟩ := y0.five; go_simp; try with_reducible rfl)
      try simp only [Act.put, List.setIfInBounds_toArray, List.set_cons_zero, List.set_cons_succ]
      refine wpAnyH_ready (rs := [12]) (by kernel_rfl) (by simp) ?_
      refine AllReadyH.cons (o := { dst := some 69, op := Op.buildSlice 51 1 #[(0, Operand.tmp 68)], type := 51, pos := "law.go:115", after := #[{ on := 11, ground := Ground.data }], guard := none }) rfl (fun K hK => ?_) AllReadyH.nil
      go_simp
      refine hK.out _ _ (pt_keep hHeld hgl2.out (Pg.below_one _ _)) (fun hHeld => ?_)
      clear hK K
      try simp only [Act.put, List.setIfInBounds_toArray, List.set_cons_zero, List.set_cons_succ]
      refine wpAnyH_ready (rs := [13]) (by kernel_rfl) (by simp) ?_
      refine AllReadyH.cons (o := { dst := some 70, op := Op.convert 51 9 (Operand.tmp 69), type := 9, pos := "law.go:115", after := #[{ on := 12, ground := Ground.data }], guard := none }) rfl (fun K hK => ?_) AllReadyH.nil
      have hcv := Gp.run_one by1 hb256.out (V.alloc (.cells #[.int .u8 (by1 : Int)] 5)).drew.drew V.heap.size (cell_of_row _ _ 0 _ 5 _ (heap_alloc_new V (.cells #[.int .u8 (by1 : Int)] 5)))
      go_simp
      refine hK.out _ _ hHeld (fun hHeld => ?_)
      clear hK K
      try simp only [Act.put, List.setIfInBounds_toArray, List.set_cons_zero, List.set_cons_succ]
      clear hcv
      refine wpAnyH_take (i := 14) (oi := { dst := some 71, op := Op.build 53 #[(0, Operand.tmp 58), (1, Operand.tmp 64), (2, Operand.tmp 65), (3, Operand.tmp 70)], type := 53, pos := "law.go:115", after := #[{ on := 1, ground := Ground.data }, { on := 7, ground := Ground.data }, { on := 8, ground := Ground.data }, { on := 13, ground := Ground.data }], guard := none }) (v := ?vvb14) rfl (by kernel_rfl) (by kernel_rfl) (by kernel_rfl) (fun _ _ _ h => h) (Or.inl ⟨by rfl, ?yyb14⟩) hHeld ?rrb14
      case yyb14 => (intro w0 hSw; obtain ⟨⟨x0, x1, x2, x3, x4⟩, y0⟩ := hSw; obtain ⟨z0, z1, z2, z3, z4⟩ := y0.five; go_simp; try with_reducible rfl)
      try simp only [Act.put, List.setIfInBounds_toArray, List.set_cons_zero, List.set_cons_succ]
      have hHeld3 := Hid.mk hHeld
      refine wpAnyH_ready (rs := [15]) (by kernel_rfl) (by simp) ?_
      refine AllReadyH.cons (o := { dst := some 72, op := Op.buildSlice 48 1 #[(0, Operand.tmp 71)], type := 48, pos := "law.go:115", after := #[{ on := 14, ground := Ground.data }], guard := none }) rfl (fun K hK => ?_) AllReadyH.nil
      go_simp
      refine hK.out _ _ (pt_keep hHeld hgl3.out (Pg.below_one _ _)) (fun hHeld => ?_)
      clear hK K
      try simp only [Act.put, List.setIfInBounds_toArray, List.set_cons_zero, List.set_cons_succ]
      refine wpAnyH_ready (rs := [16]) (by kernel_rfl) (by simp) ?_
      refine AllReadyH.cons (o := { dst := some 73, op := Op.call { callee := Callee.builtin Builtin.append, args := #[Operand.tmp 57, Operand.tmp 72], argTypes := #[48, 48] }, type := 48, pos := "law.go:115", after := #[{ on := 0, ground := Ground.data }, { on := 15, ground := Ground.data }], guard := none }) rfl (fun K hK => ?_) AllReadyH.nil
      refine step_app2 ei48 (w := (V.alloc (.cells #[.int .u8 (by1 : Int)] 5)).drew.drew) rfl (.tmp 57) (.tmp 72) rfl HV2.out.1 HV2.out.2.1.size #[.int .i64 (k : Int), .int .i64 (c01 : Int), .int .i64 (KK : Int), .int .u64 (s7 : Int), .int .i64 (i3 : Int), .int .i64 (OO : Int), .int .i64 0, .string ⟨#[UInt8.ofNat by1]⟩] rfl ?hx rfl (by simp [Value.oneCell']) (by rw [List.length_map]; omega) ?_
      case hx => (try rfl); (try (simp only [Act.eval]; rw [show (V.alloc (.cells #[.int .u8 (by1 : Int)] 5)).drew.drew.heap.size = V.heap.size + 1 from size_alloc V _]; rfl))
      intro v2 w3 q1 q2 q3
      clear q3
      have q4 := pt_grown HV2.out.1 HV2.out.2.1 q2 hgw.out hHeld3.out
      have q5 := Hid.mk (And.intro q1 q4.1)
      clear q1
      refine hK.out _ _ q4.2 (fun hHeld => ?_)
      clear hK K
      try simp only [Act.put, List.setIfInBounds_toArray, List.set_cons_zero, List.set_cons_succ]
      clear q4 q2
      refine wpAnyH_take (i := 17) (oi := { dst := some 3, op := Op.assign (Operand.tmp 73), type := 48, pos := "law.go:115", after := #[{ on := 16, ground := Ground.data }, { on := 16, ground := Ground.chain }, { on := 0, ground := Ground.phase }, { on := 1, ground := Ground.phase }, { on := 2, ground := Ground.phase }, { on := 3, ground := Ground.phase }, { on := 4, ground := Ground.phase }, { on := 5, ground := Ground.phase }, { on := 6, ground := Ground.phase }, { on := 7, ground := Ground.phase }, { on := 8, ground := Ground.phase }, { on := 9, ground := Ground.phase }, { on := 10, ground := Ground.phase }, { on := 11, ground := Ground.phase }, { on := 12, ground := Ground.phase }, { on := 13, ground := Ground.phase }, { on := 14, ground := Ground.phase }, { on := 15, ground := Ground.phase }, { on := 16, ground := Ground.phase }], guard := none }) (v := ?vvbc17) rfl (by kernel_rfl) (by kernel_rfl) (by kernel_rfl) (fun _ _ _ h => h) (Or.inl ⟨by rfl, ?yybc17⟩) hHeld ?rrbc17
      case yybc17 => (intro w0 hSw; go_simp; try with_reducible rfl)
      try simp only [Act.put, List.setIfInBounds_toArray, List.set_cons_zero, List.set_cons_succ]
      refine wpAnyH_done (by kernel_rfl) ?_ _
      go_wp2_with fail
      refine ⟨⟨k + 1, ls ++ [⟨k, c01, KK, s7, i3, OO, 0, ⟨#[UInt8.ofNat by1]⟩⟩], by omega, by omega, by rw [List.length_append, hls]; rfl, ?_, by go_num, by rw [List.map_append]; exact q5.out.1, q5.out.2⟩, by simp [intOf]; omega⟩
      intro f hf
      rcases List.mem_append.1 hf with hf | hf
      · exact HV2.out.2.2 f hf
      · obtain rfl := List.mem_singleton.1 hf
        have := hOO1.out
        unfold okF
        dsimp only
        omega
    · have hk100 : ls.length ≤ 100 := by omega
      obtain ⟨a5, p5, rfl⟩ := ho.form
      rw [List.length_map, hls] at ho ⊢
      have HR := Hid.mk (And.intro (ho.lower (Nat.zero_le _)) (And.intro hb hok))
      clear ho hb hok
      obtain ⟨R, hR⟩ : ∃ R, nwW ls = R := ⟨_, rfl⟩
      by_cases h1 : k < xl
      · have h1I : (k : Int) < (xl : Int) := by omega
        have h2I : ¬ (k : Int) < 40 := by omega
        clear hgo hkl hk40
        cases R with
        | none =>
          have hln : Hid (Calls Tryd.prog 13 #[.slice a5 k p5] wr fun e w' => ∃ K S I O W : Int, e = .returned (.tuple #[.agg #[.int .i64 K, .int .u64 S, .int .i64 I, .int .i64 O, .int .i64 W], .bool false]) ∧ Below wr.heap.size wr w') := by
            have q := lawNewest_any _ ls wr HR.out.1 HR.out.2.2 hk100
            rw [hR] at q
            exact q.mono (fun e w' h => by obtain ⟨K, S, I, O, W, h1, _, h3⟩ := h; exact ⟨K, S, I, O, W, h1, h3⟩)
          go_upto_region 9 with (first | (go_at_call 13; refine hln.out.mono ?_; rintro e w1 ⟨K, S, I, O, Wt, rfl, b1⟩))
          have q7 := Pg.below_one w1 (.cells #[.int .i64 K, .int .u64 S, .int .i64 I, .int .i64 O, .int .i64 Wt] 43)
          have H7 := Hid.mk (And.intro ((HR.out.1.call b1).call q7) (below3 (below3 HR.out.2.1 b1) q7))
          clear q7 b1
          generalize (w1.alloc (.cells #[.int .i64 K, .int .u64 S, .int .i64 I, .int .i64 O, .int .i64 Wt] 43)) = V at *
          have hnw := Hid.mk (newest_none _ ls V H7.out.1 (fun f hf => (HR.out.2.2 f hf).ok) (by omega) hR)
          go_wp2_with (first
            | (go_at_call 14; refine hnw.out.mono ?_; rintro e w2 ⟨rfl, b2⟩; have B2 := Hid.mk (below3 H7.out.2 b2))
            | (go_at_call 7; refine (awake_any w2 (HX.out.2.call B2.out)).mono ?_; rintro e w3 ⟨rfl, b3⟩))
          go_ret
          exact ⟨rfl, below3 B2.out b3⟩
        | some pp =>
          obtain ⟨s, o'⟩ := pp
          obtain ⟨f0, hf0, hC0, hS0, hO0, hw0⟩ := nwW_mem hR
          obtain ⟨m, rfl⟩ : ∃ m : Nat, o' = (m : Int) := by
            have := HR.out.2.2 f0 hf0
            unfold okF at this
            exact ⟨o'.toNat, by omega⟩
          have hm4 : m ≤ 4 := by
            have := HR.out.2.2 f0 hf0
            unfold okF at this
            omega
          clear hf0 hC0 hS0 hO0
          have hln : Hid (Calls Tryd.prog 13 #[.slice a5 k p5] wr fun e w' => ∃ I W : Int, e = .returned (.tuple #[.agg #[.int .i64 3, .int .u64 s, .int .i64 I, .int .i64 (m : Int), .int .i64 W], .bool true]) ∧ Below wr.heap.size wr w') := by
            have q := lawNewest_any _ ls wr HR.out.1 HR.out.2.2 hk100
            rw [hR] at q
            exact q.mono (fun e w' h => by
              obtain ⟨K, S, I, O, W, h1, h2, h3⟩ := h
              obtain ⟨rfl, rfl, rfl⟩ := h2 _ rfl
              exact ⟨I, W, h1, h3⟩)
          go_upto_region 9 with (first | (go_at_call 13; refine hln.out.mono ?_; rintro e w1 ⟨I, Wt, rfl, b1⟩))
          have q7 := Pg.below_one w1 (.cells #[.int .i64 3, .int .u64 s, .int .i64 I, .int .i64 (m : Int), .int .i64 Wt] 43)
          have H7 := Hid.mk (And.intro ((HR.out.1.call b1).call q7) (And.intro (Pg.TB.fresh w1 3 s I m Wt) (below3 (below3 HR.out.2.1 b1) q7)))
          clear q7 b1 hln
          generalize w1.heap.size = g7 at *
          generalize (w1.alloc (.cells #[.int .i64 3, .int .u64 s, .int .i64 I, .int .i64 (m : Int), .int .i64 Wt] 43)) = V at *
          have hnw := Hid.mk (newest_some _ ls V H7.out.1 (fun f hf => (HR.out.2.2 f hf).ok) (by omega) s m hR (by omega))
          go_upto_region 14 with (first
            | (go_at_call 14; refine hnw.out.mono ?_; rintro e w2 ⟨v9, rfl, o9, l9, b2⟩; have H8 := Hid.mk (And.intro (o9.lower (Nat.zero_le _)) (And.intro (H7.out.2.1.call b2) (below3 H7.out.2.2 b2))))
            | (go_at_call 7; refine (awake_any w2 (HX.out.2.call H8.out.2.2)).mono ?_; rintro e w3 ⟨rfl, b3⟩))
          have H9 := Hid.mk (And.intro (H8.out.1.call b3) (And.intro (H8.out.2.1.call b3) (below3 H8.out.2.2 b3)))
          clear H8 b3 b2 H7 hnw o9
          have htx := Hid.mk (texts_any _ _ w3 H9.out.1 (by omega))
          go_upto_region 15 with (first
            | (go_at_call 15; refine htx.out.mono ?_; rintro e w4 ⟨v11, rfl, o11, b4⟩))
          have N0 : Hid (NlS w v9 v11 (pgs ls s m) g7 s I Wt m w4) := ⟨H9.out.1.call b4, o11.lower (Nat.zero_le _), H9.out.2.1.call b4, below3 H9.out.2.2 b4⟩
          clear H9 b4 o11 htx
          obtain ⟨a9, c9, rfl⟩ := N0.out.own.form
          obtain ⟨a11, c11, rfl⟩ := N0.out.tx.form
          have e9 : ((pgs ls s m).map Fd.row).length = m := by rw [List.length_map]; exact l9
          have e11 : (txR (pgs ls s m)).length = m := by unfold txR; rw [List.length_map]; exact l9
          rw [e9, e11] at N0 ⊢
          obtain ⟨t0, t1, t2, t3, t4⟩ := N0.out.tag.five
          go_upto_region 18 with fail
          clear t0 t1 t2 t3 t4
          go_loopw [12] (fun vi wx => ∃ j : Nat, j ≤ m ∧ vi = .int .i64 j ∧ NlS w (.slice a9 m c9) (.slice a11 m c11) (pgs ls s m) g7 s I Wt m wx) (fun vi _ => m - (intOf vi).toNat)
          case atStart => exact ⟨0, Nat.zero_le _, rfl, N0.out⟩
          case round =>
            clear N0
            obtain ⟨j, hj, rfl, hs⟩ := hrel
            by_cases hjm : j < m
            · have hjmI : (j : Int) < (m : Int) := by omega
              obtain ⟨g9, g11, ft, rfl, rfl, hx⟩ := hs.nx HR.out.2.2 hw0 hjm
              have HS := Hid.mk hs
              have hS20 : Hid (Nx20 wr.drew g9 g11 j s m ft g7) := hx
              clear hs hx
              go_upto_region 20 with fail
              refine wp_region_held_drew (S := fun w' => Nx20 w' g9 g11 j s m ft g7) (by kernel_rfl) hS20.out (fun hHeld => ?_)
              refine wpAnyH_take (i := 0) (oi := { dst := some 122, op := Op.move (Operand.tmp 9), type := 48, pos := "law.go:130", after := #[], guard := none }) (v := ?vvd0) rfl (by kernel_rfl) (by kernel_rfl) (by kernel_rfl) (fun _ _ _ h => h) (Or.inl ⟨by rfl, ?yyd0⟩) hHeld ?rrd0
              case yyd0 => (intro w0 hSw; obtain ⟨x0, x1, x2, x3, x4, x5, x6, x7, x8, x9⟩ := hSw; go_simp; try with_reducible rfl)
              try simp only [Act.put, List.setIfInBounds_toArray, List.set_cons_zero, List.set_cons_succ]
              refine wpAnyH_take (i := 1) (oi := { dst := some 123, op := Op.move (Operand.tmp 12), type := 3, pos := "law.go:130", after := #[], guard := none }) (v := ?vvd1) rfl (by kernel_rfl) (by kernel_rfl) (by kernel_rfl) (fun _ _ _ h => h) (Or.inl ⟨by rfl, ?yyd1⟩) hHeld ?rrd1
              case yyd1 => (intro w0 hSw; obtain ⟨x0, x1, x2, x3, x4, x5, x6, x7, x8, x9⟩ := hSw; go_simp; try with_reducible rfl)
              try simp only [Act.put, List.setIfInBounds_toArray, List.set_cons_zero, List.set_cons_succ]
              refine wpAnyH_take (i := 2) (oi := { dst := some 124, op := Op.indexAddr 48 (Operand.tmp 122) (Operand.tmp 123), type := 0, pos := "law.go:130", after := #[{ on := 0, ground := Ground.data }, { on := 1, ground := Ground.data }], guard := none }) (v := ?vvd2) rfl (by kernel_rfl) (by kernel_rfl) (by kernel_rfl) (fun _ _ _ h => h) (Or.inl ⟨by rfl, ?yyd2⟩) hHeld ?rrd2
              case yyd2 => (intro w0 hSw; obtain ⟨x0, x1, x2, x3, x4, x5, x6, x7, x8, x9⟩ := hSw; go_simp; try with_reducible rfl)
              try simp only [Act.put, List.setIfInBounds_toArray, List.set_cons_zero, List.set_cons_succ]
              refine wpAnyH_take (i := 3) (oi := { dst := some 125, op := Op.fieldAddr 53 (Operand.tmp 124) 2, type := 0, pos := "law.go:130", after := #[{ on := 2, ground := Ground.data }], guard := none }) (v := ?vvd3) rfl (by kernel_rfl) (by kernel_rfl) (by kernel_rfl) (fun _ _ _ h => h) (Or.inl ⟨by rfl, ?yyd3⟩) hHeld ?rrd3
              case yyd3 => (intro w0 hSw; obtain ⟨x0, x1, x2, x3, x4, x5, x6, x7, x8, x9⟩ := hSw; go_simp; try with_reducible rfl)
              try simp only [Act.put, List.setIfInBounds_toArray, List.set_cons_zero, List.set_cons_succ]
              refine wpAnyH_take (i := 4) (oi := { dst := some 126, op := Op.load 43 (Operand.tmp 125), type := 43, pos := "law.go:130", after := #[{ on := 3, ground := Ground.data }], guard := none }) (v := ?vvd4) rfl (by kernel_rfl) (by kernel_rfl) (by kernel_rfl) (fun _ _ _ h => h) (Or.inl ⟨by rfl, ?yyd4⟩) hHeld ?rrd4
              case yyd4 => (intro w0 hSw; obtain ⟨x0, x1, x2, x3, x4, x5, x6, x7, x8, x9⟩ := hSw; go_simp; try with_reducible rfl)
              try simp only [Act.put, List.setIfInBounds_toArray, List.set_cons_zero, List.set_cons_succ]
              refine wpAnyH_take (i := 5) (oi := { dst := some 127, op := Op.fieldAddr 43 (Operand.tmp 7) 0, type := 0, pos := "law.go:130", after := #[], guard := none }) (v := ?vvd5) rfl (by kernel_rfl) (by kernel_rfl) (by kernel_rfl) (fun _ _ _ h => h) (Or.inl ⟨by rfl, ?yyd5⟩) hHeld ?rrd5
              case yyd5 => (intro w0 hSw; obtain ⟨x0, x1, x2, x3, x4, x5, x6, x7, x8, x9⟩ := hSw; go_simp; try with_reducible rfl)
              try simp only [Act.put, List.setIfInBounds_toArray, List.set_cons_zero, List.set_cons_succ]
              refine wpAnyH_take (i := 6) (oi := { dst := some 128, op := Op.load 3 (Operand.tmp 127), type := 3, pos := "law.go:130", after := #[{ on := 5, ground := Ground.data }], guard := none }) (v := ?vvd6) rfl (by kernel_rfl) (by kernel_rfl) (by kernel_rfl) (fun _ _ _ h => h) (Or.inl ⟨by rfl, ?yyd6⟩) hHeld ?rrd6
              case yyd6 => (intro w0 hSw; obtain ⟨x0, x1, x2, x3, x4, x5, x6, x7, x8, x9⟩ := hSw; go_simp; try with_reducible rfl)
              try simp only [Act.put, List.setIfInBounds_toArray, List.set_cons_zero, List.set_cons_succ]
              refine wpAnyH_take (i := 7) (oi := { dst := some 129, op := Op.fieldAddr 43 (Operand.tmp 7) 1, type := 0, pos := "law.go:130", after := #[], guard := none }) (v := ?vvd7) rfl (by kernel_rfl) (by kernel_rfl) (by kernel_rfl) (fun _ _ _ h => h) (Or.inl ⟨by rfl, ?yyd7⟩) hHeld ?rrd7
              case yyd7 => (intro w0 hSw; obtain ⟨x0, x1, x2, x3, x4, x5, x6, x7, x8, x9⟩ := hSw; go_simp; try with_reducible rfl)
              try simp only [Act.put, List.setIfInBounds_toArray, List.set_cons_zero, List.set_cons_succ]
              refine wpAnyH_take (i := 8) (oi := { dst := some 130, op := Op.load 23 (Operand.tmp 129), type := 23, pos := "law.go:130", after := #[{ on := 7, ground := Ground.data }], guard := none }) (v := ?vvd8) rfl (by kernel_rfl) (by kernel_rfl) (by kernel_rfl) (fun _ _ _ h => h) (Or.inl ⟨by rfl, ?yyd8⟩) hHeld ?rrd8
              case yyd8 => (intro w0 hSw; obtain ⟨x0, x1, x2, x3, x4, x5, x6, x7, x8, x9⟩ := hSw; go_simp; try with_reducible rfl)
              try simp only [Act.put, List.setIfInBounds_toArray, List.set_cons_zero, List.set_cons_succ]
              refine wpAnyH_take (i := 9) (oi := { dst := some 131, op := Op.move (Operand.tmp 12), type := 3, pos := "law.go:130", after := #[], guard := none }) (v := ?vvd9) rfl (by kernel_rfl) (by kernel_rfl) (by kernel_rfl) (fun _ _ _ h => h) (Or.inl ⟨by rfl, ?yyd9⟩) hHeld ?rrd9
              case yyd9 => (intro w0 hSw; obtain ⟨x0, x1, x2, x3, x4, x5, x6, x7, x8, x9⟩ := hSw; go_simp; try with_reducible rfl)
              try simp only [Act.put, List.setIfInBounds_toArray, List.set_cons_zero, List.set_cons_succ]
              refine wpAnyH_take (i := 10) (oi := { dst := some 132, op := Op.fieldAddr 43 (Operand.tmp 7) 3, type := 0, pos := "law.go:130", after := #[], guard := none }) (v := ?vvd10) rfl (by kernel_rfl) (by kernel_rfl) (by kernel_rfl) (fun _ _ _ h => h) (Or.inl ⟨by rfl, ?yyd10⟩) hHeld ?rrd10
              case yyd10 => (intro w0 hSw; obtain ⟨x0, x1, x2, x3, x4, x5, x6, x7, x8, x9⟩ := hSw; go_simp; try with_reducible rfl)
              try simp only [Act.put, List.setIfInBounds_toArray, List.set_cons_zero, List.set_cons_succ]
              refine wpAnyH_take (i := 11) (oi := { dst := some 133, op := Op.load 3 (Operand.tmp 132), type := 3, pos := "law.go:130", after := #[{ on := 10, ground := Ground.data }], guard := none }) (v := ?vvd11) rfl (by kernel_rfl) (by kernel_rfl) (by kernel_rfl) (fun _ _ _ h => h) (Or.inl ⟨by rfl, ?yyd11⟩) hHeld ?rrd11
              case yyd11 => (intro w0 hSw; obtain ⟨x0, x1, x2, x3, x4, x5, x6, x7, x8, x9⟩ := hSw; go_simp; try with_reducible rfl)
              try simp only [Act.put, List.setIfInBounds_toArray, List.set_cons_zero, List.set_cons_succ]
              refine wpAnyH_take (i := 12) (oi := { dst := some 134, op := Op.build 43 #[(0, Operand.tmp 128), (1, Operand.tmp 130), (2, Operand.tmp 131), (3, Operand.tmp 133)], type := 43, pos := "law.go:130", after := #[{ on := 6, ground := Ground.data }, { on := 8, ground := Ground.data }, { on := 9, ground := Ground.data }, { on := 11, ground := Ground.data }], guard := none }) (v := ?vvd12) rfl (by kernel_rfl) (by kernel_rfl) (by kernel_rfl) (fun _ _ _ h => h) (Or.inl ⟨by rfl, ?yyd12⟩) hHeld ?rrd12
              case yyd12 => (intro w0 hSw; obtain ⟨x0, x1, x2, x3, x4, x5, x6, x7, x8, x9⟩ := hSw; go_simp; try with_reducible rfl)
              try simp only [Act.put, List.setIfInBounds_toArray, List.set_cons_zero, List.set_cons_succ]
              refine wpAnyH_take (i := 13) (oi := { dst := some 135, op := Op.binOp BinOp.neq 43 (Operand.tmp 126) (Operand.tmp 134) 43, type := 4, pos := "law.go:130", after := #[{ on := 4, ground := Ground.data }, { on := 12, ground := Ground.data }], guard := none }) (v := ?vvd13) rfl (by kernel_rfl) (by kernel_rfl) (by kernel_rfl) (fun _ _ _ h => h) (Or.inl ⟨by rfl, ?yyd13⟩) hHeld ?rrd13
              case yyd13 => (intro w0 hSw; obtain ⟨x0, x1, x2, x3, x4, x5, x6, x7, x8, x9⟩ := hSw; go_simp; try with_reducible rfl)
              try simp only [Act.put, List.setIfInBounds_toArray, List.set_cons_zero, List.set_cons_succ]
              refine wpAnyH_take (i := 14) (oi := { dst := some 136, op := Op.move (Operand.tmp 135), type := 4, pos := "law.go:130", after := #[{ on := 13, ground := Ground.data }], guard := none }) (v := ?vvd14) rfl (by kernel_rfl) (by kernel_rfl) (by kernel_rfl) (fun _ _ _ h => h) (Or.inl ⟨by rfl, ?yyd14⟩) hHeld ?rrd14
              case yyd14 => (intro w0 hSw; obtain ⟨x0, x1, x2, x3, x4, x5, x6, x7, x8, x9⟩ := hSw; go_simp; try with_reducible rfl)
              try simp only [Act.put, List.setIfInBounds_toArray, List.set_cons_zero, List.set_cons_succ]
              refine wpAnyH_take (i := 15) (oi := { dst := some 137, op := Op.move (Operand.tmp 11), type := 37, pos := "law.go:130", after := #[{ on := 14, ground := Ground.guard }], guard := some (14, false) }) (v := ?vvd15) rfl (by kernel_rfl) (by kernel_rfl) (by kernel_rfl) (fun _ _ _ h => h) (Or.inl ⟨by rfl, ?yyd15⟩) hHeld ?rrd15
              case yyd15 => (intro w0 hSw; obtain ⟨x0, x1, x2, x3, x4, x5, x6, x7, x8, x9⟩ := hSw; go_simp; try with_reducible rfl)
              try simp only [Act.put, List.setIfInBounds_toArray, List.set_cons_zero, List.set_cons_succ]
              refine wpAnyH_take (i := 16) (oi := { dst := some 138, op := Op.move (Operand.tmp 12), type := 3, pos := "law.go:130", after := #[{ on := 14, ground := Ground.guard }], guard := some (14, false) }) (v := ?vvd16) rfl (by kernel_rfl) (by kernel_rfl) (by kernel_rfl) (fun _ _ _ h => h) (Or.inl ⟨by rfl, ?yyd16⟩) hHeld ?rrd16
              case yyd16 => (intro w0 hSw; obtain ⟨x0, x1, x2, x3, x4, x5, x6, x7, x8, x9⟩ := hSw; go_simp; try with_reducible rfl)
              try simp only [Act.put, List.setIfInBounds_toArray, List.set_cons_zero, List.set_cons_succ]
              refine wpAnyH_take (i := 17) (oi := { dst := some 139, op := Op.indexAddr 37 (Operand.tmp 137) (Operand.tmp 138), type := 0, pos := "law.go:130", after := #[{ on := 15, ground := Ground.data }, { on := 16, ground := Ground.data }, { on := 14, ground := Ground.guard }], guard := some (14, false) }) (v := ?vvd17) rfl (by kernel_rfl) (by kernel_rfl) (by kernel_rfl) (fun _ _ _ h => h) (Or.inl ⟨by rfl, ?yyd17⟩) hHeld ?rrd17
              case yyd17 => (intro w0 hSw; obtain ⟨x0, x1, x2, x3, x4, x5, x6, x7, x8, x9⟩ := hSw; go_simp; try with_reducible rfl)
              try simp only [Act.put, List.setIfInBounds_toArray, List.set_cons_zero, List.set_cons_succ]
              refine wpAnyH_take (i := 18) (oi := { dst := some 140, op := Op.load 9 (Operand.tmp 139), type := 9, pos := "law.go:130", after := #[{ on := 17, ground := Ground.data }, { on := 14, ground := Ground.guard }], guard := some (14, false) }) (v := ?vvd18) rfl (by kernel_rfl) (by kernel_rfl) (by kernel_rfl) (fun _ _ _ h => h) (Or.inl ⟨by rfl, ?yyd18⟩) hHeld ?rrd18
              case yyd18 => (intro w0 hSw; obtain ⟨x0, x1, x2, x3, x4, x5, x6, x7, x8, x9⟩ := hSw; go_simp; try with_reducible rfl)
              try simp only [Act.put, List.setIfInBounds_toArray, List.set_cons_zero, List.set_cons_succ]
              refine wpAnyH_take (i := 19) (oi := { dst := some 141, op := Op.move (Operand.tmp 9), type := 48, pos := "law.go:130", after := #[{ on := 14, ground := Ground.guard }], guard := some (14, false) }) (v := ?vvd19) rfl (by kernel_rfl) (by kernel_rfl) (by kernel_rfl) (fun _ _ _ h => h) (Or.inl ⟨by rfl, ?yyd19⟩) hHeld ?rrd19
              case yyd19 => (intro w0 hSw; obtain ⟨x0, x1, x2, x3, x4, x5, x6, x7, x8, x9⟩ := hSw; go_simp; try with_reducible rfl)
              try simp only [Act.put, List.setIfInBounds_toArray, List.set_cons_zero, List.set_cons_succ]
              refine wpAnyH_take (i := 20) (oi := { dst := some 142, op := Op.move (Operand.tmp 12), type := 3, pos := "law.go:130", after := #[{ on := 14, ground := Ground.guard }], guard := some (14, false) }) (v := ?vvd20) rfl (by kernel_rfl) (by kernel_rfl) (by kernel_rfl) (fun _ _ _ h => h) (Or.inl ⟨by rfl, ?yyd20⟩) hHeld ?rrd20
              case yyd20 => (intro w0 hSw; obtain ⟨x0, x1, x2, x3, x4, x5, x6, x7, x8, x9⟩ := hSw; go_simp; try with_reducible rfl)
              try simp only [Act.put, List.setIfInBounds_toArray, List.set_cons_zero, List.set_cons_succ]
              refine wpAnyH_take (i := 21) (oi := { dst := some 143, op := Op.indexAddr 48 (Operand.tmp 141) (Operand.tmp 142), type := 0, pos := "law.go:130", after := #[{ on := 19, ground := Ground.data }, { on := 20, ground := Ground.data }, { on := 14, ground := Ground.guard }], guard := some (14, false) }) (v := ?vvd21) rfl (by kernel_rfl) (by kernel_rfl) (by kernel_rfl) (fun _ _ _ h => h) (Or.inl ⟨by rfl, ?yyd21⟩) hHeld ?rrd21
              case yyd21 => (intro w0 hSw; obtain ⟨x0, x1, x2, x3, x4, x5, x6, x7, x8, x9⟩ := hSw; go_simp; try with_reducible rfl)
              try simp only [Act.put, List.setIfInBounds_toArray, List.set_cons_zero, List.set_cons_succ]
              refine wpAnyH_take (i := 22) (oi := { dst := some 144, op := Op.fieldAddr 53 (Operand.tmp 143) 3, type := 0, pos := "law.go:130", after := #[{ on := 21, ground := Ground.data }, { on := 14, ground := Ground.guard }], guard := some (14, false) }) (v := ?vvd22) rfl (by kernel_rfl) (by kernel_rfl) (by kernel_rfl) (fun _ _ _ h => h) (Or.inl ⟨by rfl, ?yyd22⟩) hHeld ?rrd22
              case yyd22 => (intro w0 hSw; obtain ⟨x0, x1, x2, x3, x4, x5, x6, x7, x8, x9⟩ := hSw; go_simp; try with_reducible rfl)
              try simp only [Act.put, List.setIfInBounds_toArray, List.set_cons_zero, List.set_cons_succ]
              refine wpAnyH_take (i := 23) (oi := { dst := some 145, op := Op.load 9 (Operand.tmp 144), type := 9, pos := "law.go:130", after := #[{ on := 22, ground := Ground.data }, { on := 14, ground := Ground.guard }], guard := some (14, false) }) (v := ?vvd23) rfl (by kernel_rfl) (by kernel_rfl) (by kernel_rfl) (fun _ _ _ h => h) (Or.inl ⟨by rfl, ?yyd23⟩) hHeld ?rrd23
              case yyd23 => (intro w0 hSw; obtain ⟨x0, x1, x2, x3, x4, x5, x6, x7, x8, x9⟩ := hSw; go_simp; try with_reducible rfl)
              try simp only [Act.put, List.setIfInBounds_toArray, List.set_cons_zero, List.set_cons_succ]
              refine wpAnyH_take (i := 24) (oi := { dst := some 146, op := Op.binOp BinOp.neq 9 (Operand.tmp 140) (Operand.tmp 145) 9, type := 4, pos := "law.go:130", after := #[{ on := 18, ground := Ground.data }, { on := 23, ground := Ground.data }, { on := 14, ground := Ground.guard }], guard := some (14, false) }) (v := ?vvd24) rfl (by kernel_rfl) (by kernel_rfl) (by kernel_rfl) (fun _ _ _ h => h) (Or.inl ⟨by rfl, ?yyd24⟩) hHeld ?rrd24
              case yyd24 => (intro w0 hSw; obtain ⟨x0, x1, x2, x3, x4, x5, x6, x7, x8, x9⟩ := hSw; go_simp; try with_reducible rfl)
              try simp only [Act.put, List.setIfInBounds_toArray, List.set_cons_zero, List.set_cons_succ]
              refine wpAnyH_take (i := 25) (oi := { dst := some 147, op := Op.pick (Operand.tmp 136) (Operand.const (Value.bool true)) (Operand.tmp 146), type := 4, pos := "law.go:130", after := #[{ on := 14, ground := Ground.data }, { on := 24, ground := Ground.data }], guard := none }) (v := ?vvd25) rfl (by kernel_rfl) (by kernel_rfl) (by kernel_rfl) (fun _ _ _ h => h) (Or.inl ⟨by rfl, ?yyd25⟩) hHeld ?rrd25
              case yyd25 => (intro w0 hSw; obtain ⟨x0, x1, x2, x3, x4, x5, x6, x7, x8, x9⟩ := hSw; go_simp; try with_reducible rfl)
              try simp only [Act.put, List.setIfInBounds_toArray, List.set_cons_zero, List.set_cons_succ]
              refine wpAnyH_done (by kernel_rfl) ?_ _
              go_wp2_with fail
              exact ⟨⟨j + 1, by omega, by go_num, HS.out.drew⟩, by simp [intOf]; omega⟩
            · obtain rfl : j = m := by omega
              have HS := Hid.mk hs
              clear hs
              go_wp2_with fail
              go_ret
              exact ⟨rfl, HS.out.below⟩
      · clear hgo hk40
        have h1I : ¬ (k : Int) < (xl : Int) := by omega
        cases R with
        | none =>
          have hln : Hid (Calls Tryd.prog 13 #[.slice a5 k p5] wr fun e w' => ∃ K S I O W : Int, e = .returned (.tuple #[.agg #[.int .i64 K, .int .u64 S, .int .i64 I, .int .i64 O, .int .i64 W], .bool false]) ∧ Below wr.heap.size wr w') := by
            have q := lawNewest_any _ ls wr HR.out.1 HR.out.2.2 hk100
            rw [hR] at q
            exact q.mono (fun e w' h => by obtain ⟨K, S, I, O, W, h1, _, h3⟩ := h; exact ⟨K, S, I, O, W, h1, h3⟩)
          go_upto_region 9 with (first | (go_at_call 13; refine hln.out.mono ?_; rintro e w1 ⟨K, S, I, O, Wt, rfl, b1⟩))
          have q7 := Pg.below_one w1 (.cells #[.int .i64 K, .int .u64 S, .int .i64 I, .int .i64 O, .int .i64 Wt] 43)
          have H7 := Hid.mk (And.intro ((HR.out.1.call b1).call q7) (below3 (below3 HR.out.2.1 b1) q7))
          clear q7 b1
          generalize (w1.alloc (.cells #[.int .i64 K, .int .u64 S, .int .i64 I, .int .i64 O, .int .i64 Wt] 43)) = V at *
          have hnw := Hid.mk (newest_none _ ls V H7.out.1 (fun f hf => (HR.out.2.2 f hf).ok) (by omega) hR)
          go_wp2_with (first
            | (go_at_call 14; refine hnw.out.mono ?_; rintro e w2 ⟨rfl, b2⟩; have B2 := Hid.mk (below3 H7.out.2 b2))
            | (go_at_call 7; refine (awake_any w2 (HX.out.2.call B2.out)).mono ?_; rintro e w3 ⟨rfl, b3⟩))
          go_ret
          exact ⟨rfl, below3 B2.out b3⟩
        | some pp =>
          obtain ⟨s, o'⟩ := pp
          obtain ⟨f0, hf0, hC0, hS0, hO0, hw0⟩ := nwW_mem hR
          obtain ⟨m, rfl⟩ : ∃ m : Nat, o' = (m : Int) := by
            have := HR.out.2.2 f0 hf0
            unfold okF at this
            exact ⟨o'.toNat, by omega⟩
          have hm4 : m ≤ 4 := by
            have := HR.out.2.2 f0 hf0
            unfold okF at this
            omega
          clear hf0 hC0 hS0 hO0
          have hln : Hid (Calls Tryd.prog 13 #[.slice a5 k p5] wr fun e w' => ∃ I W : Int, e = .returned (.tuple #[.agg #[.int .i64 3, .int .u64 s, .int .i64 I, .int .i64 (m : Int), .int .i64 W], .bool true]) ∧ Below wr.heap.size wr w') := by
            have q := lawNewest_any _ ls wr HR.out.1 HR.out.2.2 hk100
            rw [hR] at q
            exact q.mono (fun e w' h => by
              obtain ⟨K, S, I, O, W, h1, h2, h3⟩ := h
              obtain ⟨rfl, rfl, rfl⟩ := h2 _ rfl
              exact ⟨I, W, h1, h3⟩)
          go_upto_region 9 with (first | (go_at_call 13; refine hln.out.mono ?_; rintro e w1 ⟨I, Wt, rfl, b1⟩))
          have q7 := Pg.below_one w1 (.cells #[.int .i64 3, .int .u64 s, .int .i64 I, .int .i64 (m : Int), .int .i64 Wt] 43)
          have H7 := Hid.mk (And.intro ((HR.out.1.call b1).call q7) (And.intro (Pg.TB.fresh w1 3 s I m Wt) (below3 (below3 HR.out.2.1 b1) q7)))
          clear q7 b1 hln
          generalize w1.heap.size = g7 at *
          generalize (w1.alloc (.cells #[.int .i64 3, .int .u64 s, .int .i64 I, .int .i64 (m : Int), .int .i64 Wt] 43)) = V at *
          have hnw := Hid.mk (newest_some _ ls V H7.out.1 (fun f hf => (HR.out.2.2 f hf).ok) (by omega) s m hR (by omega))
          go_upto_region 14 with (first
            | (go_at_call 14; refine hnw.out.mono ?_; rintro e w2 ⟨v9, rfl, o9, l9, b2⟩; have H8 := Hid.mk (And.intro (o9.lower (Nat.zero_le _)) (And.intro (H7.out.2.1.call b2) (below3 H7.out.2.2 b2))))
            | (go_at_call 7; refine (awake_any w2 (HX.out.2.call H8.out.2.2)).mono ?_; rintro e w3 ⟨rfl, b3⟩))
          have H9 := Hid.mk (And.intro (H8.out.1.call b3) (And.intro (H8.out.2.1.call b3) (below3 H8.out.2.2 b3)))
          clear H8 b3 b2 H7 hnw o9
          have htx := Hid.mk (texts_any _ _ w3 H9.out.1 (by omega))
          go_upto_region 15 with (first
            | (go_at_call 15; refine htx.out.mono ?_; rintro e w4 ⟨v11, rfl, o11, b4⟩))
          have N0 : Hid (NlS w v9 v11 (pgs ls s m) g7 s I Wt m w4) := ⟨H9.out.1.call b4, o11.lower (Nat.zero_le _), H9.out.2.1.call b4, below3 H9.out.2.2 b4⟩
          clear H9 b4 o11 htx
          obtain ⟨a9, c9, rfl⟩ := N0.out.own.form
          obtain ⟨a11, c11, rfl⟩ := N0.out.tx.form
          have e9 : ((pgs ls s m).map Fd.row).length = m := by rw [List.length_map]; exact l9
          have e11 : (txR (pgs ls s m)).length = m := by unfold txR; rw [List.length_map]; exact l9
          rw [e9, e11] at N0 ⊢
          obtain ⟨t0, t1, t2, t3, t4⟩ := N0.out.tag.five
          go_upto_region 18 with fail
          clear t0 t1 t2 t3 t4
          go_loopw [12] (fun vi wx => ∃ j : Nat, j ≤ m ∧ vi = .int .i64 j ∧ NlS w (.slice a9 m c9) (.slice a11 m c11) (pgs ls s m) g7 s I Wt m wx) (fun vi _ => m - (intOf vi).toNat)
          case atStart => exact ⟨0, Nat.zero_le _, rfl, N0.out⟩
          case round =>
            clear N0
            obtain ⟨j, hj, rfl, hs⟩ := hrel
            by_cases hjm : j < m
            · have hjmI : (j : Int) < (m : Int) := by omega
              obtain ⟨g9, g11, ft, rfl, rfl, hx⟩ := hs.nx HR.out.2.2 hw0 hjm
              have HS := Hid.mk hs
              have hS20 : Hid (Nx20 wr.drew g9 g11 j s m ft g7) := hx
              clear hs hx
              go_upto_region 20 with fail
              refine wp_region_held_drew (S := fun w' => Nx20 w' g9 g11 j s m ft g7) (by kernel_rfl) hS20.out (fun hHeld => ?_)
              refine wpAnyH_take (i := 0) (oi := { dst := some 122, op := Op.move (Operand.tmp 9), type := 48, pos := "law.go:130", after := #[], guard := none }) (v := ?vve0) rfl (by kernel_rfl) (by kernel_rfl) (by kernel_rfl) (fun _ _ _ h => h) (Or.inl ⟨by rfl, ?yye0⟩) hHeld ?rre0
              case yye0 => (intro w0 hSw; obtain ⟨x0, x1, x2, x3, x4, x5, x6, x7, x8, x9⟩ := hSw; go_simp; try with_reducible rfl)
              try simp only [Act.put, List.setIfInBounds_toArray, List.set_cons_zero, List.set_cons_succ]
              refine wpAnyH_take (i := 1) (oi := { dst := some 123, op := Op.move (Operand.tmp 12), type := 3, pos := "law.go:130", after := #[], guard := none }) (v := ?vve1) rfl (by kernel_rfl) (by kernel_rfl) (by kernel_rfl) (fun _ _ _ h => h) (Or.inl ⟨by rfl, ?yye1⟩) hHeld ?rre1
              case yye1 => (intro w0 hSw; obtain ⟨x0, x1, x2, x3, x4, x5, x6, x7, x8, x9⟩ := hSw; go_simp; try with_reducible rfl)
              try simp only [Act.put, List.setIfInBounds_toArray, List.set_cons_zero, List.set_cons_succ]
              refine wpAnyH_take (i := 2) (oi := { dst := some 124, op := Op.indexAddr 48 (Operand.tmp 122) (Operand.tmp 123), type := 0, pos := "law.go:130", after := #[{ on := 0, ground := Ground.data }, { on := 1, ground := Ground.data }], guard := none }) (v := ?vve2) rfl (by kernel_rfl) (by kernel_rfl) (by kernel_rfl) (fun _ _ _ h => h) (Or.inl ⟨by rfl, ?yye2⟩) hHeld ?rre2
              case yye2 => (intro w0 hSw; obtain ⟨x0, x1, x2, x3, x4, x5, x6, x7, x8, x9⟩ := hSw; go_simp; try with_reducible rfl)
              try simp only [Act.put, List.setIfInBounds_toArray, List.set_cons_zero, List.set_cons_succ]
              refine wpAnyH_take (i := 3) (oi := { dst := some 125, op := Op.fieldAddr 53 (Operand.tmp 124) 2, type := 0, pos := "law.go:130", after := #[{ on := 2, ground := Ground.data }], guard := none }) (v := ?vve3) rfl (by kernel_rfl) (by kernel_rfl) (by kernel_rfl) (fun _ _ _ h => h) (Or.inl ⟨by rfl, ?yye3⟩) hHeld ?rre3
              case yye3 => (intro w0 hSw; obtain ⟨x0, x1, x2, x3, x4, x5, x6, x7, x8, x9⟩ := hSw; go_simp; try with_reducible rfl)
              try simp only [Act.put, List.setIfInBounds_toArray, List.set_cons_zero, List.set_cons_succ]
              refine wpAnyH_take (i := 4) (oi := { dst := some 126, op := Op.load 43 (Operand.tmp 125), type := 43, pos := "law.go:130", after := #[{ on := 3, ground := Ground.data }], guard := none }) (v := ?vve4) rfl (by kernel_rfl) (by kernel_rfl) (by kernel_rfl) (fun _ _ _ h => h) (Or.inl ⟨by rfl, ?yye4⟩) hHeld ?rre4
              case yye4 => (intro w0 hSw; obtain ⟨x0, x1, x2, x3, x4, x5, x6, x7, x8, x9⟩ := hSw; go_simp; try with_reducible rfl)
              try simp only [Act.put, List.setIfInBounds_toArray, List.set_cons_zero, List.set_cons_succ]
              refine wpAnyH_take (i := 5) (oi := { dst := some 127, op := Op.fieldAddr 43 (Operand.tmp 7) 0, type := 0, pos := "law.go:130", after := #[], guard := none }) (v := ?vve5) rfl (by kernel_rfl) (by kernel_rfl) (by kernel_rfl) (fun _ _ _ h => h) (Or.inl ⟨by rfl, ?yye5⟩) hHeld ?rre5
              case yye5 => (intro w0 hSw; obtain ⟨x0, x1, x2, x3, x4, x5, x6, x7, x8, x9⟩ := hSw; go_simp; try with_reducible rfl)
              try simp only [Act.put, List.setIfInBounds_toArray, List.set_cons_zero, List.set_cons_succ]
              refine wpAnyH_take (i := 6) (oi := { dst := some 128, op := Op.load 3 (Operand.tmp 127), type := 3, pos := "law.go:130", after := #[{ on := 5, ground := Ground.data }], guard := none }) (v := ?vve6) rfl (by kernel_rfl) (by kernel_rfl) (by kernel_rfl) (fun _ _ _ h => h) (Or.inl ⟨by rfl, ?yye6⟩) hHeld ?rre6
              case yye6 => (intro w0 hSw; obtain ⟨x0, x1, x2, x3, x4, x5, x6, x7, x8, x9⟩ := hSw; go_simp; try with_reducible rfl)
              try simp only [Act.put, List.setIfInBounds_toArray, List.set_cons_zero, List.set_cons_succ]
              refine wpAnyH_take (i := 7) (oi := { dst := some 129, op := Op.fieldAddr 43 (Operand.tmp 7) 1, type := 0, pos := "law.go:130", after := #[], guard := none }) (v := ?vve7) rfl (by kernel_rfl) (by kernel_rfl) (by kernel_rfl) (fun _ _ _ h => h) (Or.inl ⟨by rfl, ?yye7⟩) hHeld ?rre7
              case yye7 => (intro w0 hSw; obtain ⟨x0, x1, x2, x3, x4, x5, x6, x7, x8, x9⟩ := hSw; go_simp; try with_reducible rfl)
              try simp only [Act.put, List.setIfInBounds_toArray, List.set_cons_zero, List.set_cons_succ]
              refine wpAnyH_take (i := 8) (oi := { dst := some 130, op := Op.load 23 (Operand.tmp 129), type := 23, pos := "law.go:130", after := #[{ on := 7, ground := Ground.data }], guard := none }) (v := ?vve8) rfl (by kernel_rfl) (by kernel_rfl) (by kernel_rfl) (fun _ _ _ h => h) (Or.inl ⟨by rfl, ?yye8⟩) hHeld ?rre8
              case yye8 => (intro w0 hSw; obtain ⟨x0, x1, x2, x3, x4, x5, x6, x7, x8, x9⟩ := hSw; go_simp; try with_reducible rfl)
              try simp only [Act.put, List.setIfInBounds_toArray, List.set_cons_zero, List.set_cons_succ]
              refine wpAnyH_take (i := 9) (oi := { dst := some 131, op := Op.move (Operand.tmp 12), type := 3, pos := "law.go:130", after := #[], guard := none }) (v := ?vve9) rfl (by kernel_rfl) (by kernel_rfl) (by kernel_rfl) (fun _ _ _ h => h) (Or.inl ⟨by rfl, ?yye9⟩) hHeld ?rre9
              case yye9 => (intro w0 hSw; obtain ⟨x0, x1, x2, x3, x4, x5, x6, x7, x8, x9⟩ := hSw; go_simp; try with_reducible rfl)
              try simp only [Act.put, List.setIfInBounds_toArray, List.set_cons_zero, List.set_cons_succ]
              refine wpAnyH_take (i := 10) (oi := { dst := some 132, op := Op.fieldAddr 43 (Operand.tmp 7) 3, type := 0, pos := "law.go:130", after := #[], guard := none }) (v := ?vve10) rfl (by kernel_rfl) (by kernel_rfl) (by kernel_rfl) (fun _ _ _ h => h) (Or.inl ⟨by rfl, ?yye10⟩) hHeld ?rre10
              case yye10 => (intro w0 hSw; obtain ⟨x0, x1, x2, x3, x4, x5, x6, x7, x8, x9⟩ := hSw; go_simp; try with_reducible rfl)
              try simp only [Act.put, List.setIfInBounds_toArray, List.set_cons_zero, List.set_cons_succ]
              refine wpAnyH_take (i := 11) (oi := { dst := some 133, op := Op.load 3 (Operand.tmp 132), type := 3, pos := "law.go:130", after := #[{ on := 10, ground := Ground.data }], guard := none }) (v := ?vve11) rfl (by kernel_rfl) (by kernel_rfl) (by kernel_rfl) (fun _ _ _ h => h) (Or.inl ⟨by rfl, ?yye11⟩) hHeld ?rre11
              case yye11 => (intro w0 hSw; obtain ⟨x0, x1, x2, x3, x4, x5, x6, x7, x8, x9⟩ := hSw; go_simp; try with_reducible rfl)
              try simp only [Act.put, List.setIfInBounds_toArray, List.set_cons_zero, List.set_cons_succ]
              refine wpAnyH_take (i := 12) (oi := { dst := some 134, op := Op.build 43 #[(0, Operand.tmp 128), (1, Operand.tmp 130), (2, Operand.tmp 131), (3, Operand.tmp 133)], type := 43, pos := "law.go:130", after := #[{ on := 6, ground := Ground.data }, { on := 8, ground := Ground.data }, { on := 9, ground := Ground.data }, { on := 11, ground := Ground.data }], guard := none }) (v := ?vve12) rfl (by kernel_rfl) (by kernel_rfl) (by kernel_rfl) (fun _ _ _ h => h) (Or.inl ⟨by rfl, ?yye12⟩) hHeld ?rre12
              case yye12 => (intro w0 hSw; obtain ⟨x0, x1, x2, x3, x4, x5, x6, x7, x8, x9⟩ := hSw; go_simp; try with_reducible rfl)
              try simp only [Act.put, List.setIfInBounds_toArray, List.set_cons_zero, List.set_cons_succ]
              refine wpAnyH_take (i := 13) (oi := { dst := some 135, op := Op.binOp BinOp.neq 43 (Operand.tmp 126) (Operand.tmp 134) 43, type := 4, pos := "law.go:130", after := #[{ on := 4, ground := Ground.data }, { on := 12, ground := Ground.data }], guard := none }) (v := ?vve13) rfl (by kernel_rfl) (by kernel_rfl) (by kernel_rfl) (fun _ _ _ h => h) (Or.inl ⟨by rfl, ?yye13⟩) hHeld ?rre13
              case yye13 => (intro w0 hSw; obtain ⟨x0, x1, x2, x3, x4, x5, x6, x7, x8, x9⟩ := hSw; go_simp; try with_reducible rfl)
              try simp only [Act.put, List.setIfInBounds_toArray, List.set_cons_zero, List.set_cons_succ]
              refine wpAnyH_take (i := 14) (oi := { dst := some 136, op := Op.move (Operand.tmp 135), type := 4, pos := "law.go:130", after := #[{ on := 13, ground := Ground.data }], guard := none }) (v := ?vve14) rfl (by kernel_rfl) (by kernel_rfl) (by kernel_rfl) (fun _ _ _ h => h) (Or.inl ⟨by rfl, ?yye14⟩) hHeld ?rre14
              case yye14 => (intro w0 hSw; obtain ⟨x0, x1, x2, x3, x4, x5, x6, x7, x8, x9⟩ := hSw; go_simp; try with_reducible rfl)
              try simp only [Act.put, List.setIfInBounds_toArray, List.set_cons_zero, List.set_cons_succ]
              refine wpAnyH_take (i := 15) (oi := { dst := some 137, op := Op.move (Operand.tmp 11), type := 37, pos := "law.go:130", after := #[{ on := 14, ground := Ground.guard }], guard := some (14, false) }) (v := ?vve15) rfl (by kernel_rfl) (by kernel_rfl) (by kernel_rfl) (fun _ _ _ h => h) (Or.inl ⟨by rfl, ?yye15⟩) hHeld ?rre15
              case yye15 => (intro w0 hSw; obtain ⟨x0, x1, x2, x3, x4, x5, x6, x7, x8, x9⟩ := hSw; go_simp; try with_reducible rfl)
              try simp only [Act.put, List.setIfInBounds_toArray, List.set_cons_zero, List.set_cons_succ]
              refine wpAnyH_take (i := 16) (oi := { dst := some 138, op := Op.move (Operand.tmp 12), type := 3, pos := "law.go:130", after := #[{ on := 14, ground := Ground.guard }], guard := some (14, false) }) (v := ?vve16) rfl (by kernel_rfl) (by kernel_rfl) (by kernel_rfl) (fun _ _ _ h => h) (Or.inl ⟨by rfl, ?yye16⟩) hHeld ?rre16
              case yye16 => (intro w0 hSw; obtain ⟨x0, x1, x2, x3, x4, x5, x6, x7, x8, x9⟩ := hSw; go_simp; try with_reducible rfl)
              try simp only [Act.put, List.setIfInBounds_toArray, List.set_cons_zero, List.set_cons_succ]
              refine wpAnyH_take (i := 17) (oi := { dst := some 139, op := Op.indexAddr 37 (Operand.tmp 137) (Operand.tmp 138), type := 0, pos := "law.go:130", after := #[{ on := 15, ground := Ground.data }, { on := 16, ground := Ground.data }, { on := 14, ground := Ground.guard }], guard := some (14, false) }) (v := ?vve17) rfl (by kernel_rfl) (by kernel_rfl) (by kernel_rfl) (fun _ _ _ h => h) (Or.inl ⟨by rfl, ?yye17⟩) hHeld ?rre17
              case yye17 => (intro w0 hSw; obtain ⟨x0, x1, x2, x3, x4, x5, x6, x7, x8, x9⟩ := hSw; go_simp; try with_reducible rfl)
              try simp only [Act.put, List.setIfInBounds_toArray, List.set_cons_zero, List.set_cons_succ]
              refine wpAnyH_take (i := 18) (oi := { dst := some 140, op := Op.load 9 (Operand.tmp 139), type := 9, pos := "law.go:130", after := #[{ on := 17, ground := Ground.data }, { on := 14, ground := Ground.guard }], guard := some (14, false) }) (v := ?vve18) rfl (by kernel_rfl) (by kernel_rfl) (by kernel_rfl) (fun _ _ _ h => h) (Or.inl ⟨by rfl, ?yye18⟩) hHeld ?rre18
              case yye18 => (intro w0 hSw; obtain ⟨x0, x1, x2, x3, x4, x5, x6, x7, x8, x9⟩ := hSw; go_simp; try with_reducible rfl)
              try simp only [Act.put, List.setIfInBounds_toArray, List.set_cons_zero, List.set_cons_succ]
              refine wpAnyH_take (i := 19) (oi := { dst := some 141, op := Op.move (Operand.tmp 9), type := 48, pos := "law.go:130", after := #[{ on := 14, ground := Ground.guard }], guard := some (14, false) }) (v := ?vve19) rfl (by kernel_rfl) (by kernel_rfl) (by kernel_rfl) (fun _ _ _ h => h) (Or.inl ⟨by rfl, ?yye19⟩) hHeld ?rre19
              case yye19 => (intro w0 hSw; obtain ⟨x0, x1, x2, x3, x4, x5, x6, x7, x8, x9⟩ := hSw; go_simp; try with_reducible rfl)
              try simp only [Act.put, List.setIfInBounds_toArray, List.set_cons_zero, List.set_cons_succ]
              refine wpAnyH_take (i := 20) (oi := { dst := some 142, op := Op.move (Operand.tmp 12), type := 3, pos := "law.go:130", after := #[{ on := 14, ground := Ground.guard }], guard := some (14, false) }) (v := ?vve20) rfl (by kernel_rfl) (by kernel_rfl) (by kernel_rfl) (fun _ _ _ h => h) (Or.inl ⟨by rfl, ?yye20⟩) hHeld ?rre20
              case yye20 => (intro w0 hSw; obtain ⟨x0, x1, x2, x3, x4, x5, x6, x7, x8, x9⟩ := hSw; go_simp; try with_reducible rfl)
              try simp only [Act.put, List.setIfInBounds_toArray, List.set_cons_zero, List.set_cons_succ]
              refine wpAnyH_take (i := 21) (oi := { dst := some 143, op := Op.indexAddr 48 (Operand.tmp 141) (Operand.tmp 142), type := 0, pos := "law.go:130", after := #[{ on := 19, ground := Ground.data }, { on := 20, ground := Ground.data }, { on := 14, ground := Ground.guard }], guard := some (14, false) }) (v := ?vve21) rfl (by kernel_rfl) (by kernel_rfl) (by kernel_rfl) (fun _ _ _ h => h) (Or.inl ⟨by rfl, ?yye21⟩) hHeld ?rre21
              case yye21 => (intro w0 hSw; obtain ⟨x0, x1, x2, x3, x4, x5, x6, x7, x8, x9⟩ := hSw; go_simp; try with_reducible rfl)
              try simp only [Act.put, List.setIfInBounds_toArray, List.set_cons_zero, List.set_cons_succ]
              refine wpAnyH_take (i := 22) (oi := { dst := some 144, op := Op.fieldAddr 53 (Operand.tmp 143) 3, type := 0, pos := "law.go:130", after := #[{ on := 21, ground := Ground.data }, { on := 14, ground := Ground.guard }], guard := some (14, false) }) (v := ?vve22) rfl (by kernel_rfl) (by kernel_rfl) (by kernel_rfl) (fun _ _ _ h => h) (Or.inl ⟨by rfl, ?yye22⟩) hHeld ?rre22
              case yye22 => (intro w0 hSw; obtain ⟨x0, x1, x2, x3, x4, x5, x6, x7, x8, x9⟩ := hSw; go_simp; try with_reducible rfl)
              try simp only [Act.put, List.setIfInBounds_toArray, List.set_cons_zero, List.set_cons_succ]
              refine wpAnyH_take (i := 23) (oi := { dst := some 145, op := Op.load 9 (Operand.tmp 144), type := 9, pos := "law.go:130", after := #[{ on := 22, ground := Ground.data }, { on := 14, ground := Ground.guard }], guard := some (14, false) }) (v := ?vve23) rfl (by kernel_rfl) (by kernel_rfl) (by kernel_rfl) (fun _ _ _ h => h) (Or.inl ⟨by rfl, ?yye23⟩) hHeld ?rre23
              case yye23 => (intro w0 hSw; obtain ⟨x0, x1, x2, x3, x4, x5, x6, x7, x8, x9⟩ := hSw; go_simp; try with_reducible rfl)
              try simp only [Act.put, List.setIfInBounds_toArray, List.set_cons_zero, List.set_cons_succ]
              refine wpAnyH_take (i := 24) (oi := { dst := some 146, op := Op.binOp BinOp.neq 9 (Operand.tmp 140) (Operand.tmp 145) 9, type := 4, pos := "law.go:130", after := #[{ on := 18, ground := Ground.data }, { on := 23, ground := Ground.data }, { on := 14, ground := Ground.guard }], guard := some (14, false) }) (v := ?vve24) rfl (by kernel_rfl) (by kernel_rfl) (by kernel_rfl) (fun _ _ _ h => h) (Or.inl ⟨by rfl, ?yye24⟩) hHeld ?rre24
              case yye24 => (intro w0 hSw; obtain ⟨x0, x1, x2, x3, x4, x5, x6, x7, x8, x9⟩ := hSw; go_simp; try with_reducible rfl)
              try simp only [Act.put, List.setIfInBounds_toArray, List.set_cons_zero, List.set_cons_succ]
              refine wpAnyH_take (i := 25) (oi := { dst := some 147, op := Op.pick (Operand.tmp 136) (Operand.const (Value.bool true)) (Operand.tmp 146), type := 4, pos := "law.go:130", after := #[{ on := 14, ground := Ground.data }, { on := 24, ground := Ground.data }], guard := none }) (v := ?vve25) rfl (by kernel_rfl) (by kernel_rfl) (by kernel_rfl) (fun _ _ _ h => h) (Or.inl ⟨by rfl, ?yye25⟩) hHeld ?rre25
              case yye25 => (intro w0 hSw; obtain ⟨x0, x1, x2, x3, x4, x5, x6, x7, x8, x9⟩ := hSw; go_simp; try with_reducible rfl)
              try simp only [Act.put, List.setIfInBounds_toArray, List.set_cons_zero, List.set_cons_succ]
              refine wpAnyH_done (by kernel_rfl) ?_ _
              go_wp2_with fail
              exact ⟨⟨j + 1, by omega, by go_num, HS.out.drew⟩, by simp [intOf]; omega⟩
            · obtain rfl : j = m := by omega
              have HS := Hid.mk hs
              clear hs
              go_wp2_with fail
              go_ret
              exact ⟨rfl, HS.out.below⟩
end Go.Proofs.YtbhggcleijjofaaDoor
