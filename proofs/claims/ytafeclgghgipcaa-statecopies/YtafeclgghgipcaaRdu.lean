/-
  The answer's Dump. No condition.
-/
import Derived.Test.YtafeclgghgipcaaDum
import Derived.Test.YtafeclgghgipcaaAbs
import Derived.Deep.RegionHeld3
import Derived.Deep.AppendLies
namespace Go.Proofs.Ytafeclgghgipcaa
open Go Go.RowKit Go.Maps

def dLf (i : Int) (y : L3) : R6 := (1, i, y.2.1, y.2.2, 0, 0)
def sealR (x : S3) : List R6 := if x.2.2 = true then [(7, x.1, 0, 0, 0, 0)] else []
def inR (x : S3) (lv : List L3) : List R6 := (lv.filter fun y => decide (y.1 = x.1)).map (dLf x.1)
def dmR (lv : List L3) (x : S3) : List R6 := (4, x.1, 0, 0, 0, x.2.1) :: (inR x lv ++ sealR x)
def dBb (b : Int) : R6 := (8, 0, 0, b, 0, 0)
/-- the answer's state as records -/
def dumpR (m : Rs) : List R6 := m.sp.flatMap (dmR m.lv) ++ (m.bad.map dBb ++ m.worn.map dWorn)
/-- a struct's block beside a slice that grows -/
structure XB (gx : Nat) (x : S3) (v : Value) (wr : World) : Prop where
  cells : wr.heap[gx]? = some (.cells #[.int .i64 x.1, .int .i64 x.2.1, .bool x.2.2] 67 (0, 0))
  ne : v.ownBlock ≠ some gx
theorem XB.lt {gx x v wr} (h : XB gx x v wr) : gx < wr.heap.size := (Array.getElem?_eq_some_iff.1 h.cells).1
theorem XB.al {gx x v wr} (h : XB gx x v wr) (o : Obj) : XB gx x v (wr.alloc o) := ⟨(Below.heap_alloc wr o gx h.lt).trans h.cells, h.ne⟩
theorem XB.app {gx x v v3 wr w3} (h : XB gx x v wr) (g : wr.grownBy w3 v.ownBlock) (p : v3.ownBlock = v.ownBlock ∨ ∃ g, v3.ownBlock = some g ∧ wr.heap.size ≤ g) : XB gx x v3 w3 := by
  refine ⟨(g.block gx h.lt (fun e => h.ne e.symm)).trans h.cells, ?_⟩
  rcases p with p | ⟨g, p, q⟩
  · rw [p]; exact h.ne
  · rw [p]
    intro e
    cases e
    have := h.lt
    omega
theorem XB.c {gx x v wr} (h : XB gx x v wr) : wr.cell? ⟨gx, 0, none⟩ = some (.int .i64 x.1) ∧ wr.cell? ⟨gx, 1, none⟩ = some (.int .i64 x.2.1) ∧ wr.cell? ⟨gx, 2, none⟩ = some (.bool x.2.2) := by
  refine ⟨?_, ?_, ?_⟩ <;> rw [cell_of_row wr gx _ _ 67 _ h.cells] <;> rfl
section
variable {ops : Array Oper} {o : Oper} {a : Act} {K : Act → World → Prop} {Q : Exit → Act → World → Prop} {E' : Prop}
/-- append of one that is written out, at a step of a drawn region -/
theorem step_app {t e sz bytes : Nat} (E : EI t e sz bytes) {w : World} {B : Nat} {v : Value} {rows : Rws} (hgd : o.guard = none) (s x : Operand) (ho : o.op = .call { callee := .builtin .append, args := #[s, x], argTypes := #[t, t] })
    (h : Ow w B e sz v rows) (hB : B ≤ w.heap.size) (cs : Array Value) (hs : a.eval s = v) (hx : a.eval x = .slice (some ⟨w.heap.size, 0, none⟩) 1 1) (hc : cs.size = sz) (h1 : ∀ u ∈ cs.toList, u.oneCell' = true) (hn : rows.length < 1000000)
    (hK : ∀ v' w', Ow w' B e sz v' (rows ++ [cs.toList]) → w.grownBy w' v.ownBlock → (v'.ownBlock = v.ownBlock ∨ ∃ g, v'.ownBlock = some g ∧ w.heap.size ≤ g) → K (a.put o.dst v') w') :
    if Region.wanted o (yielded ops a.tmps) = true then Oper.wp Try.prog o a (w.alloc (.cells cs e)) K Q else E' := by
  obtain ⟨i, z, q1, q2, q3, q4, q5⟩ := E.info
  have hl : cs.toList.length = 1 * sz := by rw [Array.length_toList, hc, Nat.one_mul]
  have hby : (rows.length + 1) * bytes ≤ 140737488355328 := by
    have := Nat.mul_le_mul_left (rows.length + 1) E.top
    omega
  refine step_append_lies _ hgd s x t ho B e i z sz bytes E.under q1 q2 q3 q4 q5 E.pos v rows.length rows.flatten hs (h.own.alloc _) ⟨w.heap.size, 0, none⟩ 1 1 cs.toList hx hl (lit_cells w cs e) h1 (by omega) (by simp [maxLen]; omega) hby (by rw [size_alloc]; omega) _ rfl (fun g cap w' p1 p2 p4 _ => ?_)
  have gr : w.grownBy w' v.ownBlock := by
    have g1 := World.grownBy_alloc w (.cells cs e) v.ownBlock
    exact ⟨p2.os.trans g1.os, p2.tape.trans g1.tape, p2.output.trans g1.output, Nat.le_trans g1.size p2.size, fun k hk hne => (p2.block k (Nat.lt_of_lt_of_le hk g1.size) hne).trans (g1.block k hk hne)⟩
  refine hK _ w' (h.more (by rw [hl, Nat.one_mul]) h1 p1) gr ?_
  rcases p4 with p4 | p4
  · exact .inl p4.symm
  · exact .inr ⟨g, rfl, by rw [p4, size_alloc]; omega⟩
end
theorem gdr {w w' : World} {r : Option Nat} (g : w.drew.grownBy w' r) : w.grownBy w' r := ⟨g.os, g.tape, g.output, g.size, g.block⟩
theorem gdl (w : World) (o : Obj) (r : Option Nat) : w.grownBy (w.alloc o).drew r := ⟨(World.grownBy_alloc w o r).os, (World.grownBy_alloc w o r).tape, (World.grownBy_alloc w o r).output, (World.grownBy_alloc w o r).size, (World.grownBy_alloc w o r).block⟩
set_option maxRecDepth 20000 in
set_option maxHeartbeats 4000000 in
theorem rdump_any {w : World} {B v0 v1 v2 v3 m} (h : RAt w B v0 v1 v2 v3 m) (hR0 : (dumpR m).length < 900000) (hn : Lens m) : Calls Try.prog 41 #[.agg #[v0, v1, v2, v3]] w fun e w' => ∃ v, e = .returned v ∧ Ow w' w.heap.size 36 6 v ((dumpR m).map rR) ∧ Below w.heap.size w w' := by
  obtain ⟨a0, c0, rfl⟩ := h.sp.form
  obtain ⟨a1, c1, rfl⟩ := h.lv.form
  obtain ⟨a2, c2, rfl⟩ := h.bad.form
  obtain ⟨a3, c3, rfl⟩ := h.worn.form
  obtain ⟨n0, n1, n2, n3⟩ := hn
  rw [List.length_map, List.length_map, rI_len, List.length_map] at h ⊢
  generalize hR : dumpR m = R0 at *
  have H := Hid.mk h
  clear h
  go_enter Try.func41, Try.ntmps41
  go_upto_region 1 with fail
  have s0 := Box4.fresh w (.slice a0 m.sp.length c0) (.slice a1 m.lv.length c1) (.slice a2 m.bad.length c2) (.slice a3 m.worn.length c3)
  have b0 : Bel w (w.alloc (.cells #[.slice a0 m.sp.length c0, .slice a1 m.lv.length c1, .slice a2 m.bad.length c2, .slice a3 m.worn.length c3] 30)) := (Bel.refl w).alloc _
  have h0 := H.out.call b0
  have z0 : (w.alloc (.cells #[.slice a0 m.sp.length c0, .slice a1 m.lv.length c1, .slice a2 m.bad.length c2, .slice a3 m.worn.length c3] 30)).heap.size = w.heap.size + 1 := by rw [size_alloc]
  generalize w.alloc (.cells #[.slice a0 m.sp.length c0, .slice a1 m.lv.length c1, .slice a2 m.bad.length c2, .slice a3 m.worn.length c3] 30) = W0 at *
  have o0 := Ow.made W0 (B := w.heap.size + 1) (by omega) 36 6
  rw [z0] at o0
  have S0 : WbS W0 (w.heap.size + 1) 36 6 (.slice (some ⟨w.heap.size + 1, 0, none⟩) 0 0) (([] : List R6).map rR) (W0.alloc (.cells #[] 36)) := ⟨o0, (Bel.refl W0).alloc _, z0⟩
  replace S0 := Hid.mk S0
  have C0 : Hid (∀ wr, Bel W0 wr → Box4 wr w.heap.size (.slice a0 m.sp.length c0) (.slice a1 m.lv.length c1) (.slice a2 m.bad.length c2) (.slice a3 m.worn.length c3) ∧ RAt wr B (.slice a0 m.sp.length c0) (.slice a1 m.lv.length c1) (.slice a2 m.bad.length c2) (.slice a3 m.worn.length c3) m) := fun wr b => ⟨s0.call b, h0.call b⟩
  have hold := Hid.mk (And.intro H.out b0)
  clear h0 s0 o0 b0 H
  have hW0 : Hid (Below w.heap.size w W0) := hold.out.2
  have hG3 : Hid (∀ g, Value.ownBlock (.slice a3 m.worn.length c3) = some g → g < w.heap.size) := fun g hg => (hold.out.1.worn.lt g hg).2
  clear hold
  generalize hG : w.heap.size = G at *
  replace hG := Hid.mk hG
  have hg3 : G + 1 ≤ W0.heap.size := by omega
  unfold dumpR at hR
  obtain ⟨sp, lv, bad, worn⟩ := m
  simp only at *
  generalize hT : bad.map dBb ++ worn.map dWorn = T0 at *
  replace hT := Hid.mk hT
  go_upto_region 3 with fail
  go_loopw [3, 4] (fun v i wr => ∃ (k : Nat) (outL : List R6), k ≤ sp.length ∧ i = .int .i64 k ∧ outL ++ ((sp.drop k).flatMap (dmR lv) ++ T0) = R0 ∧ WbS W0 (G + 1) 36 6 v (outL.map rR) wr) (fun _ i _ => sp.length - (intOf i).toNat)
  case atStart => exact ⟨0, [], Nat.zero_le _, rfl, by simpa using hR, S0.out⟩
  case round =>
    clear S0
    obtain ⟨k, outL, hk, rfl, hgo, hs⟩ := hrel
    obtain ⟨hbx, hra⟩ := C0.out wr hs.bel
    obtain ⟨k0, k1, k2, k3⟩ := hbx.cells
    have hol : outL.length ≤ R0.length := by rw [← hgo, List.length_append]; omega
    have hwG : G + 1 ≤ wr.heap.size := hs.le
    by_cases hkn : k < sp.length
    · obtain ⟨g, rfl, hgB, hgl, d0, d1, d2⟩ := hra.sp.at3s hkn
      rw [dropC sp k (0, 0, false) hkn, List.flatMap_cons] at hgo
      generalize sp.getD k (0, 0, false) = x at *
      obtain ⟨x1, x2, x3⟩ := x
      simp only at d0 d1 d2
      have hrl : (outL.map rR).length < 1000000 := by rw [List.length_map]; omega
      have HS := Hid.mk (And.intro hs (And.intro hgo hrl))
      clear hs hgo hbx hra hol hrl
      go_upto_region 7 with (first | (at_builtin; refine wp_app ei36 rfl _ _ rfl (HS.out.1.out.alloc _) (by rw [size_alloc]; omega) (cR (4, x1, 0, 0, 0, x2)) rfl (by first | rfl | (simp only [size_alloc]; rfl)) rfl (cR_one _) HS.out.2.2 ?_; intro v4 w4 o4 g4 p4))
      have N4 := HS.out.1.app ((Bel.refl wr).alloc _) g4 o4
      have X4 : XB wr.heap.size (x1, x2, x3) v4 w4 := ⟨cells_kept g4 HS.out.1.out, fun e => by
        rcases p4 with p | ⟨g', p, q⟩
        · rw [p] at e; exact Nat.lt_irrefl _ (HS.out.1.out.lt _ e).2
        · rw [p] at e
          cases e
          rw [size_alloc] at q
          omega⟩
      have hgo2 : (outL ++ [(4, x1, 0, 0, 0, x2)]) ++ (inR (x1, x2, x3) lv ++ (sealR (x1, x2, x3) ++ ((sp.drop (k + 1)).flatMap (dmR lv) ++ T0))) = R0 := by
        rw [← HS.out.2.1]
        simp [dmR, List.append_assoc]
      have N5 : WbS W0 (G + 1) 36 6 v4 ((outL ++ [(4, x1, 0, 0, 0, x2)]).map rR) w4 := by rw [List.map_append]; exact N4
      generalize outL ++ [(4, x1, 0, 0, 0, x2)] = out1 at *
      generalize hrest : sealR (x1, x2, x3) ++ ((sp.drop (k + 1)).flatMap (dmR lv) ++ T0) = rest at *
      replace hrest := Hid.mk hrest
      have HI := Hid.mk (And.intro N5 (And.intro X4 hgo2))
      clear N4 N5 X4 hgo2 g4 p4 o4 k0 k1 k2 k3 d0 d1 d2 HS
      generalize wr.heap.size = gx at *
      go_upto_region 8 with fail
      go_loopw [3, 6] (fun v i wr => ∃ (j : Nat) (outL : List R6), j ≤ lv.length ∧ i = .int .i64 j ∧ outL ++ (inR (x1, x2, x3) (lv.drop j) ++ rest) = R0 ∧ WbS W0 (G + 1) 36 6 v (outL.map rR) wr ∧ XB gx (x1, x2, x3) v wr) (fun _ i _ => lv.length - (intOf i).toNat)
      case atStart => exact ⟨0, out1, Nat.zero_le _, rfl, HI.out.2.2, HI.out.1, HI.out.2.1⟩
      case round =>
        clear HI
        obtain ⟨j, outL, hj, rfl, hgo, hs, hx⟩ := hrel
        obtain ⟨hbx, hra⟩ := C0.out wr hs.bel
        obtain ⟨k0, k1, k2, k3⟩ := hbx.cells
        obtain ⟨x0c, x1c, x2c⟩ := hx.c
        simp only at x0c x1c x2c
        have hxl := hx.lt
        have hol : outL.length ≤ R0.length := by rw [← hgo, List.length_append]; omega
        have hwG : G + 1 ≤ wr.heap.size := hs.le
        have hrl : (outL.map rR).length < 1000000 := by rw [List.length_map]; omega
        by_cases hjn : j < lv.length
        · obtain ⟨g, rfl, hgB, hgl, d0, d1, d2⟩ := hra.lv.at3 hjn
          rw [dropC lv j (0, 0, 0) hjn] at hgo
          generalize lv.getD j (0, 0, 0) = y at *
          obtain ⟨y1, y2, y3⟩ := y
          simp only at d0 d1 d2
          by_cases e : y1 = x1
          · subst e
            have hgo2 : (outL ++ [(1, y1, y2, y3, 0, 0)]) ++ (inR (y1, x2, x3) (lv.drop (j + 1)) ++ rest) = R0 := by
              rw [← hgo]
              simp [inR, dLf]
            have HS := Hid.mk (And.intro hs (And.intro hgo2 (And.intro hrl hx)))
            clear hs hgo hgo2 hbx hra hol hrl hx
            go_wp2_with (first | (at_builtin; refine wp_app ei36 rfl _ _ rfl (HS.out.1.out.alloc _) (by rw [size_alloc]; omega) (cR (1, y1, y2, y3, 0, 0)) rfl (by first | rfl | (simp only [size_alloc]; rfl)) rfl (cR_one _) HS.out.2.2.1 ?_; intro v4 w4 o4 g4 p4))
            exact ⟨⟨j + 1, outL ++ [(1, y1, y2, y3, 0, 0)], by omega, by go_num, HS.out.2.1, by rw [List.map_append]; exact HS.out.1.app ((Bel.refl wr).alloc _) g4 o4, (HS.out.2.2.2.al _).app g4 p4⟩, by simp [intOf]; omega⟩
          · have eb : (y1 == x1) = false := by simp [e]
            have hgo2 : outL ++ (inR (x1, x2, x3) (lv.drop (j + 1)) ++ rest) = R0 := by
              rw [← hgo]
              simp [inR, e]
            have HS := Hid.mk (And.intro hs (And.intro hgo2 (And.intro hrl hx)))
            clear hs hgo hgo2 hbx hra hol hrl hx e
            go_wp2_with fail
            exact ⟨⟨j + 1, outL, by omega, by go_num, HS.out.2.1, HS.out.1.al _, HS.out.2.2.2.al _⟩, by simp [intOf]; omega⟩
        · rw [List.drop_of_length_le (by omega), ← hrest.out] at hgo
          cases x3 with
          | true =>
            have hgo2 : (outL ++ [(7, x1, 0, 0, 0, 0)]) ++ ((sp.drop (k + 1)).flatMap (dmR lv) ++ T0) = R0 := by
              rw [← hgo]
              simp [inR, sealR]
            have HS := Hid.mk (And.intro hs (And.intro hgo2 hrl))
            clear hs hgo hgo2 hbx hra hol hrl hx
            go_wp2_with (first | (at_builtin; refine wp_app ei36 rfl _ _ rfl HS.out.1.out (by omega) (cR (7, x1, 0, 0, 0, 0)) rfl (by first | rfl | (simp only [size_alloc]; rfl)) rfl (cR_one _) HS.out.2.2 ?_; intro v4 w4 o4 g4 p4))
            exact ⟨⟨k + 1, outL ++ [(7, x1, 0, 0, 0, 0)], by omega, by go_num, HS.out.2.1, by rw [List.map_append]; exact HS.out.1.app (Bel.refl wr) g4 o4⟩, by simp [intOf]; omega⟩
          | false =>
            have hgo2 : outL ++ ((sp.drop (k + 1)).flatMap (dmR lv) ++ T0) = R0 := by
              rw [← hgo]
              simp [inR, sealR]
            have HS := Hid.mk (And.intro hs hgo2)
            clear hs hgo hgo2 hbx hra hol hrl hx
            go_wp2_with fail
            exact ⟨⟨k + 1, outL, by omega, by go_num, HS.out.2, HS.out.1⟩, by simp [intOf]; omega⟩
    · rw [List.drop_of_length_le (by omega), List.flatMap_nil, List.nil_append, ← hT.out] at hgo
      have HS := Hid.mk (And.intro hs hgo)
      clear hs hgo hbx hra hol
      go_upto_region 16 with fail
      clear k0 k1 k2 k3
      go_loopw [3, 8] (fun v i wr => ∃ (j : Nat) (outL : List R6), j ≤ bad.length ∧ i = .int .i64 j ∧ outL ++ ((bad.drop j).map dBb ++ worn.map dWorn) = R0 ∧ WbS W0 (G + 1) 36 6 v (outL.map rR) wr) (fun _ i _ => bad.length - (intOf i).toNat)
      case atStart => exact ⟨0, outL, Nat.zero_le _, rfl, by simpa using HS.out.2, HS.out.1⟩
      case round =>
        clear HS
        obtain ⟨j, outL, hj, rfl, hgo, hs⟩ := hrel
        obtain ⟨hbx, hra⟩ := C0.out wr hs.bel
        obtain ⟨k0, k1, k2, k3⟩ := hbx.cells
        have hol : outL.length ≤ R0.length := by rw [← hgo, List.length_append]; omega
        have hwG : G + 1 ≤ wr.heap.size := hs.le
        have hrl : (outL.map rR).length < 1000000 := by rw [List.length_map]; omega
        by_cases hjn : j < bad.length
        · obtain ⟨g, rfl, hgB, hgl, d0⟩ := hra.bad.intAt hjn
          rw [dropC bad j 0 hjn] at hgo
          generalize bad.getD j 0 = y at *
          have hgo2 : (outL ++ [dBb y]) ++ ((bad.drop (j + 1)).map dBb ++ worn.map dWorn) = R0 := by
            rw [← hgo]
            simp
          have HS := Hid.mk (And.intro hs (And.intro hgo2 hrl))
          clear hs hgo hgo2 hbx hra hol hrl
          go_wp2_with (first | (at_builtin; refine wp_app ei36 rfl _ _ rfl HS.out.1.out (by omega) (cR (dBb y)) rfl (by first | rfl | (simp only [size_alloc]; rfl)) rfl (cR_one _) HS.out.2.2 ?_; intro v4 w4 o4 g4 p4))
          exact ⟨⟨j + 1, outL ++ [dBb y], by omega, by go_num, HS.out.2.1, by rw [List.map_append]; exact HS.out.1.app (Bel.refl wr) g4 o4⟩, by simp [intOf]; omega⟩
        · rw [List.drop_of_length_le (by omega), List.map_nil, List.nil_append] at hgo
          have HS := Hid.mk (And.intro hs hgo)
          clear hs hgo hbx hra hol hrl
          go_upto_region 20 with fail
          clear k0 k1 k2 k3
          go_loopw [3, 9] (fun v i wr => ∃ (l : Nat) (outL : List R6), l ≤ worn.length ∧ i = .int .i64 l ∧ outL ++ (worn.drop l).map dWorn = R0 ∧ WbS W0 (G + 1) 36 6 v (outL.map rR) wr) (fun _ i _ => worn.length - (intOf i).toNat)
          case atStart => exact ⟨0, outL, Nat.zero_le _, rfl, by simpa using HS.out.2, HS.out.1⟩
          case round =>
            clear HS
            obtain ⟨l, outL, hl, rfl, hgo, hs⟩ := hrel
            obtain ⟨hbx, hra⟩ := C0.out wr hs.bel
            obtain ⟨k0, k1, k2, k3⟩ := hbx.cells
            have hol : outL.length ≤ R0.length := by rw [← hgo, List.length_append]; omega
            have hwG : G + 1 ≤ wr.heap.size := hs.le
            have hrl : (outL.map rR).length < 1000000 := by rw [List.length_map]; omega
            by_cases hln : l < worn.length
            · obtain ⟨g, rfl, hgB, hgl, d0, d1⟩ := hra.worn.at2 hln
              rw [dropC worn l (0, 0) hln] at hgo
              generalize worn.getD l (0, 0) = y at *
              have hgo2 : (outL ++ [dWorn y]) ++ (worn.drop (l + 1)).map dWorn = R0 := by
                rw [← hgo]
                simp
              obtain ⟨y1, y2⟩ := y
              simp only at d0 d1
              have hgG : g < G := hG3.out g rfl
              have kG : Hid (∀ w', wr.grownBy w' u3.ownBlock → w'.cell? ⟨G, 3, none⟩ = some (.slice (some ⟨g, 0, none⟩) worn.length c3) ∧ w'.cell? ⟨g, l * 2, none⟩ = some (.int .i64 y1) ∧ w'.cell? ⟨g, l * 2 + 1, none⟩ = some (.int .i64 y2)) := fun w' q => by
                have nb : ∀ j, j < G + 1 → u3.ownBlock ≠ some j := fun j hj e => by have := (hs.out.lt j e).1; omega
                exact ⟨(q.cell_far ⟨G, 3, none⟩ (by show G < _; omega) (fun e => nb G (by omega) e.symm)).trans k3, (q.cell_far ⟨g, l * 2, none⟩ (by show g < _; omega) (fun e => nb g (by omega) e.symm)).trans d0, (q.cell_far ⟨g, l * 2 + 1, none⟩ (by show g < _; omega) (fun e => nb g (by omega) e.symm)).trans d1⟩
              have HS := Hid.mk (And.intro hs (And.intro hgo2 hrl))
              clear hs hgo hgo2 hbx hra hol hrl k0 k1 k2
              go_upto_region 22 with fail
              go_region_held3 (fun w' => w'.cell? ⟨G, 3, none⟩ = some (.slice (some ⟨g, 0, none⟩) worn.length c3) ∧ w'.cell? ⟨g, l * 2, none⟩ = some (.int .i64 y1) ∧ w'.cell? ⟨g, l * 2 + 1, none⟩ = some (.int .i64 y2))
                (first | assumption | exact ⟨k3, d0, d1⟩ | exact kG.out _ (gdr (by assumption)) | exact kG.out _ (gdl wr _ _) | fail)
                (first | (refine step_app (w := wr.drew) ei36 (by rfl) _ _ (by rfl) (HS.out.1.dr 1).out (HS.out.1.dr 1).le (cR (dWorn (y1, y2))) (by rfl) (by rfl) (by rfl) (cR_one _) HS.out.2.2 ?_; intro v4 w4 o4 g4 p4))
              go_wp2_with fail
              exact ⟨⟨l + 1, outL ++ [dWorn (y1, y2)], by omega, by go_num, HS.out.2.1, by rw [List.map_append]; exact HS.out.1.app (Bel.refl _) (gdr g4) o4⟩, by simp [intOf]; omega⟩
            · rw [List.drop_of_length_le (by omega), List.map_nil, List.append_nil] at hgo
              subst hgo
              have HS := Hid.mk hs
              clear hs hbx hra hol hrl
              go_wp2_with fail
              go_ret
              have := hG.out
              subst this
              exact ⟨_, rfl, HS.out.out.lower (by omega), below3 hW0.out HS.out.bel⟩
end Go.Proofs.Ytafeclgghgipcaa
