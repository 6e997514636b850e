/-
  The law's own 'seen': a transaction shows just what the plain one shows. No condition.
-/
import Derived.Test.YtccelipljbkkgaaTyb
namespace Go.Proofs.Ytccelipljbkkgaa
open Go Go.RowKit Go.Maps

theorem s5 {a b c d e : Prop} (h : a ∧ b ∧ c ∧ d ∧ e) : e := h.2.2.2.2
/-- what stays while it looks on -/
structure SeF (B g G : Nat) (v : Value) (X : TX) (s : St) (Bp : Nat) (v0 v1 v2 v3 vt : Value) (Q : PP) (n : Int) (vl : Value) (Bl : Nat) (W : World) : Prop where
  tx : TxH B g v X s W
  pa : PAt W Bp v0 v1 v2 v3 vt Q.y Q.tx
  box : Box6 W G v0 v1 v2 v3 vt n
  ls : Ow W Bl 83 4 vl (Q.y.sp.map svR)
theorem SeF.call {B g G v X s Bp v0 v1 v2 v3 vt Q n vl Bl W W'} (h : SeF B g G v X s Bp v0 v1 v2 v3 vt Q n vl Bl W) (b : Below W.heap.size W W') : SeF B g G v X s Bp v0 v1 v2 v3 vt Q n vl Bl W' := ⟨h.tx.call b, h.pa.call b, h.box.call b, h.ls.call b⟩
set_option maxRecDepth 20000 in
set_option maxHeartbeats 4000000 in
theorem seen_any {w : World} {B g v X s Bp v0 v1 v2 v3 vt} {Q : PP} {ix : List Nat} (h : TxH B g v X s w) (p : PAt w Bp v0 v1 v2 v3 vt Q.y Q.tx) (S : Sim X Q ix) (n : Int) :
    Calls Try.prog 16 #[.pointer (some ⟨g, 0, none⟩), .agg #[v0, v1, v2, v3, vt, .int .i64 n]] w fun e w' => e = .returned (.bool true) ∧ Below w.heap.size w w' := by
  have hinv : InvA Q.y := S.inv h.inv
  obtain ⟨a0, c0, rfl⟩ := p.st.sp.form
  obtain ⟨a1, c1, rfl⟩ := p.st.lv.form
  obtain ⟨a2, n2, c2, rfl⟩ := p.st.bad.isSl
  obtain ⟨a3, n3, c3, rfl⟩ := p.st.worn.isSl
  obtain ⟨at', nt, ct, rfl⟩ := p.tx.isSl
  have e0 : ((rs Q.y).sp.map rS).length = Q.y.sp.length := by simp [rs]
  have e1 : ((rs Q.y).lv.map rL).length = (lvA Q.y.sp).length := by rw [List.length_map]; rfl
  rw [e0, e1] at p ⊢
  clear e0 e1
  have hsps := spaces_tx (h.call (below_al w (.cells #[.slice a0 Q.y.sp.length c0, .slice a1 (lvA Q.y.sp).length c1, .slice a2 n2 c2, .slice a3 n3 c3, .slice at' nt ct, .int .i64 n] 46)))
  rw [S.rows.1, S.rows.2] at hsps
  have H := Hid.mk (And.intro h (And.intro p S))
  have HP := Hid.mk hsps
  clear h hsps p S
  go_enter Try.func16, Try.ntmps16
  go_upto_region 2 with (first | (go_at_call 19; refine HP.out.mono ?_; rintro e w1 ⟨la, lc, rfl, ol, bl⟩))
  have b0 := below_al w (.cells #[.slice a0 Q.y.sp.length c0, .slice a1 (lvA Q.y.sp).length c1, .slice a2 n2 c2, .slice a3 n3 c3, .slice at' nt ct, .int .i64 n] 46)
  have bw : Below w.heap.size w w1 := below3 b0 bl
  have x0 : Box6 (w.alloc (.cells #[.slice a0 Q.y.sp.length c0, .slice a1 (lvA Q.y.sp).length c1, .slice a2 n2 c2, .slice a3 n3 c3, .slice at' nt ct, .int .i64 n] 46)) w.heap.size (.slice a0 Q.y.sp.length c0) (.slice a1 (lvA Q.y.sp).length c1) (.slice a2 n2 c2) (.slice a3 n3 c3) (.slice at' nt ct) n := heap_alloc_new w _
  have FA : Hid (∀ W, Below w1.heap.size w1 W → SeF B g w.heap.size v X s Bp (.slice a0 Q.y.sp.length c0) (.slice a1 (lvA Q.y.sp).length c1) (.slice a2 n2 c2) (.slice a3 n3 c3) (.slice at' nt ct) Q n (.slice la Q.y.sp.length lc) (w.heap.size + 1) W) := fun W b => by
    refine SeF.call (W := w1) ⟨H.out.1.call bw, H.out.2.1.call bw, x0.call bl, ?_⟩ b
    rw [size_alloc] at ol
    exact ol
  have SM := Hid.mk H.out.2.2
  have hbw := Hid.mk (And.intro bw hinv)
  clear b0 bw bl ol H HP hinv x0
  generalize hG : w.heap.size = G at *
  replace hG := Hid.mk hG
  generalize hn : Q.y.sp.length = m at *
  generalize hnl : (lvA Q.y.sp).length = nl at *
  have hm15 : m ≤ 15 := by have := hbw.out.2.len; omega
  have hnl2 : nl < 50000 := by
    have h1 := (lens_rs hbw.out.2).2.1
    have h2 : (rs Q.y).lv.length = nl := hnl
    omega
  replace hn := Hid.mk hn
  replace hnl := Hid.mk hnl
  have F1 := FA.out w1 (Below.refl _ w1)
  obtain ⟨k0, k1, k2, k3, k4, k5⟩ := F1.box.cells
  have hGl := F1.box.lt
  clear F1
  go_upto_region 5 with fail
  clear k0 k1 k2 k3 k4 k5
  go_loopw [6] (fun i wr => ∃ k : Nat, k ≤ m ∧ i = .int .i64 k ∧ Below w1.heap.size w1 wr) (fun i _ => m - (intOf i).toNat)
  case atStart => exact ⟨0, Nat.zero_le _, rfl, Below.refl _ w1⟩
  case round =>
    obtain ⟨k, hk, rfl, hb⟩ := hrel
    have F := FA.out wr hb
    obtain ⟨k0, k1, k2, k3, k4, k5⟩ := F.box.cells
    have hGl2 := F.box.lt
    by_cases hkn : k < m
    · have hka : k < Q.y.sp.length := by have := hn.out; omega
      have hx := List.getElem_mem hka
      obtain ⟨gs, rfl, hgB, hgl, d0, d1, d2⟩ := F.pa.st.sp.at3s (j := k) (by simp only [rs, List.length_map]; exact hka)
      have hge : (rs Q.y).sp.getD k (0, 0, false) = fS Q.y.sp[k] := by
        simp only [rs]
        rw [List.getD_eq_getElem?_getD, List.getElem?_map, List.getElem?_eq_getElem hka]; rfl
      obtain ⟨gl, rfl, hglB, hgll, hlc⟩ := F.ls.at (j := k) (by rw [List.length_map]; exact hka)
      have hle : (Q.y.sp.map svR).getD k [] = svR Q.y.sp[k] := by
        rw [List.getD_eq_getElem?_getD, List.getElem?_map, List.getElem?_eq_getElem hka]; rfl
      rw [hge] at d0 d1 d2
      rw [hle] at hlc
      generalize Q.y.sp[k] = x at *
      replace d0 : wr.cell? ⟨gs, k * 3, none⟩ = some (.int .i64 x.id) := d0
      replace d1 : wr.cell? ⟨gs, k * 3 + 1, none⟩ = some (.int .i64 x.q) := d1
      replace d2 : wr.cell? ⟨gs, k * 3 + 2, none⟩ = some (.bool x.sl) := d2
      have l0 : wr.cell? ⟨gl, k * 4, none⟩ = some (.int .i64 x.id) := hlc 0 (by decide)
      have l1 : wr.cell? ⟨gl, k * 4 + 1, none⟩ = some (.int .i64 x.q) := hlc 1 (by decide)
      have l2 : wr.cell? ⟨gl, k * 4 + 2, none⟩ = some (.int .i64 (x.ps.length : Int)) := hlc 2 (by decide)
      have l3 : wr.cell? ⟨gl, k * 4 + 3, none⟩ = some (.bool x.sl) := hlc 3 (by decide)
      have C45 : ∀ W, Below w1.heap.size w1 W → Calls Try.prog 45 #[.agg #[.slice (some ⟨gs, 0, none⟩) m c0, .slice a1 nl c1, .slice a2 n2 c2, .slice a3 n3 c3], .int .i64 x.id] W fun e w' => e = .returned (.int .i64 (x.ps.length : Int)) ∧ Below W.heap.size W w' := fun W b => by
        have q := rpages_any (FA.out W b).pa.st (by have := (lens_rs hbw.out.2).2.1; omega) x.id
        rw [show pL x.id (rs Q.y).lv = x.ps.length from pL_lvA hbw.out.2.up hx] at q
        exact q
      generalize (x.ps.length : Int) = pn at *
      have HK := Hid.mk (And.intro C45 (And.intro hb (And.intro l0 (And.intro l1 (And.intro l2 l3)))))
      clear C45 hlc hle hge hka F hx
      go_upto_region 8 with fail
      have X8 := heap_alloc_new wr (.cells #[.int .i64 x.id, .int .i64 x.q, .bool x.sl] 89)
      have B8 := below_al wr (.cells #[.int .i64 x.id, .int .i64 x.q, .bool x.sl] 89)
      generalize wr.alloc (.cells #[.int .i64 x.id, .int .i64 x.q, .bool x.sl] 89) = W8 at *
      have kS : Hid (∀ w', Below W8.heap.size W8 w' → Below w1.heap.size w1 w' ∧ (w'.cell? ⟨G, 0, none⟩ = some (.slice (some ⟨gs, 0, none⟩) m c0) ∧ w'.cell? ⟨G, 1, none⟩ = some (.slice a1 nl c1) ∧ w'.cell? ⟨G, 2, none⟩ = some (.slice a2 n2 c2) ∧ w'.cell? ⟨G, 3, none⟩ = some (.slice a3 n3 c3)) ∧ (w'.cell? ⟨wr.heap.size, 0, none⟩ = some (.int .i64 x.id) ∧ w'.cell? ⟨wr.heap.size, 1, none⟩ = some (.int .i64 x.q) ∧ w'.cell? ⟨wr.heap.size, 2, none⟩ = some (.bool x.sl)) ∧ (w'.cell? ⟨gl, k * 4, none⟩ = some (.int .i64 x.id) ∧ w'.cell? ⟨gl, k * 4 + 1, none⟩ = some (.int .i64 x.q) ∧ w'.cell? ⟨gl, k * 4 + 2, none⟩ = some (.int .i64 pn) ∧ w'.cell? ⟨gl, k * 4 + 3, none⟩ = some (.bool x.sl)) ∧ Below W8.heap.size W8 w') := fun w' q => by
        have q2 := below3 B8 q
        have q3 := below3 HK.out.2.1 q2
        have hX := (q.block _ (Array.getElem?_eq_some_iff.1 X8).1).trans X8
        obtain ⟨u0, u1, u2, u3, _, _⟩ := (FA.out w' q3).box.cells
        refine ⟨q3, ⟨u0, u1, u2, u3⟩, ⟨?_, ?_, ?_⟩, ⟨?_, ?_, ?_, ?_⟩, q⟩
        · rw [cell_of_row w' _ 0 _ 89 _ hX]; rfl
        · rw [cell_of_row w' _ 1 _ 89 _ hX]; rfl
        · rw [cell_of_row w' _ 2 _ 89 _ hX]; rfl
        · exact (q2.cell (p := ⟨gl, k * 4, none⟩) hgll).trans HK.out.2.2.1
        · exact (q2.cell (p := ⟨gl, k * 4 + 1, none⟩) hgll).trans HK.out.2.2.2.1
        · exact (q2.cell (p := ⟨gl, k * 4 + 2, none⟩) hgll).trans HK.out.2.2.2.2.1
        · exact (q2.cell (p := ⟨gl, k * 4 + 3, none⟩) hgll).trans HK.out.2.2.2.2.2
      clear X8 B8 k0 k1 k2 k3 k4 k5 d0 d1 d2 l0 l1 l2 l3 hb
      generalize wr.heap.size = gx at *
      generalize x.id = x1 at *
      generalize x.q = x2 at *
      generalize x.sl = x3 at *
      as_aux_lemma =>
        go_region_held3 (fun w' => Below w1.heap.size w1 w' ∧ (w'.cell? ⟨G, 0, none⟩ = some (.slice (some ⟨gs, 0, none⟩) m c0) ∧ w'.cell? ⟨G, 1, none⟩ = some (.slice a1 nl c1) ∧ w'.cell? ⟨G, 2, none⟩ = some (.slice a2 n2 c2) ∧ w'.cell? ⟨G, 3, none⟩ = some (.slice a3 n3 c3)) ∧ (w'.cell? ⟨gx, 0, none⟩ = some (.int .i64 x1) ∧ w'.cell? ⟨gx, 1, none⟩ = some (.int .i64 x2) ∧ w'.cell? ⟨gx, 2, none⟩ = some (.bool x3)) ∧ (w'.cell? ⟨gl, k * 4, none⟩ = some (.int .i64 x1) ∧ w'.cell? ⟨gl, k * 4 + 1, none⟩ = some (.int .i64 x2) ∧ w'.cell? ⟨gl, k * 4 + 2, none⟩ = some (.int .i64 pn) ∧ w'.cell? ⟨gl, k * 4 + 3, none⟩ = some (.bool x3)) ∧ Below W8.heap.size W8 w')
          (first | assumption | exact kS.out _ (Below.refl _ W8) | exact kS.out _ (Below.refl _ W8).drew | exact kS.out _ (below3 (s5 (by assumption)) (by assumption)) | fail)
          (first | (go_at_call 45; refine (HK.out.1 _ (And.left (by assumption))).mono ?_; rintro e w9 ⟨rfl, b9⟩))
        have hb9 : Hid (Below w1.heap.size w1 w9) := And.left (by assumption)
        clear b9 kS HK
        go_wp2_with fail
        exact ⟨⟨k + 1, by omega, by go_num, hb9.out⟩, by simp [intOf]; omega⟩
    · have hk2 : k = m := by omega
      subst hk2
      have HB := Hid.mk hb
      clear hb F hk hkn
      go_upto_region 11 with fail
      clear k0 k1 k2 k3 k4 k5
      go_loopw [8] (fun i wr => ∃ j : Nat, j ≤ nl ∧ i = .int .i64 j ∧ Below w1.heap.size w1 wr) (fun i _ => nl - (intOf i).toNat)
      case atStart => exact ⟨0, Nat.zero_le _, rfl, HB.out⟩
      case round =>
        clear HB
        obtain ⟨j, hj, rfl, hb⟩ := hrel
        have F := FA.out wr hb
        obtain ⟨k0, k1, k2, k3, k4, k5⟩ := F.box.cells
        have hGl3 := F.box.lt
        by_cases hjn : j < nl
        · have hjl : j < (lvA Q.y.sp).length := by have := hnl.out; omega
          obtain ⟨gs, rfl, hgB, hgl, d0, d1, d2⟩ := F.pa.st.lv.at3 (j := j) hjl
          have hy : (rs Q.y).lv.getD j (0, 0, 0) ∈ lvA Q.y.sp := by
            show (lvA Q.y.sp).getD j (0, 0, 0) ∈ _
            rw [List.getD_eq_getElem?_getD, List.getElem?_eq_getElem hjl]
            exact List.getElem_mem hjl
          generalize (rs Q.y).lv.getD j (0, 0, 0) = y at *
          obtain ⟨hg1, hg2, hg3, hg4⟩ := get_lv hbw.out.2 hy
          obtain ⟨y1, y2, y3⟩ := y
          simp only at d0 d1 d2 hg1 hg2 hg3 hg4
          have C18 : ∀ W, Below w1.heap.size w1 W → Calls Try.prog 18 #[.pointer (some ⟨g, 0, none⟩), .int .i64 y1, .int .i64 y2] W fun e w' => e = .returned (.tuple #[.string (getX X y1 y2).1, .int .i64 (getX X y1 y2).2.1, .bool (getX X y1 y2).2.2]) ∧ W = w' := fun W b => get_tx (FA.out W b).tx hg2 hg3 (by rw [SM.out.fi]; decide) SM.out.n8
          have C46 : ∀ W, Below w1.heap.size w1 W → Calls Try.prog 46 #[.agg #[.slice a0 k c0, .slice (some ⟨gs, 0, none⟩) nl c1, .slice a2 n2 c2, .slice a3 n3 c3, .slice at' nt ct], .int .i64 y1, .int .i64 y2] W fun e w' => e = .returned (.tuple #[.string (getP Q.y Q.tx y1 y2).1, .bool (getP Q.y Q.tx y1 y2).2]) ∧ Below W.heap.size W w' := fun W b => getP_any (FA.out W b).pa.st hbw.out.2 (FA.out W b).pa.tx y1 y2
          have X8 := heap_alloc_new wr (.cells #[.int .i64 y1, .int .i64 y2, .int .i64 y3] 92)
          have B8 := below_al wr (.cells #[.int .i64 y1, .int .i64 y2, .int .i64 y3] 92)
          rcases SM.out.got hg1 with ⟨hp0, hp1, gx, gp⟩ | ⟨c, str, hc8, gx, gp⟩
          · rw [gx] at C18
            rw [gp] at C46
            have hdb : decide ((512 : Int) ≤ y3) = false := by rw [decide_eq_false_iff_not]; omega
            have HK := Hid.mk (And.intro C18 (And.intro C46 (And.intro hb B8)))
            clear C18 C46 F hy hg1 hg2 hg3 hg4 hjl gx gp hp0 hp1
            go_upto_region 15 with (first | (go_at_call 18; refine (HK.out.1 _ (below3 HK.out.2.2.1 HK.out.2.2.2)).mono ?_; rintro e w2 ⟨rfl, rfl⟩))
            generalize wr.alloc (.cells #[.int .i64 y1, .int .i64 y2, .int .i64 y3] 92) = W8 at *
            have b8 := below3 HK.out.2.2.1 HK.out.2.2.2
            clear k0 k1 k2 k3 k4 k5 d0 d1 d2
            obtain ⟨k0, k1, k2, k3, k4, k5⟩ := (FA.out W8 b8).box.cells
            obtain ⟨z0, z1, z2⟩ : W8.cell? ⟨wr.heap.size, 0, none⟩ = some (.int .i64 y1) ∧ W8.cell? ⟨wr.heap.size, 1, none⟩ = some (.int .i64 y2) ∧ W8.cell? ⟨wr.heap.size, 2, none⟩ = some (.int .i64 y3) := by
              refine ⟨?_, ?_, ?_⟩ <;> rw [cell_of_row W8 _ _ _ 92 _ X8] <;> rfl
            go_upto_region 16 with (first | (go_at_call 46; refine (HK.out.2.1 _ b8).mono ?_; rintro e w3 ⟨rfl, b3⟩))
            have z2' : w3.cell? ⟨wr.heap.size, 2, none⟩ = some (.int .i64 y3) := (b3.cell (p := ⟨wr.heap.size, 2, none⟩) (Array.getElem?_eq_some_iff.1 X8).1).trans z2
            have HB3 := Hid.mk (below3 b8 b3)
            clear k0 k1 k2 k3 k4 k5 z0 z1 z2 X8 B8 b3 b8 HK
            generalize wr.heap.size = gx at *
            go_wp2_with fail
            exact ⟨⟨j + 1, by omega, by go_num, HB3.out⟩, by simp [intOf]; omega⟩
          · rw [gx] at C18
            rw [gp] at C46
            have hdb : decide ((512 : Int) ≤ 512 + (c : Int)) = true := by rw [decide_eq_true_iff]; omega
            generalize (512 : Int) + (c : Int) = pl at *
            have HK := Hid.mk (And.intro C18 (And.intro C46 (And.intro hb B8)))
            clear C18 C46 F hy hg1 hg2 hg3 hg4 hjl gx gp hc8
            go_upto_region 15 with (first | (go_at_call 18; refine (HK.out.1 _ (below3 HK.out.2.2.1 HK.out.2.2.2)).mono ?_; rintro e w2 ⟨rfl, rfl⟩))
            generalize wr.alloc (.cells #[.int .i64 y1, .int .i64 y2, .int .i64 y3] 92) = W8 at *
            have b8 := below3 HK.out.2.2.1 HK.out.2.2.2
            clear k0 k1 k2 k3 k4 k5 d0 d1 d2
            obtain ⟨k0, k1, k2, k3, k4, k5⟩ := (FA.out W8 b8).box.cells
            obtain ⟨z0, z1, z2⟩ : W8.cell? ⟨wr.heap.size, 0, none⟩ = some (.int .i64 y1) ∧ W8.cell? ⟨wr.heap.size, 1, none⟩ = some (.int .i64 y2) ∧ W8.cell? ⟨wr.heap.size, 2, none⟩ = some (.int .i64 y3) := by
              refine ⟨?_, ?_, ?_⟩ <;> rw [cell_of_row W8 _ _ _ 92 _ X8] <;> rfl
            go_upto_region 16 with (first | (go_at_call 46; refine (HK.out.2.1 _ b8).mono ?_; rintro e w3 ⟨rfl, b3⟩))
            have z2' : w3.cell? ⟨wr.heap.size, 2, none⟩ = some (.int .i64 y3) := (b3.cell (p := ⟨wr.heap.size, 2, none⟩) (Array.getElem?_eq_some_iff.1 X8).1).trans z2
            have HB3 := Hid.mk (below3 b8 b3)
            clear k0 k1 k2 k3 k4 k5 z0 z1 z2 X8 B8 b3 b8 HK
            generalize wr.heap.size = gx at *
            go_wp2_with fail
            exact ⟨⟨j + 1, by omega, by go_num, HB3.out⟩, by simp [intOf]; omega⟩
        · have hj2 : j = nl := by omega
          subst hj2
          have C18 : ∀ W, Below w1.heap.size w1 W → Calls Try.prog 18 #[.pointer (some ⟨g, 0, none⟩), .int .i64 9, .int .i64 9] W fun e w' => e = .returned (.tuple #[.string (getX X 9 9).1, .int .i64 (getX X 9 9).2.1, .bool (getX X 9 9).2.2]) ∧ W = w' := fun W b => get_tx (FA.out W b).tx (k64 (by decide) (by decide)) (k64 (by decide) (by decide)) (by rw [SM.out.fi]; decide) SM.out.n8
          have C47 : ∀ W, Below w1.heap.size w1 W → Calls Try.prog 47 #[.agg #[.slice a0 k c0, .slice a1 j c1, .slice a2 n2 c2, .slice a3 n3 c3], .int .i64 9, .int .i64 9] W fun e w' => e = .returned (.tuple #[.int .i64 ((getA Q.y 9 9).getD 0), .bool (getA Q.y 9 9).isSome]) ∧ Below W.heap.size W w' := fun W b => rget_rs (FA.out W b).pa.st hbw.out.2 9 9
          rw [SM.out.none 9 9] at C18
          generalize (getX X 9 9).1 = t1 at *
          generalize (getX X 9 9).2.1 = t2 at *
          generalize (getA Q.y 9 9).getD 0 = t3 at *
          generalize (getA Q.y 9 9).isSome = bb at *
          have HK := Hid.mk (And.intro C18 (And.intro C47 hb))
          clear C18 C47 hb F
          go_upto_region 20 with (first | (go_at_call 18; refine (HK.out.1 _ HK.out.2.2).mono ?_; rintro e w2 ⟨rfl, rfl⟩) | (go_at_call 47; refine (HK.out.2.1 _ HK.out.2.2).mono ?_; rintro e w3 ⟨rfl, b3⟩))
          have HB3 := Hid.mk (below3 HK.out.2.2 b3)
          clear HK b3 k0 k1 k2 k3 k4 k5
          cases bb
          all_goals
            go_wp2_with fail
            go_ret
            have := hG.out
            subst this
            exact ⟨rfl, below3 hbw.out.1 HB3.out⟩
end Go.Proofs.Ytccelipljbkkgaa
