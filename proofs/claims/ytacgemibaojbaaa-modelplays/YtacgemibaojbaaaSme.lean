/-
  The law's own 'same': a plain device shows just what the plain one has. No condition.
-/
import Derived.Test.YtacgemibaojbaaaPlf
import Derived.Test.YtacgemibaojbaaaSmm
import Derived.Test.YtacgemibaojbaaaLawC
namespace Go.Proofs.Ytacgemibaojbaaa
open Go Go.RowKit Go.Maps

theorem svR_ren (φ : Int → Int) (x : Asp) : svR (renx φ x) = svR x := by
  unfold svR renx renP
  rw [List.length_map]
theorem SimM.sp {L l y tx ix n} (h : SimM L l y tx ix n) : l = y.sp.map (renx (phi ix)) := congrArg Ab.sp h.a
theorem SimM.rows {L l y tx ix n} (h : SimM L l y tx ix n) : l.map svR = y.sp.map svR ∧ l.length = y.sp.length := by
  rw [h.sp]
  refine ⟨?_, by rw [List.length_map]⟩
  rw [List.map_map]
  apply List.map_congr_left
  intro x _
  exact svR_ren _ x
theorem SimM.lv {L l y tx ix n} (h : SimM L l y tx ix n) : lvA l = (lvA y.sp).map (fL3 (phi ix)) := by
  rw [h.sp]; exact lvA_ren _ _
theorem get_lv {t : Ab} (h : InvA t) {y : L3} (hy : y ∈ lvA t.sp) : getA t y.1 y.2.1 = some y.2.2 ∧ K64 y.1 ∧ K64 y.2.1 ∧ K64 y.2.2 := by
  obtain ⟨x, hx, q, hp⟩ := lvA_mem hy
  have h1 := h.ids x hx
  have h2 := h.qs x hx
  have h3 := h.pss x hx _ hp
  refine ⟨?_, k64 (by omega) (by omega), k64 (by omega) (by omega), k64 (by omega) (by omega)⟩
  unfold getA
  rw [q, gA_mem h.up hx]
  exact mem_mget (h.ups x hx) hp
/-- what both say of a page that is there -/
theorem SimM.got {L l y tx ix n} (h : SimM L l y tx ix n) {id page p : Int} (hg : getA y id page = some p) : getA (abl l) id page = some (phi ix p) ∧ getP y tx id page = (L (phi ix p), true) := by
  have hp : 1000 ≤ p ∧ p < 1000 + (tx.length : Int) := by
    have hg2 := hg
    unfold getA at hg2
    cases hx : gA y.sp id with
    | none => rw [hx] at hg2; cases hg2
    | some x =>
      rw [hx] at hg2
      exact h.pls x (gA_some hx).1 _ (mget_mem hg2)
  refine ⟨by rw [h.a, get_ren, hg]; rfl, ?_⟩
  have ht := h.txt (p - 1000).toNat (by omega)
  unfold getP
  rw [hg]
  simp only
  rw [if_neg (by omega), ← ht]
  rfl
theorem s6 {a b c d e : Prop} (h : a ∧ b ∧ c ∧ d ∧ e) : e := h.2.2.2.2
/-- what stays while it looks on -/
structure SeF (g G : Nat) (X : MX) (Bp : Nat) (v0 v1 v2 v3 vt : Value) (y : Ab) (tx : List ByteArray) (vl vf : Value) (Bl : Nat) (W : World) : Prop where
  mx : ∃ bS bO q1 q2, MxH g X bS bO q1 q2 W
  pa : PAt W Bp v0 v1 v2 v3 vt y tx
  box : Box5 W G v0 v1 v2 v3 vt
  ls : Ow W Bl 64 4 vl (y.sp.map svR)
  lf : Ow W Bl 62 3 vf ((lvA (nowL X)).map (lfR X.L))
theorem SeF.call {g G X Bp v0 v1 v2 v3 vt y tx vl vf Bl W W'} (h : SeF g G X Bp v0 v1 v2 v3 vt y tx vl vf Bl W) (b : Below W.heap.size W W') : SeF g G X Bp v0 v1 v2 v3 vt y tx vl vf Bl W' := by
  obtain ⟨⟨_, _, _, _, h1⟩, h2, h3, h4, h5⟩ := h
  exact ⟨⟨_, _, _, _, h1.call b⟩, h2.call b, h3.call b, h4.call b, h5.call b⟩
set_option maxRecDepth 20000 in
set_option maxHeartbeats 4000000 in
theorem same_any {w : World} {g X bS bO q1 q2 Bp v0 v1 v2 v3 vt y tx ix} (h : MxH g X bS bO q1 q2 w) (p : PAt w Bp v0 v1 v2 v3 vt y tx) (S : SimM X.L (nowL X) y tx ix X.puts) (hpu : X.puts ≤ 1000) :
    Calls Try.prog 16 #[.pointer (some ⟨g, 0, none⟩), .agg #[v0, v1, v2, v3, vt]] w fun e w' => e = .returned (.bool true) ∧ Below w.heap.size w w' := by
  have hinv : InvA y := S.inv h.inv.now h.inv.p0 hpu
  obtain ⟨a0, c0, rfl⟩ := p.st.sp.form
  obtain ⟨a1, c1, rfl⟩ := p.st.lv.form
  obtain ⟨a2, n2, c2, rfl⟩ := p.st.bad.isSl
  obtain ⟨a3, n3, c3, rfl⟩ := p.st.worn.isSl
  obtain ⟨at', nt, ct, rfl⟩ := p.tx.isSl
  have e0 : ((rs y).sp.map rS).length = y.sp.length := by simp [rs]
  have e1 : ((rs y).lv.map rL).length = (lvA y.sp).length := by rw [List.length_map]; rfl
  rw [e0, e1] at p ⊢
  clear e0 e1
  have hln : (lvA (nowL X)).length = (lvA y.sp).length := by rw [S.lv, List.length_map]
  have hsps : ∀ W, Below w.heap.size w W → Calls Try.prog 19 #[.pointer (some ⟨g, 0, none⟩)] W fun e w' => ∃ a cap, e = .returned (.slice a y.sp.length cap) ∧ Ow w' W.heap.size 64 4 (.slice a y.sp.length cap) (y.sp.map svR) ∧ Below W.heap.size W w' := fun W b => by
    have q := spaces_len (h.call b)
    rw [S.rows.1, S.rows.2] at q
    exact q
  have hlfs : ∀ W, Below w.heap.size w W → Calls Try.prog 18 #[.pointer (some ⟨g, 0, none⟩)] W fun e w' => ∃ a cap, e = .returned (.slice a (lvA y.sp).length cap) ∧ Ow w' W.heap.size 62 3 (.slice a (lvA y.sp).length cap) ((lvA (nowL X)).map (lfR X.L)) ∧ Below W.heap.size W w' := fun W b => by
    have q := leaves_len (h.call b)
    rw [hln] at q
    exact q
  have b0 := below_box w (.cells #[.slice a0 y.sp.length c0, .slice a1 (lvA y.sp).length c1, .slice a2 n2 c2, .slice a3 n3 c3, .slice at' nt ct] 36)
  have x0 : Box5 (w.alloc (.cells #[.slice a0 y.sp.length c0, .slice a1 (lvA y.sp).length c1, .slice a2 n2 c2, .slice a3 n3 c3, .slice at' nt ct] 36)) w.heap.size (.slice a0 y.sp.length c0) (.slice a1 (lvA y.sp).length c1) (.slice a2 n2 c2) (.slice a3 n3 c3) (.slice at' nt ct) := heap_alloc_new w _
  have H := Hid.mk (And.intro h (And.intro p (And.intro S (And.intro b0 x0))))
  have HP := Hid.mk (And.intro hsps hlfs)
  clear h hsps hlfs p S b0 x0
  go_enter Try.func16, Try.ntmps16
  go_upto_region 2 with (first | (go_at_call 19; refine (HP.out.1 _ H.out.2.2.2.1).mono ?_; rintro e w1 ⟨la, lc, rfl, ol, bl⟩) | (go_at_call 18; refine (HP.out.2 _ (below3 H.out.2.2.2.1 bl)).mono ?_; rintro e w2 ⟨fa, fc, rfl, ofl, bf⟩))
  have bw : Below w.heap.size w w2 := below3 (below3 H.out.2.2.2.1 bl) bf
  have FA : Hid (∀ W, Below w2.heap.size w2 W → SeF g w.heap.size X Bp (.slice a0 y.sp.length c0) (.slice a1 (lvA y.sp).length c1) (.slice a2 n2 c2) (.slice a3 n3 c3) (.slice at' nt ct) y tx (.slice la y.sp.length lc) (.slice fa (lvA y.sp).length fc) (w.heap.size + 1) W) := fun W b => by
    refine SeF.call (W := w2) ⟨⟨_, _, _, _, H.out.1.call bw⟩, H.out.2.1.call bw, (H.out.2.2.2.2.call bl).call bf, ?_, ?_⟩ b
    · rw [size_alloc] at ol
      exact ol.call bf
    · exact ofl.lower (by have := bl.size; rw [size_alloc] at this; exact this)
  have SM := Hid.mk H.out.2.2.1
  have hbw := Hid.mk (And.intro bw hinv)
  clear bw bl bf ol ofl H HP hinv
  generalize hG : w.heap.size = G at *
  replace hG := Hid.mk hG
  generalize hn : y.sp.length = m at *
  generalize hnl : (lvA y.sp).length = nl at *
  have hm15 : m ≤ 15 := by have := hbw.out.2.len; omega
  have hnl2 : nl < 50000 := by
    have h1 := (lens_rs hbw.out.2).2.1
    have h2 : (rs y).lv.length = nl := hnl
    omega
  replace hn := Hid.mk hn
  replace hnl := Hid.mk hnl
  replace hln := Hid.mk hln
  have F1 := FA.out w2 (Below.refl _ w2)
  obtain ⟨k0, k1, k2, k3, k4⟩ := F1.box.cells
  have hGl := F1.box.lt
  clear F1
  go_upto_region 5 with fail
  clear k0 k1 k2 k3 k4
  go_loopw [7] (fun i wr => ∃ k : Nat, k ≤ m ∧ i = .int .i64 k ∧ Below w2.heap.size w2 wr) (fun i _ => m - (intOf i).toNat)
  case atStart => exact ⟨0, Nat.zero_le _, rfl, Below.refl _ w2⟩
  case round =>
    obtain ⟨k, hk, rfl, hb⟩ := hrel
    have F := FA.out wr hb
    obtain ⟨k0, k1, k2, k3, k4⟩ := F.box.cells
    have hGl2 := F.box.lt
    by_cases hkn : k < m
    · have hka : k < y.sp.length := by have := hn.out; omega
      have hx := List.getElem_mem hka
      obtain ⟨gs, rfl, hgB, hgl, d0, d1, d2⟩ := F.pa.st.sp.at3s (j := k) (by simp only [rs, List.length_map]; exact hka)
      have hge : (rs y).sp.getD k (0, 0, false) = fS y.sp[k] := by
        simp only [rs]
        rw [List.getD_eq_getElem?_getD, List.getElem?_map, List.getElem?_eq_getElem hka]; rfl
      obtain ⟨gl, rfl, hglB, hgll, hlc⟩ := F.ls.at (j := k) (by rw [List.length_map]; exact hka)
      have hle : (y.sp.map svR).getD k [] = svR y.sp[k] := by
        rw [List.getD_eq_getElem?_getD, List.getElem?_map, List.getElem?_eq_getElem hka]; rfl
      rw [hge] at d0 d1 d2
      rw [hle] at hlc
      generalize y.sp[k] = x at *
      replace d0 : wr.cell? ⟨gs, k * 3, none⟩ = some (.int .i64 x.id) := d0
      replace d1 : wr.cell? ⟨gs, k * 3 + 1, none⟩ = some (.int .i64 x.q) := d1
      replace d2 : wr.cell? ⟨gs, k * 3 + 2, none⟩ = some (.bool x.sl) := d2
      have l0 : wr.cell? ⟨gl, k * 4, none⟩ = some (.int .i64 x.id) := hlc 0 (by decide)
      have l1 : wr.cell? ⟨gl, k * 4 + 1, none⟩ = some (.int .i64 x.q) := hlc 1 (by decide)
      have l2 : wr.cell? ⟨gl, k * 4 + 2, none⟩ = some (.int .i64 (x.ps.length : Int)) := hlc 2 (by decide)
      have l3 : wr.cell? ⟨gl, k * 4 + 3, none⟩ = some (.bool x.sl) := hlc 3 (by decide)
      have C45 : ∀ W, Below w2.heap.size w2 W → Calls Try.prog 36 #[.agg #[.slice (some ⟨gs, 0, none⟩) m c0, .slice a1 nl c1, .slice a2 n2 c2, .slice a3 n3 c3], .int .i64 x.id] W fun e w' => e = .returned (.int .i64 (x.ps.length : Int)) ∧ Below W.heap.size W w' := fun W b => by
        have q := rpages_any (FA.out W b).pa.st (by have := (lens_rs hbw.out.2).2.1; omega) x.id
        rw [show pL x.id (rs y).lv = x.ps.length from pL_lvA hbw.out.2.up hx] at q
        exact q
      generalize (x.ps.length : Int) = pn at *
      have HK := Hid.mk (And.intro C45 (And.intro hb (And.intro l0 (And.intro l1 (And.intro l2 l3)))))
      clear C45 hlc hle hge hka F hx
      go_upto_region 8 with fail
      have X8 := heap_alloc_new wr (.cells #[.int .i64 x.id, .int .i64 x.q, .bool x.sl] 87)
      have B8 := below_box wr (.cells #[.int .i64 x.id, .int .i64 x.q, .bool x.sl] 87)
      generalize wr.alloc (.cells #[.int .i64 x.id, .int .i64 x.q, .bool x.sl] 87) = W8 at *
      have kS : Hid (∀ w', Below W8.heap.size W8 w' → Below w2.heap.size w2 w' ∧ (w'.cell? ⟨G, 0, none⟩ = some (.slice (some ⟨gs, 0, none⟩) m c0) ∧ w'.cell? ⟨G, 1, none⟩ = some (.slice a1 nl c1) ∧ w'.cell? ⟨G, 2, none⟩ = some (.slice a2 n2 c2) ∧ w'.cell? ⟨G, 3, none⟩ = some (.slice a3 n3 c3)) ∧ (w'.cell? ⟨wr.heap.size, 0, none⟩ = some (.int .i64 x.id) ∧ w'.cell? ⟨wr.heap.size, 1, none⟩ = some (.int .i64 x.q) ∧ w'.cell? ⟨wr.heap.size, 2, none⟩ = some (.bool x.sl)) ∧ (w'.cell? ⟨gl, k * 4, none⟩ = some (.int .i64 x.id) ∧ w'.cell? ⟨gl, k * 4 + 1, none⟩ = some (.int .i64 x.q) ∧ w'.cell? ⟨gl, k * 4 + 2, none⟩ = some (.int .i64 pn) ∧ w'.cell? ⟨gl, k * 4 + 3, none⟩ = some (.bool x.sl)) ∧ Below W8.heap.size W8 w') := fun w' q => by
        have q2 := below3 B8 q
        have q3 := below3 HK.out.2.1 q2
        have hX := (q.block _ (Array.getElem?_eq_some_iff.1 X8).1).trans X8
        obtain ⟨u0, u1, u2, u3, _⟩ := (FA.out w' q3).box.cells
        refine ⟨q3, ⟨u0, u1, u2, u3⟩, ⟨?_, ?_, ?_⟩, ⟨?_, ?_, ?_, ?_⟩, q⟩
        · rw [cell_of_row w' _ 0 _ 87 _ hX]; rfl
        · rw [cell_of_row w' _ 1 _ 87 _ hX]; rfl
        · rw [cell_of_row w' _ 2 _ 87 _ hX]; rfl
        · exact (q2.cell (p := ⟨gl, k * 4, none⟩) hgll).trans HK.out.2.2.1
        · exact (q2.cell (p := ⟨gl, k * 4 + 1, none⟩) hgll).trans HK.out.2.2.2.1
        · exact (q2.cell (p := ⟨gl, k * 4 + 2, none⟩) hgll).trans HK.out.2.2.2.2.1
        · exact (q2.cell (p := ⟨gl, k * 4 + 3, none⟩) hgll).trans HK.out.2.2.2.2.2
      clear X8 B8 k0 k1 k2 k3 k4 d0 d1 d2 l0 l1 l2 l3 hb
      generalize wr.heap.size = gx at *
      generalize x.id = x1 at *
      generalize x.q = x2 at *
      generalize x.sl = x3 at *
      as_aux_lemma =>
        go_region_held3 (fun w' => Below w2.heap.size w2 w' ∧ (w'.cell? ⟨G, 0, none⟩ = some (.slice (some ⟨gs, 0, none⟩) m c0) ∧ w'.cell? ⟨G, 1, none⟩ = some (.slice a1 nl c1) ∧ w'.cell? ⟨G, 2, none⟩ = some (.slice a2 n2 c2) ∧ w'.cell? ⟨G, 3, none⟩ = some (.slice a3 n3 c3)) ∧ (w'.cell? ⟨gx, 0, none⟩ = some (.int .i64 x1) ∧ w'.cell? ⟨gx, 1, none⟩ = some (.int .i64 x2) ∧ w'.cell? ⟨gx, 2, none⟩ = some (.bool x3)) ∧ (w'.cell? ⟨gl, k * 4, none⟩ = some (.int .i64 x1) ∧ w'.cell? ⟨gl, k * 4 + 1, none⟩ = some (.int .i64 x2) ∧ w'.cell? ⟨gl, k * 4 + 2, none⟩ = some (.int .i64 pn) ∧ w'.cell? ⟨gl, k * 4 + 3, none⟩ = some (.bool x3)) ∧ Below W8.heap.size W8 w')
          (first | assumption | exact kS.out _ (Below.refl _ W8) | exact kS.out _ (Below.refl _ W8).drew | exact kS.out _ (below3 (s6 (by assumption)) (by assumption)) | fail)
          (first | (go_at_call 36; refine (HK.out.1 _ (And.left (by assumption))).mono ?_; rintro e w9 ⟨rfl, b9⟩))
        have hb9 : Hid (Below w2.heap.size w2 w9) := And.left (by assumption)
        clear b9 kS HK
        go_wp2_with fail
        exact ⟨⟨k + 1, by omega, by go_num, hb9.out⟩, by simp [intOf]; omega⟩
    · have hk2 : k = m := by omega
      subst hk2
      have HB := Hid.mk hb
      clear hb F hk hkn
      go_upto_region 11 with fail
      clear k0 k1 k2 k3 k4
      go_loopw [9] (fun i wr => ∃ j : Nat, j ≤ nl ∧ i = .int .i64 j ∧ Below w2.heap.size w2 wr) (fun i _ => nl - (intOf i).toNat)
      case atStart => exact ⟨0, Nat.zero_le _, rfl, HB.out⟩
      case round =>
        clear HB
        obtain ⟨j, hj, rfl, hb⟩ := hrel
        have F := FA.out wr hb
        obtain ⟨k0, k1, k2, k3, k4⟩ := F.box.cells
        have hGl3 := F.box.lt
        by_cases hjn : j < nl
        · have hjl : j < (lvA y.sp).length := by have := hnl.out; omega
          obtain ⟨gs, rfl, hgB, hgl, d0, d1, d2⟩ := F.pa.st.lv.at3 (j := j) hjl
          obtain ⟨gf, rfl, e0, e1, e2⟩ := F.lf.atL (k := j) (by have := hln.out; omega)
          have hgf : gf < wr.heap.size := (F.lf.lt gf rfl).2
          have hy : (rs y).lv.getD j (0, 0, 0) ∈ lvA y.sp := by
            show (lvA y.sp).getD j (0, 0, 0) ∈ _
            rw [List.getD_eq_getElem?_getD, List.getElem?_eq_getElem hjl]
            exact List.getElem_mem hjl
          have hfe : (lvA (nowL X)).getD j (0, 0, 0) = fL3 (phi ix) ((rs y).lv.getD j (0, 0, 0)) := by
            rw [SM.out.lv]
            show ((lvA y.sp).map _).getD j _ = fL3 _ ((lvA y.sp).getD j _)
            rw [List.getD_eq_getElem?_getD, List.getElem?_map, List.getD_eq_getElem?_getD, List.getElem?_eq_getElem hjl]; rfl
          rw [hfe] at e0 e1 e2
          generalize (rs y).lv.getD j (0, 0, 0) = z at *
          obtain ⟨hg1, hg2, hg3, hg4⟩ := get_lv hbw.out.2 hy
          obtain ⟨y1, y2, y3⟩ := z
          simp only at d0 d1 d2 hg1 hg2 hg3 hg4
          simp only [fL3] at e0 e1 e2
          have hgot := SM.out.got hg1
          have C21 : ∀ W, Below w2.heap.size w2 W → Calls Try.prog 21 #[.pointer (some ⟨g, 0, none⟩), .int .i64 y1, .int .i64 y2] W fun e w' => e = .returned (.tuple #[.string (X.L (phi ix y3)), .int .i64 0]) ∧ Below W.heap.size W w' := fun W b => by
            obtain ⟨⟨_, _, _, _, hm⟩, -, -, -, -⟩ := FA.out W b
            have q := get_any hm hg2 hg3
            unfold getM at q
            rw [hgot.1] at q
            exact q
          have C37 : ∀ W, Below w2.heap.size w2 W → Calls Try.prog 37 #[.agg #[.slice a0 k c0, .slice (some ⟨gs, 0, none⟩) nl c1, .slice a2 n2 c2, .slice a3 n3 c3, .slice at' nt ct], .int .i64 y1, .int .i64 y2] W fun e w' => e = .returned (.tuple #[.string (X.L (phi ix y3)), .bool true]) ∧ Below W.heap.size W w' := fun W b => by
            have q := getP_any (FA.out W b).pa.st hbw.out.2 (FA.out W b).pa.tx y1 y2
            rw [hgot.2] at q
            exact q
          have X8 := heap_alloc_new wr (.cells #[.int .i64 y1, .int .i64 y2, .int .i64 y3] 90)
          have B8 := below_box wr (.cells #[.int .i64 y1, .int .i64 y2, .int .i64 y3] 90)
          generalize X.L (phi ix y3) = str at *
          have HK := Hid.mk (And.intro C21 (And.intro C37 (And.intro hb (And.intro B8 (And.intro e0 (And.intro e1 e2))))))
          clear C21 C37 F hy hg1 hg2 hg3 hg4 hjl hgot hfe e0 e1 e2
          go_upto_region 14 with fail
          generalize wr.alloc (.cells #[.int .i64 y1, .int .i64 y2, .int .i64 y3] 90) = W8 at *
          have b8 := below3 HK.out.2.2.1 HK.out.2.2.2.1
          clear k0 k1 k2 k3 k4 d0 d1 d2
          obtain ⟨k0, k1, k2, k3, k4⟩ := (FA.out W8 b8).box.cells
          obtain ⟨z0, z1, z2⟩ : W8.cell? ⟨wr.heap.size, 0, none⟩ = some (.int .i64 y1) ∧ W8.cell? ⟨wr.heap.size, 1, none⟩ = some (.int .i64 y2) ∧ W8.cell? ⟨wr.heap.size, 2, none⟩ = some (.int .i64 y3) := by
            refine ⟨?_, ?_, ?_⟩ <;> rw [cell_of_row W8 _ _ _ 90 _ X8] <;> rfl
          go_upto_region 15 with (first | (go_at_call 37; refine (HK.out.2.1 _ b8).mono ?_; rintro e W9 ⟨rfl, b9⟩))
          have x9 := (b9.block _ (Array.getElem?_eq_some_iff.1 X8).1).trans X8
          have bb9 := below3 b8 b9
          clear k0 k1 k2 k3 k4 z0 z1 z2
          obtain ⟨z0, z1, z2⟩ : W9.cell? ⟨wr.heap.size, 0, none⟩ = some (.int .i64 y1) ∧ W9.cell? ⟨wr.heap.size, 1, none⟩ = some (.int .i64 y2) ∧ W9.cell? ⟨wr.heap.size, 2, none⟩ = some (.int .i64 y3) := by
            refine ⟨?_, ?_, ?_⟩ <;> rw [cell_of_row W9 _ _ _ 90 _ x9] <;> rfl
          go_upto_region 16 with (first | (go_at_call 21; refine (HK.out.1 _ bb9).mono ?_; rintro e V ⟨rfl, bV⟩))
          have xV := (bV.block _ (Array.getElem?_eq_some_iff.1 x9).1).trans x9
          have bbV := below3 bb9 bV
          have bwr : Below wr.heap.size wr V := below3 (below3 HK.out.2.2.2.1 b9) bV
          have f0 := (bwr.cell (p := ⟨gf, j * 3, none⟩) hgf).trans HK.out.2.2.2.2.1
          have f1 := (bwr.cell (p := ⟨gf, j * 3 + 1, none⟩) hgf).trans HK.out.2.2.2.2.2.1
          have f2 := (bwr.cell (p := ⟨gf, j * 3 + 2, none⟩) hgf).trans HK.out.2.2.2.2.2.2
          clear z0 z1 z2
          obtain ⟨z0, z1, z2⟩ : V.cell? ⟨wr.heap.size, 0, none⟩ = some (.int .i64 y1) ∧ V.cell? ⟨wr.heap.size, 1, none⟩ = some (.int .i64 y2) ∧ V.cell? ⟨wr.heap.size, 2, none⟩ = some (.int .i64 y3) := by
            refine ⟨?_, ?_, ?_⟩ <;> rw [cell_of_row V _ _ _ 90 _ xV] <;> rfl
          have HB3 := Hid.mk bbV
          clear X8 B8 b9 b8 bb9 x9 xV bV bbV bwr HK
          generalize wr.heap.size = gx at *
          go_quiet (fail)
          go_wp2_with fail
          exact ⟨⟨j + 1, by omega, by go_num, below_drewN HB3.out⟩, by simp [intOf]; omega⟩
        · have hj2 : j = nl := by omega
          subst hj2
          have HB := Hid.mk hb
          clear hb F
          go_wp2_with fail
          go_ret
          have := hG.out
          subst this
          exact ⟨rfl, below3 hbw.out.1 HB.out⟩
end Go.Proofs.Ytacgemibaojbaaa
