/-
  Same: a state has just what the answer's has. No condition.
-/
import Derived.Test.YtafeclgghgipcaaAlk
namespace Go.Proofs.Ytafeclgghgipcaa
open Go Go.RowKit Go.Maps

theorem get_lv {t : Ab} (h : InvA t) {y : L3} (hy : y ∈ lvA t.sp) : getA t y.1 y.2.1 = some y.2.2 ∧ K64 y.1 ∧ K64 y.2.1 ∧ K64 y.2.2 := by
  obtain ⟨x, hx, q, hp⟩ := lvA_mem hy
  have h1 := h.ids x hx
  have h2 := h.qs x hx
  have h3 := h.pss x hx _ hp
  refine ⟨?_, k64 (by omega) (by omega), k64 (by omega) (by omega), k64 (by omega) (by omega)⟩
  unfold getA
  rw [q, gA_mem h.up hx]
  exact mem_mget (h.ups x hx) hp
theorem r5 {a b c d e : Prop} (h : a ∧ b ∧ c ∧ d ∧ e) : e := h.2.2.2.2
theorem r4 {a b c d : Prop} (h : a ∧ b ∧ c ∧ d) : d := h.2.2.2
theorem r6 {a b c d e f : Prop} (h : a ∧ b ∧ c ∧ d ∧ e ∧ f) : f := h.2.2.2.2.2
/-- what stays while Same looks on -/
structure SmF (s : St) (B G : Nat) (v0 v1 v2 v3 vl : Value) (Bl : Nat) (W : World) : Prop where
  box : Box4 W G v0 v1 v2 v3
  at' : RAt W B v0 v1 v2 v3 (rs (ab s))
  ls : Ow W Bl 51 4 vl ((ab s).sp.map svR)
  st : Whole W s
theorem SmF.call {s B G v0 v1 v2 v3 vl Bl W W'} (h : SmF s B G v0 v1 v2 v3 vl Bl W) (b : Below W.heap.size W W') : SmF s B G v0 v1 v2 v3 vl Bl W' := ⟨h.box.call b, h.at'.call b, h.ls.call b, h.st.call b⟩
set_option maxRecDepth 20000 in
set_option maxHeartbeats 4000000 in
theorem same_any {w : World} {s : St} {B v0 v1 v2 v3} (h : Whole w s) (hr : RAt w B v0 v1 v2 v3 (rs (ab s))) : Calls Try.prog 12 #[.pointer (some ⟨s.p, 0, none⟩), .agg #[v0, v1, v2, v3]] w fun e w' => e = .returned (.bool true) ∧ Below w.heap.size w w' := by
  have hinv := h.inv
  obtain ⟨a0, c0, rfl⟩ := hr.sp.form
  obtain ⟨a1, c1, rfl⟩ := hr.lv.form
  obtain ⟨a2, c2, rfl⟩ := hr.bad.form
  obtain ⟨a3, n3, c3, rfl⟩ := hr.worn.isSl
  have e0 : ((rs (ab s)).sp.map rS).length = (ab s).sp.length := by simp [rs]
  have e1 : ((rs (ab s)).lv.map rL).length = pagesN (ab s).sp := by rw [List.length_map]; exact lvA_len _
  have e2 : (rI (rs (ab s)).bad).length = (ab s).bad.length := by rw [rI_len]; simp [rs]
  rw [e0, e1, e2] at hr ⊢
  clear e0 e1 e2
  have F0 : SmF s B w.heap.size (.slice a0 (ab s).sp.length c0) (.slice a1 (pagesN (ab s).sp) c1) (.slice a2 (ab s).bad.length c2) (.slice a3 n3 c3) (.slice none 0 0) 0 w → True := fun _ => trivial
  clear F0
  have hsps := fun o => spaces_any (h.call (below_al w o))
  have H := Hid.mk (And.intro h hr)
  have HP := Hid.mk hsps
  clear h hr hsps
  go_enter Try.func12, Try.ntmps12
  go_upto_region 2 with (first | (go_at_call 23; refine (HP.out _).mono ?_; rintro e w1 ⟨vl, rfl, ol, bl⟩))
  obtain ⟨la, lc, rfl⟩ := ol.form
  rw [List.length_map] at ol ⊢
  have b0 := below_al w (.cells #[.slice a0 (ab s).sp.length c0, .slice a1 (pagesN (ab s).sp) c1, .slice a2 (ab s).bad.length c2, .slice a3 n3 c3] 30)
  have bw : Below w.heap.size w w1 := below3 b0 bl
  have FA : Hid (∀ W, Below w1.heap.size w1 W → SmF s B w.heap.size (.slice a0 (ab s).sp.length c0) (.slice a1 (pagesN (ab s).sp) c1) (.slice a2 (ab s).bad.length c2) (.slice a3 n3 c3) (.slice la (ab s).sp.length lc) (w.heap.size + 1) W) := fun W b => by
    refine SmF.call (W := w1) ⟨(Box4.fresh w _ _ _ _).call bl, H.out.2.call bw, ?_, H.out.1.call bw⟩ b
    rw [size_alloc] at ol
    exact ol
  have hbw := Hid.mk (And.intro bw hinv)
  clear b0 bw bl ol H HP hinv
  generalize hG : w.heap.size = G at *
  replace hG := Hid.mk hG
  have C26 : ∀ W, Below w1.heap.size w1 W → Calls Try.prog 26 #[.pointer (some ⟨s.p, 0, none⟩)] W fun e w' => e = .returned (.int .i64 (pagesN (ab s).sp : Int)) ∧ Below W.heap.size W w' := fun W b => keys_any (FA.out W b).st
  have C25 : ∀ W, Below w1.heap.size w1 W → Calls Try.prog 25 #[.pointer (some ⟨s.p, 0, none⟩)] W fun e w' => e = .returned (.int .i64 (s.refs.length : Int)) ∧ W = w' := fun W b => live_any (FA.out W b).st.at'
  have C20 : ∀ W, Below w1.heap.size w1 W → Calls Try.prog 20 #[.pointer (some ⟨s.p, 0, none⟩)] W fun e w' => e = .returned (.int .i64 ((ab s).bad.length : Int)) ∧ W = w' := fun W b => bads_any (FA.out W b).st.at'
  have C38 : ∀ W, Below w1.heap.size w1 W → Calls Try.prog 38 #[.agg #[.slice a0 (ab s).sp.length c0, .slice a1 (pagesN (ab s).sp) c1, .slice a2 (ab s).bad.length c2, .slice a3 n3 c3]] W fun e w' => e = .returned (.int .i64 (s.refs.length : Int)) ∧ Below W.heap.size W w' := fun W b => by
    have F := FA.out W b
    have q := rlive_any F.at' (by have := (lens_rs F.st.inv).2.1; omega)
    rw [show nL (rs (ab s)).lv (rs (ab s)).lv.length = s.refs.length from nL_refs F.st.refs F.st.at'.hR.up] at q
    exact q
  have kS : Hid (∀ w', Below w1.heap.size w1 w' → w'.cell? ⟨G, 0, none⟩ = some (.slice a0 (ab s).sp.length c0) ∧ w'.cell? ⟨G, 1, none⟩ = some (.slice a1 (pagesN (ab s).sp) c1) ∧ w'.cell? ⟨G, 2, none⟩ = some (.slice a2 (ab s).bad.length c2) ∧ w'.cell? ⟨G, 3, none⟩ = some (.slice a3 n3 c3) ∧ Below w1.heap.size w1 w') := fun w' q => by
    obtain ⟨q0, q1, q2, q3⟩ := (FA.out w' q).box.cells
    exact ⟨q0, q1, q2, q3, q⟩
  have HC := Hid.mk (And.intro C26 (And.intro C25 (And.intro C38 C20)))
  clear C26 C25 C38 C20
  generalize hn : (ab s).sp.length = n at *
  generalize hnl : pagesN (ab s).sp = nl at *
  generalize hnb : (ab s).bad.length = nb at *
  generalize hnr : (s.refs : Pl).length = nr at *
  have hn15 : n ≤ 15 := by have := hbw.out.2.len; omega
  replace hn := Hid.mk hn
  replace hnl := Hid.mk hnl
  replace hnb := Hid.mk hnb
  clear hnr
  go_region_held3 (fun w' => w'.cell? ⟨G, 0, none⟩ = some (.slice a0 n c0) ∧ w'.cell? ⟨G, 1, none⟩ = some (.slice a1 nl c1) ∧ w'.cell? ⟨G, 2, none⟩ = some (.slice a2 nb c2) ∧ w'.cell? ⟨G, 3, none⟩ = some (.slice a3 n3 c3) ∧ Below w1.heap.size w1 w')
    (first | assumption | exact kS.out _ (Below.refl _ w1) | exact kS.out _ (Below.refl _ w1).drew | exact kS.out _ (below3 (r5 (by assumption)) (by assumption)) | fail)
    (first | (go_at_call 26; refine (HC.out.1 _ (r5 (by assumption))).mono ?_; rintro e w5 ⟨rfl, b5⟩) | (go_at_call 25; refine (HC.out.2.1 _ (r5 (by assumption))).mono ?_; rintro e w6 ⟨rfl, rfl⟩) | (go_at_call 38; refine (HC.out.2.2.1 _ (r5 (by assumption))).mono ?_; rintro e w7 ⟨rfl, b7⟩) | (go_at_call 20; refine (HC.out.2.2.2 _ (r5 (by assumption))).mono ?_; rintro e w8 ⟨rfl, rfl⟩))
  have hb : Below w1.heap.size w1 w7 := r5 (by assumption)
  replace hb := Hid.mk hb
  clear b5 b7 HC kS
  go_upto_region 5 with fail
  go_loopw [6] (fun i wr => ∃ k : Nat, k ≤ n ∧ i = .int .i64 k ∧ Below w1.heap.size w1 wr) (fun i _ => n - (intOf i).toNat)
  case atStart => exact ⟨0, Nat.zero_le _, rfl, hb.out⟩
  case round =>
    clear hb
    obtain ⟨k, hk, rfl, hb⟩ := hrel
    have F := FA.out wr hb
    obtain ⟨k0, k1, k2, k3⟩ := F.box.cells
    have hGl := F.box.lt
    by_cases hkn : k < n
    · have hka : k < (ab s).sp.length := by have := hn.out; omega
      have hkl : k < s.sp.length := by simpa [ab] using hka
      have hx := List.getElem_mem hkl
      have hxa : (ab s).sp[k] = (s.sp[k]).a := by simp [ab]
      obtain ⟨g, rfl, hgB, hgl, d0, d1, d2⟩ := F.at'.sp.at3s (j := k) (by simp only [rs, List.length_map]; exact hka)
      have hge : (rs (ab s)).sp.getD k (0, 0, false) = fS (s.sp[k]).a := by
        rw [← hxa]
        simp only [rs]
        rw [List.getD_eq_getElem?_getD, List.getElem?_map, List.getElem?_eq_getElem hka]; rfl
      obtain ⟨gl, rfl, hglB, hgll, hlc⟩ := F.ls.at (j := k) (by rw [List.length_map]; exact hka)
      have hle : ((ab s).sp.map svR).getD k [] = svR (s.sp[k]).a := by
        rw [← hxa, List.getD_eq_getElem?_getD, List.getElem?_map, List.getElem?_eq_getElem hka]; rfl
      rw [hge] at d0 d1 d2
      rw [hle] at hlc
      generalize s.sp[k] = x at *
      replace d0 : wr.cell? ⟨g, k * 3, none⟩ = some (.int .i64 x.id) := d0
      replace d1 : wr.cell? ⟨g, k * 3 + 1, none⟩ = some (.int .i64 x.q) := d1
      replace d2 : wr.cell? ⟨g, k * 3 + 2, none⟩ = some (.bool x.sl) := d2
      have l0 : wr.cell? ⟨gl, k * 4, none⟩ = some (.int .i64 x.id) := hlc 0 (by decide)
      have l1 : wr.cell? ⟨gl, k * 4 + 1, none⟩ = some (.int .i64 x.q) := hlc 1 (by decide)
      have l2 : wr.cell? ⟨gl, k * 4 + 2, none⟩ = some (.int .i64 (x.ps.length : Int)) := hlc 2 (by decide)
      have l3 : wr.cell? ⟨gl, k * 4 + 3, none⟩ = some (.bool x.sl) := hlc 3 (by decide)
      have hgx : gsp s.sp x.id = some x := by
        have h1 : (gsp s.sp x.id).isSome = true := by unfold gsp; rw [List.find?_isSome]; exact ⟨x, hx, by simp⟩
        obtain ⟨y, hy⟩ := Option.isSome_iff_exists.1 h1
        rw [hy, up_one F.st.at'.hS.up (gsp_some hy).1 hx (gsp_some hy).2]
      have C21 : ∀ W, Below w1.heap.size w1 W → Calls Try.prog 21 #[.pointer (some ⟨s.p, 0, none⟩), .int .i64 x.id] W fun e w' => e = .returned (.tuple #[sv x.id x.q (x.ps.length : Int) x.sl, .bool true]) ∧ Below W.heap.size W w' := fun W b => space_some (FA.out W b).st.at' (k15 (hbw.out.2.ids _ (ab_mem hx))) hgx
      have C39 : ∀ W, Below w1.heap.size w1 W → Calls Try.prog 39 #[.agg #[.slice (some ⟨g, 0, none⟩) n c0, .slice a1 nl c1, .slice a2 nb c2, .slice a3 n3 c3], .int .i64 x.id] W fun e w' => e = .returned (.int .i64 (x.ps.length : Int)) ∧ Below W.heap.size W w' := fun W b => by
        have q := rpages_any (FA.out W b).at' (by have := (lens_rs hbw.out.2).2.1; omega) x.id
        rw [show pL x.id (rs (ab s)).lv = x.ps.length from pL_lvA hbw.out.2.up (ab_mem hx)] at q
        exact q
      generalize (x.ps.length : Int) = m at *
      have HK := Hid.mk (And.intro C21 (And.intro C39 (And.intro hb (And.intro F (And.intro l0 (And.intro l1 (And.intro l2 l3)))))))
      clear C21 C39 hgx hlc hle hge hxa hkl hka F
      go_upto_region 9 with (first | (go_at_call 21; refine (HK.out.1 _ (below3 hb (below_al wr _))).mono ?_; rintro e w2 ⟨rfl, b2⟩; unfold sv svC))
      have X8 : (w2.alloc (.cells #[.int .i64 x.id, .int .i64 x.q, .int .i64 m, .bool x.sl] 51)).heap[wr.heap.size]? = some (.cells #[.int .i64 x.id, .int .i64 x.q, .bool x.sl] 67 (0, 0)) := by
        have h1 : wr.heap.size < (wr.alloc (.cells #[.int .i64 x.id, .int .i64 x.q, .bool x.sl] 67)).heap.size := by rw [size_alloc]; omega
        exact ((Below.heap_alloc w2 _ _ (Nat.lt_of_lt_of_le h1 b2.size)).trans (b2.block _ h1)).trans (heap_alloc_new wr _)
      have Y8 : (w2.alloc (.cells #[.int .i64 x.id, .int .i64 x.q, .int .i64 m, .bool x.sl] 51)).heap[w2.heap.size]? = some (.cells #[.int .i64 x.id, .int .i64 x.q, .int .i64 m, .bool x.sl] 51 (0, 0)) := heap_alloc_new w2 _
      have B8 : Below wr.heap.size wr (w2.alloc (.cells #[.int .i64 x.id, .int .i64 x.q, .int .i64 m, .bool x.sl] 51)) := below3 (below3 (below_al wr _) b2) (below_al w2 _)
      generalize w2.alloc (.cells #[.int .i64 x.id, .int .i64 x.q, .int .i64 m, .bool x.sl] 51) = W8 at *
      have kS : Hid (∀ w', Below W8.heap.size W8 w' → Below w1.heap.size w1 w' ∧ (w'.cell? ⟨G, 0, none⟩ = some (.slice (some ⟨g, 0, none⟩) n c0) ∧ w'.cell? ⟨G, 1, none⟩ = some (.slice a1 nl c1) ∧ w'.cell? ⟨G, 2, none⟩ = some (.slice a2 nb c2) ∧ w'.cell? ⟨G, 3, none⟩ = some (.slice a3 n3 c3)) ∧ (w'.cell? ⟨wr.heap.size, 0, none⟩ = some (.int .i64 x.id) ∧ w'.cell? ⟨wr.heap.size, 1, none⟩ = some (.int .i64 x.q) ∧ w'.cell? ⟨wr.heap.size, 2, none⟩ = some (.bool x.sl)) ∧ (w'.cell? ⟨w2.heap.size, 0, none⟩ = some (.int .i64 x.id) ∧ w'.cell? ⟨w2.heap.size, 1, none⟩ = some (.int .i64 x.q) ∧ w'.cell? ⟨w2.heap.size, 2, none⟩ = some (.int .i64 m) ∧ w'.cell? ⟨w2.heap.size, 3, none⟩ = some (.bool x.sl)) ∧ (w'.cell? ⟨gl, k * 4, none⟩ = some (.int .i64 x.id) ∧ w'.cell? ⟨gl, k * 4 + 1, none⟩ = some (.int .i64 x.q) ∧ w'.cell? ⟨gl, k * 4 + 2, none⟩ = some (.int .i64 m) ∧ w'.cell? ⟨gl, k * 4 + 3, none⟩ = some (.bool x.sl)) ∧ Below W8.heap.size W8 w') := fun w' q => by
        have q2 := below3 B8 q
        have q3 := below3 HK.out.2.2.1 q2
        have hX := (q.block _ (Array.getElem?_eq_some_iff.1 X8).1).trans X8
        have hY := (q.block _ (Array.getElem?_eq_some_iff.1 Y8).1).trans Y8
        refine ⟨q3, (FA.out w' q3).box.cells, ⟨?_, ?_, ?_⟩, ⟨?_, ?_, ?_, ?_⟩, ⟨?_, ?_, ?_, ?_⟩, q⟩
        · rw [cell_of_row w' _ 0 _ 67 _ hX]; rfl
        · rw [cell_of_row w' _ 1 _ 67 _ hX]; rfl
        · rw [cell_of_row w' _ 2 _ 67 _ hX]; rfl
        · rw [cell_of_row w' _ 0 _ 51 _ hY]; rfl
        · rw [cell_of_row w' _ 1 _ 51 _ hY]; rfl
        · rw [cell_of_row w' _ 2 _ 51 _ hY]; rfl
        · rw [cell_of_row w' _ 3 _ 51 _ hY]; rfl
        · exact (q2.cell (p := ⟨gl, k * 4, none⟩) hgll).trans HK.out.2.2.2.2.1
        · exact (q2.cell (p := ⟨gl, k * 4 + 1, none⟩) hgll).trans HK.out.2.2.2.2.2.1
        · exact (q2.cell (p := ⟨gl, k * 4 + 2, none⟩) hgll).trans HK.out.2.2.2.2.2.2.1
        · exact (q2.cell (p := ⟨gl, k * 4 + 3, none⟩) hgll).trans HK.out.2.2.2.2.2.2.2
      clear X8 Y8 B8 k0 k1 k2 k3 d0 d1 d2 l0 l1 l2 l3 b2 hb
      generalize wr.heap.size = gx at *
      generalize w2.heap.size = gy at *
      generalize x.id = x1 at *
      generalize x.q = x2 at *
      generalize x.sl = x3 at *
      as_aux_lemma =>
        go_region_held3 (fun w' => Below w1.heap.size w1 w' ∧ (w'.cell? ⟨G, 0, none⟩ = some (.slice (some ⟨g, 0, none⟩) n c0) ∧ w'.cell? ⟨G, 1, none⟩ = some (.slice a1 nl c1) ∧ w'.cell? ⟨G, 2, none⟩ = some (.slice a2 nb c2) ∧ w'.cell? ⟨G, 3, none⟩ = some (.slice a3 n3 c3)) ∧ (w'.cell? ⟨gx, 0, none⟩ = some (.int .i64 x1) ∧ w'.cell? ⟨gx, 1, none⟩ = some (.int .i64 x2) ∧ w'.cell? ⟨gx, 2, none⟩ = some (.bool x3)) ∧ (w'.cell? ⟨gy, 0, none⟩ = some (.int .i64 x1) ∧ w'.cell? ⟨gy, 1, none⟩ = some (.int .i64 x2) ∧ w'.cell? ⟨gy, 2, none⟩ = some (.int .i64 m) ∧ w'.cell? ⟨gy, 3, none⟩ = some (.bool x3)) ∧ (w'.cell? ⟨gl, k * 4, none⟩ = some (.int .i64 x1) ∧ w'.cell? ⟨gl, k * 4 + 1, none⟩ = some (.int .i64 x2) ∧ w'.cell? ⟨gl, k * 4 + 2, none⟩ = some (.int .i64 m) ∧ w'.cell? ⟨gl, k * 4 + 3, none⟩ = some (.bool x3)) ∧ Below W8.heap.size W8 w')
          (first | assumption | exact kS.out _ (Below.refl _ W8) | exact kS.out _ (Below.refl _ W8).drew | exact kS.out _ (below3 (r6 (by assumption)) (by assumption)) | fail)
          (first | (go_at_call 39; refine (HK.out.2.1 _ (And.left (by assumption))).mono ?_; rintro e w9 ⟨rfl, b9⟩))
        have hb9 : Hid (Below w1.heap.size w1 w9) := And.left (by assumption)
        clear b9 kS HK
        go_wp2_with fail
        exact ⟨⟨k + 1, by omega, by go_num, hb9.out⟩, by simp [intOf]; omega⟩
    · have hk2 : k = n := by omega
      subst hk2
      have HB := Hid.mk hb
      clear hb F
      go_upto_region 12 with fail
      clear k0 k1 k2 k3
      go_loopw [10] (fun i wr => ∃ j : Nat, j ≤ nl ∧ i = .int .i64 j ∧ Below w1.heap.size w1 wr) (fun i _ => nl - (intOf i).toNat)
      case atStart => exact ⟨0, Nat.zero_le _, rfl, HB.out⟩
      case round =>
        clear HB
        obtain ⟨j, hj, rfl, hb⟩ := hrel
        have F := FA.out wr hb
        obtain ⟨k0, k1, k2, k3⟩ := F.box.cells
        have hGl2 := F.box.lt
        by_cases hjn : j < nl
        · have hjl : j < (lvA (ab s).sp).length := by rw [lvA_len]; have := hnl.out; omega
          obtain ⟨g, rfl, hgB, hgl, d0, d1, d2⟩ := F.at'.lv.at3 (j := j) hjl
          have hy : (rs (ab s)).lv.getD j (0, 0, 0) ∈ lvA (ab s).sp := by
            show (lvA (ab s).sp).getD j (0, 0, 0) ∈ _
            rw [List.getD_eq_getElem?_getD, List.getElem?_eq_getElem hjl]
            exact List.getElem_mem hjl
          generalize (rs (ab s)).lv.getD j (0, 0, 0) = y at *
          obtain ⟨hg1, hg2, hg3, hg4⟩ := get_lv hbw.out.2 hy
          obtain ⟨y1, y2, y3⟩ := y
          simp only at d0 d1 d2 hg1 hg2 hg3 hg4
          have C13 : ∀ W, Below w1.heap.size w1 W → Calls Try.prog 13 #[.pointer (some ⟨s.p, 0, none⟩), .int .i64 y1, .int .i64 y2] W fun e w' => e = .returned (.tuple #[.int .i64 y3, .bool true]) ∧ W = w' := fun W b => by
            have q := get_any (FA.out W b).st.at' hg2 hg3
            rw [hg1] at q
            exact q
          have C24 : ∀ W, Below w1.heap.size w1 W → Calls Try.prog 24 #[.pointer (some ⟨s.p, 0, none⟩), .int .i64 y3] W fun e w' => e = .returned (.int .i64 (cntA (ab s).sp y3 : Int)) ∧ W = w' := fun W b => by
            have q := refs_any (FA.out W b).st.at' hg4
            rw [(FA.out W b).st.refs.val] at q
            exact q
          have C40 : ∀ W, Below w1.heap.size w1 W → Calls Try.prog 40 #[.agg #[.slice a0 k c0, .slice (some ⟨g, 0, none⟩) nl c1, .slice a2 nb c2, .slice a3 n3 c3], .int .i64 y3] W fun e w' => e = .returned (.int .i64 (cntA (ab s).sp y3 : Int)) ∧ Below W.heap.size W w' := fun W b => by
            have q := rrefs_any (FA.out W b).at' (by have := (lens_rs hbw.out.2).2.1; omega) y3
            rw [show cL y3 (rs (ab s)).lv = cntA (ab s).sp y3 from cL_lvA _ _] at q
            exact q
          generalize (cntA (ab s).sp y3 : Int) = m at *
          have HK := Hid.mk (And.intro C13 (And.intro C24 (And.intro C40 hb)))
          clear C13 C24 C40 F hy hg1 hjl
          go_upto_region 16 with (first | (go_at_call 13; refine (HK.out.1 _ (below3 hb (below_al wr _))).mono ?_; rintro e w2 ⟨rfl, rfl⟩))
          have X8 := heap_alloc_new wr (.cells #[.int .i64 y1, .int .i64 y2, .int .i64 y3] 69)
          have B8 := below_al wr (.cells #[.int .i64 y1, .int .i64 y2, .int .i64 y3] 69)
          generalize wr.alloc (.cells #[.int .i64 y1, .int .i64 y2, .int .i64 y3] 69) = W8 at *
          have kS : Hid (∀ w', Below W8.heap.size W8 w' → Below w1.heap.size w1 w' ∧ (w'.cell? ⟨G, 0, none⟩ = some (.slice a0 k c0) ∧ w'.cell? ⟨G, 1, none⟩ = some (.slice (some ⟨g, 0, none⟩) nl c1) ∧ w'.cell? ⟨G, 2, none⟩ = some (.slice a2 nb c2) ∧ w'.cell? ⟨G, 3, none⟩ = some (.slice a3 n3 c3)) ∧ (w'.cell? ⟨wr.heap.size, 0, none⟩ = some (.int .i64 y1) ∧ w'.cell? ⟨wr.heap.size, 1, none⟩ = some (.int .i64 y2) ∧ w'.cell? ⟨wr.heap.size, 2, none⟩ = some (.int .i64 y3)) ∧ Below W8.heap.size W8 w') := fun w' q => by
            have q3 := below3 HK.out.2.2.2 (below3 B8 q)
            have hX := (q.block _ (Array.getElem?_eq_some_iff.1 X8).1).trans X8
            refine ⟨q3, (FA.out w' q3).box.cells, ⟨?_, ?_, ?_⟩, q⟩
            · rw [cell_of_row w' _ 0 _ 69 _ hX]; rfl
            · rw [cell_of_row w' _ 1 _ 69 _ hX]; rfl
            · rw [cell_of_row w' _ 2 _ 69 _ hX]; rfl
          clear X8 B8 k0 k1 k2 k3 d0 d1 d2 hb
          generalize wr.heap.size = gx at *
          have hnl2 : nl < 50000 := by have := (lens_rs hbw.out.2).2.1; have := lvA_len (ab s).sp; have := hnl.out; simp only [rs] at *; omega
          as_aux_lemma =>
            go_region_held3 (fun w' => Below w1.heap.size w1 w' ∧ (w'.cell? ⟨G, 0, none⟩ = some (.slice a0 k c0) ∧ w'.cell? ⟨G, 1, none⟩ = some (.slice (some ⟨g, 0, none⟩) nl c1) ∧ w'.cell? ⟨G, 2, none⟩ = some (.slice a2 nb c2) ∧ w'.cell? ⟨G, 3, none⟩ = some (.slice a3 n3 c3)) ∧ (w'.cell? ⟨gx, 0, none⟩ = some (.int .i64 y1) ∧ w'.cell? ⟨gx, 1, none⟩ = some (.int .i64 y2) ∧ w'.cell? ⟨gx, 2, none⟩ = some (.int .i64 y3)) ∧ Below W8.heap.size W8 w')
              (first | assumption | exact kS.out _ (Below.refl _ W8) | exact kS.out _ (Below.refl _ W8).drew | exact kS.out _ (below3 (r4 (by assumption)) (by assumption)) | fail)
              (first | (go_at_call 24; refine (HK.out.2.1 _ (And.left (by assumption))).mono ?_; rintro e w5 ⟨rfl, rfl⟩) | (go_at_call 40; refine (HK.out.2.2.1 _ (And.left (by assumption))).mono ?_; rintro e w9 ⟨rfl, b9⟩))
            have hb9 : Hid (Below w1.heap.size w1 w9) := And.left (by assumption)
            clear b9 kS HK
            go_wp2_with fail
            exact ⟨⟨j + 1, by omega, by go_num, hb9.out⟩, by simp [intOf]; omega⟩
        · have hj2 : j = nl := by omega
          subst hj2
          have hN0 := dump_rs hbw.out.2
          rw [dump_same hbw.out.2] at hN0
          have C16 : ∀ W, Below w1.heap.size w1 W → Calls Try.prog 16 #[.pointer (some ⟨s.p, 0, none⟩)] W fun e w' => ∃ a c, e = .returned (.slice a (dumpA (ab s)).length c) ∧ Ow w' G 36 6 (.slice a (dumpA (ab s)).length c) ((dumpA (ab s)).map rR) ∧ Below W.heap.size W w' := fun W b => by
            refine (dump_any (FA.out W b).st).mono ?_
            rintro e w' ⟨v, rfl, o, b'⟩
            obtain ⟨a, c, rfl⟩ := o.form
            rw [List.length_map] at o ⊢
            exact ⟨a, c, rfl, o.lower (Nat.le_of_lt (FA.out W b).box.lt), b'⟩
          have C41 : ∀ W, Below w1.heap.size w1 W → Calls Try.prog 41 #[.agg #[.slice a0 k c0, .slice a1 j c1, .slice a2 nb c2, .slice a3 n3 c3]] W fun e w' => ∃ a c, e = .returned (.slice a (dumpA (ab s)).length c) ∧ Ow w' G 36 6 (.slice a (dumpA (ab s)).length c) ((dumpA (ab s)).map rR) ∧ Below W.heap.size W w' := fun W b => by
            have q := rdump_any (FA.out W b).at' (dump_rs hbw.out.2) (lens_rs hbw.out.2)
            rw [dump_same hbw.out.2] at q
            refine q.mono ?_
            rintro e w' ⟨v, rfl, o, b'⟩
            obtain ⟨a, c, rfl⟩ := o.form
            rw [List.length_map] at o ⊢
            exact ⟨a, c, rfl, o.lower (Nat.le_of_lt (FA.out W b).box.lt), b'⟩
          generalize hN : (dumpA (ab s)).length = N at *
          replace hN := Hid.mk hN
          have kS : Hid (∀ w', Below w1.heap.size w1 w' → Below w1.heap.size w1 w' ∧ w'.cell? ⟨G, 0, none⟩ = some (.slice a0 k c0) ∧ w'.cell? ⟨G, 1, none⟩ = some (.slice a1 j c1) ∧ w'.cell? ⟨G, 2, none⟩ = some (.slice a2 nb c2) ∧ w'.cell? ⟨G, 3, none⟩ = some (.slice a3 n3 c3)) := fun w' q => ⟨q, (FA.out w' q).box.cells⟩
          have HK := Hid.mk (And.intro C16 (And.intro C41 hb))
          clear C16 C41 hb F
          go_upto_region 18 with fail
          clear k0 k1 k2 k3
          go_region_held3 (fun w' => Below w1.heap.size w1 w' ∧ w'.cell? ⟨G, 0, none⟩ = some (.slice a0 k c0) ∧ w'.cell? ⟨G, 1, none⟩ = some (.slice a1 j c1) ∧ w'.cell? ⟨G, 2, none⟩ = some (.slice a2 nb c2) ∧ w'.cell? ⟨G, 3, none⟩ = some (.slice a3 n3 c3))
            (first | assumption | exact kS.out _ HK.out.2.2 | exact kS.out _ HK.out.2.2.drew | exact kS.out _ (below3 (And.left (by assumption)) (by assumption)) | fail)
            (first | (go_at_call 16; refine (HK.out.1 _ (And.left (by assumption))).mono ?_; rintro e w5 ⟨aa, ca, rfl, o5, b5⟩) | (go_at_call 41; refine (HK.out.2.1 _ (And.left (by assumption))).mono ?_; rintro e w6 ⟨ba, cb, rfl, o6, b6⟩))
          · have LA : Hid (∀ W, Below w6.heap.size w6 W → Ow W G 36 6 (.slice aa N ca) ((dumpA (ab s)).map rR) ∧ Ow W G 36 6 (.slice ba N cb) ((dumpA (ab s)).map rR)) := fun W b => ⟨(o5.call b6).call b, o6.call b⟩
            have hb9 : Hid (Below w1.heap.size w1 w6) := And.left (by assumption)
            clear b5 b6 o5 o6 kS HK
            go_upto_region 22 with fail
            go_loopw [16] (fun i wr => ∃ l : Nat, l ≤ N ∧ i = .int .i64 l ∧ Below w6.heap.size w6 wr) (fun i _ => N - (intOf i).toNat)
            case atStart => exact ⟨0, Nat.zero_le _, rfl, Below.refl _ w6⟩
            case round =>
              obtain ⟨l, hl, rfl, hb⟩ := hrel
              by_cases hln : l < N
              · have hll : l < ((dumpA (ab s)).map rR).length := by rw [List.length_map]; have := hN.out; omega
                obtain ⟨oA, oB⟩ := LA.out wr hb
                obtain ⟨ga, rfl, hgaB, hgal, ha⟩ := oA.at hll
                obtain ⟨gb, rfl, hgbB, hgbl, hbb⟩ := oB.at hll
                have hre : ((dumpA (ab s)).map rR).getD l [] = rR ((dumpA (ab s)).getD l (0, 0, 0, 0, 0, 0)) := by
                  rw [List.length_map] at hll
                  rw [List.getD_eq_getElem?_getD, List.getElem?_map, List.getElem?_eq_getElem hll, List.getD_eq_getElem?_getD, List.getElem?_eq_getElem hll]; rfl
                rw [hre] at ha hbb
                generalize (dumpA (ab s)).getD l (0, 0, 0, 0, 0, 0) = r at *
                obtain ⟨r1, r2, r3, r4, r5, r6⟩ := r
                have p0 : wr.cell? ⟨ga, l * 6, none⟩ = some (.int .i64 r1) := ha 0 (by decide)
                have p1 : wr.cell? ⟨ga, l * 6 + 1, none⟩ = some (.int .i64 r2) := ha 1 (by decide)
                have p2 : wr.cell? ⟨ga, l * 6 + 2, none⟩ = some (.int .i64 r3) := ha 2 (by decide)
                have p3 : wr.cell? ⟨ga, l * 6 + 3, none⟩ = some (.int .i64 r4) := ha 3 (by decide)
                have p4 : wr.cell? ⟨ga, l * 6 + 4, none⟩ = some (.int .i64 r5) := ha 4 (by decide)
                have p5 : wr.cell? ⟨ga, l * 6 + 5, none⟩ = some (.int .i64 r6) := ha 5 (by decide)
                have q0 : wr.cell? ⟨gb, l * 6, none⟩ = some (.int .i64 r1) := hbb 0 (by decide)
                have q1 : wr.cell? ⟨gb, l * 6 + 1, none⟩ = some (.int .i64 r2) := hbb 1 (by decide)
                have q2 : wr.cell? ⟨gb, l * 6 + 2, none⟩ = some (.int .i64 r3) := hbb 2 (by decide)
                have q3 : wr.cell? ⟨gb, l * 6 + 3, none⟩ = some (.int .i64 r4) := hbb 3 (by decide)
                have q4 : wr.cell? ⟨gb, l * 6 + 4, none⟩ = some (.int .i64 r5) := hbb 4 (by decide)
                have q5 : wr.cell? ⟨gb, l * 6 + 5, none⟩ = some (.int .i64 r6) := hbb 5 (by decide)
                have HB := Hid.mk hb
                clear hb oA oB ha hbb hre hll
                as_aux_lemma =>
                  go_upto_region 24 with fail
                  go_quiet (fail)
                  go_wp2_with fail
                  exact ⟨⟨l + 1, by omega, by go_num, below_drewN HB.out⟩, by simp [intOf]; omega⟩
              · have hl2 : l = N := by omega
                subst hl2
                have HB := Hid.mk hb
                clear hb
                go_wp2_with fail
                go_ret
                have := hG.out
                subst this
                exact ⟨rfl, below3 hbw.out.1 (below3 hb9.out HB.out)⟩
end Go.Proofs.Ytafeclgghgipcaa
