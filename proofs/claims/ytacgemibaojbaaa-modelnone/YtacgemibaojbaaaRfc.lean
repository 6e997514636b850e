/-
  The answer's state with one space, bad block or count more, and without a page: the walks of made, bad, worn and without. No condition.
-/
import Derived.Test.YtacgemibaojbaaaRfb
namespace Go.Proofs.Ytacgemibaojbaaa
open Go Go.RowKit Go.Maps

/-- one put into a list -/
def gI {α : Type} (c k : α → Bool) (x : α) : Bool → List α → List α
  | i, [] => if i then [] else [x]
  | i, y :: r => (if !i && c y then [x] else []) ++ (if k y then [y] else []) ++ gI c k x (i || c y) r
theorem gI_case {α : Type} (c k : α → Bool) (x y : α) (i cb kb : Bool) (r : List α) (hc : c y = cb) (hk : k y = kb) : gI c k x i (y :: r) = (if !i && cb then [x] else []) ++ (if kb then [y] else []) ++ gI c k x (i || cb) r := by
  rw [gI, hc, hk]
theorem gI_lenT {α : Type} (c k : α → Bool) (x : α) (l : List α) : (gI c k x true l).length ≤ l.length := by
  induction l with
  | nil => simp [gI]
  | cons z t ih =>
    unfold gI
    simp only [Bool.not_true, Bool.false_and, Bool.false_eq_true, if_false, List.nil_append, Bool.true_or, List.length_append, List.length_cons]
    split <;> simp <;> omega
theorem gI_len {α : Type} (c k : α → Bool) (x : α) (l : List α) : (gI c k x false l).length ≤ l.length + 1 := by
  induction l with
  | nil => simp [gI]
  | cons z t ih =>
    unfold gI
    rw [List.length_append, List.length_append, List.length_cons]
    have hT := gI_lenT c k x t
    cases hc : c z with
    | false =>
      simp only [Bool.and_false, Bool.false_eq_true, if_false, Bool.or_false, List.length_nil]
      split <;> simp <;> omega
    | true =>
      simp only [Bool.not_false, Bool.and_true, if_true, Bool.or_true, List.length_singleton]
      split <;> simp <;> omega
structure WbS (W0 : World) (Bo e sz : Nat) (v : Value) (rows : Rws) (wr : World) : Prop where
  out : Ow wr Bo e sz v rows
  bel : Bel W0 wr
  z : W0.heap.size = Bo
theorem WbS.app {W0 Bo e sz v v3 rows wr wr1 w3} {cs : List Value} (h : WbS W0 Bo e sz v rows wr) (b1 : Bel wr wr1) (g : wr1.grownBy w3 v.ownBlock) (o : Ow w3 Bo e sz v3 (rows ++ [cs])) : WbS W0 Bo e sz v3 (rows ++ [cs]) w3 :=
  ⟨o, bel_app h.out (by rw [h.z]; exact Nat.le_refl _) h.bel b1 g, h.z⟩
theorem WbS.al {W0 Bo e sz v rows wr} (h : WbS W0 Bo e sz v rows wr) (o : Obj) : WbS W0 Bo e sz v rows (wr.alloc o) := ⟨h.out.alloc o, h.bel.alloc o, h.z⟩
theorem WbS.dr {W0 Bo e sz v rows wr} (h : WbS W0 Bo e sz v rows wr) (n : Nat) : WbS W0 Bo e sz v rows (wr.drewN n) := ⟨⟨h.out.own, h.out.len, h.out.one⟩, ⟨h.bel.os, h.bel.tape, h.bel.output, h.bel.size, h.bel.block⟩, h.z⟩
theorem WbS.le {W0 Bo e sz v rows wr} (h : WbS W0 Bo e sz v rows wr) : Bo ≤ wr.heap.size := by have := h.z; have := Below.size h.bel; omega
theorem cells_kept {wr w3 : World} {B e0 sz e : Nat} {v : Value} {rows : Rws} {cs : Array Value} (g3 : (wr.alloc (.cells cs e)).grownBy w3 v.ownBlock) (o : Ow wr B e0 sz v rows) : w3.heap[wr.heap.size]? = some (.cells cs e (0, 0)) :=
  (g3.block wr.heap.size (by rw [size_alloc]; omega) (fun e => Nat.lt_irrefl _ (o.lt _ e.symm).2)).trans (heap_alloc_new wr (.cells cs e))
set_option maxRecDepth 20000 in
set_option maxHeartbeats 4000000 in
theorem rwithout_any {w : World} {B v0 v1 v2 v3 m} (h : RAt w B v0 v1 v2 v3 m) (hn : m.lv.length < 100000) (hB : B ≤ w.heap.size) (id page : Int) : Calls Try.prog 57 #[.agg #[v0, v1, v2, v3], .int .i64 id, .int .i64 page] w fun e w' => ∃ v, e = .returned (.agg #[v0, v, v2, v3]) ∧ RAt w' B v0 v v2 v3 { m with lv := m.lv.filter (fun y : L3 => decide (y.1 ≠ id ∨ 0 ≤ page ∧ y.2.1 ≠ page)) } ∧ (∀ g, v.ownBlock = some g → w.heap.size ≤ g) ∧ Below w.heap.size w w' := by
  obtain ⟨a0, n0, c0, rfl⟩ := h.sp.isSl
  obtain ⟨a2, n2, c2, rfl⟩ := h.bad.isSl
  obtain ⟨a3, n3, c3, rfl⟩ := h.worn.isSl
  obtain ⟨a1, c1, rfl⟩ := h.lv.form
  rw [List.length_map] at h ⊢
  generalize hR : List.filter (fun y : L3 => decide (y.1 ≠ id ∨ 0 ≤ page ∧ y.2.1 ≠ page)) m.lv = R0
  have hRl : R0.length ≤ m.lv.length + 1 := by rw [← hR]; exact Nat.le_trans (List.length_filter_le _ _) (Nat.le_succ _)
  have H := Hid.mk h
  clear h
  go_enter Try.func57, Try.ntmps57
  go_upto_region 1 with fail
  have e0 : (w.alloc (.cells #[.slice a0 n0 c0, .slice a1 m.lv.length c1, .slice a2 n2 c2, .slice a3 n3 c3] 33)).heap.size = w.heap.size + 1 := by rw [size_alloc]
  have s0 := (Box4.fresh w (.slice a0 n0 c0) (.slice a1 m.lv.length c1) (.slice a2 n2 c2) (.slice a3 n3 c3)).alloc (.cells #[.slice none 0 0, .slice none 0 0, .slice none 0 0, .slice none 0 0] 33)
  have q0 := Box4.fresh (w.alloc (.cells #[.slice a0 n0 c0, .slice a1 m.lv.length c1, .slice a2 n2 c2, .slice a3 n3 c3] 33)) (.slice none 0 0) (.slice none 0 0) (.slice none 0 0) (.slice none 0 0)
  rw [e0] at q0
  have b0 : Bel w ((w.alloc (.cells #[.slice a0 n0 c0, .slice a1 m.lv.length c1, .slice a2 n2 c2, .slice a3 n3 c3] 33)).alloc (.cells #[.slice none 0 0, .slice none 0 0, .slice none 0 0, .slice none 0 0] 33)) := ((Bel.refl w).alloc _).alloc _
  have h0 := H.out.call b0
  have z0 : ((w.alloc (.cells #[.slice a0 n0 c0, .slice a1 m.lv.length c1, .slice a2 n2 c2, .slice a3 n3 c3] 33)).alloc (.cells #[.slice none 0 0, .slice none 0 0, .slice none 0 0, .slice none 0 0] 33)).heap.size = w.heap.size + 2 := by rw [size_alloc, e0]
  generalize ((w.alloc (.cells #[.slice a0 n0 c0, .slice a1 m.lv.length c1, .slice a2 n2 c2, .slice a3 n3 c3] 33)).alloc (.cells #[.slice none 0 0, .slice none 0 0, .slice none 0 0, .slice none 0 0] 33)) = W0 at *
  clear e0
  have o0 := Ow.made W0 (B := w.heap.size + 2) (by omega) 90 3
  rw [z0] at o0
  have S0 : WbS W0 (w.heap.size + 2) 90 3 (.slice (some ⟨w.heap.size + 2, 0, none⟩) 0 0) [] (W0.alloc (.cells #[] 90)) := ⟨o0, (Bel.refl W0).alloc _, z0⟩
  replace S0 := Hid.mk S0
  have C0 : Hid (∀ wr, Bel W0 wr → wr.cell? ⟨w.heap.size, 1, none⟩ = some (.slice a1 m.lv.length c1) ∧ Ow wr B 90 3 (.slice a1 m.lv.length c1) (m.lv.map rL)) := fun wr b => by
    exact ⟨(s0.call b).cells.2.1, h0.lv.call b⟩
  have E0 := Hid.mk (And.intro h0 (And.intro s0 (And.intro q0 b0)))
  clear h0 s0 q0 b0 o0
  generalize hG : w.heap.size = G at *
  replace hG := Hid.mk hG
  generalize hl : m.lv = l at *
  replace hl := Hid.mk hl
  have hg3 : G + 2 ≤ W0.heap.size := by omega
  go_upto_region 3 with fail
  go_loopw [7, 8, 9] (fun v i _ wr => ∃ (k : Nat) (outL : List L3), k ≤ l.length ∧ i = .int .i64 k ∧ outL ++ List.filter (fun y : L3 => decide (y.1 ≠ id ∨ 0 ≤ page ∧ y.2.1 ≠ page)) (l.drop k) = R0 ∧ WbS W0 (G + 2) 90 3 v (outL.map rL) wr) (fun _ i _ _ => l.length - (intOf i).toNat)
  case atStart => exact ⟨0, [], Nat.zero_le _, rfl, by simpa using hR, S0.out⟩
  case round =>
    clear S0
    obtain ⟨k, outL, hk, rfl, hgo, hs⟩ := hrel
    obtain ⟨k1, hlv⟩ := C0.out wr hs.bel
    have hol : outL.length ≤ R0.length := by rw [← hgo, List.length_append]; omega
    have hwG : G + 2 ≤ wr.heap.size := hs.le
    have hwG0 : G < wr.heap.size := by omega
    have hwG1 : G + 1 < wr.heap.size := by omega
    by_cases hkn : k < l.length
    · obtain ⟨g, rfl, hgB, hgl, d0, d1, d2⟩ := hlv.at3 hkn
      rw [dropC l k (0, 0, 0) hkn] at hgo
      generalize l.getD k (0, 0, 0) = y at *
      obtain ⟨y1, y2, y3⟩ := y
      simp only at d0 d1 d2
      have HS := Hid.mk (And.intro hs hol)
      clear hs hol hlv
      have hlen : outL.length < 900000 := by have := HS.out.2; omega
      by_cases h1 : y1 = id
      · by_cases h2 : 0 ≤ page
        · by_cases h3 : y2 = page
          · rw [List.filter_cons, if_neg (by simp; omega)] at hgo
            have HG := Hid.mk hgo
            clear hgo
            have f1 : (y1 != id) = false := by first | (simp; done) | (simp; omega)
            have f2 : decide (0 ≤ page) = true := by first | (simp; done) | (simp; omega)
            have f3 : (y2 != page) = false := by first | (simp; done) | (simp; omega)
            clear h1 h2 h3
            go_wp2_with fail
            exact ⟨⟨k + 1, outL, by omega, by go_num, HG.out, HS.out.1.al _⟩, by simp [intOf]; omega⟩
          · rw [List.filter_cons, if_pos (by simp; omega)] at hgo
            have HG := Hid.mk hgo
            clear hgo
            have f1 : (y1 != id) = false := by first | (simp; done) | (simp; omega)
            have f2 : decide (0 ≤ page) = true := by first | (simp; done) | (simp; omega)
            have f3 : (y2 != page) = true := by first | (simp; done) | (simp; omega)
            clear h1 h2 h3
            go_wp2_with (first | (at_builtin; refine wp_app ei90 rfl _ _ rfl (HS.out.1.out.alloc _) (by rw [size_alloc]; omega) #[.int .i64 y1, .int .i64 y2, .int .i64 y3] rfl (by first | rfl | (simp only [size_alloc]; rfl)) rfl (by simp [Value.oneCell']) (by rw [List.length_map]; omega) ?_; intro v4 w4 o4 g4 p4))
            have N4 := HS.out.1.app ((Bel.refl wr).alloc _) g4 o4
            exact ⟨⟨k + 1, outL ++ [(y1, y2, y3)], by omega, by go_num, by have := HG.out; simpa [List.append_assoc] using this, by rw [List.map_append]; exact N4⟩, by simp [intOf]; omega⟩
        · rw [List.filter_cons, if_neg (by simp; omega)] at hgo
          have HG := Hid.mk hgo
          clear hgo
          have f1 : (y1 != id) = false := by first | (simp; done) | (simp; omega)
          have f2 : decide (0 ≤ page) = false := by first | (simp; done) | (simp; omega)
          clear h1 h2
          go_wp2_with fail
          exact ⟨⟨k + 1, outL, by omega, by go_num, HG.out, HS.out.1.al _⟩, by simp [intOf]; omega⟩
      · rw [List.filter_cons, if_pos (by simp; omega)] at hgo
        have HG := Hid.mk hgo
        clear hgo
        have f1 : (y1 != id) = true := by first | (simp; done) | (simp; omega)
        clear h1
        go_wp2_with (first | (at_builtin; refine wp_app ei90 rfl _ _ rfl (HS.out.1.out.alloc _) (by rw [size_alloc]; omega) #[.int .i64 y1, .int .i64 y2, .int .i64 y3] rfl (by first | rfl | (simp only [size_alloc]; rfl)) rfl (by simp [Value.oneCell']) (by rw [List.length_map]; omega) ?_; intro v4 w4 o4 g4 p4))
        have N4 := HS.out.1.app ((Bel.refl wr).alloc _) g4 o4
        exact ⟨⟨k + 1, outL ++ [(y1, y2, y3)], by omega, by go_num, by have := HG.out; simpa [List.append_assoc] using this, by rw [List.map_append]; exact N4⟩, by simp [intOf]; omega⟩
    · have hk2 : k = l.length := by omega
      subst hk2
      rw [List.drop_length, List.filter_nil] at hgo
      obtain ⟨va, vn, vc, rfl⟩ := hs.out.isSl
      have HS := Hid.mk (And.intro hs hol)
      clear hs hol hlv
      have hlen : outL.length < 900000 := by have := HS.out.2; omega
      obtain ⟨f0, s0, q0, b0⟩ := E0.out
      have hwG2 : G + 1 < wr.heap.size := by omega
      have CC : Hid (∀ w5, Bel W0 w5 → (w5.cell? ⟨G, 0, none⟩ = some (.slice a0 n0 c0) ∧ w5.cell? ⟨G, 1, none⟩ = some (.slice a1 l.length c1) ∧ w5.cell? ⟨G, 2, none⟩ = some (.slice a2 n2 c2) ∧ w5.cell? ⟨G, 3, none⟩ = some (.slice a3 n3 c3)) ∧ (w5.cell? ⟨G + 1, 0, none⟩ = some (.slice none 0 0) ∧ w5.cell? ⟨G + 1, 1, none⟩ = some (.slice none 0 0) ∧ w5.cell? ⟨G + 1, 2, none⟩ = some (.slice none 0 0) ∧ w5.cell? ⟨G + 1, 3, none⟩ = some (.slice none 0 0)) ∧ (∀ j, w5.frozen? ⟨G, j, none⟩ = false) ∧ ∀ j, w5.frozen? ⟨G + 1, j, none⟩ = false) := fun w5 b => ⟨(s0.call b).cells, (q0.call b).cells, fun j => (s0.call b).fz j, fun j => (q0.call b).fz j⟩
      have fin : Hid (∀ (v : Value) (w5 : World) (L : List L3), Bel W0 w5 → Ow w5 (G + 2) 90 3 v (L.map rL) → Box4 (set4 (w5.setCell ⟨G, 1, none⟩ v) (G + 1) (.slice a0 n0 c0) v (.slice a2 n2 c2) (.slice a3 n3 c3)) (G + 1) (.slice a0 n0 c0) v (.slice a2 n2 c2) (.slice a3 n3 c3) ∧ RAt (set4 (w5.setCell ⟨G, 1, none⟩ v) (G + 1) (.slice a0 n0 c0) v (.slice a2 n2 c2) (.slice a3 n3 c3)) B (.slice a0 n0 c0) v (.slice a2 n2 c2) (.slice a3 n3 c3) { m with lv := L } ∧ (∀ g, v.ownBlock = some g → w.heap.size ≤ g) ∧ Below w.heap.size w (set4 (w5.setCell ⟨G, 1, none⟩ v) (G + 1) (.slice a0 n0 c0) v (.slice a2 n2 c2) (.slice a3 n3 c3))) := fun v w5 L b o => by
        have e := hG.out
        subst e
        exact end_lv hB H.out b0 s0 q0 (by omega) b o
      clear f0 s0 q0 b0 E0 k1
      obtain ⟨⟨m00, m01, m02, m03⟩, ⟨m20, m21, m22, m23⟩, fr, fs⟩ := CC.out wr HS.out.1.bel
      have fr1 := fr 1
      have g0 := fs 0
      have g1 := fs 1
      have g2 := fs 2
      have g3 := fs 3
      clear fr fs
      rw [List.append_nil] at hgo
      subst hgo
      go_wp2_with fail
      refine bodyPost_ret (st_result rfl rfl (fin.out _ _ _ HS.out.1.bel HS.out.1.out).1) rfl ?_
      have q := (fin.out _ _ _ HS.out.1.bel HS.out.1.out).2
      exact ⟨_, rfl, q⟩
end Go.Proofs.Ytacgemibaojbaaa
