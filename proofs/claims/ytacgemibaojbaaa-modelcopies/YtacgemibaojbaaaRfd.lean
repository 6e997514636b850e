/-
  The answer's made, bad, worn, dropped. No condition.
-/
import Derived.Test.YtacgemibaojbaaaRfc
namespace Go.Proofs.Ytacgemibaojbaaa
open Go Go.RowKit Go.Maps

set_option maxRecDepth 20000 in
set_option maxHeartbeats 4000000 in
theorem rmade_any {w : World} {B v0 v1 v2 v3 m} (h : RAt w B v0 v1 v2 v3 m) (hn : m.sp.length < 100000) (hB : B ≤ w.heap.size) (x1 x2 : Int) (x3 : Bool) : Calls Try.prog 53 #[.agg #[v0, v1, v2, v3], .agg #[.int .i64 x1, .int .i64 x2, .bool x3]] w fun e w' => ∃ v, e = .returned (.agg #[v, v1, v2, v3]) ∧ RAt w' B v v1 v2 v3 { m with sp := gI (fun y : S3 => decide (x1 < y.1)) (fun y : S3 => decide (y.1 ≠ x1)) (x1, x2, x3) false m.sp } ∧ (∀ g, v.ownBlock = some g → w.heap.size ≤ g) ∧ Below w.heap.size w w' := by
  obtain ⟨a1, n1, c1, rfl⟩ := h.lv.isSl
  obtain ⟨a2, n2, c2, rfl⟩ := h.bad.isSl
  obtain ⟨a3, n3, c3, rfl⟩ := h.worn.isSl
  obtain ⟨a0, c0, rfl⟩ := h.sp.form
  rw [List.length_map] at h ⊢
  generalize hR : gI (fun y : S3 => decide (x1 < y.1)) (fun y : S3 => decide (y.1 ≠ x1)) (x1, x2, x3) false m.sp = R0
  have hRl : R0.length ≤ m.sp.length + 1 := by rw [← hR]; exact gI_len _ _ _ _
  have H := Hid.mk h
  clear h
  go_enter Try.func53, Try.ntmps53
  go_upto_region 1 with fail
  have e0 : ((w.alloc (.cells #[.slice a0 m.sp.length c0, .slice a1 n1 c1, .slice a2 n2 c2, .slice a3 n3 c3] 33)).alloc (.cells #[.int .i64 x1, .int .i64 x2, .bool x3] 87)).heap.size = w.heap.size + 1 + 1 := by rw [size_alloc, size_alloc]
  have s0 := ((Box4.fresh w (.slice a0 m.sp.length c0) (.slice a1 n1 c1) (.slice a2 n2 c2) (.slice a3 n3 c3)).alloc (.cells #[.int .i64 x1, .int .i64 x2, .bool x3] 87)).alloc (.cells #[.slice none 0 0, .slice none 0 0, .slice none 0 0, .slice none 0 0] 33)
  have q0 := Box4.fresh ((w.alloc (.cells #[.slice a0 m.sp.length c0, .slice a1 n1 c1, .slice a2 n2 c2, .slice a3 n3 c3] 33)).alloc (.cells #[.int .i64 x1, .int .i64 x2, .bool x3] 87)) (.slice none 0 0) (.slice none 0 0) (.slice none 0 0) (.slice none 0 0)
  rw [e0] at q0
  have r0 : ((w.alloc (.cells #[.slice a0 m.sp.length c0, .slice a1 n1 c1, .slice a2 n2 c2, .slice a3 n3 c3] 33)).alloc (.cells #[.int .i64 x1, .int .i64 x2, .bool x3] 87)).heap[w.heap.size + 1]? = some (.cells #[.int .i64 x1, .int .i64 x2, .bool x3] 87 (0, 0)) := by
    have := heap_alloc_new (w.alloc (.cells #[.slice a0 m.sp.length c0, .slice a1 n1 c1, .slice a2 n2 c2, .slice a3 n3 c3] 33)) (.cells #[.int .i64 x1, .int .i64 x2, .bool x3] 87)
    rw [size_alloc] at this
    exact this
  have t0 := (Below.heap_alloc _ (.cells #[.slice none 0 0, .slice none 0 0, .slice none 0 0, .slice none 0 0] 33) _ (by rw [e0]; omega)).trans r0
  have b0 : Bel w (((w.alloc (.cells #[.slice a0 m.sp.length c0, .slice a1 n1 c1, .slice a2 n2 c2, .slice a3 n3 c3] 33)).alloc (.cells #[.int .i64 x1, .int .i64 x2, .bool x3] 87)).alloc (.cells #[.slice none 0 0, .slice none 0 0, .slice none 0 0, .slice none 0 0] 33)) := (((Bel.refl w).alloc _).alloc _).alloc _
  have h0 := H.out.call b0
  have z0 : (((w.alloc (.cells #[.slice a0 m.sp.length c0, .slice a1 n1 c1, .slice a2 n2 c2, .slice a3 n3 c3] 33)).alloc (.cells #[.int .i64 x1, .int .i64 x2, .bool x3] 87)).alloc (.cells #[.slice none 0 0, .slice none 0 0, .slice none 0 0, .slice none 0 0] 33)).heap.size = w.heap.size + 3 := by rw [size_alloc, e0]
  generalize (((w.alloc (.cells #[.slice a0 m.sp.length c0, .slice a1 n1 c1, .slice a2 n2 c2, .slice a3 n3 c3] 33)).alloc (.cells #[.int .i64 x1, .int .i64 x2, .bool x3] 87)).alloc (.cells #[.slice none 0 0, .slice none 0 0, .slice none 0 0, .slice none 0 0] 33)) = W0 at *
  clear r0 e0
  have o0 := Ow.made W0 (B := w.heap.size + 3) (by omega) 87 3
  rw [z0] at o0
  have S0 : WbS W0 (w.heap.size + 3) 87 3 (.slice (some ⟨w.heap.size + 3, 0, none⟩) 0 0) [] (W0.alloc (.cells #[] 87)) := ⟨o0, (Bel.refl W0).alloc _, z0⟩
  replace S0 := Hid.mk S0
  have C0 : Hid (∀ wr, Bel W0 wr → wr.cell? ⟨w.heap.size, 0, none⟩ = some (.slice a0 m.sp.length c0) ∧ wr.cell? ⟨w.heap.size + 1, 0, none⟩ = some (.int .i64 x1) ∧ wr.cell? ⟨w.heap.size + 1, 1, none⟩ = some (.int .i64 x2) ∧ wr.cell? ⟨w.heap.size + 1, 2, none⟩ = some (.bool x3) ∧ Ow wr B 87 3 (.slice a0 m.sp.length c0) (m.sp.map rS)) := fun wr b => by
    have u := (Below.block b _ (by omega)).trans t0
    refine ⟨(s0.call b).cells.1, ?_, ?_, ?_, h0.sp.call b⟩ <;> (rw [cell_of_row wr _ _ _ 87 _ u]; rfl)
  have E0 := Hid.mk (And.intro h0 (And.intro s0 (And.intro q0 b0)))
  clear h0 s0 q0 b0 o0 t0
  generalize hG : w.heap.size = G at *
  replace hG := Hid.mk hG
  generalize hl : m.sp = l at *
  replace hl := Hid.mk hl
  have hg3 : G + 3 ≤ W0.heap.size := by omega
  go_upto_region 3 with fail
  go_loopw [5, 6, 7] (fun v vb i wr => ∃ (k : Nat) (inn : Bool) (outL : List S3), k ≤ l.length ∧ vb = .bool inn ∧ i = .int .i64 k ∧ outL ++ gI (fun y : S3 => decide (x1 < y.1)) (fun y : S3 => decide (y.1 ≠ x1)) (x1, x2, x3) inn (l.drop k) = R0 ∧ WbS W0 (G + 3) 87 3 v (outL.map rS) wr) (fun _ _ i _ => l.length - (intOf i).toNat)
  case atStart => exact ⟨0, false, [], Nat.zero_le _, rfl, rfl, by simpa using hR, S0.out⟩
  case round =>
    clear S0
    obtain ⟨k, inn, outL, hk, rfl, rfl, hgo, hs⟩ := hrel
    obtain ⟨k1, j0, j1, j2, hlv⟩ := C0.out wr hs.bel
    have hol : outL.length ≤ R0.length := by rw [← hgo, List.length_append]; omega
    have hwG : G + 3 ≤ wr.heap.size := hs.le
    have hwG0 : G < wr.heap.size := by omega
    have hwG1 : G + 1 < wr.heap.size := by omega
    by_cases hkn : k < l.length
    · obtain ⟨g, rfl, hgB, hgl, d0, d1, d2⟩ := hlv.at3s hkn
      rw [dropC l k (0, 0, false) hkn] at hgo
      obtain ⟨y, hyv⟩ : ∃ y, l.getD k (0, 0, false) = y := ⟨_, rfl⟩
      rw [hyv] at d0 d1 d2 hgo
      obtain ⟨y1, y2, y3⟩ := y
      simp only at d0 d1 d2
      replace hyv := Hid.mk hyv
      have HS := Hid.mk (And.intro hs hol)
      clear hs hol hlv
      have hlen : outL.length < 900000 := by have := HS.out.2; omega
      cases inn
      · rcases Int.lt_trichotomy x1 y1 with hr | hr | hr
        · have h5 := gI_case (fun y : S3 => decide (x1 < y.1)) (fun y : S3 => decide (y.1 ≠ x1)) (x1, x2, x3) (y1, y2, y3) false true true (l.drop (k + 1)) (by first | (simp; done) | (simp; omega)) (by first | (simp; done) | (simp; omega))
          have hgo2 : outL ++ ([(x1, x2, x3)] ++ [(y1, y2, y3)] ++ gI (fun y : S3 => decide (x1 < y.1)) (fun y : S3 => decide (y.1 ≠ x1)) (x1, x2, x3) true (l.drop (k + 1))) = R0 := by rw [h5] at hgo; exact hgo
          have HG := Hid.mk hgo2
          clear h5 hgo hgo2
          have f1 : decide (x1 < y1) = true := by first | (simp; done) | (simp; omega)
          have f2 : (y1 != x1) = true := by first | (simp; done) | (simp; omega)
          clear hr
          go_upto_region 5 with fail
          go_quiet (fail)
          go_upto_region 7 with (first | (at_builtin; refine wp_app ei87 rfl _ _ rfl ((HS.out.1.dr _).out) ((HS.out.1.dr _).le) #[.int .i64 x1, .int .i64 x2, .bool x3] rfl (by first | rfl | (simp only [size_alloc]; rfl)) rfl (by simp [Value.oneCell']) (by rw [List.length_map]; omega) ?_; intro v3 w3 o3 g3 p3))
          have N3 := (HS.out.1.dr _).app (Bel.refl _) g3 o3
          obtain ⟨kk1, jj0, jj1, jj2, hlv3⟩ := C0.out w3 N3.bel
          obtain ⟨g3x, e3x, _, _, dd0, dd1, dd2⟩ := hlv3.at3s hkn
          cases e3x
          rw [hyv.out] at dd0 dd1 dd2
          simp only at dd0 dd1 dd2
          clear hlv3 p3
          have hw3 : G + 3 ≤ w3.heap.size := N3.le
          have hw30 : G < w3.heap.size := by omega
          have hw31 : G + 1 < w3.heap.size := by omega
          replace N3 := Hid.mk N3
          clear o3 g3
          go_quiet (fail)
          go_wp2_with (first | (at_builtin; refine wp_app ei87 rfl _ _ rfl ((N3.out.dr _).out) ((N3.out.dr _).le) #[.int .i64 y1, .int .i64 y2, .bool y3] rfl (by first | rfl | (simp only [size_alloc]; rfl)) rfl (by simp [Value.oneCell']) (by (rw [List.length_append, List.length_map, List.length_singleton]; omega)) ?_; intro v4 w4 o4 g4 p4))
          have N4 := (N3.out.dr _).app (Bel.refl _) g4 o4
          exact ⟨⟨k + 1, true, outL ++ [(x1, x2, x3)] ++ [(y1, y2, y3)], by omega, rfl, by go_num, by have := HG.out; simpa [List.append_assoc] using this, by rw [List.map_append, List.map_append]; exact N4⟩, by simp [intOf]; omega⟩
        · have h5 := gI_case (fun y : S3 => decide (x1 < y.1)) (fun y : S3 => decide (y.1 ≠ x1)) (x1, x2, x3) (y1, y2, y3) false false false (l.drop (k + 1)) (by first | (simp; done) | (simp; omega)) (by first | (simp; done) | (simp; omega))
          have hgo2 : outL ++ ([] ++ [] ++ gI (fun y : S3 => decide (x1 < y.1)) (fun y : S3 => decide (y.1 ≠ x1)) (x1, x2, x3) false (l.drop (k + 1))) = R0 := by rw [h5] at hgo; exact hgo
          have HG := Hid.mk hgo2
          clear h5 hgo hgo2
          have f1 : decide (x1 < y1) = false := by first | (simp; done) | (simp; omega)
          have f2 : (y1 != x1) = false := by first | (simp; done) | (simp; omega)
          clear hr
          go_upto_region 5 with fail
          go_quiet (fail)
          go_upto_region 7 with fail
          go_quiet (fail)
          go_wp2_with fail
          exact ⟨⟨k + 1, false, outL, by omega, rfl, by go_num, by have := HG.out; simpa [List.append_assoc] using this, HS.out.1.dr _⟩, by simp [intOf]; omega⟩
        · have h5 := gI_case (fun y : S3 => decide (x1 < y.1)) (fun y : S3 => decide (y.1 ≠ x1)) (x1, x2, x3) (y1, y2, y3) false false true (l.drop (k + 1)) (by first | (simp; done) | (simp; omega)) (by first | (simp; done) | (simp; omega))
          have hgo2 : outL ++ ([] ++ [(y1, y2, y3)] ++ gI (fun y : S3 => decide (x1 < y.1)) (fun y : S3 => decide (y.1 ≠ x1)) (x1, x2, x3) false (l.drop (k + 1))) = R0 := by rw [h5] at hgo; exact hgo
          have HG := Hid.mk hgo2
          clear h5 hgo hgo2
          have f1 : decide (x1 < y1) = false := by first | (simp; done) | (simp; omega)
          have f2 : (y1 != x1) = true := by first | (simp; done) | (simp; omega)
          clear hr
          go_upto_region 5 with fail
          go_quiet (fail)
          go_upto_region 7 with fail
          go_quiet (fail)
          go_wp2_with (first | (at_builtin; refine wp_app ei87 rfl _ _ rfl ((HS.out.1.dr _).out) ((HS.out.1.dr _).le) #[.int .i64 y1, .int .i64 y2, .bool y3] rfl (by first | rfl | (simp only [size_alloc]; rfl)) rfl (by simp [Value.oneCell']) (by rw [List.length_map]; omega) ?_; intro v4 w4 o4 g4 p4))
          have N4 := (HS.out.1.dr _).app (Bel.refl _) g4 o4
          exact ⟨⟨k + 1, false, outL ++ [(y1, y2, y3)], by omega, rfl, by go_num, by have := HG.out; simpa [List.append_assoc] using this, by rw [List.map_append]; exact N4⟩, by simp [intOf]; omega⟩
      · rcases Int.lt_trichotomy x1 y1 with hr | hr | hr
        · have h5 := gI_case (fun y : S3 => decide (x1 < y.1)) (fun y : S3 => decide (y.1 ≠ x1)) (x1, x2, x3) (y1, y2, y3) true true true (l.drop (k + 1)) (by first | (simp; done) | (simp; omega)) (by first | (simp; done) | (simp; omega))
          have hgo2 : outL ++ ([] ++ [(y1, y2, y3)] ++ gI (fun y : S3 => decide (x1 < y.1)) (fun y : S3 => decide (y.1 ≠ x1)) (x1, x2, x3) true (l.drop (k + 1))) = R0 := by rw [h5] at hgo; exact hgo
          have HG := Hid.mk hgo2
          clear h5 hgo hgo2
          have f1 : decide (x1 < y1) = true := by first | (simp; done) | (simp; omega)
          have f2 : (y1 != x1) = true := by first | (simp; done) | (simp; omega)
          clear hr
          go_upto_region 5 with fail
          go_quiet (fail)
          go_upto_region 7 with fail
          go_quiet (fail)
          go_wp2_with (first | (at_builtin; refine wp_app ei87 rfl _ _ rfl ((HS.out.1.dr _).out) ((HS.out.1.dr _).le) #[.int .i64 y1, .int .i64 y2, .bool y3] rfl (by first | rfl | (simp only [size_alloc]; rfl)) rfl (by simp [Value.oneCell']) (by rw [List.length_map]; omega) ?_; intro v4 w4 o4 g4 p4))
          have N4 := (HS.out.1.dr _).app (Bel.refl _) g4 o4
          exact ⟨⟨k + 1, true, outL ++ [(y1, y2, y3)], by omega, rfl, by go_num, by have := HG.out; simpa [List.append_assoc] using this, by rw [List.map_append]; exact N4⟩, by simp [intOf]; omega⟩
        · have h5 := gI_case (fun y : S3 => decide (x1 < y.1)) (fun y : S3 => decide (y.1 ≠ x1)) (x1, x2, x3) (y1, y2, y3) true false false (l.drop (k + 1)) (by first | (simp; done) | (simp; omega)) (by first | (simp; done) | (simp; omega))
          have hgo2 : outL ++ ([] ++ [] ++ gI (fun y : S3 => decide (x1 < y.1)) (fun y : S3 => decide (y.1 ≠ x1)) (x1, x2, x3) true (l.drop (k + 1))) = R0 := by rw [h5] at hgo; exact hgo
          have HG := Hid.mk hgo2
          clear h5 hgo hgo2
          have f1 : decide (x1 < y1) = false := by first | (simp; done) | (simp; omega)
          have f2 : (y1 != x1) = false := by first | (simp; done) | (simp; omega)
          clear hr
          go_upto_region 5 with fail
          go_quiet (fail)
          go_upto_region 7 with fail
          go_quiet (fail)
          go_wp2_with fail
          exact ⟨⟨k + 1, true, outL, by omega, rfl, by go_num, by have := HG.out; simpa [List.append_assoc] using this, HS.out.1.dr _⟩, by simp [intOf]; omega⟩
        · have h5 := gI_case (fun y : S3 => decide (x1 < y.1)) (fun y : S3 => decide (y.1 ≠ x1)) (x1, x2, x3) (y1, y2, y3) true false true (l.drop (k + 1)) (by first | (simp; done) | (simp; omega)) (by first | (simp; done) | (simp; omega))
          have hgo2 : outL ++ ([] ++ [(y1, y2, y3)] ++ gI (fun y : S3 => decide (x1 < y.1)) (fun y : S3 => decide (y.1 ≠ x1)) (x1, x2, x3) true (l.drop (k + 1))) = R0 := by rw [h5] at hgo; exact hgo
          have HG := Hid.mk hgo2
          clear h5 hgo hgo2
          have f1 : decide (x1 < y1) = false := by first | (simp; done) | (simp; omega)
          have f2 : (y1 != x1) = true := by first | (simp; done) | (simp; omega)
          clear hr
          go_upto_region 5 with fail
          go_quiet (fail)
          go_upto_region 7 with fail
          go_quiet (fail)
          go_wp2_with (first | (at_builtin; refine wp_app ei87 rfl _ _ rfl ((HS.out.1.dr _).out) ((HS.out.1.dr _).le) #[.int .i64 y1, .int .i64 y2, .bool y3] rfl (by first | rfl | (simp only [size_alloc]; rfl)) rfl (by simp [Value.oneCell']) (by rw [List.length_map]; omega) ?_; intro v4 w4 o4 g4 p4))
          have N4 := (HS.out.1.dr _).app (Bel.refl _) g4 o4
          exact ⟨⟨k + 1, true, outL ++ [(y1, y2, y3)], by omega, rfl, by go_num, by have := HG.out; simpa [List.append_assoc] using this, by rw [List.map_append]; exact N4⟩, by simp [intOf]; omega⟩
    · have hk2 : k = l.length := by omega
      subst hk2
      rw [List.drop_length, gI] at hgo
      obtain ⟨va, vn, vc, rfl⟩ := hs.out.isSl
      have HS := Hid.mk (And.intro hs hol)
      clear hs hol hlv
      have hlen : outL.length < 900000 := by have := HS.out.2; omega
      obtain ⟨f0, s0, q0, b0⟩ := E0.out
      have hwG2 : G + 1 + 1 < wr.heap.size := by omega
      have CC : Hid (∀ w5, Bel W0 w5 → (w5.cell? ⟨G, 0, none⟩ = some (.slice a0 l.length c0) ∧ w5.cell? ⟨G, 1, none⟩ = some (.slice a1 n1 c1) ∧ w5.cell? ⟨G, 2, none⟩ = some (.slice a2 n2 c2) ∧ w5.cell? ⟨G, 3, none⟩ = some (.slice a3 n3 c3)) ∧ (w5.cell? ⟨G + 1 + 1, 0, none⟩ = some (.slice none 0 0) ∧ w5.cell? ⟨G + 1 + 1, 1, none⟩ = some (.slice none 0 0) ∧ w5.cell? ⟨G + 1 + 1, 2, none⟩ = some (.slice none 0 0) ∧ w5.cell? ⟨G + 1 + 1, 3, none⟩ = some (.slice none 0 0)) ∧ (∀ j, w5.frozen? ⟨G, j, none⟩ = false) ∧ ∀ j, w5.frozen? ⟨G + 1 + 1, j, none⟩ = false) := fun w5 b => ⟨(s0.call b).cells, (q0.call b).cells, fun j => (s0.call b).fz j, fun j => (q0.call b).fz j⟩
      have fin : Hid (∀ (v : Value) (w5 : World) (L : List S3), Bel W0 w5 → Ow w5 (G + 3) 87 3 v (L.map rS) → Box4 (set4 (w5.setCell ⟨G, 0, none⟩ v) (G + 1 + 1) v (.slice a1 n1 c1) (.slice a2 n2 c2) (.slice a3 n3 c3)) (G + 1 + 1) v (.slice a1 n1 c1) (.slice a2 n2 c2) (.slice a3 n3 c3) ∧ RAt (set4 (w5.setCell ⟨G, 0, none⟩ v) (G + 1 + 1) v (.slice a1 n1 c1) (.slice a2 n2 c2) (.slice a3 n3 c3)) B v (.slice a1 n1 c1) (.slice a2 n2 c2) (.slice a3 n3 c3) { m with sp := L } ∧ (∀ g, v.ownBlock = some g → w.heap.size ≤ g) ∧ Below w.heap.size w (set4 (w5.setCell ⟨G, 0, none⟩ v) (G + 1 + 1) v (.slice a1 n1 c1) (.slice a2 n2 c2) (.slice a3 n3 c3))) := fun v w5 L b o => by
        have e := hG.out
        subst e
        exact end_sp hB H.out b0 s0 q0 (by omega) b o
      clear f0 s0 q0 b0 E0 k1 j0 j1 j2
      obtain ⟨⟨m00, m01, m02, m03⟩, ⟨m20, m21, m22, m23⟩, fr, fs⟩ := CC.out wr HS.out.1.bel
      obtain ⟨_, j0, j1, j2, _⟩ := C0.out wr HS.out.1.bel
      have fr1 := fr 0
      have g0 := fs 0
      have g1 := fs 1
      have g2 := fs 2
      have g3 := fs 3
      clear fr fs
      cases inn
      · rw [if_neg (by simp)] at hgo
        subst hgo
        go_upto_region 11 with (first | (at_builtin; refine wp_app ei87 rfl _ _ rfl HS.out.1.out (HS.out.1.le) #[.int .i64 x1, .int .i64 x2, .bool x3] rfl (by first | rfl | (simp only [size_alloc]; rfl)) rfl (by simp [Value.oneCell']) (by rw [List.length_map]; omega) ?_; intro v5 w5 o5 g5 p5))
        have N5 := HS.out.1.app (Bel.refl wr) g5 o5
        obtain ⟨va5, vn5, vc5, rfl⟩ := N5.out.isSl
        obtain ⟨⟨t00, t01, t02, t03⟩, ⟨t20, t21, t22, t23⟩, tr, ts⟩ := CC.out w5 N5.bel
        have tr1 := tr 0
        have s0 := ts 0
        have s1 := ts 1
        have s2 := ts 2
        have s3 := ts 3
        have N6 : WbS W0 (G + 3) 87 3 (.slice va5 vn5 vc5) ((outL ++ [(x1, x2, x3)]).map rS) w5 := by rw [List.map_append]; exact N5
        replace N5 := Hid.mk N6
        clear N6 tr ts o5 g5 p5 m00 m01 m02 m03 m20 m21 m22 m23 fr1 g0 g1 g2 g3 j0 j1 j2
        go_wp2_with fail
        refine bodyPost_ret (st_result rfl rfl (fin.out _ _ _ N5.out.bel N5.out.out).1) rfl ?_
        have q := (fin.out _ _ _ N5.out.bel N5.out.out).2
        exact ⟨_, rfl, q⟩
      · rw [if_pos rfl, List.append_nil] at hgo
        subst hgo
        go_wp2_with fail
        refine bodyPost_ret (st_result rfl rfl (fin.out _ _ _ HS.out.1.bel HS.out.1.out).1) rfl ?_
        have q := (fin.out _ _ _ HS.out.1.bel HS.out.1.out).2
        exact ⟨_, rfl, q⟩

set_option maxRecDepth 20000 in
set_option maxHeartbeats 4000000 in
theorem rbad_any {w : World} {B v0 v1 v2 v3 m} (h : RAt w B v0 v1 v2 v3 m) (hn : m.bad.length < 100000) (hB : B ≤ w.heap.size) (b : Int) : Calls Try.prog 54 #[.agg #[v0, v1, v2, v3], .int .i64 b] w fun e w' => ∃ v, e = .returned (.agg #[v0, v1, v, v3]) ∧ RAt w' B v0 v1 v v3 { m with bad := gI (fun y : Int => decide (b ≤ y)) (fun y : Int => decide (y ≠ b)) b false m.bad } ∧ (∀ g, v.ownBlock = some g → w.heap.size ≤ g) ∧ Below w.heap.size w w' := by
  obtain ⟨a0, n0, c0, rfl⟩ := h.sp.isSl
  obtain ⟨a1, n1, c1, rfl⟩ := h.lv.isSl
  obtain ⟨a3, n3, c3, rfl⟩ := h.worn.isSl
  obtain ⟨a2, c2, rfl⟩ := h.bad.form
  rw [rI_len] at h ⊢
  generalize hR : gI (fun y : Int => decide (b ≤ y)) (fun y : Int => decide (y ≠ b)) b false m.bad = R0
  have hRl : R0.length ≤ m.bad.length + 1 := by rw [← hR]; exact gI_len _ _ _ _
  have H := Hid.mk h
  clear h
  go_enter Try.func54, Try.ntmps54
  go_upto_region 1 with fail
  have e0 : (w.alloc (.cells #[.slice a0 n0 c0, .slice a1 n1 c1, .slice a2 m.bad.length c2, .slice a3 n3 c3] 33)).heap.size = w.heap.size + 1 := by rw [size_alloc]
  have s0 := (Box4.fresh w (.slice a0 n0 c0) (.slice a1 n1 c1) (.slice a2 m.bad.length c2) (.slice a3 n3 c3)).alloc (.cells #[.slice none 0 0, .slice none 0 0, .slice none 0 0, .slice none 0 0] 33)
  have q0 := Box4.fresh (w.alloc (.cells #[.slice a0 n0 c0, .slice a1 n1 c1, .slice a2 m.bad.length c2, .slice a3 n3 c3] 33)) (.slice none 0 0) (.slice none 0 0) (.slice none 0 0) (.slice none 0 0)
  rw [e0] at q0
  have b0 : Bel w ((w.alloc (.cells #[.slice a0 n0 c0, .slice a1 n1 c1, .slice a2 m.bad.length c2, .slice a3 n3 c3] 33)).alloc (.cells #[.slice none 0 0, .slice none 0 0, .slice none 0 0, .slice none 0 0] 33)) := ((Bel.refl w).alloc _).alloc _
  have h0 := H.out.call b0
  have z0 : ((w.alloc (.cells #[.slice a0 n0 c0, .slice a1 n1 c1, .slice a2 m.bad.length c2, .slice a3 n3 c3] 33)).alloc (.cells #[.slice none 0 0, .slice none 0 0, .slice none 0 0, .slice none 0 0] 33)).heap.size = w.heap.size + 2 := by rw [size_alloc, e0]
  generalize ((w.alloc (.cells #[.slice a0 n0 c0, .slice a1 n1 c1, .slice a2 m.bad.length c2, .slice a3 n3 c3] 33)).alloc (.cells #[.slice none 0 0, .slice none 0 0, .slice none 0 0, .slice none 0 0] 33)) = W0 at *
  clear e0
  have o0 := Ow.made W0 (B := w.heap.size + 2) (by omega) 3 1
  rw [z0] at o0
  have S0 : WbS W0 (w.heap.size + 2) 3 1 (.slice (some ⟨w.heap.size + 2, 0, none⟩) 0 0) [] (W0.alloc (.cells #[] 3)) := ⟨o0, (Bel.refl W0).alloc _, z0⟩
  replace S0 := Hid.mk S0
  have C0 : Hid (∀ wr, Bel W0 wr → wr.cell? ⟨w.heap.size, 2, none⟩ = some (.slice a2 m.bad.length c2) ∧ Ow wr B 3 1 (.slice a2 m.bad.length c2) (m.bad.map (fun i : Int => [Value.int .i64 i]))) := fun wr b => by
    exact ⟨(s0.call b).cells.2.2.1, h0.bad.call b⟩
  have E0 := Hid.mk (And.intro h0 (And.intro s0 (And.intro q0 b0)))
  clear h0 s0 q0 b0 o0
  generalize hG : w.heap.size = G at *
  replace hG := Hid.mk hG
  generalize hl : m.bad = l at *
  replace hl := Hid.mk hl
  have hg3 : G + 2 ≤ W0.heap.size := by omega
  go_upto_region 3 with fail
  go_loopw [5, 6, 7] (fun v vb i wr => ∃ (k : Nat) (inn : Bool) (outL : List Int), k ≤ l.length ∧ vb = .bool inn ∧ i = .int .i64 k ∧ outL ++ gI (fun y : Int => decide (b ≤ y)) (fun y : Int => decide (y ≠ b)) b inn (l.drop k) = R0 ∧ WbS W0 (G + 2) 3 1 v (outL.map (fun i : Int => [Value.int .i64 i])) wr) (fun _ _ i _ => l.length - (intOf i).toNat)
  case atStart => exact ⟨0, false, [], Nat.zero_le _, rfl, rfl, by simpa using hR, S0.out⟩
  case round =>
    clear S0
    obtain ⟨k, inn, outL, hk, rfl, rfl, hgo, hs⟩ := hrel
    obtain ⟨k1, hlv⟩ := C0.out wr hs.bel
    have hol : outL.length ≤ R0.length := by rw [← hgo, List.length_append]; omega
    have hwG : G + 2 ≤ wr.heap.size := hs.le
    have hwG0 : G < wr.heap.size := by omega
    have hwG1 : G + 1 < wr.heap.size := by omega
    by_cases hkn : k < l.length
    · obtain ⟨g, rfl, hgB, hgl, d0⟩ := hlv.intAt hkn
      rw [dropC l k 0 hkn] at hgo
      obtain ⟨y, hyv⟩ : ∃ y, l.getD k 0 = y := ⟨_, rfl⟩
      rw [hyv] at d0 hgo
      replace hyv := Hid.mk hyv
      have HS := Hid.mk (And.intro hs hol)
      clear hs hol hlv
      have hlen : outL.length < 900000 := by have := HS.out.2; omega
      cases inn
      · rcases Int.lt_trichotomy b y with hr | hr | hr
        · have h5 := gI_case (fun y : Int => decide (b ≤ y)) (fun y : Int => decide (y ≠ b)) b y false true true (l.drop (k + 1)) (by first | (simp; done) | (simp; omega)) (by first | (simp; done) | (simp; omega))
          have hgo2 : outL ++ ([b] ++ [y] ++ gI (fun y : Int => decide (b ≤ y)) (fun y : Int => decide (y ≠ b)) b true (l.drop (k + 1))) = R0 := by rw [h5] at hgo; exact hgo
          have HG := Hid.mk hgo2
          clear h5 hgo hgo2
          have f1 : decide (b ≤ y) = true := by first | (simp; done) | (simp; omega)
          have f2 : (y != b) = true := by first | (simp; done) | (simp; omega)
          clear hr
          go_upto_region 7 with (first | (at_builtin; refine wp_app ei3 rfl _ _ rfl (HS.out.1.out) (HS.out.1.le) #[.int .i64 b] rfl (by first | rfl | (simp only [size_alloc]; rfl)) rfl (by simp [Value.oneCell']) (by rw [List.length_map]; omega) ?_; intro v3 w3 o3 g3 p3))
          have N3 := HS.out.1.app (Bel.refl _) g3 o3
          obtain ⟨kk1, hlv3⟩ := C0.out w3 N3.bel
          obtain ⟨g3x, e3x, _, _, dd0⟩ := hlv3.intAt hkn
          cases e3x
          rw [hyv.out] at dd0
          clear hlv3 p3
          have hw3 : G + 2 ≤ w3.heap.size := N3.le
          have hw30 : G < w3.heap.size := by omega
          have hw31 : G + 1 < w3.heap.size := by omega
          replace N3 := Hid.mk N3
          clear o3 g3
          go_wp2_with (first | (at_builtin; refine wp_app ei3 rfl _ _ rfl (N3.out.out) (N3.out.le) #[.int .i64 y] rfl (by first | rfl | (simp only [size_alloc]; rfl)) rfl (by simp [Value.oneCell']) (by (rw [List.length_append, List.length_map, List.length_singleton]; omega)) ?_; intro v4 w4 o4 g4 p4))
          have N4 := N3.out.app (Bel.refl _) g4 o4
          exact ⟨⟨k + 1, true, outL ++ [b] ++ [y], by omega, rfl, by go_num, by have := HG.out; simpa [List.append_assoc] using this, by rw [List.map_append, List.map_append]; exact N4⟩, by simp [intOf]; omega⟩
        · have h5 := gI_case (fun y : Int => decide (b ≤ y)) (fun y : Int => decide (y ≠ b)) b y false true false (l.drop (k + 1)) (by first | (simp; done) | (simp; omega)) (by first | (simp; done) | (simp; omega))
          have hgo2 : outL ++ ([b] ++ [] ++ gI (fun y : Int => decide (b ≤ y)) (fun y : Int => decide (y ≠ b)) b true (l.drop (k + 1))) = R0 := by rw [h5] at hgo; exact hgo
          have HG := Hid.mk hgo2
          clear h5 hgo hgo2
          have f1 : decide (b ≤ y) = true := by first | (simp; done) | (simp; omega)
          have f2 : (y != b) = false := by first | (simp; done) | (simp; omega)
          clear hr
          go_upto_region 7 with (first | (at_builtin; refine wp_app ei3 rfl _ _ rfl (HS.out.1.out) (HS.out.1.le) #[.int .i64 b] rfl (by first | rfl | (simp only [size_alloc]; rfl)) rfl (by simp [Value.oneCell']) (by rw [List.length_map]; omega) ?_; intro v3 w3 o3 g3 p3))
          have N3 := HS.out.1.app (Bel.refl _) g3 o3
          obtain ⟨kk1, hlv3⟩ := C0.out w3 N3.bel
          obtain ⟨g3x, e3x, _, _, dd0⟩ := hlv3.intAt hkn
          cases e3x
          rw [hyv.out] at dd0
          clear hlv3 p3
          have hw3 : G + 2 ≤ w3.heap.size := N3.le
          have hw30 : G < w3.heap.size := by omega
          have hw31 : G + 1 < w3.heap.size := by omega
          replace N3 := Hid.mk N3
          clear o3 g3
          go_wp2_with fail
          exact ⟨⟨k + 1, true, outL ++ [b], by omega, rfl, by go_num, by have := HG.out; simpa [List.append_assoc] using this, by rw [List.map_append]; exact N3.out⟩, by simp [intOf]; omega⟩
        · have h5 := gI_case (fun y : Int => decide (b ≤ y)) (fun y : Int => decide (y ≠ b)) b y false false true (l.drop (k + 1)) (by first | (simp; done) | (simp; omega)) (by first | (simp; done) | (simp; omega))
          have hgo2 : outL ++ ([] ++ [y] ++ gI (fun y : Int => decide (b ≤ y)) (fun y : Int => decide (y ≠ b)) b false (l.drop (k + 1))) = R0 := by rw [h5] at hgo; exact hgo
          have HG := Hid.mk hgo2
          clear h5 hgo hgo2
          have f1 : decide (b ≤ y) = false := by first | (simp; done) | (simp; omega)
          have f2 : (y != b) = true := by first | (simp; done) | (simp; omega)
          clear hr
          go_wp2_with (first | (at_builtin; refine wp_app ei3 rfl _ _ rfl (HS.out.1.out) (HS.out.1.le) #[.int .i64 y] rfl (by first | rfl | (simp only [size_alloc]; rfl)) rfl (by simp [Value.oneCell']) (by rw [List.length_map]; omega) ?_; intro v4 w4 o4 g4 p4))
          have N4 := HS.out.1.app (Bel.refl _) g4 o4
          exact ⟨⟨k + 1, false, outL ++ [y], by omega, rfl, by go_num, by have := HG.out; simpa [List.append_assoc] using this, by rw [List.map_append]; exact N4⟩, by simp [intOf]; omega⟩
      · rcases Int.lt_trichotomy b y with hr | hr | hr
        · have h5 := gI_case (fun y : Int => decide (b ≤ y)) (fun y : Int => decide (y ≠ b)) b y true true true (l.drop (k + 1)) (by first | (simp; done) | (simp; omega)) (by first | (simp; done) | (simp; omega))
          have hgo2 : outL ++ ([] ++ [y] ++ gI (fun y : Int => decide (b ≤ y)) (fun y : Int => decide (y ≠ b)) b true (l.drop (k + 1))) = R0 := by rw [h5] at hgo; exact hgo
          have HG := Hid.mk hgo2
          clear h5 hgo hgo2
          have f1 : decide (b ≤ y) = true := by first | (simp; done) | (simp; omega)
          have f2 : (y != b) = true := by first | (simp; done) | (simp; omega)
          clear hr
          go_wp2_with (first | (at_builtin; refine wp_app ei3 rfl _ _ rfl (HS.out.1.out) (HS.out.1.le) #[.int .i64 y] rfl (by first | rfl | (simp only [size_alloc]; rfl)) rfl (by simp [Value.oneCell']) (by rw [List.length_map]; omega) ?_; intro v4 w4 o4 g4 p4))
          have N4 := HS.out.1.app (Bel.refl _) g4 o4
          exact ⟨⟨k + 1, true, outL ++ [y], by omega, rfl, by go_num, by have := HG.out; simpa [List.append_assoc] using this, by rw [List.map_append]; exact N4⟩, by simp [intOf]; omega⟩
        · have h5 := gI_case (fun y : Int => decide (b ≤ y)) (fun y : Int => decide (y ≠ b)) b y true true false (l.drop (k + 1)) (by first | (simp; done) | (simp; omega)) (by first | (simp; done) | (simp; omega))
          have hgo2 : outL ++ ([] ++ [] ++ gI (fun y : Int => decide (b ≤ y)) (fun y : Int => decide (y ≠ b)) b true (l.drop (k + 1))) = R0 := by rw [h5] at hgo; exact hgo
          have HG := Hid.mk hgo2
          clear h5 hgo hgo2
          have f1 : decide (b ≤ y) = true := by first | (simp; done) | (simp; omega)
          have f2 : (y != b) = false := by first | (simp; done) | (simp; omega)
          clear hr
          go_wp2_with fail
          exact ⟨⟨k + 1, true, outL, by omega, rfl, by go_num, by have := HG.out; simpa [List.append_assoc] using this, HS.out.1⟩, by simp [intOf]; omega⟩
        · have h5 := gI_case (fun y : Int => decide (b ≤ y)) (fun y : Int => decide (y ≠ b)) b y true false true (l.drop (k + 1)) (by first | (simp; done) | (simp; omega)) (by first | (simp; done) | (simp; omega))
          have hgo2 : outL ++ ([] ++ [y] ++ gI (fun y : Int => decide (b ≤ y)) (fun y : Int => decide (y ≠ b)) b true (l.drop (k + 1))) = R0 := by rw [h5] at hgo; exact hgo
          have HG := Hid.mk hgo2
          clear h5 hgo hgo2
          have f1 : decide (b ≤ y) = false := by first | (simp; done) | (simp; omega)
          have f2 : (y != b) = true := by first | (simp; done) | (simp; omega)
          clear hr
          go_wp2_with (first | (at_builtin; refine wp_app ei3 rfl _ _ rfl (HS.out.1.out) (HS.out.1.le) #[.int .i64 y] rfl (by first | rfl | (simp only [size_alloc]; rfl)) rfl (by simp [Value.oneCell']) (by rw [List.length_map]; omega) ?_; intro v4 w4 o4 g4 p4))
          have N4 := HS.out.1.app (Bel.refl _) g4 o4
          exact ⟨⟨k + 1, true, outL ++ [y], by omega, rfl, by go_num, by have := HG.out; simpa [List.append_assoc] using this, by rw [List.map_append]; exact N4⟩, by simp [intOf]; omega⟩
    · have hk2 : k = l.length := by omega
      subst hk2
      rw [List.drop_length, gI] at hgo
      obtain ⟨va, vn, vc, rfl⟩ := hs.out.isSl
      have HS := Hid.mk (And.intro hs hol)
      clear hs hol hlv
      have hlen : outL.length < 900000 := by have := HS.out.2; omega
      obtain ⟨f0, s0, q0, b0⟩ := E0.out
      have hwG2 : G + 1 < wr.heap.size := by omega
      have CC : Hid (∀ w5, Bel W0 w5 → (w5.cell? ⟨G, 0, none⟩ = some (.slice a0 n0 c0) ∧ w5.cell? ⟨G, 1, none⟩ = some (.slice a1 n1 c1) ∧ w5.cell? ⟨G, 2, none⟩ = some (.slice a2 l.length c2) ∧ w5.cell? ⟨G, 3, none⟩ = some (.slice a3 n3 c3)) ∧ (w5.cell? ⟨G + 1, 0, none⟩ = some (.slice none 0 0) ∧ w5.cell? ⟨G + 1, 1, none⟩ = some (.slice none 0 0) ∧ w5.cell? ⟨G + 1, 2, none⟩ = some (.slice none 0 0) ∧ w5.cell? ⟨G + 1, 3, none⟩ = some (.slice none 0 0)) ∧ (∀ j, w5.frozen? ⟨G, j, none⟩ = false) ∧ ∀ j, w5.frozen? ⟨G + 1, j, none⟩ = false) := fun w5 b => ⟨(s0.call b).cells, (q0.call b).cells, fun j => (s0.call b).fz j, fun j => (q0.call b).fz j⟩
      have fin : Hid (∀ (v : Value) (w5 : World) (L : List Int), Bel W0 w5 → Ow w5 (G + 2) 3 1 v (L.map (fun i : Int => [Value.int .i64 i])) → Box4 (set4 (w5.setCell ⟨G, 2, none⟩ v) (G + 1) (.slice a0 n0 c0) (.slice a1 n1 c1) v (.slice a3 n3 c3)) (G + 1) (.slice a0 n0 c0) (.slice a1 n1 c1) v (.slice a3 n3 c3) ∧ RAt (set4 (w5.setCell ⟨G, 2, none⟩ v) (G + 1) (.slice a0 n0 c0) (.slice a1 n1 c1) v (.slice a3 n3 c3)) B (.slice a0 n0 c0) (.slice a1 n1 c1) v (.slice a3 n3 c3) { m with bad := L } ∧ (∀ g, v.ownBlock = some g → w.heap.size ≤ g) ∧ Below w.heap.size w (set4 (w5.setCell ⟨G, 2, none⟩ v) (G + 1) (.slice a0 n0 c0) (.slice a1 n1 c1) v (.slice a3 n3 c3))) := fun v w5 L b o => by
        have e := hG.out
        subst e
        exact end_bad hB H.out b0 s0 q0 (by omega) b o
      clear f0 s0 q0 b0 E0 k1
      obtain ⟨⟨m00, m01, m02, m03⟩, ⟨m20, m21, m22, m23⟩, fr, fs⟩ := CC.out wr HS.out.1.bel
      have fr1 := fr 2
      have g0 := fs 0
      have g1 := fs 1
      have g2 := fs 2
      have g3 := fs 3
      clear fr fs
      cases inn
      · rw [if_neg (by simp)] at hgo
        subst hgo
        go_upto_region 11 with (first | (at_builtin; refine wp_app ei3 rfl _ _ rfl HS.out.1.out (HS.out.1.le) #[.int .i64 b] rfl (by first | rfl | (simp only [size_alloc]; rfl)) rfl (by simp [Value.oneCell']) (by rw [List.length_map]; omega) ?_; intro v5 w5 o5 g5 p5))
        have N5 := HS.out.1.app (Bel.refl wr) g5 o5
        obtain ⟨va5, vn5, vc5, rfl⟩ := N5.out.isSl
        obtain ⟨⟨t00, t01, t02, t03⟩, ⟨t20, t21, t22, t23⟩, tr, ts⟩ := CC.out w5 N5.bel
        have tr1 := tr 2
        have s0 := ts 0
        have s1 := ts 1
        have s2 := ts 2
        have s3 := ts 3
        have N6 : WbS W0 (G + 2) 3 1 (.slice va5 vn5 vc5) ((outL ++ [b]).map (fun i : Int => [Value.int .i64 i])) w5 := by rw [List.map_append]; exact N5
        replace N5 := Hid.mk N6
        clear N6 tr ts o5 g5 p5 m00 m01 m02 m03 m20 m21 m22 m23 fr1 g0 g1 g2 g3
        go_wp2_with fail
        refine bodyPost_ret (st_result rfl rfl (fin.out _ _ _ N5.out.bel N5.out.out).1) rfl ?_
        have q := (fin.out _ _ _ N5.out.bel N5.out.out).2
        exact ⟨_, rfl, q⟩
      · rw [if_pos rfl, List.append_nil] at hgo
        subst hgo
        go_wp2_with fail
        refine bodyPost_ret (st_result rfl rfl (fin.out _ _ _ HS.out.1.bel HS.out.1.out).1) rfl ?_
        have q := (fin.out _ _ _ HS.out.1.bel HS.out.1.out).2
        exact ⟨_, rfl, q⟩

/-- is a greater count told? -/
def hitW (b n : Int) (l : Pl) : Bool := l.any fun y => decide (y.1 = b) && decide (n < y.2)
theorem hitW_cons (b n : Int) (y : Int × Int) (l : Pl) : hitW b n (y :: l) = ((decide (y.1 = b) && decide (n < y.2)) || hitW b n l) := rfl
theorem end_same {w W0 wr : World} {B gR Bo : Nat} {v0 v1 v2 v3 z0 z1 z2 z3 : Value} {m : Rs} (H : RAt w B v0 v1 v2 v3 m) (b0 : Bel w W0) (q0 : Box4 W0 gR z0 z1 z2 z3) (hgR : w.heap.size < gR ∧ gR < Bo) (bel : Bel W0 wr) :
    Box4 (set4 wr gR v0 v1 v2 v3) gR v0 v1 v2 v3 ∧ RAt (set4 wr gR v0 v1 v2 v3) B v0 v1 v2 v3 m ∧ Below w.heap.size w (set4 wr gR v0 v1 v2 v3) := by
  have k2 := set4_kp wr w.heap.size gR v0 v1 v2 v3
  exact ⟨set4_box (q0.call bel) _ _ _ _, ⟨((H.sp.call b0).call bel).kp k2 (fun e => by have := (H.sp.lt _ e).2; omega) (fun e => by have := (H.sp.lt _ e).2; omega),
    ((H.lv.call b0).call bel).kp k2 (fun e => by have := (H.lv.lt _ e).2; omega) (fun e => by have := (H.lv.lt _ e).2; omega),
    ((H.bad.call b0).call bel).kp k2 (fun e => by have := (H.bad.lt _ e).2; omega) (fun e => by have := (H.bad.lt _ e).2; omega),
    ((H.worn.call b0).call bel).kp k2 (fun e => by have := (H.worn.lt _ e).2; omega) (fun e => by have := (H.worn.lt _ e).2; omega)⟩, kp_bel (b0.trans bel) k2 (Nat.le_refl _) (by omega)⟩
set_option maxRecDepth 20000 in
set_option maxHeartbeats 4000000 in
theorem rworn_any {w : World} {B v0 v1 v2 v3 m} (h : RAt w B v0 v1 v2 v3 m) (hn : m.worn.length < 100000) (hB : B ≤ w.heap.size) (b n : Int) : Calls Try.prog 55 #[.agg #[v0, v1, v2, v3], .int .i64 b, .int .i64 n] w fun e w' => ∃ v, e = .returned (.agg #[v0, v1, v2, v]) ∧ RAt w' B v0 v1 v2 v { m with worn := (if hitW b n m.worn = true then m.worn else gI (fun y : Int × Int => decide (b ≤ y.1)) (fun y : Int × Int => decide (y.1 ≠ b)) (b, n) false m.worn) } ∧ (∀ g, v.ownBlock = some g → w.heap.size ≤ g ∨ v3.ownBlock = some g) ∧ Below w.heap.size w w' := by
  obtain ⟨a0, n0, c0, rfl⟩ := h.sp.isSl
  obtain ⟨a1, n1, c1, rfl⟩ := h.lv.isSl
  obtain ⟨a2, n2, c2, rfl⟩ := h.bad.isSl
  obtain ⟨a3, c3, rfl⟩ := h.worn.form
  rw [List.length_map] at h ⊢
  generalize hH : hitW b n m.worn = h0
  generalize hR : gI (fun y : Int × Int => decide (b ≤ y.1)) (fun y : Int × Int => decide (y.1 ≠ b)) (b, n) false m.worn = R0
  have hRl : R0.length ≤ m.worn.length + 1 := by rw [← hR]; exact gI_len _ _ _ _
  have H := Hid.mk h
  clear h
  go_enter Try.func55, Try.ntmps55
  go_upto_region 1 with fail
  have e0 : (w.alloc (.cells #[.slice a0 n0 c0, .slice a1 n1 c1, .slice a2 n2 c2, .slice a3 m.worn.length c3] 33)).heap.size = w.heap.size + 1 := by rw [size_alloc]
  have s0 := (Box4.fresh w (.slice a0 n0 c0) (.slice a1 n1 c1) (.slice a2 n2 c2) (.slice a3 m.worn.length c3)).alloc (.cells #[.slice none 0 0, .slice none 0 0, .slice none 0 0, .slice none 0 0] 33)
  have q0 := Box4.fresh (w.alloc (.cells #[.slice a0 n0 c0, .slice a1 n1 c1, .slice a2 n2 c2, .slice a3 m.worn.length c3] 33)) (.slice none 0 0) (.slice none 0 0) (.slice none 0 0) (.slice none 0 0)
  rw [e0] at q0
  have b0 : Bel w ((w.alloc (.cells #[.slice a0 n0 c0, .slice a1 n1 c1, .slice a2 n2 c2, .slice a3 m.worn.length c3] 33)).alloc (.cells #[.slice none 0 0, .slice none 0 0, .slice none 0 0, .slice none 0 0] 33)) := ((Bel.refl w).alloc _).alloc _
  have h0 := H.out.call b0
  have z0 : ((w.alloc (.cells #[.slice a0 n0 c0, .slice a1 n1 c1, .slice a2 n2 c2, .slice a3 m.worn.length c3] 33)).alloc (.cells #[.slice none 0 0, .slice none 0 0, .slice none 0 0, .slice none 0 0] 33)).heap.size = w.heap.size + 2 := by rw [size_alloc, e0]
  generalize ((w.alloc (.cells #[.slice a0 n0 c0, .slice a1 n1 c1, .slice a2 n2 c2, .slice a3 m.worn.length c3] 33)).alloc (.cells #[.slice none 0 0, .slice none 0 0, .slice none 0 0, .slice none 0 0] 33)) = W0 at *
  clear e0
  have o0 := Ow.made W0 (B := w.heap.size + 2) (by omega) 122 2
  rw [z0] at o0
  have S0 : WbS W0 (w.heap.size + 2) 122 2 (.slice (some ⟨w.heap.size + 2, 0, none⟩) 0 0) [] (W0.alloc (.cells #[] 122)) := ⟨o0, (Bel.refl W0).alloc _, z0⟩
  replace S0 := Hid.mk S0
  have C0 : Hid (∀ wr, Bel W0 wr → wr.cell? ⟨w.heap.size, 3, none⟩ = some (.slice a3 m.worn.length c3) ∧ Ow wr B 122 2 (.slice a3 m.worn.length c3) (m.worn.map rP)) := fun wr b => by
    exact ⟨(s0.call b).cells.2.2.2, h0.worn.call b⟩
  have E0 := Hid.mk (And.intro h0 (And.intro s0 (And.intro q0 b0)))
  clear h0 s0 q0 b0 o0
  generalize hG : w.heap.size = G at *
  replace hG := Hid.mk hG
  generalize hl : m.worn = l at *
  replace hl := Hid.mk hl
  have hg3 : G + 2 ≤ W0.heap.size := by omega
  go_upto_region 3 with fail
  go_loopw [7, 8, 9, 10] (fun v vb i _ wr => ∃ (k : Nat) (inn : Bool) (outL : Pl), k ≤ l.length ∧ vb = .bool inn ∧ i = .int .i64 k ∧ hitW b n (l.drop k) = h0 ∧ outL ++ gI (fun y : Int × Int => decide (b ≤ y.1)) (fun y : Int × Int => decide (y.1 ≠ b)) (b, n) inn (l.drop k) = R0 ∧ WbS W0 (G + 2) 122 2 v (outL.map rP) wr) (fun _ _ i _ _ => l.length - (intOf i).toNat)
  case atStart => exact ⟨0, false, [], Nat.zero_le _, rfl, rfl, by simpa using hH, by simpa using hR, S0.out⟩
  case round =>
    clear S0
    obtain ⟨k, inn, outL, hk, rfl, rfl, hh, hgo, hs⟩ := hrel
    obtain ⟨k1, hlv⟩ := C0.out wr hs.bel
    have hol : outL.length ≤ R0.length := by rw [← hgo, List.length_append]; omega
    have hwG : G + 2 ≤ wr.heap.size := hs.le
    have hwG0 : G < wr.heap.size := by omega
    have hwG1 : G + 1 < wr.heap.size := by omega
    by_cases hkn : k < l.length
    · obtain ⟨g, rfl, hgB, hgl, d0, d1⟩ := hlv.at2 hkn
      rw [dropC l k (0, 0) hkn] at hgo hh
      generalize l.getD k (0, 0) = y at *
      obtain ⟨y1, y2⟩ := y
      simp only at d0 d1
      have HS := Hid.mk (And.intro hs hol)
      clear hs hol hlv
      have hlen : outL.length < 900000 := by have := HS.out.2; omega
      cases inn
      · rcases Int.lt_trichotomy b y1 with hr | hr | hr
        · rw [hitW_cons, show (decide ((y1, y2).1 = b) && decide (n < (y1, y2).2)) = false by simp; omega, Bool.false_or] at hh
          have HH := Hid.mk hh
          clear hh
          have f4 : (y1 == b) = false := by simp; omega
          have h5 := gI_case (fun y : Int × Int => decide (b ≤ y.1)) (fun y : Int × Int => decide (y.1 ≠ b)) (b, n) (y1, y2) false true true (l.drop (k + 1)) (by first | (simp; done) | (simp; omega)) (by first | (simp; done) | (simp; omega))
          have hgo2 : outL ++ ([(b, n)] ++ [(y1, y2)] ++ gI (fun y : Int × Int => decide (b ≤ y.1)) (fun y : Int × Int => decide (y.1 ≠ b)) (b, n) true (l.drop (k + 1))) = R0 := by rw [h5] at hgo; exact hgo
          have HG := Hid.mk hgo2
          clear h5 hgo hgo2
          have f1 : decide (b ≤ y1) = true := by first | (simp; done) | (simp; omega)
          have f2 : (y1 != b) = true := by first | (simp; done) | (simp; omega)
          clear hr
          go_upto_region 10 with (first | (at_builtin; refine wp_app ei122 rfl _ _ rfl (HS.out.1.out.alloc _) (by rw [size_alloc]; omega) #[.int .i64 b, .int .i64 n] rfl (by first | rfl | (simp only [size_alloc]; rfl)) rfl (by simp [Value.oneCell']) (by rw [List.length_map]; omega) ?_; intro v3 w3 o3 g3 p3))
          have N3 := HS.out.1.app ((Bel.refl wr).alloc _) g3 o3
          obtain ⟨kk1, hlv3⟩ := C0.out w3 N3.bel
          have yk := cells_kept g3 HS.out.1.out
          have yc0 : w3.cell? ⟨wr.heap.size, 0, none⟩ = some (.int .i64 y1) := by rw [cell_of_row w3 _ _ _ 122 _ yk]; rfl
          have yc1 : w3.cell? ⟨wr.heap.size, 1, none⟩ = some (.int .i64 y2) := by rw [cell_of_row w3 _ _ _ 122 _ yk]; rfl
          have hwl : wr.heap.size < w3.heap.size := (Array.getElem?_eq_some_iff.1 yk).1
          clear yk
          clear hlv3 p3
          have hw3 : G + 2 ≤ w3.heap.size := N3.le
          have hw30 : G < w3.heap.size := by omega
          have hw31 : G + 1 < w3.heap.size := by omega
          replace N3 := Hid.mk N3
          clear o3 g3
          go_wp2_with (first | (at_builtin; refine wp_app ei122 rfl _ _ rfl (N3.out.out) (N3.out.le) #[.int .i64 y1, .int .i64 y2] rfl (by first | rfl | (simp only [size_alloc]; rfl)) rfl (by simp [Value.oneCell']) (by (rw [List.length_append, List.length_map, List.length_singleton]; omega)) ?_; intro v4 w4 o4 g4 p4))
          have N4 := N3.out.app (Bel.refl _) g4 o4
          exact ⟨⟨k + 1, true, outL ++ [(b, n)] ++ [(y1, y2)], by omega, rfl, by go_num, HH.out, by have := HG.out; simpa [List.append_assoc] using this, by rw [List.map_append, List.map_append]; exact N4⟩, by simp [intOf]; omega⟩
        · have f4 : (y1 == b) = true := by simp; omega
          by_cases hit : n < y2
          · rw [hitW_cons, show (decide ((y1, y2).1 = b) && decide (n < (y1, y2).2)) = true by simp; omega, Bool.true_or] at hh
            have f5 : decide (n < y2) = true := decide_eq_true hit
            obtain ⟨f0, s0, q0, b0⟩ := E0.out
            have hwG2 : G + 1 < wr.heap.size := by omega
            obtain ⟨m00, m01, m02, m03⟩ := (s0.call HS.out.1.bel).cells
            obtain ⟨m20, m21, m22, m23⟩ := (q0.call HS.out.1.bel).cells
            have g0 := (q0.call HS.out.1.bel).fz 0
            have g1 := (q0.call HS.out.1.bel).fz 1
            have g2 := (q0.call HS.out.1.bel).fz 2
            have g3 := (q0.call HS.out.1.bel).fz 3
            have fin : Hid (∀ w5, Bel W0 w5 → Box4 (set4 w5 (G + 1) (.slice a0 n0 c0) (.slice a1 n1 c1) (.slice a2 n2 c2) (.slice (some ⟨g, 0, none⟩) l.length c3)) (G + 1) (.slice a0 n0 c0) (.slice a1 n1 c1) (.slice a2 n2 c2) (.slice (some ⟨g, 0, none⟩) l.length c3) ∧ RAt (set4 w5 (G + 1) (.slice a0 n0 c0) (.slice a1 n1 c1) (.slice a2 n2 c2) (.slice (some ⟨g, 0, none⟩) l.length c3)) B (.slice a0 n0 c0) (.slice a1 n1 c1) (.slice a2 n2 c2) (.slice (some ⟨g, 0, none⟩) l.length c3) m ∧ Below w.heap.size w (set4 w5 (G + 1) (.slice a0 n0 c0) (.slice a1 n1 c1) (.slice a2 n2 c2) (.slice (some ⟨g, 0, none⟩) l.length c3))) := fun w5 b => by
              have e := hG.out
              subst e
              exact end_same (Bo := w.heap.size + 2) H.out b0 q0 (by omega) b
            subst hh
            clear f0 s0 q0 b0 E0 k1 hit hr hgo
            go_wp2_with fail
            have q := fin.out wr HS.out.1.bel
            refine bodyPost_ret (st_result rfl rfl (q.1.alloc _)) rfl ?_
            refine ⟨_, rfl, ?_, fun g hg => .inr hg, q.2.2.alloc q.2.2.size _⟩
            exact q.2.1.alloc _
          have f5 : decide (n < y2) = false := decide_eq_false hit
          rw [hitW_cons, show (decide ((y1, y2).1 = b) && decide (n < (y1, y2).2)) = false by simp; omega, Bool.false_or] at hh
          have HH := Hid.mk hh
          clear hh hit
          have h5 := gI_case (fun y : Int × Int => decide (b ≤ y.1)) (fun y : Int × Int => decide (y.1 ≠ b)) (b, n) (y1, y2) false true false (l.drop (k + 1)) (by first | (simp; done) | (simp; omega)) (by first | (simp; done) | (simp; omega))
          have hgo2 : outL ++ ([(b, n)] ++ [] ++ gI (fun y : Int × Int => decide (b ≤ y.1)) (fun y : Int × Int => decide (y.1 ≠ b)) (b, n) true (l.drop (k + 1))) = R0 := by rw [h5] at hgo; exact hgo
          have HG := Hid.mk hgo2
          clear h5 hgo hgo2
          have f1 : decide (b ≤ y1) = true := by first | (simp; done) | (simp; omega)
          have f2 : (y1 != b) = false := by first | (simp; done) | (simp; omega)
          clear hr
          go_upto_region 10 with (first | (at_builtin; refine wp_app ei122 rfl _ _ rfl (HS.out.1.out.alloc _) (by rw [size_alloc]; omega) #[.int .i64 b, .int .i64 n] rfl (by first | rfl | (simp only [size_alloc]; rfl)) rfl (by simp [Value.oneCell']) (by rw [List.length_map]; omega) ?_; intro v3 w3 o3 g3 p3))
          have N3 := HS.out.1.app ((Bel.refl wr).alloc _) g3 o3
          obtain ⟨kk1, hlv3⟩ := C0.out w3 N3.bel
          have yk := cells_kept g3 HS.out.1.out
          have yc0 : w3.cell? ⟨wr.heap.size, 0, none⟩ = some (.int .i64 y1) := by rw [cell_of_row w3 _ _ _ 122 _ yk]; rfl
          have yc1 : w3.cell? ⟨wr.heap.size, 1, none⟩ = some (.int .i64 y2) := by rw [cell_of_row w3 _ _ _ 122 _ yk]; rfl
          have hwl : wr.heap.size < w3.heap.size := (Array.getElem?_eq_some_iff.1 yk).1
          clear yk
          clear hlv3 p3
          have hw3 : G + 2 ≤ w3.heap.size := N3.le
          have hw30 : G < w3.heap.size := by omega
          have hw31 : G + 1 < w3.heap.size := by omega
          replace N3 := Hid.mk N3
          clear o3 g3
          go_wp2_with fail
          exact ⟨⟨k + 1, true, outL ++ [(b, n)], by omega, rfl, by go_num, HH.out, by have := HG.out; simpa [List.append_assoc] using this, by rw [List.map_append]; exact N3.out⟩, by simp [intOf]; omega⟩
        · rw [hitW_cons, show (decide ((y1, y2).1 = b) && decide (n < (y1, y2).2)) = false by simp; omega, Bool.false_or] at hh
          have HH := Hid.mk hh
          clear hh
          have f4 : (y1 == b) = false := by simp; omega
          have h5 := gI_case (fun y : Int × Int => decide (b ≤ y.1)) (fun y : Int × Int => decide (y.1 ≠ b)) (b, n) (y1, y2) false false true (l.drop (k + 1)) (by first | (simp; done) | (simp; omega)) (by first | (simp; done) | (simp; omega))
          have hgo2 : outL ++ ([] ++ [(y1, y2)] ++ gI (fun y : Int × Int => decide (b ≤ y.1)) (fun y : Int × Int => decide (y.1 ≠ b)) (b, n) false (l.drop (k + 1))) = R0 := by rw [h5] at hgo; exact hgo
          have HG := Hid.mk hgo2
          clear h5 hgo hgo2
          have f1 : decide (b ≤ y1) = false := by first | (simp; done) | (simp; omega)
          have f2 : (y1 != b) = true := by first | (simp; done) | (simp; omega)
          clear hr
          go_wp2_with (first | (at_builtin; refine wp_app ei122 rfl _ _ rfl (HS.out.1.out.alloc _) (by rw [size_alloc]; omega) #[.int .i64 y1, .int .i64 y2] rfl (by first | rfl | (simp only [size_alloc]; rfl)) rfl (by simp [Value.oneCell']) (by rw [List.length_map]; omega) ?_; intro v4 w4 o4 g4 p4))
          have N4 := HS.out.1.app ((Bel.refl wr).alloc _) g4 o4
          exact ⟨⟨k + 1, false, outL ++ [(y1, y2)], by omega, rfl, by go_num, HH.out, by have := HG.out; simpa [List.append_assoc] using this, by rw [List.map_append]; exact N4⟩, by simp [intOf]; omega⟩
      · rcases Int.lt_trichotomy b y1 with hr | hr | hr
        · rw [hitW_cons, show (decide ((y1, y2).1 = b) && decide (n < (y1, y2).2)) = false by simp; omega, Bool.false_or] at hh
          have HH := Hid.mk hh
          clear hh
          have f4 : (y1 == b) = false := by simp; omega
          have h5 := gI_case (fun y : Int × Int => decide (b ≤ y.1)) (fun y : Int × Int => decide (y.1 ≠ b)) (b, n) (y1, y2) true true true (l.drop (k + 1)) (by first | (simp; done) | (simp; omega)) (by first | (simp; done) | (simp; omega))
          have hgo2 : outL ++ ([] ++ [(y1, y2)] ++ gI (fun y : Int × Int => decide (b ≤ y.1)) (fun y : Int × Int => decide (y.1 ≠ b)) (b, n) true (l.drop (k + 1))) = R0 := by rw [h5] at hgo; exact hgo
          have HG := Hid.mk hgo2
          clear h5 hgo hgo2
          have f1 : decide (b ≤ y1) = true := by first | (simp; done) | (simp; omega)
          have f2 : (y1 != b) = true := by first | (simp; done) | (simp; omega)
          clear hr
          go_wp2_with (first | (at_builtin; refine wp_app ei122 rfl _ _ rfl (HS.out.1.out.alloc _) (by rw [size_alloc]; omega) #[.int .i64 y1, .int .i64 y2] rfl (by first | rfl | (simp only [size_alloc]; rfl)) rfl (by simp [Value.oneCell']) (by rw [List.length_map]; omega) ?_; intro v4 w4 o4 g4 p4))
          have N4 := HS.out.1.app ((Bel.refl wr).alloc _) g4 o4
          exact ⟨⟨k + 1, true, outL ++ [(y1, y2)], by omega, rfl, by go_num, HH.out, by have := HG.out; simpa [List.append_assoc] using this, by rw [List.map_append]; exact N4⟩, by simp [intOf]; omega⟩
        · have f4 : (y1 == b) = true := by simp; omega
          by_cases hit : n < y2
          · rw [hitW_cons, show (decide ((y1, y2).1 = b) && decide (n < (y1, y2).2)) = true by simp; omega, Bool.true_or] at hh
            have f5 : decide (n < y2) = true := decide_eq_true hit
            obtain ⟨f0, s0, q0, b0⟩ := E0.out
            have hwG2 : G + 1 < wr.heap.size := by omega
            obtain ⟨m00, m01, m02, m03⟩ := (s0.call HS.out.1.bel).cells
            obtain ⟨m20, m21, m22, m23⟩ := (q0.call HS.out.1.bel).cells
            have g0 := (q0.call HS.out.1.bel).fz 0
            have g1 := (q0.call HS.out.1.bel).fz 1
            have g2 := (q0.call HS.out.1.bel).fz 2
            have g3 := (q0.call HS.out.1.bel).fz 3
            have fin : Hid (∀ w5, Bel W0 w5 → Box4 (set4 w5 (G + 1) (.slice a0 n0 c0) (.slice a1 n1 c1) (.slice a2 n2 c2) (.slice (some ⟨g, 0, none⟩) l.length c3)) (G + 1) (.slice a0 n0 c0) (.slice a1 n1 c1) (.slice a2 n2 c2) (.slice (some ⟨g, 0, none⟩) l.length c3) ∧ RAt (set4 w5 (G + 1) (.slice a0 n0 c0) (.slice a1 n1 c1) (.slice a2 n2 c2) (.slice (some ⟨g, 0, none⟩) l.length c3)) B (.slice a0 n0 c0) (.slice a1 n1 c1) (.slice a2 n2 c2) (.slice (some ⟨g, 0, none⟩) l.length c3) m ∧ Below w.heap.size w (set4 w5 (G + 1) (.slice a0 n0 c0) (.slice a1 n1 c1) (.slice a2 n2 c2) (.slice (some ⟨g, 0, none⟩) l.length c3))) := fun w5 b => by
              have e := hG.out
              subst e
              exact end_same (Bo := w.heap.size + 2) H.out b0 q0 (by omega) b
            subst hh
            clear f0 s0 q0 b0 E0 k1 hit hr hgo
            go_wp2_with fail
            have q := fin.out wr HS.out.1.bel
            refine bodyPost_ret (st_result rfl rfl (q.1.alloc _)) rfl ?_
            refine ⟨_, rfl, ?_, fun g hg => .inr hg, q.2.2.alloc q.2.2.size _⟩
            exact q.2.1.alloc _
          have f5 : decide (n < y2) = false := decide_eq_false hit
          rw [hitW_cons, show (decide ((y1, y2).1 = b) && decide (n < (y1, y2).2)) = false by simp; omega, Bool.false_or] at hh
          have HH := Hid.mk hh
          clear hh hit
          have h5 := gI_case (fun y : Int × Int => decide (b ≤ y.1)) (fun y : Int × Int => decide (y.1 ≠ b)) (b, n) (y1, y2) true true false (l.drop (k + 1)) (by first | (simp; done) | (simp; omega)) (by first | (simp; done) | (simp; omega))
          have hgo2 : outL ++ ([] ++ [] ++ gI (fun y : Int × Int => decide (b ≤ y.1)) (fun y : Int × Int => decide (y.1 ≠ b)) (b, n) true (l.drop (k + 1))) = R0 := by rw [h5] at hgo; exact hgo
          have HG := Hid.mk hgo2
          clear h5 hgo hgo2
          have f1 : decide (b ≤ y1) = true := by first | (simp; done) | (simp; omega)
          have f2 : (y1 != b) = false := by first | (simp; done) | (simp; omega)
          clear hr
          go_wp2_with fail
          exact ⟨⟨k + 1, true, outL, by omega, rfl, by go_num, HH.out, by have := HG.out; simpa [List.append_assoc] using this, HS.out.1.al _⟩, by simp [intOf]; omega⟩
        · rw [hitW_cons, show (decide ((y1, y2).1 = b) && decide (n < (y1, y2).2)) = false by simp; omega, Bool.false_or] at hh
          have HH := Hid.mk hh
          clear hh
          have f4 : (y1 == b) = false := by simp; omega
          have h5 := gI_case (fun y : Int × Int => decide (b ≤ y.1)) (fun y : Int × Int => decide (y.1 ≠ b)) (b, n) (y1, y2) true false true (l.drop (k + 1)) (by first | (simp; done) | (simp; omega)) (by first | (simp; done) | (simp; omega))
          have hgo2 : outL ++ ([] ++ [(y1, y2)] ++ gI (fun y : Int × Int => decide (b ≤ y.1)) (fun y : Int × Int => decide (y.1 ≠ b)) (b, n) true (l.drop (k + 1))) = R0 := by rw [h5] at hgo; exact hgo
          have HG := Hid.mk hgo2
          clear h5 hgo hgo2
          have f1 : decide (b ≤ y1) = false := by first | (simp; done) | (simp; omega)
          have f2 : (y1 != b) = true := by first | (simp; done) | (simp; omega)
          clear hr
          go_wp2_with (first | (at_builtin; refine wp_app ei122 rfl _ _ rfl (HS.out.1.out.alloc _) (by rw [size_alloc]; omega) #[.int .i64 y1, .int .i64 y2] rfl (by first | rfl | (simp only [size_alloc]; rfl)) rfl (by simp [Value.oneCell']) (by rw [List.length_map]; omega) ?_; intro v4 w4 o4 g4 p4))
          have N4 := HS.out.1.app ((Bel.refl wr).alloc _) g4 o4
          exact ⟨⟨k + 1, true, outL ++ [(y1, y2)], by omega, rfl, by go_num, HH.out, by have := HG.out; simpa [List.append_assoc] using this, by rw [List.map_append]; exact N4⟩, by simp [intOf]; omega⟩
    · have hk2 : k = l.length := by omega
      subst hk2
      have hh2 : false = h0 := by rw [List.drop_length] at hh; exact hh
      subst hh2
      rw [List.drop_length, gI] at hgo
      obtain ⟨va, vn, vc, rfl⟩ := hs.out.isSl
      have HS := Hid.mk (And.intro hs hol)
      clear hs hol hlv
      have hlen : outL.length < 900000 := by have := HS.out.2; omega
      obtain ⟨f0, s0, q0, b0⟩ := E0.out
      have hwG2 : G + 1 < wr.heap.size := by omega
      have CC : Hid (∀ w5, Bel W0 w5 → (w5.cell? ⟨G, 0, none⟩ = some (.slice a0 n0 c0) ∧ w5.cell? ⟨G, 1, none⟩ = some (.slice a1 n1 c1) ∧ w5.cell? ⟨G, 2, none⟩ = some (.slice a2 n2 c2) ∧ w5.cell? ⟨G, 3, none⟩ = some (.slice a3 l.length c3)) ∧ (w5.cell? ⟨G + 1, 0, none⟩ = some (.slice none 0 0) ∧ w5.cell? ⟨G + 1, 1, none⟩ = some (.slice none 0 0) ∧ w5.cell? ⟨G + 1, 2, none⟩ = some (.slice none 0 0) ∧ w5.cell? ⟨G + 1, 3, none⟩ = some (.slice none 0 0)) ∧ (∀ j, w5.frozen? ⟨G, j, none⟩ = false) ∧ ∀ j, w5.frozen? ⟨G + 1, j, none⟩ = false) := fun w5 b => ⟨(s0.call b).cells, (q0.call b).cells, fun j => (s0.call b).fz j, fun j => (q0.call b).fz j⟩
      have fin : Hid (∀ (v : Value) (w5 : World) (L : Pl), Bel W0 w5 → Ow w5 (G + 2) 122 2 v (L.map rP) → Box4 (set4 (w5.setCell ⟨G, 3, none⟩ v) (G + 1) (.slice a0 n0 c0) (.slice a1 n1 c1) (.slice a2 n2 c2) v) (G + 1) (.slice a0 n0 c0) (.slice a1 n1 c1) (.slice a2 n2 c2) v ∧ RAt (set4 (w5.setCell ⟨G, 3, none⟩ v) (G + 1) (.slice a0 n0 c0) (.slice a1 n1 c1) (.slice a2 n2 c2) v) B (.slice a0 n0 c0) (.slice a1 n1 c1) (.slice a2 n2 c2) v { m with worn := L } ∧ (∀ g, v.ownBlock = some g → w.heap.size ≤ g) ∧ Below w.heap.size w (set4 (w5.setCell ⟨G, 3, none⟩ v) (G + 1) (.slice a0 n0 c0) (.slice a1 n1 c1) (.slice a2 n2 c2) v)) := fun v w5 L b o => by
        have e := hG.out
        subst e
        exact end_worn hB H.out b0 s0 q0 (by omega) b o
      clear f0 s0 q0 b0 E0 k1
      obtain ⟨⟨m00, m01, m02, m03⟩, ⟨m20, m21, m22, m23⟩, fr, fs⟩ := CC.out wr HS.out.1.bel
      have fr1 := fr 3
      have g0 := fs 0
      have g1 := fs 1
      have g2 := fs 2
      have g3 := fs 3
      clear fr fs
      cases inn
      · rw [if_neg (by simp)] at hgo
        subst hgo
        go_upto_region 14 with (first | (at_builtin; refine wp_app ei122 rfl _ _ rfl HS.out.1.out (HS.out.1.le) #[.int .i64 b, .int .i64 n] rfl (by first | rfl | (simp only [size_alloc]; rfl)) rfl (by simp [Value.oneCell']) (by rw [List.length_map]; omega) ?_; intro v5 w5 o5 g5 p5))
        have N5 := HS.out.1.app (Bel.refl wr) g5 o5
        obtain ⟨va5, vn5, vc5, rfl⟩ := N5.out.isSl
        obtain ⟨⟨t00, t01, t02, t03⟩, ⟨t20, t21, t22, t23⟩, tr, ts⟩ := CC.out w5 N5.bel
        have tr1 := tr 3
        have s0 := ts 0
        have s1 := ts 1
        have s2 := ts 2
        have s3 := ts 3
        have N6 : WbS W0 (G + 2) 122 2 (.slice va5 vn5 vc5) ((outL ++ [(b, n)]).map rP) w5 := by rw [List.map_append]; exact N5
        replace N5 := Hid.mk N6
        clear N6 tr ts o5 g5 p5 m00 m01 m02 m03 m20 m21 m22 m23 fr1 g0 g1 g2 g3
        go_wp2_with fail
        refine bodyPost_ret (st_result rfl rfl (fin.out _ _ _ N5.out.bel N5.out.out).1) rfl ?_
        have q := (fin.out _ _ _ N5.out.bel N5.out.out).2
        exact ⟨_, rfl, q.1, fun g hg => .inl (q.2.1 g hg), q.2.2⟩
      · rw [if_pos rfl, List.append_nil] at hgo
        subst hgo
        go_wp2_with fail
        refine bodyPost_ret (st_result rfl rfl (fin.out _ _ _ HS.out.1.bel HS.out.1.out).1) rfl ?_
        have q := (fin.out _ _ _ HS.out.1.bel HS.out.1.out).2
        exact ⟨_, rfl, q.1, fun g hg => .inl (q.2.1 g hg), q.2.2⟩

set_option maxRecDepth 20000 in
set_option maxHeartbeats 4000000 in
theorem rdropped_any {w : World} {B v0 v1 v2 v3 m} (h : RAt w B v0 v1 v2 v3 m) (hn : m.sp.length < 100000) (hB : B ≤ w.heap.size) (hn2 : m.lv.length < 100000) (id : Int) : Calls Try.prog 58 #[.agg #[v0, v1, v2, v3], .int .i64 id] w fun e w' => ∃ v u, e = .returned (.agg #[v, u, v2, v3]) ∧ RAt w' B v u v2 v3 { m with sp := m.sp.filter (fun y : S3 => decide (y.1 ≠ id)), lv := m.lv.filter (fun y : L3 => decide (y.1 ≠ id ∨ (0 : Int) ≤ -1 ∧ y.2.1 ≠ -1)) } ∧ (∀ g, v.ownBlock = some g → w.heap.size ≤ g) ∧ (∀ g, u.ownBlock = some g → w.heap.size ≤ g) ∧ Below w.heap.size w w' := by
  obtain ⟨a1, n1, c1, rfl⟩ := h.lv.isSl
  obtain ⟨a2, n2, c2, rfl⟩ := h.bad.isSl
  obtain ⟨a3, n3, c3, rfl⟩ := h.worn.isSl
  obtain ⟨a0, c0, rfl⟩ := h.sp.form
  rw [List.length_map] at h ⊢
  generalize hR : List.filter (fun y : S3 => decide (y.1 ≠ id)) m.sp = R0
  have hRl : R0.length ≤ m.sp.length + 1 := by rw [← hR]; exact Nat.le_trans (List.length_filter_le _ _) (Nat.le_succ _)
  have H := Hid.mk h
  clear h
  go_enter Try.func58, Try.ntmps58
  go_upto_region 1 with fail
  have e0 : (w.alloc (.cells #[.slice a0 m.sp.length c0, .slice a1 n1 c1, .slice a2 n2 c2, .slice a3 n3 c3] 33)).heap.size = w.heap.size + 1 := by rw [size_alloc]
  have s0 := (Box4.fresh w (.slice a0 m.sp.length c0) (.slice a1 n1 c1) (.slice a2 n2 c2) (.slice a3 n3 c3)).alloc (.cells #[.slice none 0 0, .slice none 0 0, .slice none 0 0, .slice none 0 0] 33)
  have q0 := Box4.fresh (w.alloc (.cells #[.slice a0 m.sp.length c0, .slice a1 n1 c1, .slice a2 n2 c2, .slice a3 n3 c3] 33)) (.slice none 0 0) (.slice none 0 0) (.slice none 0 0) (.slice none 0 0)
  rw [e0] at q0
  have b0 : Bel w ((w.alloc (.cells #[.slice a0 m.sp.length c0, .slice a1 n1 c1, .slice a2 n2 c2, .slice a3 n3 c3] 33)).alloc (.cells #[.slice none 0 0, .slice none 0 0, .slice none 0 0, .slice none 0 0] 33)) := ((Bel.refl w).alloc _).alloc _
  have h0 := H.out.call b0
  have z0 : ((w.alloc (.cells #[.slice a0 m.sp.length c0, .slice a1 n1 c1, .slice a2 n2 c2, .slice a3 n3 c3] 33)).alloc (.cells #[.slice none 0 0, .slice none 0 0, .slice none 0 0, .slice none 0 0] 33)).heap.size = w.heap.size + 2 := by rw [size_alloc, e0]
  generalize ((w.alloc (.cells #[.slice a0 m.sp.length c0, .slice a1 n1 c1, .slice a2 n2 c2, .slice a3 n3 c3] 33)).alloc (.cells #[.slice none 0 0, .slice none 0 0, .slice none 0 0, .slice none 0 0] 33)) = W0 at *
  clear e0
  have o0 := Ow.made W0 (B := w.heap.size + 2) (by omega) 87 3
  rw [z0] at o0
  have S0 : WbS W0 (w.heap.size + 2) 87 3 (.slice (some ⟨w.heap.size + 2, 0, none⟩) 0 0) [] (W0.alloc (.cells #[] 87)) := ⟨o0, (Bel.refl W0).alloc _, z0⟩
  replace S0 := Hid.mk S0
  have C0 : Hid (∀ wr, Bel W0 wr → wr.cell? ⟨w.heap.size, 0, none⟩ = some (.slice a0 m.sp.length c0) ∧ Ow wr B 87 3 (.slice a0 m.sp.length c0) (m.sp.map rS)) := fun wr b => by
    exact ⟨(s0.call b).cells.1, h0.sp.call b⟩
  have E0 := Hid.mk (And.intro h0 (And.intro s0 (And.intro q0 b0)))
  clear h0 s0 q0 b0 o0
  generalize hG : w.heap.size = G at *
  replace hG := Hid.mk hG
  generalize hl : m.sp = l at *
  replace hl := Hid.mk hl
  have hg3 : G + 2 ≤ W0.heap.size := by omega
  go_upto_region 3 with fail
  go_loopw [5, 6] (fun v i wr => ∃ (k : Nat) (outL : List S3), k ≤ l.length ∧ i = .int .i64 k ∧ outL ++ List.filter (fun y : S3 => decide (y.1 ≠ id)) (l.drop k) = R0 ∧ WbS W0 (G + 2) 87 3 v (outL.map rS) wr) (fun _ i _ => l.length - (intOf i).toNat)
  case atStart => exact ⟨0, [], Nat.zero_le _, rfl, by simpa using hR, S0.out⟩
  case round =>
    clear S0
    obtain ⟨k, outL, hk, rfl, hgo, hs⟩ := hrel
    obtain ⟨k1, hlv⟩ := C0.out wr hs.bel
    have hol : outL.length ≤ R0.length := by rw [← hgo, List.length_append]; omega
    have hwG : G + 2 ≤ wr.heap.size := hs.le
    have hwG0 : G < wr.heap.size := by omega
    have hwG1 : G + 1 < wr.heap.size := by omega
    by_cases hkn : k < l.length
    · obtain ⟨g, rfl, hgB, hgl, d0, d1, d2⟩ := hlv.at3s hkn
      rw [dropC l k (0, 0, false) hkn] at hgo
      generalize l.getD k (0, 0, false) = y at *
      obtain ⟨y1, y2, y3⟩ := y
      simp only at d0 d1 d2
      have HS := Hid.mk (And.intro hs hol)
      clear hs hol hlv
      have hlen : outL.length < 900000 := by have := HS.out.2; omega
      by_cases h1 : y1 = id
      · rw [List.filter_cons, if_neg (by simp; omega)] at hgo
        have HG := Hid.mk hgo
        have f1 : (y1 != id) = false := by first | (simp; done) | (simp; omega)
        clear hgo h1
        go_wp2_with fail
        exact ⟨⟨k + 1, outL, by omega, by go_num, HG.out, HS.out.1⟩, by simp [intOf]; omega⟩
      · rw [List.filter_cons, if_pos (by simp; omega)] at hgo
        have HG := Hid.mk hgo
        have f1 : (y1 != id) = true := by first | (simp; done) | (simp; omega)
        clear hgo h1
        go_wp2_with (first | (at_builtin; refine wp_app ei87 rfl _ _ rfl (HS.out.1.out) (HS.out.1.le) #[.int .i64 y1, .int .i64 y2, .bool y3] rfl (by first | rfl | (simp only [size_alloc]; rfl)) rfl (by simp [Value.oneCell']) (by rw [List.length_map]; omega) ?_; intro v4 w4 o4 g4 p4))
        have N4 := HS.out.1.app (Bel.refl _) g4 o4
        exact ⟨⟨k + 1, outL ++ [(y1, y2, y3)], by omega, by go_num, by have := HG.out; simpa [List.append_assoc] using this, by rw [List.map_append]; exact N4⟩, by simp [intOf]; omega⟩
    · have hk2 : k = l.length := by omega
      subst hk2
      rw [List.drop_length, List.filter_nil] at hgo
      obtain ⟨va, vn, vc, rfl⟩ := hs.out.isSl
      have HS := Hid.mk (And.intro hs hol)
      clear hs hol hlv
      have hlen : outL.length < 900000 := by have := HS.out.2; omega
      obtain ⟨f0, s0, q0, b0⟩ := E0.out
      have hwG2 : G + 1 < wr.heap.size := by omega
      have CC : Hid (∀ w5, Bel W0 w5 → (w5.cell? ⟨G, 0, none⟩ = some (.slice a0 l.length c0) ∧ w5.cell? ⟨G, 1, none⟩ = some (.slice a1 n1 c1) ∧ w5.cell? ⟨G, 2, none⟩ = some (.slice a2 n2 c2) ∧ w5.cell? ⟨G, 3, none⟩ = some (.slice a3 n3 c3)) ∧ (w5.cell? ⟨G + 1, 0, none⟩ = some (.slice none 0 0) ∧ w5.cell? ⟨G + 1, 1, none⟩ = some (.slice none 0 0) ∧ w5.cell? ⟨G + 1, 2, none⟩ = some (.slice none 0 0) ∧ w5.cell? ⟨G + 1, 3, none⟩ = some (.slice none 0 0)) ∧ (∀ j, w5.frozen? ⟨G, j, none⟩ = false) ∧ ∀ j, w5.frozen? ⟨G + 1, j, none⟩ = false) := fun w5 b => ⟨(s0.call b).cells, (q0.call b).cells, fun j => (s0.call b).fz j, fun j => (q0.call b).fz j⟩
      obtain ⟨⟨m00, m01, m02, m03⟩, ⟨m20, m21, m22, m23⟩, fr, fs⟩ := CC.out wr HS.out.1.bel
      have fr0 := fr 0
      clear fr fs
      rw [List.append_nil] at hgo
      subst hgo
      have hG0 := hG.out
      have k1' : Kp wr (wr.setCell ⟨G, 0, none⟩ (.slice va vn vc)) G G := kp_set _ _ _ _ _ (.inl rfl) _
      have R1 : RAt (wr.setCell ⟨G, 0, none⟩ (.slice va vn vc)) B (.slice va vn vc) (.slice a1 n1 c1) (.slice a2 n2 c2) (.slice a3 n3 c3) { m with sp := outL } := ⟨(HS.out.1.out.lower (by omega)).kp k1' (fun e => by have := (HS.out.1.out.lt _ e).1; omega) (fun e => by have := (HS.out.1.out.lt _ e).1; omega),
        ((H.out.lv.call b0).call HS.out.1.bel).kp k1' (fun e => by have := (H.out.lv.lt _ e).2; omega) (fun e => by have := (H.out.lv.lt _ e).2; omega),
        ((H.out.bad.call b0).call HS.out.1.bel).kp k1' (fun e => by have := (H.out.bad.lt _ e).2; omega) (fun e => by have := (H.out.bad.lt _ e).2; omega),
        ((H.out.worn.call b0).call HS.out.1.bel).kp k1' (fun e => by have := (H.out.worn.lt _ e).2; omega) (fun e => by have := (H.out.worn.lt _ e).2; omega)⟩
      have q1 : Box4 (wr.setCell ⟨G, 0, none⟩ (.slice va vn vc)) (G + 1) (.slice none 0 0) (.slice none 0 0) (.slice none 0 0) (.slice none 0 0) := (heap_setCell_other _ _ _ _ (by show G + 1 ≠ G; omega)).trans (q0.call HS.out.1.bel)
      have s1 : Box4 (wr.setCell ⟨G, 0, none⟩ (.slice va vn vc)) G (.slice va vn vc) (.slice a1 n1 c1) (.slice a2 n2 c2) (.slice a3 n3 c3) := by
        have := heap_setCell_same wr G 0 _ 33 (.slice va vn vc) (s0.call HS.out.1.bel)
        exact this
      have b1 : Below w.heap.size w (wr.setCell ⟨G, 0, none⟩ (.slice va vn vc)) := kp_bel (b0.trans HS.out.1.bel) k1' (by omega) (by omega)
      have ov : ∀ g, (Value.slice va vn vc).ownBlock = some g → w.heap.size ≤ g := fun g hg => by have := (HS.out.1.out.lt _ hg).1; omega
      clear f0 s0 q0 b0 E0 k1 k1' hG0
      go_upto_region 8 with fail
      obtain ⟨t00, t01, t02, t03⟩ := s1.cells
      have hs6 : (wr.setCell ⟨G, 0, none⟩ (.slice va vn vc)).heap.size = wr.heap.size := by simp [World.setCell]
      generalize wr.setCell ⟨G, 0, none⟩ (.slice va vn vc) = W6 at *
      have hwo := rwithout_any R1 (by exact hn2) (by have := b1.size; have := hG.out; omega) id (-1)
      have HW := Hid.mk (And.intro hwo (And.intro R1 (And.intro q1 (And.intro b1 ov))))
      clear hwo R1 q1 b1 ov s1 m00 m01 m02 m03 m20 m21 m22 m23 fr0
      have h60 : G + 1 < W6.heap.size := by omega
      go_wp2_with (first | (go_at_call 57; refine HW.out.1.mono ?_; rintro e w7 ⟨u7, rfl, R7, o7, b7⟩; obtain ⟨ua, un, uc, rfl⟩ := R7.lv.isSl; have Q7 := HW.out.2.2.1.call b7; obtain ⟨z20, z21, z22, z23⟩ := Q7.cells; have y0 := Q7.fz 0; have y1 := Q7.fz 1; have y2 := Q7.fz 2; have y3 := Q7.fz 3; replace Q7 := Hid.mk Q7))
      have q7 := set4_box Q7.out (.slice va vn vc) (.slice ua un uc) (.slice a2 n2 c2) (.slice a3 n3 c3)
      have kk := set4_kp w7 (G + 1) (G + 1) (.slice va vn vc) (.slice ua un uc) (.slice a2 n2 c2) (.slice a3 n3 c3)
      have hG0 := hG.out
      refine bodyPost_ret (st_result rfl rfl q7) rfl ⟨_, _, rfl, ?_, HW.out.2.2.2.2, fun g hg => Nat.le_trans HW.out.2.2.2.1.size (o7 g hg), ?_⟩
      · exact ⟨R7.sp.kp kk (fun e => by have := (HS.out.1.out.lt _ e).1; omega) (fun e => by have := (HS.out.1.out.lt _ e).1; omega),
          R7.lv.kp kk (fun e => by have := o7 _ e; omega) (fun e => by have := o7 _ e; omega),
          R7.bad.kp kk (fun e => by have := (H.out.bad.lt _ e).2; omega) (fun e => by have := (H.out.bad.lt _ e).2; omega),
          R7.worn.kp kk (fun e => by have := (H.out.worn.lt _ e).2; omega) (fun e => by have := (H.out.worn.lt _ e).2; omega)⟩
      · have b8 : Bel w w7 := below3 HW.out.2.2.2.1 b7
        exact kp_bel b8 kk (by omega) (by omega)
end Go.Proofs.Ytacgemibaojbaaa
