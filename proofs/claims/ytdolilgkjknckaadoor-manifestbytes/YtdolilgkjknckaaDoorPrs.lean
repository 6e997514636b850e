/-
  A manifest's lines are read again (manifest.Parse 12). No condition.
-/
import Derived.Test.YtdolilgkjknckaaDoorPsr
import Derived.Laws.ResultCell
namespace Go.Proofs.YtdolilgkjknckaaDoor
open Go Go.RowKit
set_option maxRecDepth 100000
theorem results_cell1 {fn : Func} {p : Tmp} {ty : TypeId} (h : fn.results = #[.cell p ty]) (tmps : Array Value) (P : Program) (w : World) :
    (results fn tmps).run P w = ((asAddr (tmps.getD p undef)).run P w).andThen fun a w₁ => (loadVar ty a).run P w₁ := by
  simp only [results, h]
  simp [Sem.run_bind, Result.andThen]
theorem results_cell3 {fn : Func} {p u v : Tmp} {ty : TypeId} (h : fn.results = #[.cell p ty, .tmp u, .tmp v]) (tmps : Array Value) (P : Program) (w : World) :
    (results fn tmps).run P w =
      ((asAddr (tmps.getD p undef)).run P w).andThen fun a w₁ => ((loadVar ty a).run P w₁).andThen fun x w₂ => .ok (.tuple #[x, tmps.getD u undef, tmps.getD v undef]) w₂ := by
  simp only [results, h]
  simp [Sem.run_bind, Result.andThen]
theorem mf_load {w : World} {g v l d} (h : Mf w g v l d) : (loadVar 23 ⟨g, 0, none⟩).run Tryd.prog w = .ok (mv v l d) w := by
  have c0 := h.c0
  have c1 := h.c1
  have c2 := h.c2
  clear h
  go_simp
theorem mf_result1 {fn : Func} {p : Tmp} (h : fn.results = #[.cell p 23]) {tmps : Array Value} {w : World} {g v l d} (hp : tmps.getD p undef = .pointer (some ⟨g, 0, none⟩)) (ha : Mf w g v l d) :
    (results fn tmps).run Tryd.prog w = .ok (mv v l d) w := by
  rw [results_cell1 h, hp]
  simp only [asAddr, Sem.run_pure, Result.andThen, mf_load ha]
theorem mf_result3 {fn : Func} {p u x : Tmp} (h : fn.results = #[.cell p 23, .tmp u, .tmp x]) {tmps : Array Value} {w : World} {g v l d} (hp : tmps.getD p undef = .pointer (some ⟨g, 0, none⟩)) (ha : Mf w g v l d) :
    (results fn tmps).run Tryd.prog w = .ok (.tuple #[mv v l d, tmps.getD u undef, tmps.getD x undef]) w := by
  rw [results_cell3 h, hp]
  simp only [asAddr, Sem.run_pure, Result.andThen, mf_load ha]
theorem decB_size (v : Int) (h0 : -9223372036854775808 ≤ v) (h1 : v ≤ 9223372036854775807) : (decB v).size ≤ 21 := by
  show (Lib.itoa v).toArray.size ≤ 21
  rw [List.size_toArray]
  exact Lib.itoa_length_le v h0 h1
theorem restN_size (v l : Int) (d : ByteArray) (m : Mok v l d) (k : Nat) (h1 : 1 ≤ k) (h5 : k ≤ 5) : (restN v l d k).size ≤ 300 := by
  have a := decB_size v (by have := m.v1; omega) (by have := m.v2; omega)
  have b := decB_size l (by have := m.l1; omega) (by have := m.l2; omega)
  have c := hexB_size d m.d1
  have e0 : titleB.size = 15 := rfl
  have e1 : verB.size = 8 := rfl
  have e2 : lenB.size = 7 := rfl
  have e3 : digB.size = 7 := rfl
  have e4 : nl.size = 1 := rfl
  have e5 : (⟨#[]⟩ : ByteArray).size = 0 := rfl
  rcases (by omega : k = 1 ∨ k = 2 ∨ k = 3 ∨ k = 4 ∨ k = 5) with rfl | rfl | rfl | rfl | rfl <;>
    simp only [restN, ByteArray.size_append, e0, e1, e2, e3, e4, e5, c] <;> omega
theorem no10_dec (v : Int) (h : 0 ≤ v) : ∀ b ∈ (decB v).data.toList, b ≠ 10 := by
  obtain ⟨n, rfl⟩ := Int.eq_ofNat_of_zero_le h
  intro b hb e
  have hb2 : b ∈ Lib.decDigits n := by rw [← itodi]; exact hb
  have ha := List.all_eq_true.1 (decDigits_all n).1 b hb2
  rw [e] at ha
  exact absurd ha (by decide)
theorem no10_hex (d : ByteArray) : ∀ b ∈ (hexB d).data.toList, b ≠ 10 := by
  intro b hb e
  have ha := List.all_eq_true.1 (Sh.all_hexL d.data.toList) b hb
  rw [e] at ha
  exact absurd ha (by decide)
theorem no10_app (F X : ByteArray) (h1 : ∀ b ∈ F.data.toList, b ≠ 10) (h2 : ∀ b ∈ X.data.toList, b ≠ 10) : ∀ b ∈ (F ++ X).data.toList, b ≠ 10 := by
  intro b hb
  rw [ByteArray.data_append, Array.toList_append, List.mem_append] at hb
  rcases hb with h | h
  · exact h1 b h
  · exact h2 b h
theorem no10_line (v l : Int) (d : ByteArray) (m : Mok v l d) (k : Nat) (h1 : 1 ≤ k) (h4 : k ≤ 4) : ∀ b ∈ (lineN v l d k).data.toList, b ≠ 10 := by
  rcases (by omega : k = 1 ∨ k = 2 ∨ k = 3 ∨ k = 4) with rfl | rfl | rfl | rfl
  · exact (by decide : ∀ b ∈ titleB.data.toList, b ≠ 10)
  · exact no10_app verB _ (by decide) (no10_dec v (by have := m.v1; omega))
  · exact no10_app lenB _ (by decide) (no10_dec l m.l1)
  · exact no10_app digB _ (by decide) (no10_hex d)
theorem parse_any (v l : Int) (d : ByteArray) (m : Mok v l d) (w : World) :
    Calls Tryd.prog 12 #[.string (restN v l d 1)] w fun e w' => e = .returned (.tuple #[mv v l d, .int .i64 0, .int .i64 0]) ∧ Below w.heap.size w w' := by
  have hM := Hid.mk m
  clear m
  go_enter Tryd.func12, Tryd.ntmps12
  go_wp2_with fail
  go_loopw [6, 7] (fun r a wr => ∃ k : Nat, 1 ≤ k ∧ k ≤ 5 ∧ r = .string (restN v l d k) ∧ a = .int .i64 k ∧ Mf wr w.heap.size 0 0 ⟨#[]⟩ ∧ Mf wr (w.heap.size + 1) (mV v k) (mL l k) (mD d k) ∧ Below w.heap.size w wr) (fun _ a _ => 5 - (intOf a).toNat)
  case atStart =>
    refine ⟨1, Nat.le_refl _, by omega, rfl, rfl, (Mf.fresh w 0 0 ⟨#[]⟩).alloc _, ?_, ((Below.refl _ w).alloc (Nat.le_refl _) _).alloc (by rw [size_alloc]; omega) _⟩
    have := Mf.fresh (w.alloc (.cells #[.int .i64 0, .int .i64 0, .string ⟨#[]⟩] 23)) 0 0 ⟨#[]⟩
    rw [size_alloc] at this
    exact this
  case round =>
    obtain ⟨k, h1, h5, rfl, rfl, m2, m5, bb⟩ := hrel
    by_cases h4 : k ≤ 4
    · have ct := fun w => cut_any (lineN v l d k) (restN v l d (k + 1)) (no10_line v l d hM.out k h1 h4) (by rw [← restN_step v l d k h1 h4]; have := restN_size v l d hM.out k h1 h5; omega) w
      simp only [← restN_step v l d k h1 h4] at ct
      have tl := fun (w : World) (g : Nat) (h : Mf w g (mV v k) (mL l k) (mD d k)) => tells_any v l d hM.out k h1 h4 h
      have HQ := Hid.mk (And.intro m2 (And.intro m5 bb))
      clear m2 m5 bb
      generalize restN v l d k = R at *
      generalize hR : restN v l d (k + 1) = R1 at *
      generalize lineN v l d k = L at *
      have HR := Hid.mk hR
      clear hR
      go_wp2_with (first
        | (go_at_call 32; refine (ct _).mono ?_; rintro e w1 ⟨rfl, n, rfl⟩)
        | (go_at_call 33; refine (tl _ _ (HQ.out.2.1.drewN n)).mono ?_; rintro e w1 ⟨rfl, m6, g6⟩))
      refine ⟨⟨k + 1, by omega, by omega, by rw [HR.out], by go_num, (HQ.out.1.drewN n).kept g6 (by omega), m6, ?_⟩, by simp [intOf]; omega⟩
      have hz := HQ.out.2.2.size
      exact below_grown HQ.out.2.2 (grown_trans (grown_drewN (grown_refl wr _) n) g6) hz (by omega)
    · obtain rfl : k = 5 := by omega
      have e1 : mV v 5 = v := if_pos (by omega)
      have e2 : mL l 5 = l := if_pos (by omega)
      have e3 : mD d 5 = d := if_pos (by omega)
      rw [e1, e2, e3] at m5
      show Code.wp _ _ _ _ _
      have f2 := m2.frozen
      have c0 := m2.c0
      have c1 := m2.c1
      have c2 := m2.c2
      have b0 := m5.c0
      have b1 := m5.c1
      have b2 := m5.c2
      have hr : restN v l d 5 = ⟨#[]⟩ := rfl
      rw [hr]
      have HQ := Hid.mk (And.intro m2 bb)
      clear m2 m5 bb h1 h5 h4 e1 e2 e3 hr
      go_wp2_with fail
      exact bodyPost_ret (mf_result3 rfl rfl (((HQ.out.1.set0 v).set1 l).set2 d)) rfl
        ⟨rfl, ((HQ.out.2.setCell (Nat.le_refl _) _).setCell (Nat.le_refl _) _).setCell (Nat.le_refl _) _⟩
end Go.Proofs.YtdolilgkjknckaaDoor
