/-
  Apply: what each kind of record makes of a state, and the errors. No condition.
-/
import Derived.Test.YtccelipljbkkgaaApm
namespace Go.Proofs.Ytccelipljbkkgaa
open Go Go.RowKit Go.Maps

theorem Done.call {w w1 : World} {s : St} {r : Ab × Int} {e : Ending} {w' : World} (q : Below w.heap.size w w1) (h : Done w1 s r e w') : Done w s r e w' := by
  obtain ⟨h1, s', h2, h3, h4⟩ := h
  exact ⟨h1, s', h2, h3, (Ch.call q).trans h4⟩
/-- the record's own block, behind the look whether it may be -/
theorem boxed {w w1 : World} {K S P A T N : Int} (q : Below (w.alloc (.cells #[.int .i64 K, .int .i64 S, .int .i64 P, .int .i64 A, .int .i64 T, .int .i64 N] 35)).heap.size (w.alloc (.cells #[.int .i64 K, .int .i64 S, .int .i64 P, .int .i64 A, .int .i64 T, .int .i64 N] 35)) w1) :
    Row w1 w.heap.size 35 .i64 [K, S, P, A, T, N] ∧ Below w.heap.size w w1 :=
  ⟨(Row.fresh w 35 .i64 [K, S, P, A, T, N]).call q, ((Below.refl _ w).alloc (Nat.le_refl _) _).trans (q.mono (by rw [size_alloc]; omega))⟩
theorem Whole.bad {w w' : World} {s : St} {A : Int} (h : Whole w s) (hA : 0 ≤ A ∧ A ≤ 31) (hm : Mp elU w' s.bB (mput s.bad A 0)) (q : w.mapTurned w' s.bB) : Whole w' { s with bad := mput s.bad A 0 } := by
  refine ⟨h.at'.badT hm q, ⟨h.inv.ids, h.inv.qs, h.inv.pss, h.inv.ups, h.inv.up, fun p hp => ?_, h.inv.worn, up_put h.inv.upb A 0, h.inv.upw⟩, h.refs⟩
  rcases mem_mput hp with rfl | hp
  · exact ⟨hA, rfl⟩
  · exact h.inv.bad p hp
theorem Whole.worn {w w' : World} {s : St} {A N : Int} (h : Whole w s) (hA : 0 ≤ A ∧ A ≤ 31) (hN : 0 ≤ N ∧ N ≤ 1073741824) (hm : Mp elI w' s.bW (mput s.worn A N)) (q : w.mapTurned w' s.bW) : Whole w' { s with worn := mput s.worn A N } := by
  refine ⟨h.at'.wornT hm q, ⟨h.inv.ids, h.inv.qs, h.inv.pss, h.inv.ups, h.inv.up, h.inv.bad, fun p hp => ?_, h.inv.upb, up_put h.inv.upw A N⟩, h.refs⟩
  rcases mem_mput hp with rfl | hp
  · exact ⟨hA, hN⟩
  · exact h.inv.worn p hp
set_option maxRecDepth 20000 in
theorem apply_bad {w : World} {s : St} (h : Whole w s) {K S P A T N : Int} (hm : mayB K S P A T N = false) :
    Calls Try.prog 7 #[.pointer (some ⟨s.p, 0, none⟩), rv K S P A T N] w (Done w s (ab s, 1)) := by
  have hck := fun W => checkB_any K S P A T N W
  rw [hm] at hck
  unfold rv at *
  have H := Hid.mk h
  have HC := Hid.mk hck
  clear h hck hm
  go_enter Try.func7, Try.ntmps7
  go_wp2_with (first | (go_at_call 20; refine (HC.out _).mono ?_; rintro e w1 ⟨rfl, b1⟩))
  go_ret
  exact Done.call (boxed b1).2 (Done.same (H.out.call (boxed b1).2) 1)
set_option maxRecDepth 20000 in
theorem apply_nil {w : World} {K S P A T N : Int} : Calls Try.prog 7 #[.pointer none, rv K S P A T N] w fun e w' => e = .returned (.int .i64 1) ∧ Below w.heap.size w w' := by
  unfold rv
  go_enter Try.func7, Try.ntmps7
  go_wp2_with fail
  go_ret
  exact ⟨rfl, (Below.refl _ w).alloc (Nat.le_refl _) _⟩
set_option maxRecDepth 20000 in
theorem apply_1 {w : World} {s : St} (h : Whole w s) {S P A T N : Int} (hm : mayB 1 S P A T N = true) (hS : 1 ≤ S ∧ S ≤ 15) (hP : 0 ≤ P ∧ P ≤ 1023) (hA : 0 ≤ A ∧ A ≤ 2000) :
    Calls Try.prog 7 #[.pointer (some ⟨s.p, 0, none⟩), rv 1 S P A T N] w (Done w s (putA (ab s) S P A)) := by
  have hck := fun W => checkB_any 1 S P A T N W
  rw [hm] at hck
  unfold rv at *
  have H := Hid.mk h
  have HC := Hid.mk hck
  clear h hck hm
  go_enter Try.func7, Try.ntmps7
  go_upto_region 3 with (first | (go_at_call 20; refine (HC.out _).mono ?_; rintro e w1 ⟨rfl, b1⟩))
  have r1 := (boxed b1).1
  have W1 := H.out.call (boxed b1).2
  have hc : Calls Try.prog 22 #[.pointer (some ⟨s.p, 0, none⟩), .int .i64 S, .int .i64 P, .int .i64 A] w1 (Done w1 s (putA (ab s) S P A)) := put_ab W1 hS hP hA
  have hfl := fill_any W1.at'
  obtain ⟨c0, c1, c2, c3, c4, c5⟩ := r1.six
  replace hc := Hid.mk hc
  replace hfl := Hid.mk hfl
  have B1 : Hid (∀ r e w', Done w1 s r e w' → Done w s r e w') := fun r e w' hh => Done.call (boxed b1).2 hh
  clear W1 r1 b1
  generalize w.heap.size = R at *
  go_wp2_with (first
    | (go_at_call 21; refine hfl.out.mono ?_; rintro e w2 ⟨rfl, rfl⟩)
    | (go_at_call 22; refine hc.out.mono ?_; intro e w2 hd; obtain ⟨rfl, hd2⟩ := hd))
  go_ret
  exact B1.out _ _ _ ⟨rfl, hd2⟩
set_option maxRecDepth 20000 in
theorem apply_2 {w : World} {s : St} (h : Whole w s) {S P A T N : Int} (hm : mayB 2 S P A T N = true) (hS : 1 ≤ S ∧ S ≤ 15) (hP : 0 ≤ P ∧ P ≤ 1023) :
    Calls Try.prog 7 #[.pointer (some ⟨s.p, 0, none⟩), rv 2 S P A T N] w (Done w s (trimA (ab s) S P)) := by
  have hck := fun W => checkB_any 2 S P A T N W
  rw [hm] at hck
  unfold rv at *
  have H := Hid.mk h
  have HC := Hid.mk hck
  clear h hck hm
  go_enter Try.func7, Try.ntmps7
  go_upto_region 3 with (first | (go_at_call 20; refine (HC.out _).mono ?_; rintro e w1 ⟨rfl, b1⟩))
  have r1 := (boxed b1).1
  have W1 := H.out.call (boxed b1).2
  have hc : Calls Try.prog 23 #[.pointer (some ⟨s.p, 0, none⟩), .int .i64 S, .int .i64 P] w1 (Done w1 s (trimA (ab s) S P)) := trim_ab W1 hS hP
  have hfl := fill_any W1.at'
  obtain ⟨c0, c1, c2, c3, c4, c5⟩ := r1.six
  replace hc := Hid.mk hc
  replace hfl := Hid.mk hfl
  have B1 : Hid (∀ r e w', Done w1 s r e w' → Done w s r e w') := fun r e w' hh => Done.call (boxed b1).2 hh
  clear W1 r1 b1
  generalize w.heap.size = R at *
  go_wp2_with (first
    | (go_at_call 21; refine hfl.out.mono ?_; rintro e w2 ⟨rfl, rfl⟩)
    | (go_at_call 23; refine hc.out.mono ?_; intro e w2 hd; obtain ⟨rfl, hd2⟩ := hd))
  go_ret
  exact B1.out _ _ _ ⟨rfl, hd2⟩
set_option maxRecDepth 20000 in
theorem apply_3 {w : World} {s : St} (h : Whole w s) {S P A T N : Int} (hm : mayB 3 S P A T N = true) (hA : 0 ≤ A ∧ A ≤ 2000) (hT : 0 ≤ T ∧ T ≤ 2000) :
    Calls Try.prog 7 #[.pointer (some ⟨s.p, 0, none⟩), rv 3 S P A T N] w (Done w s (moveA (ab s) A T)) := by
  have hck := fun W => checkB_any 3 S P A T N W
  rw [hm] at hck
  unfold rv at *
  have H := Hid.mk h
  have HC := Hid.mk hck
  clear h hck hm
  go_enter Try.func7, Try.ntmps7
  go_upto_region 3 with (first | (go_at_call 20; refine (HC.out _).mono ?_; rintro e w1 ⟨rfl, b1⟩))
  have r1 := (boxed b1).1
  have W1 := H.out.call (boxed b1).2
  have hc : Calls Try.prog 24 #[.pointer (some ⟨s.p, 0, none⟩), .int .i64 A, .int .i64 T] w1 (Done w1 s (moveA (ab s) A T)) := move_ab W1 hA hT
  have hfl := fill_any W1.at'
  obtain ⟨c0, c1, c2, c3, c4, c5⟩ := r1.six
  replace hc := Hid.mk hc
  replace hfl := Hid.mk hfl
  have B1 : Hid (∀ r e w', Done w1 s r e w' → Done w s r e w') := fun r e w' hh => Done.call (boxed b1).2 hh
  clear W1 r1 b1
  generalize w.heap.size = R at *
  go_wp2_with (first
    | (go_at_call 21; refine hfl.out.mono ?_; rintro e w2 ⟨rfl, rfl⟩)
    | (go_at_call 24; refine hc.out.mono ?_; intro e w2 hd; obtain ⟨rfl, hd2⟩ := hd))
  go_ret
  exact B1.out _ _ _ ⟨rfl, hd2⟩
set_option maxRecDepth 20000 in
theorem apply_4 {w : World} {s : St} (h : Whole w s) {S P A T N : Int} (hm : mayB 4 S P A T N = true) (hS : 1 ≤ S ∧ S ≤ 15) (hN : 1 ≤ N ∧ N ≤ 1024) :
    Calls Try.prog 7 #[.pointer (some ⟨s.p, 0, none⟩), rv 4 S P A T N] w (Done w s (addA (ab s) S N)) := by
  have hck := fun W => checkB_any 4 S P A T N W
  rw [hm] at hck
  unfold rv at *
  have H := Hid.mk h
  have HC := Hid.mk hck
  clear h hck hm
  go_enter Try.func7, Try.ntmps7
  go_upto_region 3 with (first | (go_at_call 20; refine (HC.out _).mono ?_; rintro e w1 ⟨rfl, b1⟩))
  have r1 := (boxed b1).1
  have W1 := H.out.call (boxed b1).2
  have hc : Calls Try.prog 25 #[.pointer (some ⟨s.p, 0, none⟩), .int .i64 S, .int .i64 N] w1 (Done w1 s (addA (ab s) S N)) := add_ab W1 hS hN
  have hfl := fill_any W1.at'
  obtain ⟨c0, c1, c2, c3, c4, c5⟩ := r1.six
  replace hc := Hid.mk hc
  replace hfl := Hid.mk hfl
  have B1 : Hid (∀ r e w', Done w1 s r e w' → Done w s r e w') := fun r e w' hh => Done.call (boxed b1).2 hh
  clear W1 r1 b1
  generalize w.heap.size = R at *
  go_wp2_with (first
    | (go_at_call 21; refine hfl.out.mono ?_; rintro e w2 ⟨rfl, rfl⟩)
    | (go_at_call 25; refine hc.out.mono ?_; intro e w2 hd; obtain ⟨rfl, hd2⟩ := hd))
  go_ret
  exact B1.out _ _ _ ⟨rfl, hd2⟩
set_option maxRecDepth 20000 in
theorem apply_5 {w : World} {s : St} (h : Whole w s) {S P A T N : Int} (hm : mayB 5 S P A T N = true) (hS : 1 ≤ S ∧ S ≤ 15) :
    Calls Try.prog 7 #[.pointer (some ⟨s.p, 0, none⟩), rv 5 S P A T N] w (Done w s (dropA (ab s) S)) := by
  have hck := fun W => checkB_any 5 S P A T N W
  rw [hm] at hck
  unfold rv at *
  have H := Hid.mk h
  have HC := Hid.mk hck
  clear h hck hm
  go_enter Try.func7, Try.ntmps7
  go_upto_region 3 with (first | (go_at_call 20; refine (HC.out _).mono ?_; rintro e w1 ⟨rfl, b1⟩))
  have r1 := (boxed b1).1
  have W1 := H.out.call (boxed b1).2
  have hc : Calls Try.prog 26 #[.pointer (some ⟨s.p, 0, none⟩), .int .i64 S] w1 (Done w1 s (dropA (ab s) S)) := drop_ab W1 hS
  have hfl := fill_any W1.at'
  obtain ⟨c0, c1, c2, c3, c4, c5⟩ := r1.six
  replace hc := Hid.mk hc
  replace hfl := Hid.mk hfl
  have B1 : Hid (∀ r e w', Done w1 s r e w' → Done w s r e w') := fun r e w' hh => Done.call (boxed b1).2 hh
  clear W1 r1 b1
  generalize w.heap.size = R at *
  go_wp2_with (first
    | (go_at_call 21; refine hfl.out.mono ?_; rintro e w2 ⟨rfl, rfl⟩)
    | (go_at_call 26; refine hc.out.mono ?_; intro e w2 hd; obtain ⟨rfl, hd2⟩ := hd))
  go_ret
  exact B1.out _ _ _ ⟨rfl, hd2⟩
set_option maxRecDepth 20000 in
theorem apply_6 {w : World} {s : St} (h : Whole w s) {S P A T N : Int} (hm : mayB 6 S P A T N = true) (hS : 1 ≤ S ∧ S ≤ 15) (hT : 1 ≤ T ∧ T ≤ 15) :
    Calls Try.prog 7 #[.pointer (some ⟨s.p, 0, none⟩), rv 6 S P A T N] w (Done w s (dblA (ab s) S T)) := by
  have hck := fun W => checkB_any 6 S P A T N W
  rw [hm] at hck
  unfold rv at *
  have H := Hid.mk h
  have HC := Hid.mk hck
  clear h hck hm
  go_enter Try.func7, Try.ntmps7
  go_upto_region 3 with (first | (go_at_call 20; refine (HC.out _).mono ?_; rintro e w1 ⟨rfl, b1⟩))
  have r1 := (boxed b1).1
  have W1 := H.out.call (boxed b1).2
  have hc : Calls Try.prog 27 #[.pointer (some ⟨s.p, 0, none⟩), .int .i64 S, .int .i64 T] w1 (Done w1 s (dblA (ab s) S T)) := dbl_ab W1 hS hT
  have hfl := fill_any W1.at'
  obtain ⟨c0, c1, c2, c3, c4, c5⟩ := r1.six
  replace hc := Hid.mk hc
  replace hfl := Hid.mk hfl
  have B1 : Hid (∀ r e w', Done w1 s r e w' → Done w s r e w') := fun r e w' hh => Done.call (boxed b1).2 hh
  clear W1 r1 b1
  generalize w.heap.size = R at *
  go_wp2_with (first
    | (go_at_call 21; refine hfl.out.mono ?_; rintro e w2 ⟨rfl, rfl⟩)
    | (go_at_call 27; refine hc.out.mono ?_; intro e w2 hd; obtain ⟨rfl, hd2⟩ := hd))
  go_ret
  exact B1.out _ _ _ ⟨rfl, hd2⟩
set_option maxRecDepth 20000 in
theorem apply_7 {w : World} {s : St} (h : Whole w s) {S P A T N : Int} (hm : mayB 7 S P A T N = true) (hS : 1 ≤ S ∧ S ≤ 15) :
    Calls Try.prog 7 #[.pointer (some ⟨s.p, 0, none⟩), rv 7 S P A T N] w (Done w s (sealA (ab s) S)) := by
  have hck := fun W => checkB_any 7 S P A T N W
  rw [hm] at hck
  unfold rv at *
  have H := Hid.mk h
  have HC := Hid.mk hck
  clear h hck hm
  go_enter Try.func7, Try.ntmps7
  go_upto_region 3 with (first | (go_at_call 20; refine (HC.out _).mono ?_; rintro e w1 ⟨rfl, b1⟩))
  have r1 := (boxed b1).1
  have W1 := H.out.call (boxed b1).2
  have hc : Calls Try.prog 28 #[.pointer (some ⟨s.p, 0, none⟩), .int .i64 S] w1 (Done w1 s (sealA (ab s) S)) := seal_ab W1 hS
  have hfl := fill_any W1.at'
  obtain ⟨c0, c1, c2, c3, c4, c5⟩ := r1.six
  replace hc := Hid.mk hc
  replace hfl := Hid.mk hfl
  have B1 : Hid (∀ r e w', Done w1 s r e w' → Done w s r e w') := fun r e w' hh => Done.call (boxed b1).2 hh
  clear W1 r1 b1
  generalize w.heap.size = R at *
  go_wp2_with (first
    | (go_at_call 21; refine hfl.out.mono ?_; rintro e w2 ⟨rfl, rfl⟩)
    | (go_at_call 28; refine hc.out.mono ?_; intro e w2 hd; obtain ⟨rfl, hd2⟩ := hd))
  go_ret
  exact B1.out _ _ _ ⟨rfl, hd2⟩
set_option maxRecDepth 20000 in
theorem apply_8 {w : World} {s : St} (h : Whole w s) {S P A T N : Int} (hm : mayB 8 S P A T N = true) (hA : 0 ≤ A ∧ A ≤ 31) :
    Calls Try.prog 7 #[.pointer (some ⟨s.p, 0, none⟩), rv 8 S P A T N] w (Done w s (({ ab s with bad := mput s.bad A 0 }, 0))) := by
  have hck := fun W => checkB_any 8 S P A T N W
  rw [hm] at hck
  unfold rv at *
  have H := Hid.mk h
  have HC := Hid.mk hck
  clear h hck hm
  skip
  go_enter Try.func7, Try.ntmps7
  go_upto_region 3 with (first | (go_at_call 20; refine (HC.out _).mono ?_; rintro e w1 ⟨rfl, b1⟩))
  have r1 := (boxed b1).1
  have W1 := H.out.call (boxed b1).2
  have hfl := fill_any W1.at'
  obtain ⟨c0, c1, c2, c3, c4, c5⟩ := r1.six
  have hS0 := Hid.mk (And.intro (show w1.drew.cell? ⟨s.p, 2, none⟩ = some (.map (some s.bB)) from W1.at'.drew.c2) (show w1.drew.cell? ⟨w.heap.size, 3, none⟩ = some (.int .i64 A) from c3))
  obtain ⟨w3, hrun, m3, t3⟩ := W1.at'.hB.drew.store (m := s.bad) Try.underlying66 (by have := W1.inv.blen; simp only [ab] at this; omega) (k64 (by omega) (by omega) : K64 A) (val := .agg #[]) (v := 0) rfl
  have hS3 := Hid.mk (And.intro (show w3.cell? ⟨s.p, 2, none⟩ = some (.map (some s.bB)) from (W1.at'.drew.badT m3 t3).c2) (show w3.cell? ⟨w.heap.size, 3, none⟩ = some (.int .i64 A) from (World.cell?_of_block (turned_cells W1.at'.hB.drew t3 r1 |>.trans r1.symm)).trans c3))
  have hfin := Hid.mk (show Done w s ({ ab s with bad := mput s.bad A 0 }, 0) (.returned (.int .i64 0)) w3 from Done.call (boxed b1).2 ⟨rfl, { s with bad := mput s.bad A 0 }, Whole.bad (w := w1.drew) ⟨W1.at'.drew, W1.inv, W1.refs⟩ hA m3 t3, rfl, (Ch.call (Below.refl _ w1).drew).trans (Ch.turned t3 (mem_bB s) rfl rfl)⟩)
  replace hfl := Hid.mk hfl
  clear W1 r1 b1 m3 t3
  generalize w.heap.size = R at *
  go_upto_region 20 with (first | (go_at_call 21; refine hfl.out.mono ?_; rintro e w2 ⟨rfl, rfl⟩))
  refine wp_region_held_drew (S := fun w' => w'.cell? ⟨s.p, 2, none⟩ = some (.map (some s.bB)) ∧ w'.cell? ⟨R, 3, none⟩ = some (.int .i64 A)) (by kernel_rfl) hS0.out (fun hHeld => ?_)
  refine wpAnyH_take (i := 0) (oi := { dst := some 72, op := Op.move (Operand.tmp 0), type := 24, pos := "state.go:75", after := #[], guard := none }) (v := ?vv0) rfl (by kernel_rfl) (by kernel_rfl) (by kernel_rfl) (fun _ _ _ h => h) (Or.inl ⟨by rfl, ?yy0⟩) hHeld ?rr0
  case yy0 => (intro w0 hSw; (try dsimp only at hSw); go_simp; try with_reducible rfl)
  try simp only [Act.put, List.setIfInBounds_toArray, List.set_cons_zero, List.set_cons_succ]
  refine wpAnyH_take (i := 1) (oi := { dst := some 73, op := Op.nilCheck (Operand.tmp 72), type := 0, pos := "state.go:75", after := #[{ on := 0, ground := Ground.data }], guard := none }) (v := ?vv1) rfl (by kernel_rfl) (by kernel_rfl) (by kernel_rfl) (fun _ _ _ h => h) (Or.inl ⟨by rfl, ?yy1⟩) hHeld ?rr1
  case yy1 => (intro w0 hSw; (try dsimp only at hSw); go_simp; try with_reducible rfl)
  try simp only [Act.put, List.setIfInBounds_toArray, List.set_cons_zero, List.set_cons_succ]
  refine wpAnyH_take (i := 2) (oi := { dst := some 74, op := Op.fieldAddr 68 (Operand.tmp 73) 2, type := 0, pos := "state.go:75", after := #[{ on := 1, ground := Ground.data }], guard := none }) (v := ?vv2) rfl (by kernel_rfl) (by kernel_rfl) (by kernel_rfl) (fun _ _ _ h => h) (Or.inl ⟨by rfl, ?yy2⟩) hHeld ?rr2
  case yy2 => (intro w0 hSw; (try dsimp only at hSw); go_simp; try with_reducible rfl)
  try simp only [Act.put, List.setIfInBounds_toArray, List.set_cons_zero, List.set_cons_succ]
  refine wpAnyH_take (i := 3) (oi := { dst := some 75, op := Op.load 66 (Operand.tmp 74), type := 66, pos := "state.go:75", after := #[{ on := 2, ground := Ground.data }], guard := none }) (v := ?vv3) rfl (by kernel_rfl) (by kernel_rfl) (by kernel_rfl) (fun _ _ _ h => h) (Or.inl ⟨by rfl, ?yy3⟩) hHeld ?rr3
  case yy3 => (intro w0 hSw; (try dsimp only at hSw); go_simp; try with_reducible rfl)
  try simp only [Act.put, List.setIfInBounds_toArray, List.set_cons_zero, List.set_cons_succ]
  refine wpAnyH_take (i := 4) (oi := { dst := some 76, op := Op.fieldAddr 35 (Operand.tmp 3) 3, type := 0, pos := "state.go:75", after := #[], guard := none }) (v := ?vv4) rfl (by kernel_rfl) (by kernel_rfl) (by kernel_rfl) (fun _ _ _ h => h) (Or.inl ⟨by rfl, ?yy4⟩) hHeld ?rr4
  case yy4 => (intro w0 hSw; (try dsimp only at hSw); go_simp; try with_reducible rfl)
  try simp only [Act.put, List.setIfInBounds_toArray, List.set_cons_zero, List.set_cons_succ]
  refine wpAnyH_take (i := 5) (oi := { dst := some 77, op := Op.load 3 (Operand.tmp 76), type := 3, pos := "state.go:75", after := #[{ on := 4, ground := Ground.data }], guard := none }) (v := ?vv5) rfl (by kernel_rfl) (by kernel_rfl) (by kernel_rfl) (fun _ _ _ h => h) (Or.inl ⟨by rfl, ?yy5⟩) hHeld ?rr5
  case yy5 => (intro w0 hSw; (try dsimp only at hSw); go_simp; try with_reducible rfl)
  try simp only [Act.put, List.setIfInBounds_toArray, List.set_cons_zero, List.set_cons_succ]
  refine wpAnyH_take (i := 6) (oi := { dst := some 78, op := Op.build 73 #[], type := 73, pos := "state.go:75", after := #[], guard := none }) (v := ?vv6) rfl (by kernel_rfl) (by kernel_rfl) (by kernel_rfl) (fun _ _ _ h => h) (Or.inl ⟨by rfl, ?yy6⟩) hHeld ?rr6
  case yy6 => (intro w0 hSw; (try dsimp only at hSw); go_simp; try with_reducible rfl)
  try simp only [Act.put, List.setIfInBounds_toArray, List.set_cons_zero, List.set_cons_succ]
  refine wpAnyH_ready (rs := [7]) (by kernel_rfl) (by simp) ?_
  refine AllReadyH.cons (o := { dst := none, op := Op.mapUpdate 66 (Operand.tmp 75) (Operand.tmp 77) (Operand.tmp 78), type := 0, pos := "state.go:75", after := #[{ on := 3, ground := Ground.data }, { on := 5, ground := Ground.data }, { on := 6, ground := Ground.data }, { on := 0, ground := Ground.phase }, { on := 1, ground := Ground.phase }, { on := 2, ground := Ground.phase }, { on := 3, ground := Ground.phase }, { on := 4, ground := Ground.phase }, { on := 5, ground := Ground.phase }, { on := 6, ground := Ground.phase }], guard := none }) rfl (fun K hK => ?_) AllReadyH.nil
  go_simp
  refine hK.out _ _ hS3.out (fun hHeld => ?_)
  clear hK K
  try simp only [Act.put, List.setIfInBounds_toArray, List.set_cons_zero, List.set_cons_succ]
  refine wpAnyH_done (by kernel_rfl) ?_ _

  go_wp2_with fail
  go_ret
  exact hfin.out
set_option maxRecDepth 20000 in
theorem apply_9 {w : World} {s : St} (h : Whole w s) {S P A T N : Int} (hm : mayB 9 S P A T N = true) (hA : 0 ≤ A ∧ A ≤ 31) (hN : 0 ≤ N ∧ N ≤ 1073741824) :
    Calls Try.prog 7 #[.pointer (some ⟨s.p, 0, none⟩), rv 9 S P A T N] w (Done w s (({ ab s with worn := mput s.worn A (max ((mget s.worn A).getD 0) N) }, 0))) := by
  have hck := fun W => checkB_any 9 S P A T N W
  rw [hm] at hck
  unfold rv at *
  have H := Hid.mk h
  have HC := Hid.mk hck
  clear h hck hm
  skip
  go_enter Try.func7, Try.ntmps7
  go_upto_region 3 with (first | (go_at_call 20; refine (HC.out _).mono ?_; rintro e w1 ⟨rfl, b1⟩))
  have r1 := (boxed b1).1
  have W1 := H.out.call (boxed b1).2
  have hfl := fill_any W1.at'
  obtain ⟨c0, c1, c2, c3, c4, c5⟩ := r1.six
  have hl0 := W1.at'.hW.drew.look (k64 (by omega) (by omega) : K64 A)
  generalize hx0 : (mget s.worn A).getD 0 = x0 at *
  have hx1 : 0 ≤ x0 ∧ x0 ≤ 1073741824 := by
    rw [← hx0]
    cases hg : mget s.worn A with
    | none => simp
    | some v => exact (W1.inv.worn _ (mget_mem hg)).2
  have hS0 := Hid.mk (And.intro (show w1.drew.cell? ⟨s.p, 3, none⟩ = some (.map (some s.bW)) from W1.at'.drew.c3) (And.intro (show w1.drew.cell? ⟨w.heap.size, 3, none⟩ = some (.int .i64 A) from c3) (show w1.drew.cell? ⟨w.heap.size, 5, none⟩ = some (.int .i64 N) from c5)))
  obtain ⟨w3, hrun, m3, t3⟩ := W1.at'.hW.drew.store (m := s.worn) Try.underlying65 (by have := W1.inv.wlen; simp only [ab] at this; omega) (k64 (by omega) (by omega) : K64 A) (val := .int .i64 (max x0 N)) (v := max x0 N) rfl
  have hS3 := Hid.mk (And.intro (show w3.cell? ⟨s.p, 3, none⟩ = some (.map (some s.bW)) from (W1.at'.drew.wornT m3 t3).c3) (And.intro (show w3.cell? ⟨w.heap.size, 3, none⟩ = some (.int .i64 A) from (World.cell?_of_block (turned_cells W1.at'.hW.drew t3 r1 |>.trans r1.symm)).trans c3) (show w3.cell? ⟨w.heap.size, 5, none⟩ = some (.int .i64 N) from (World.cell?_of_block (turned_cells W1.at'.hW.drew t3 r1 |>.trans r1.symm)).trans c5)))
  have hfin := Hid.mk (show Done w s ({ ab s with worn := mput s.worn A (max x0 N) }, 0) (.returned (.int .i64 0)) w3 from Done.call (boxed b1).2 ⟨rfl, { s with worn := mput s.worn A (max x0 N) }, Whole.worn (w := w1.drew) ⟨W1.at'.drew, W1.inv, W1.refs⟩ hA (by omega) m3 t3, rfl, (Ch.call (Below.refl _ w1).drew).trans (Ch.turned t3 (mem_bW s) rfl rfl)⟩)
  replace hfl := Hid.mk hfl
  clear W1 r1 b1 m3 t3
  generalize w.heap.size = R at *
  go_upto_region 22 with (first | (go_at_call 21; refine hfl.out.mono ?_; rintro e w2 ⟨rfl, rfl⟩))
  refine wp_region_held_drew (S := fun w' => w'.cell? ⟨s.p, 3, none⟩ = some (.map (some s.bW)) ∧ w'.cell? ⟨R, 3, none⟩ = some (.int .i64 A) ∧ w'.cell? ⟨R, 5, none⟩ = some (.int .i64 N)) (by kernel_rfl) hS0.out (fun hHeld => ?_)
  refine wpAnyH_take (i := 0) (oi := { dst := some 81, op := Op.move (Operand.tmp 0), type := 24, pos := "state.go:77", after := #[], guard := none }) (v := ?vv0) rfl (by kernel_rfl) (by kernel_rfl) (by kernel_rfl) (fun _ _ _ h => h) (Or.inl ⟨by rfl, ?yy0⟩) hHeld ?rr0
  case yy0 => (intro w0 hSw; (try dsimp only at hSw); go_simp; try with_reducible rfl)
  try simp only [Act.put, List.setIfInBounds_toArray, List.set_cons_zero, List.set_cons_succ]
  refine wpAnyH_take (i := 1) (oi := { dst := some 82, op := Op.nilCheck (Operand.tmp 81), type := 0, pos := "state.go:77", after := #[{ on := 0, ground := Ground.data }], guard := none }) (v := ?vv1) rfl (by kernel_rfl) (by kernel_rfl) (by kernel_rfl) (fun _ _ _ h => h) (Or.inl ⟨by rfl, ?yy1⟩) hHeld ?rr1
  case yy1 => (intro w0 hSw; (try dsimp only at hSw); go_simp; try with_reducible rfl)
  try simp only [Act.put, List.setIfInBounds_toArray, List.set_cons_zero, List.set_cons_succ]
  refine wpAnyH_take (i := 2) (oi := { dst := some 83, op := Op.fieldAddr 68 (Operand.tmp 82) 3, type := 0, pos := "state.go:77", after := #[{ on := 1, ground := Ground.data }], guard := none }) (v := ?vv2) rfl (by kernel_rfl) (by kernel_rfl) (by kernel_rfl) (fun _ _ _ h => h) (Or.inl ⟨by rfl, ?yy2⟩) hHeld ?rr2
  case yy2 => (intro w0 hSw; (try dsimp only at hSw); go_simp; try with_reducible rfl)
  try simp only [Act.put, List.setIfInBounds_toArray, List.set_cons_zero, List.set_cons_succ]
  refine wpAnyH_take (i := 3) (oi := { dst := some 84, op := Op.load 65 (Operand.tmp 83), type := 65, pos := "state.go:77", after := #[{ on := 2, ground := Ground.data }], guard := none }) (v := ?vv3) rfl (by kernel_rfl) (by kernel_rfl) (by kernel_rfl) (fun _ _ _ h => h) (Or.inl ⟨by rfl, ?yy3⟩) hHeld ?rr3
  case yy3 => (intro w0 hSw; (try dsimp only at hSw); go_simp; try with_reducible rfl)
  try simp only [Act.put, List.setIfInBounds_toArray, List.set_cons_zero, List.set_cons_succ]
  refine wpAnyH_take (i := 4) (oi := { dst := some 85, op := Op.fieldAddr 35 (Operand.tmp 3) 3, type := 0, pos := "state.go:77", after := #[], guard := none }) (v := ?vv4) rfl (by kernel_rfl) (by kernel_rfl) (by kernel_rfl) (fun _ _ _ h => h) (Or.inl ⟨by rfl, ?yy4⟩) hHeld ?rr4
  case yy4 => (intro w0 hSw; (try dsimp only at hSw); go_simp; try with_reducible rfl)
  try simp only [Act.put, List.setIfInBounds_toArray, List.set_cons_zero, List.set_cons_succ]
  refine wpAnyH_take (i := 5) (oi := { dst := some 86, op := Op.load 3 (Operand.tmp 85), type := 3, pos := "state.go:77", after := #[{ on := 4, ground := Ground.data }], guard := none }) (v := ?vv5) rfl (by kernel_rfl) (by kernel_rfl) (by kernel_rfl) (fun _ _ _ h => h) (Or.inl ⟨by rfl, ?yy5⟩) hHeld ?rr5
  case yy5 => (intro w0 hSw; (try dsimp only at hSw); go_simp; try with_reducible rfl)
  try simp only [Act.put, List.setIfInBounds_toArray, List.set_cons_zero, List.set_cons_succ]
  refine wpAnyH_take (i := 6) (oi := { dst := some 87, op := Op.move (Operand.tmp 0), type := 24, pos := "state.go:77", after := #[], guard := none }) (v := ?vv6) rfl (by kernel_rfl) (by kernel_rfl) (by kernel_rfl) (fun _ _ _ h => h) (Or.inl ⟨by rfl, ?yy6⟩) hHeld ?rr6
  case yy6 => (intro w0 hSw; (try dsimp only at hSw); go_simp; try with_reducible rfl)
  try simp only [Act.put, List.setIfInBounds_toArray, List.set_cons_zero, List.set_cons_succ]
  refine wpAnyH_take (i := 7) (oi := { dst := some 88, op := Op.nilCheck (Operand.tmp 87), type := 0, pos := "state.go:77", after := #[{ on := 6, ground := Ground.data }], guard := none }) (v := ?vv7) rfl (by kernel_rfl) (by kernel_rfl) (by kernel_rfl) (fun _ _ _ h => h) (Or.inl ⟨by rfl, ?yy7⟩) hHeld ?rr7
  case yy7 => (intro w0 hSw; (try dsimp only at hSw); go_simp; try with_reducible rfl)
  try simp only [Act.put, List.setIfInBounds_toArray, List.set_cons_zero, List.set_cons_succ]
  refine wpAnyH_take (i := 8) (oi := { dst := some 89, op := Op.fieldAddr 68 (Operand.tmp 88) 3, type := 0, pos := "state.go:77", after := #[{ on := 7, ground := Ground.data }], guard := none }) (v := ?vv8) rfl (by kernel_rfl) (by kernel_rfl) (by kernel_rfl) (fun _ _ _ h => h) (Or.inl ⟨by rfl, ?yy8⟩) hHeld ?rr8
  case yy8 => (intro w0 hSw; (try dsimp only at hSw); go_simp; try with_reducible rfl)
  try simp only [Act.put, List.setIfInBounds_toArray, List.set_cons_zero, List.set_cons_succ]
  refine wpAnyH_take (i := 9) (oi := { dst := some 90, op := Op.load 65 (Operand.tmp 89), type := 65, pos := "state.go:77", after := #[{ on := 8, ground := Ground.data }], guard := none }) (v := ?vv9) rfl (by kernel_rfl) (by kernel_rfl) (by kernel_rfl) (fun _ _ _ h => h) (Or.inl ⟨by rfl, ?yy9⟩) hHeld ?rr9
  case yy9 => (intro w0 hSw; (try dsimp only at hSw); go_simp; try with_reducible rfl)
  try simp only [Act.put, List.setIfInBounds_toArray, List.set_cons_zero, List.set_cons_succ]
  refine wpAnyH_take (i := 10) (oi := { dst := some 91, op := Op.fieldAddr 35 (Operand.tmp 3) 3, type := 0, pos := "state.go:77", after := #[], guard := none }) (v := ?vv10) rfl (by kernel_rfl) (by kernel_rfl) (by kernel_rfl) (fun _ _ _ h => h) (Or.inl ⟨by rfl, ?yy10⟩) hHeld ?rr10
  case yy10 => (intro w0 hSw; (try dsimp only at hSw); go_simp; try with_reducible rfl)
  try simp only [Act.put, List.setIfInBounds_toArray, List.set_cons_zero, List.set_cons_succ]
  refine wpAnyH_take (i := 11) (oi := { dst := some 92, op := Op.load 3 (Operand.tmp 91), type := 3, pos := "state.go:77", after := #[{ on := 10, ground := Ground.data }], guard := none }) (v := ?vv11) rfl (by kernel_rfl) (by kernel_rfl) (by kernel_rfl) (fun _ _ _ h => h) (Or.inl ⟨by rfl, ?yy11⟩) hHeld ?rr11
  case yy11 => (intro w0 hSw; (try dsimp only at hSw); go_simp; try with_reducible rfl)
  try simp only [Act.put, List.setIfInBounds_toArray, List.set_cons_zero, List.set_cons_succ]
  refine wpAnyH_take (i := 13) (oi := { dst := some 94, op := Op.fieldAddr 35 (Operand.tmp 3) 5, type := 0, pos := "state.go:77", after := #[], guard := none }) (v := ?vv13) rfl (by kernel_rfl) (by kernel_rfl) (by kernel_rfl) (fun _ _ _ h => h) (Or.inl ⟨by rfl, ?yy13⟩) hHeld ?rr13
  case yy13 => (intro w0 hSw; (try dsimp only at hSw); go_simp; try with_reducible rfl)
  try simp only [Act.put, List.setIfInBounds_toArray, List.set_cons_zero, List.set_cons_succ]
  refine wpAnyH_take (i := 14) (oi := { dst := some 95, op := Op.load 3 (Operand.tmp 94), type := 3, pos := "state.go:77", after := #[{ on := 13, ground := Ground.data }], guard := none }) (v := ?vv14) rfl (by kernel_rfl) (by kernel_rfl) (by kernel_rfl) (fun _ _ _ h => h) (Or.inl ⟨by rfl, ?yy14⟩) hHeld ?rr14
  case yy14 => (intro w0 hSw; (try dsimp only at hSw); go_simp; try with_reducible rfl)
  try simp only [Act.put, List.setIfInBounds_toArray, List.set_cons_zero, List.set_cons_succ]
  refine wpAnyH_ready (rs := [12]) (by kernel_rfl) (by simp) ?_
  refine AllReadyH.cons (o := { dst := some 93, op := Op.lookup 65 (Operand.tmp 90) (Operand.tmp 92) false, type := 3, pos := "state.go:77", after := #[{ on := 9, ground := Ground.data }, { on := 11, ground := Ground.data }], guard := none }) rfl (fun K hK => ?_) AllReadyH.nil
  go_simp
  refine hK.out _ _ hHeld (fun hHeld => ?_)
  clear hK K
  try simp only [Act.put, List.setIfInBounds_toArray, List.set_cons_zero, List.set_cons_succ]
  refine wpAnyH_take (i := 15) (oi := { dst := some 96, op := Op.call { callee := Callee.builtin Builtin.max, args := #[Operand.tmp 93, Operand.tmp 95], argTypes := #[3, 3] }, type := 3, pos := "state.go:77", after := #[{ on := 12, ground := Ground.data }, { on := 14, ground := Ground.data }], guard := none }) (v := ?vv15) rfl (by kernel_rfl) (by kernel_rfl) (by kernel_rfl) (fun _ _ _ h => h) (Or.inl ⟨by rfl, ?yy15⟩) hHeld ?rr15
  case yy15 => (intro w0 hSw; (try dsimp only at hSw); go_simp; try with_reducible rfl)
  try simp only [Act.put, List.setIfInBounds_toArray, List.set_cons_zero, List.set_cons_succ]
  refine wpAnyH_ready (rs := [16]) (by kernel_rfl) (by simp) ?_
  refine AllReadyH.cons (o := { dst := none, op := Op.mapUpdate 65 (Operand.tmp 84) (Operand.tmp 86) (Operand.tmp 96), type := 0, pos := "state.go:77", after := #[{ on := 3, ground := Ground.data }, { on := 5, ground := Ground.data }, { on := 15, ground := Ground.data }, { on := 0, ground := Ground.phase }, { on := 1, ground := Ground.phase }, { on := 2, ground := Ground.phase }, { on := 3, ground := Ground.phase }, { on := 4, ground := Ground.phase }, { on := 5, ground := Ground.phase }, { on := 6, ground := Ground.phase }, { on := 7, ground := Ground.phase }, { on := 8, ground := Ground.phase }, { on := 9, ground := Ground.phase }, { on := 10, ground := Ground.phase }, { on := 11, ground := Ground.phase }, { on := 12, ground := Ground.phase }, { on := 13, ground := Ground.phase }, { on := 14, ground := Ground.phase }, { on := 15, ground := Ground.phase }], guard := none }) rfl (fun K hK => ?_) AllReadyH.nil
  go_simp
  refine hK.out _ _ hS3.out (fun hHeld => ?_)
  clear hK K
  try simp only [Act.put, List.setIfInBounds_toArray, List.set_cons_zero, List.set_cons_succ]
  refine wpAnyH_done (by kernel_rfl) ?_ _

  go_wp2_with fail
  go_ret
  exact hfin.out
theorem apply_any {w : World} {s : St} (h : Whole w s) (K S P A T N : Int) : Calls Try.prog 7 #[.pointer (some ⟨s.p, 0, none⟩), rv K S P A T N] w (Done w s (apA (ab s) K S P A T N)) := by
  unfold apA
  cases hm : mayB K S P A T N with
  | false => rw [if_pos rfl]; exact apply_bad h hm
  | true =>
    rw [if_neg (by simp)]
    have hR := mayB_iff.1 hm
    unfold mayR at hR
    rcases hR with ⟨rfl, hR⟩ | ⟨rfl, hR⟩ | ⟨rfl, hR⟩ | ⟨rfl, hR⟩ | ⟨rfl, hR⟩ | ⟨rfl, hR⟩ | ⟨rfl, hR⟩ | ⟨rfl, hR⟩ | ⟨rfl, hR⟩
    · exact apply_1 h hm (by omega) (by omega) (by omega)
    · exact apply_2 h hm (by omega) (by omega)
    · exact apply_3 h hm (by omega) (by omega)
    · exact apply_4 h hm (by omega) (by omega)
    · exact apply_5 h hm (by omega)
    · exact apply_6 h hm (by omega) (by omega)
    · exact apply_7 h hm (by omega)
    · exact apply_8 h hm (by omega)
    · exact apply_9 h hm (by omega) (by omega)
end Go.Proofs.Ytccelipljbkkgaa
