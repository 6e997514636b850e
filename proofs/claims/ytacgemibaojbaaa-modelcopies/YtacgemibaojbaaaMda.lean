/-
  The plain device: New, Begin, Commit, Abort, Copy, Get; none. No condition.
-/
import Derived.Test.YtacgemibaojbaaaMdl
namespace Go.Proofs.Ytacgemibaojbaaa
open Go Go.RowKit Go.Maps

theorem MxH.turn {g X bS bO fS fO w} (_ : MxH g X bS bO fS fO w) {w' : World} {X' : MX} {bS' bO' fS' fO'} (box : w'.heap[g]? = some (.cells (mxC X' bS' bO') 72 (0, 0))) (e : ∀ i, i < w.heap.size → (∃ R m, Mp R w i m) → w'.heap[i]? = w.heap[i]?)
    (st : SpsAt X'.L w bS' X'.st fS') (op : OpAt X'.L w bO' X'.op fO') (inv : MxI X') : MxH g X' bS' bO' fS' fO' w' := ⟨box, st.same' e, op.same e, inv⟩
theorem cells_set {w : World} {g k : Nat} {cs : Array Value} {t : TypeId} {v : Value} (h : w.heap[g]? = some (.cells cs t (0, 0))) : (w.setCell ⟨g, k, none⟩ v).heap[g]? = some (.cells (cs.setIfInBounds k v) t (0, 0)) := heap_setCell_same w g k _ t v h
theorem two_sets {w : World} {g j k : Nat} {u v : Value} : ∀ i, i ≠ g → ((w.setCell ⟨g, j, none⟩ u).setCell ⟨g, k, none⟩ v).heap[i]? = w.heap[i]? := fun i hi =>
  (heap_setCell_other (w.setCell ⟨g, j, none⟩ u) ⟨g, k, none⟩ i v hi).trans (heap_setCell_other w ⟨g, j, none⟩ i u hi)
def beginX (X : MX) : MX × Int := if X.op.isSome then (X, 180) else ({ X with op := some X.st, did := 0 }, 0)
def commitX (X : MX) : MX × Int := match X.op with | none => (X, 180) | some l => ({ X with st := l, op := none }, 0)
def abortX (X : MX) : MX × Int := match X.op with | none => (X, 180) | some _ => ({ X with op := none }, 0)
set_option maxRecDepth 20000 in
theorem begin_any {g X bS bO fS fO w} (h : MxH g X bS bO fS fO w) : Calls Try.prog 9 #[.pointer (some ⟨g, 0, none⟩)] w (MxD g (beginX X) w) := by
  obtain ⟨-, -, -, -, -, c5, c6, c7, -⟩ := h.cells
  have q := neq70
  have hn := isNone_no h
  have hl := h.lt
  have f6 := h.fz 6
  have f7 := h.fz 7
  unfold beginX
  have H := Hid.mk h
  have HN := Hid.mk hn
  have ho := h.op
  clear h hn
  cases hb : bO with
  | some b =>
    rw [hb] at ho c6
    cases hx : X.op with
    | none => rw [hx] at ho; exact ho.elim
    | some l =>
      simp only [Option.isSome_some, if_true]
      clear ho
      go_enter Try.func9, Try.ntmps9
      go_wp2_with (first | (go_at_call 22; refine HN.out.mono ?_; rintro e w1 ⟨rfl, rfl⟩))
      go_ret
      exact MxD.same H.out (Below.refl _ w) 180
  | none =>
    rw [hb] at ho c6
    cases hx : X.op with
    | some l => rw [hx] at ho; exact ho.elim
    | none =>
      simp only [Option.isSome_none, Bool.false_eq_true, if_false]
      clear ho
      go_enter Try.func9, Try.ntmps9
      go_wp2_with (first | (go_at_call 22; refine HN.out.mono ?_; rintro e w1 ⟨rfl, rfl⟩))
      go_ret
      have hH := H.out
      have e : ∀ i, i ≠ g → _ := two_sets (w := w) (g := g) (j := 6) (k := 7) (u := .map (some bS)) (v := .int .i64 0)
      refine ⟨rfl, ⟨bS, some bS, fS, fS, hH.turn ?_ (fun i hi ⟨R, m, hm⟩ => e i (fun q => not_map' hm hH.box q.symm)) hH.st hH.st ⟨hH.inv.st, fun l q => ?_, hH.inv.p0, hH.inv.p1, Int.le_refl _, by show (0 : Int) ≤ 8; omega⟩⟩, grown_trans (grown_set _) (grown_set _)⟩
      · rw [cells_set (cells_set hH.box)]
        rfl
      · cases q
        exact hH.inv.st
set_option maxRecDepth 20000 in
theorem commit_any {g X bS bO fS fO w} (h : MxH g X bS bO fS fO w) : Calls Try.prog 10 #[.pointer (some ⟨g, 0, none⟩)] w (MxD g (commitX X) w) := by
  obtain ⟨-, -, -, -, -, c5, c6, -, -⟩ := h.cells
  have hn := refuses_any h
  have hl := h.lt
  have f5 := h.fz 5
  have f6 := h.fz 6
  unfold commitX
  unfold refX at hn
  have H := Hid.mk h
  have ho := h.op
  clear h
  cases hb : bO with
  | none =>
    rw [hb] at ho c6
    cases hx : X.op with
    | some l => rw [hx] at ho; exact ho.elim
    | none =>
      rw [hx] at hn
      have HN := Hid.mk hn
      clear ho hn
      go_enter Try.func10, Try.ntmps10
      go_wp2_with (first | (go_at_call 23; refine HN.out.mono ?_; rintro e w1 ⟨rfl, rfl⟩; simp only [Option.isNone_none, if_true]))
      go_ret
      exact MxD.same H.out (Below.refl _ w) 180
  | some b =>
    rw [hb] at ho c6
    cases hx : X.op with
    | none => rw [hx] at ho; exact ho.elim
    | some l =>
      rw [hx] at hn ho
      have HN := Hid.mk hn
      have HO := Hid.mk ho
      clear ho hn
      go_enter Try.func10, Try.ntmps10
      go_wp2_with (first | (go_at_call 23; refine HN.out.mono ?_; rintro e w1 ⟨rfl, rfl⟩; simp only [Option.isNone_some, Bool.false_eq_true, if_false]))
      go_ret
      have hH := H.out
      have e : ∀ i, i ≠ g → _ := two_sets (w := w) (g := g) (j := 5) (k := 6) (u := .map (some b)) (v := .map none)
      refine ⟨rfl, ⟨b, none, fO, fO, hH.turn ?_ (fun i hi ⟨R, m, hm⟩ => e i (fun q => not_map' hm hH.box q.symm)) HO.out trivial ⟨hH.inv.op l hx, (fun l q => by cases q), hH.inv.p0, hH.inv.p1, hH.inv.d0, hH.inv.d1⟩⟩, grown_trans (grown_set _) (grown_set _)⟩
      rw [cells_set (cells_set hH.box)]
      rfl
set_option maxRecDepth 20000 in
theorem abort_any {g X bS bO fS fO w} (h : MxH g X bS bO fS fO w) : Calls Try.prog 11 #[.pointer (some ⟨g, 0, none⟩)] w (MxD g (abortX X) w) := by
  obtain ⟨-, -, -, -, -, c5, c6, -, -⟩ := h.cells
  have hn := refuses_any h
  have hl := h.lt
  have f6 := h.fz 6
  unfold abortX
  unfold refX at hn
  have H := Hid.mk h
  have ho := h.op
  clear h
  cases hb : bO with
  | none =>
    rw [hb] at ho c6
    cases hx : X.op with
    | some l => rw [hx] at ho; exact ho.elim
    | none =>
      rw [hx] at hn
      have HN := Hid.mk hn
      clear ho hn
      go_enter Try.func11, Try.ntmps11
      go_wp2_with (first | (go_at_call 23; refine HN.out.mono ?_; rintro e w1 ⟨rfl, rfl⟩; simp only [Option.isNone_none, if_true]))
      go_ret
      exact MxD.same H.out (Below.refl _ w) 180
  | some b =>
    rw [hb] at ho c6
    cases hx : X.op with
    | none => rw [hx] at ho; exact ho.elim
    | some l =>
      rw [hx] at hn ho
      have HN := Hid.mk hn
      clear ho hn
      go_enter Try.func11, Try.ntmps11
      go_wp2_with (first | (go_at_call 23; refine HN.out.mono ?_; rintro e w1 ⟨rfl, rfl⟩; simp only [Option.isNone_some, Bool.false_eq_true, if_false]))
      go_ret
      have hH := H.out
      refine ⟨rfl, ⟨bS, none, fS, fO, hH.turn ?_ (hH.nomap 6 _) hH.st trivial ⟨hH.inv.st, (fun l q => by cases q), hH.inv.p0, hH.inv.p1, hH.inv.d0, hH.inv.d1⟩⟩, grown_set _⟩
      rw [cells_set hH.box]
      rfl
def newX (pl ks rr rp sz : Int) : MX := ⟨[], none, 0, 0, fun _ => ByteArray.empty, pl, ks, rr, rp, sz⟩
theorem inv_nil : InvM 0 [] := ⟨⟨by simp, by simp, by simp, by simp, List.Pairwise.nil, by simp, by simp, List.Pairwise.nil, List.Pairwise.nil⟩, by simp⟩
set_option maxRecDepth 20000 in
theorem new_any (w : World) (pl ks rr rp sz : Int) : Calls Try.prog 7 #[.agg #[.int .i64 pl, .int .i64 ks, .int .i64 rr, .int .i64 rp], .int .i64 sz] w fun e w' => ∃ g bS, e = .returned (.pointer (some ⟨g, 0, none⟩)) ∧ MxH g (newX pl ks rr rp sz) bS none (fun _ => 0) (fun _ => 0) w' ∧ w.heap.size ≤ g ∧ Below w.heap.size w w' := by
  have hmm := @run_makeMap Try.prog
  go_enter Try.func7, Try.ntmps7
  go_wp2_with fail
  go_ret
  have b1 : Below w.heap.size w (w.alloc (.cells #[.int .i64 pl, .int .i64 ks, .int .i64 rr, .int .i64 rp] 24)) := below_box w _
  have m1 : ∀ R : Rdr, Mp R ((w.alloc (.cells #[.int .i64 pl, .int .i64 ks, .int .i64 rr, .int .i64 rp] 24)).alloc (.map #[] 0)) (w.heap.size + 1) [] := fun R => by
    have := Mp.made (w.alloc (.cells #[.int .i64 pl, .int .i64 ks, .int .i64 rr, .int .i64 rp] 24)) R
    rw [size_alloc] at this
    exact this
  have b2 := b1.alloc (by rw [size_alloc]; omega) (.map #[] 0)
  have z2 : ((w.alloc (.cells #[.int .i64 pl, .int .i64 ks, .int .i64 rr, .int .i64 rp] 24)).alloc (.map #[] 0)).heap.size = w.heap.size + 1 + 1 := by simp only [size_alloc]
  generalize ((w.alloc (.cells #[.int .i64 pl, .int .i64 ks, .int .i64 rr, .int .i64 rp] 24)).alloc (.map #[] 0)) = w2 at *
  have h3 := heap_alloc_new w2 (.cells #[.int .i64 pl, .int .i64 ks, .int .i64 rr, .int .i64 rp, .int .i64 sz, .map (some (w.heap.size + 1)), .map none, .int .i64 0, .int .i64 0] 72)
  rw [z2] at h3
  refine ⟨w.heap.size + 1 + 1, w.heap.size + 1, rfl, ⟨h3, ⟨(m1 elS).alloc _, (by intro x hx; cases hx), (by intro x hx; cases hx)⟩, trivial, ⟨inv_nil, (fun l q => by cases q), Int.le_refl _, by show (0 : Int) ≤ 1900; omega, Int.le_refl _, by show (0 : Int) ≤ 8; omega⟩⟩, by omega, b2.alloc (by rw [z2]; omega) _⟩
set_option maxRecDepth 20000 in
theorem copy_any {g X bS bO fS fO w} (h : MxH g X bS bO fS fO w) : Calls Try.prog 20 #[.pointer (some ⟨g, 0, none⟩)] w fun e w' => e = .returned (.pointer (some ⟨w.heap.size, 0, none⟩)) ∧ MxH w.heap.size X bS bO fS fO w' ∧ Below w.heap.size w w' := by
  obtain ⟨c0, c1, c2, c3, c4, c5, c6, c7, c8⟩ := h.cells
  have hn := isNone_no h
  have hl := h.lt
  have H := Hid.mk h
  have HN := Hid.mk hn
  clear h hn
  go_enter Try.func20, Try.ntmps20
  go_wp2_with (first | (go_at_call 22; refine HN.out.mono ?_; rintro e w1 ⟨rfl, rfl⟩))
  go_ret
  have h := H.out.alloc (.cells (mxC X bS bO) 72)
  exact ⟨rfl, ⟨heap_alloc_new w _, h.st, h.op, h.inv⟩, below_box w _⟩
def getM (X : MX) (id page : Int) : Option Int := getA (abl (nowL X)) id page
set_option maxRecDepth 20000 in
theorem get_any {g X bS bO fS fO w} (h : MxH g X bS bO fS fO w) {id page : Int} (hi : K64 id) (hp : K64 page) : Calls Try.prog 21 #[.pointer (some ⟨g, 0, none⟩), .int .i64 id, .int .i64 page] w fun e w' => e = .returned (.tuple #[.string (match getM X id page with | some p => X.L p | none => ByteArray.empty), .int .i64 (match getM X id page with | some _ => 0 | none => 181)]) ∧ Below w.heap.size w w' := by
  have hn := isNone_no h
  have hw := now_any h
  obtain ⟨f, hs⟩ := h.now
  have hinv := h.inv.now
  have qf : ∀ a b c w, (Instr.field 97 (.agg #[a, b, c]) 2).run Try.prog w = .ok c w := fun a b c w => by kernel_rfl
  unfold getM getA
  simp only [abl]
  generalize nowL X = l at *
  generalize bO.getD bS = b at *
  generalize X.L = L at *
  have HN := Hid.mk (And.intro hn hw)
  cases hg : gA l id with
  | none =>
    have q1 := hs.lookNo false hi hg
    have q2 := lookL_nil w true hp
    simp only [Bool.false_eq_true, if_false, if_true] at q1 q2 ⊢
    clear hs hn hw h hg
    go_enter Try.func21, Try.ntmps21
    go_wp2_with (first | (go_at_call 22; refine HN.out.1.mono ?_; rintro e w1 ⟨rfl, rfl⟩) | (go_at_call 38; refine HN.out.2.mono ?_; rintro e w1 ⟨rfl, rfl⟩))
    go_ret2
    exact ⟨rfl, below_box w _⟩
  | some x =>
    have q1 := hs.look hinv false hi hg
    have q2 := hs.page hinv true hp hg
    simp only [Bool.false_eq_true, if_false, if_true] at q1 q2 ⊢
    cases hm : mget x.ps page with
    | none =>
      rw [hm] at q2
      simp only [svL, Option.isSome_none] at q2
      clear hs hn hw h hg hm
      generalize f id = gg at *
      obtain ⟨xi, xq, xs, xp⟩ := x
      simp only at q1
      go_enter Try.func21, Try.ntmps21
      go_wp2_with (first | (go_at_call 22; refine HN.out.1.mono ?_; rintro e w1 ⟨rfl, rfl⟩) | (go_at_call 38; refine HN.out.2.mono ?_; rintro e w1 ⟨rfl, rfl⟩))
      go_ret2
      exact ⟨rfl, below_box w _⟩
    | some p =>
      rw [hm] at q2
      simp only [svL, Option.isSome_some] at q2
      clear hs hn hw h hg hm
      generalize f id = gg at *
      obtain ⟨xi, xq, xs, xp⟩ := x
      simp only at q1 ⊢
      generalize L p = str at *
      go_enter Try.func21, Try.ntmps21
      go_wp2_with (first | (go_at_call 22; refine HN.out.1.mono ?_; rintro e w1 ⟨rfl, rfl⟩) | (go_at_call 38; refine HN.out.2.mono ?_; rintro e w1 ⟨rfl, rfl⟩))
      go_ret2
      exact ⟨rfl, below_box w _⟩
end Go.Proofs.Ytacgemibaojbaaa
