/-
  A transaction: Get, Changes, New; no transaction. No condition.
-/
import Derived.Test.YtccelipljbkkgaaTxq
namespace Go.Proofs.Ytccelipljbkkgaa
open Go Go.RowKit Go.Maps

/-- what a page says that was put here; where it stands else -/
def getX (X : TX) (id page : Int) : ByteArray × Int × Bool :=
  match getA X.a id page with
  | none => (ByteArray.empty, 0, false)
  | some p => if 0 ≤ p - X.fi ∧ p - X.fi < X.cs.length then ((X.cs.getD (p - X.fi).toNat ⟨(0, 0, 0, 0, 0, 0), ByteArray.empty⟩).s, p, true) else (ByteArray.empty, p, true)
theorem getA_rng {t : Ab} (h : InvA t) {id page p : Int} (hg : getA t id page = some p) : 0 ≤ p ∧ p ≤ 2000 := by
  unfold getA at hg
  cases hx : gA t.sp id with
  | none => rw [hx] at hg; cases hg
  | some x =>
    rw [hx] at hg
    exact (h.pss x (gA_some hx).1 _ (mget_mem hg)).2
set_option maxRecDepth 20000 in
set_option maxHeartbeats 2000000 in
theorem get_tx {B g v X s w} (h : TxH B g v X s w) {id page : Int} (hi : K64 id) (hp : K64 page) (hfi : 0 ≤ X.fi ∧ X.fi ≤ 1900) (hn8 : X.cs.length ≤ 8) :
    Calls Try.prog 18 #[.pointer (some ⟨g, 0, none⟩), .int .i64 id, .int .i64 page] w fun e w' => e = .returned (.tuple #[.string (getX X id page).1, .int .i64 (getX X id page).2.1, .bool (getX X id page).2.2]) ∧ w = w' := by
  have q := get_any h.st.at' hi hp
  rw [h.eq] at q
  have hn := isNone_no h.cells.1
  have hinv := h.inv
  obtain ⟨va, vc, rfl⟩ := h.ow.form
  have how := h.ow
  rw [List.length_map] at h how
  obtain ⟨c0, -, -, -, c6, c7⟩ := h.cells
  unfold getX
  cases hg : getA X.a id page with
  | none =>
    rw [hg] at q
    have Q := Hid.mk (And.intro q hn)
    clear q hn h hg hinv how
    go_enter Try.func18, Try.ntmps18
    go_wp2_with (first | (go_at_call 36; refine Q.out.2.mono ?_; rintro e w1 ⟨rfl, rfl⟩) | (go_at_call 48; refine Q.out.1.mono ?_; rintro e w1 ⟨rfl, rfl⟩; simp only [Option.getD_none, Option.isSome_none]))
    go_ret3
    exact ⟨rfl, rfl⟩
  | some p =>
    rw [hg] at q
    have hpr := getA_rng hinv hg
    have Q := Hid.mk (And.intro q hn)
    clear q hn h hg hinv
    by_cases h0 : 0 ≤ p - X.fi
    · by_cases h1 : p - X.fi < X.cs.length
      · simp only [h0, h1, and_self, if_true]
        have hkl : (p - X.fi).toNat < X.cs.length := by omega
        obtain ⟨gv, rfl, hB, hgl, hc⟩ := how.at (j := (p - X.fi).toNat) (by rw [List.length_map]; exact hkl)
        have e6 := hc 6 (by omega)
        have er : ((X.cs.map cgR).getD (p - X.fi).toNat [])[6]? = some (.string (X.cs.getD (p - X.fi).toNat ⟨(0, 0, 0, 0, 0, 0), ByteArray.empty⟩).s) := by
          simp [List.getD_eq_getElem?_getD, hkl, cgR]
        rw [er] at e6
        generalize (X.cs.getD (p - X.fi).toNat ⟨(0, 0, 0, 0, 0, 0), ByteArray.empty⟩).s = str at *
        clear er hc how
        generalize X.fi = fi at *
        generalize X.cs.length = n at *
        go_enter Try.func18, Try.ntmps18
        go_wp2_with (first | (go_at_call 36; refine Q.out.2.mono ?_; rintro e w1 ⟨rfl, rfl⟩) | (go_at_call 48; refine Q.out.1.mono ?_; rintro e w1 ⟨rfl, rfl⟩; simp only [Option.getD_some, Option.isSome_some]))
        go_ret3
        exact ⟨rfl, rfl⟩
      · simp only [h1, and_false, if_false]
        generalize X.fi = fi at *
        generalize X.cs.length = n at *
        clear how
        obtain ⟨k, hk⟩ : ∃ k : Nat, p - fi = (k : Int) := ⟨(p - fi).toNat, by omega⟩
        have hk3 : p = fi + (k : Int) := by omega
        subst hk3
        have hkl : ¬ k < n := by omega
        clear hk h0 h1
        go_enter Try.func18, Try.ntmps18
        go_wp2_with (first | (go_at_call 36; refine Q.out.2.mono ?_; rintro e w1 ⟨rfl, rfl⟩) | (go_at_call 48; refine Q.out.1.mono ?_; rintro e w1 ⟨rfl, rfl⟩; simp only [Option.getD_some, Option.isSome_some]))
        go_ret3
        exact ⟨rfl, rfl⟩
    · simp only [h0, false_and, if_false]
      generalize X.fi = fi at *
      generalize X.cs.length = n at *
      clear how
      have h0' : p - fi < 0 := by omega
      go_enter Try.func18, Try.ntmps18
      go_wp2_with (first | (go_at_call 36; refine Q.out.2.mono ?_; rintro e w1 ⟨rfl, rfl⟩) | (go_at_call 48; refine Q.out.1.mono ?_; rintro e w1 ⟨rfl, rfl⟩; simp only [Option.getD_some, Option.isSome_some]))
      go_ret3
      exact ⟨rfl, rfl⟩
theorem TxH.lower {B B' g v X s w} (h : TxH B g v X s w) (hb : B' ≤ B) : TxH B' g v X s w := ⟨h.box, h.st, h.eq, fun i hi => Nat.le_trans hb (h.hi i hi), h.ow.lower hb, Nat.le_trans hb h.hg⟩
section
variable {ops : Array Oper} {rest : List Oper} {o : Oper} {a : Act} {Q : Exit → Act → World → Prop}
/-- rows that lie anywhere, appended to none -/
theorem wp_appC {t e sz bytes : Nat} (E : EI t e sz bytes) {w : World} {B : Nat} {ad : Addr} {n cap : Nat} {rows : Rws} (hgd : o.guard = none) (s x : Operand) (ho : o.op = .call { callee := .builtin .append, args := #[s, x], argTypes := #[t, t] })
    (h : Ow w B e sz (.slice (some ad) n cap) rows) (hl : n = rows.length) (hs : a.eval s = .slice (some ⟨w.heap.size, 0, none⟩) 0 0) (hx : a.eval x = .slice (some ad) n cap) (hn : rows.length ≤ 100000)
    (hK : ∀ v' w', Ow w' w.heap.size e sz v' rows → Below w.heap.size w w' → wpList Try.prog ops Q rest (a.put o.dst v') w') :
    wpList Try.prog ops Q (o :: rest) a (w.alloc (.cells #[] e)) := by
  subst hl
  obtain ⟨i, z, q1, q2, q3, q4, q5⟩ := E.info
  have hm := Ow.made w (Nat.le_refl _) e sz
  have hby : (0 + rows.length) * bytes ≤ 140737488355328 := by
    have := Nat.mul_le_mul_left (0 + rows.length) E.top
    omega
  refine wpList_append_own_at _ hgd s x t ho w.heap.size e i z sz bytes E.under q1 q2 q3 q4 q5 E.pos _ 0 [] hs hm.own ad rows.length cap rows.flatten hx (flat_len h.len) (fun j u hj => ?_) (fun u hu => ?_) (by simp [maxLen]; omega) hby (by rw [size_alloc]; omega) (fun v' w' p1 p2 _ p4 => hK v' w' ⟨?_, h.len, h.one⟩ ?_)
  · rcases h.own.2 with ⟨p, _⟩ | ⟨g, cap', cur, p, _, hg, _⟩
    · cases p
    · simp only [Value.slice.injEq, Option.some.injEq] at p
      obtain ⟨rfl, _, rfl⟩ := p
      have hgl := (Array.getElem?_eq_some_iff.1 hg).1
      have hjl : j < rows.length * sz := by
        have := (List.getElem?_eq_some_iff.1 hj).1
        rwa [flat_len h.len] at this
      have e1 : (⟨g, 0, none⟩ : Addr).add j = ⟨g, j, none⟩ := by unfold Addr.add; split <;> simp_all
      rw [e1, World.cell?_of_block (a := ⟨g, j, none⟩) (Below.heap_alloc w _ g hgl), h.own.cellAt j hjl]
      exact hj
  · obtain ⟨r, hr, hu2⟩ := List.mem_flatten.1 hu
    exact h.one r hr u hu2
  · simpa using p1
  · have g1 := World.grownBy_alloc w (.cells #[] e) (some w.heap.size)
    exact ⟨p2.os.trans g1.os, p2.tape.trans g1.tape, p2.output.trans g1.output, Nat.le_trans g1.size p2.size, fun k hk => (p2.block k (Nat.lt_of_lt_of_le hk g1.size) (fun e => by simp [Value.ownBlock] at e; omega)).trans (g1.block k hk (fun e => by simp at e; omega))⟩
end
set_option maxRecDepth 20000 in
theorem cloneC_any {w : World} {B : Nat} {a : Option Addr} {n cap : Nat} {rows : Rws} (h : Ow w B 49 7 (.slice a n cap) rows) (hl : n = rows.length) (hn : rows.length ≤ 100000) : Calls Try.prog 44 #[.slice a n cap] w fun e w' => ∃ v, e = .returned v ∧ Ow w' w.heap.size 49 7 v rows ∧ Below w.heap.size w w' := by
  cases a with
  | none =>
    rcases h.own.2 with ⟨p, p2⟩ | ⟨g, cap', cur, p, _⟩
    · cases p
      have hr : rows = [] := by cases rows with | nil => rfl | cons x y => simp at p2
      subst hr
      have hq := fun w => Lib.run_eql_slice_nil (P := Try.prog) w 23 49 none 0 0 0 0 Try.underlying23
      clear h hl p2
      go_enter Try.func44, Try.ntmps44
      go_wp2
      go_ret
      exact ⟨_, rfl, Ow.nil _ _ _ _, Below.refl _ w⟩
    · simp at p
  | some ad =>
    have H := Hid.mk h
    have hq := fun w => Lib.run_eql_slice_nil (P := Try.prog) w 23 49 (some ad) n cap 0 0 Try.underlying23
    clear h
    replace hl := Hid.mk hl
    go_enter Try.func44, Try.ntmps44
    go_wp2_with (at_builtin; refine wp_appC ei49 rfl _ _ rfl H.out hl.out rfl rfl hn ?_; intro v' w' h1 b1)
    go_ret
    exact ⟨_, rfl, h1, b1⟩
theorem changes_tx {B g v X s w} (h : TxH B g v X s w) (hn8 : X.cs.length ≤ 8) : Calls Try.prog 15 #[.pointer (some ⟨g, 0, none⟩)] w fun e w' => ∃ a cap, e = .returned (.slice a X.cs.length cap) ∧ Ow w' w.heap.size 49 7 (.slice a X.cs.length cap) (X.cs.map cgR) ∧ Below w.heap.size w w' := by
  have hn := isNone_no h.cells.1
  obtain ⟨va, vc, rfl⟩ := h.ow.form
  rw [List.length_map] at h
  obtain ⟨c0, -, -, -, -, c7⟩ := h.cells
  have q := cloneC_any h.ow (by rw [List.length_map]) (by rw [List.length_map]; omega)
  have Q := Hid.mk (And.intro q hn)
  clear q hn h
  go_enter Try.func15, Try.ntmps15
  go_wp2_with (first | (go_at_call 36; refine Q.out.2.mono ?_; rintro e w1 ⟨rfl, rfl⟩) | (go_at_call 44; refine Q.out.1.mono ?_; rintro e w1 ⟨v1, rfl, o1, b1⟩))
  go_ret
  obtain ⟨a, c, rfl⟩ := o1.form
  rw [List.length_map] at o1 ⊢
  exact ⟨a, c, rfl, o1, b1⟩
set_option maxRecDepth 20000 in
set_option maxHeartbeats 2000000 in
theorem new_tx {w s} (h : Whole w s) (hz : ∀ a, 512 ≤ a → cntA (ab s).sp a = 0) (pl ks rr rp sz : Int) :
    Calls Try.prog 9 #[.pointer (some ⟨s.p, 0, none⟩), .agg #[.int .i64 pl, .int .i64 ks, .int .i64 rr, .int .i64 rp], .int .i64 sz] w fun e w' => ∃ g s2, e = .returned (.pointer (some ⟨g, 0, none⟩)) ∧ TxH w.heap.size g (.slice none 0 0) ⟨ab s, pl, ks, rr, rp, sz, 512, []⟩ s2 w' ∧ Below w.heap.size w w' := by
  have b1 : Below w.heap.size w (w.alloc (.cells #[.int .i64 pl, .int .i64 ks, .int .i64 rr, .int .i64 rp] 39)) := (Below.refl _ w).alloc (Nat.le_refl _) _
  have hrow := heap_alloc_new w (.cells #[.int .i64 pl, .int .i64 ks, .int .i64 rr, .int .i64 rp] 39)
  have kS : Hid (∀ w', Below (w.alloc (.cells #[.int .i64 pl, .int .i64 ks, .int .i64 rr, .int .i64 rp] 39)).heap.size (w.alloc (.cells #[.int .i64 pl, .int .i64 ks, .int .i64 rr, .int .i64 rp] 39)) w' → Below (w.alloc (.cells #[.int .i64 pl, .int .i64 ks, .int .i64 rr, .int .i64 rp] 39)).heap.size (w.alloc (.cells #[.int .i64 pl, .int .i64 ks, .int .i64 rr, .int .i64 rp] 39)) w' ∧ w'.cell? ⟨w.heap.size, 0, none⟩ = some (.int .i64 pl) ∧ w'.cell? ⟨w.heap.size, 1, none⟩ = some (.int .i64 ks) ∧ w'.cell? ⟨w.heap.size, 2, none⟩ = some (.int .i64 rr) ∧ w'.cell? ⟨w.heap.size, 3, none⟩ = some (.int .i64 rp)) := fun w' q => by
    have hb := (q.block w.heap.size (by rw [size_alloc]; omega)).trans hrow
    refine ⟨q, ?_, ?_, ?_, ?_⟩ <;> rw [cell_of_row w' _ _ _ 39 _ hb] <;> rfl
  have hc : ∀ W, Below (w.alloc (.cells #[.int .i64 pl, .int .i64 ks, .int .i64 rr, .int .i64 rp] 39)).heap.size (w.alloc (.cells #[.int .i64 pl, .int .i64 ks, .int .i64 rr, .int .i64 rp] 39)) W → Calls Try.prog 31 #[.pointer (some ⟨s.p, 0, none⟩)] W fun e w' => ∃ s2, e = .returned (.pointer (some ⟨s2.p, 0, none⟩)) ∧ Whole w' s2 ∧ ab s2 = ab s ∧ (∀ i ∈ foot s2, W.heap.size ≤ i) ∧ Below W.heap.size W w' := fun W b => copy_any (h.call (below3 b1 b))
  have hy : ∀ W, Below (w.alloc (.cells #[.int .i64 pl, .int .i64 ks, .int .i64 rr, .int .i64 rp] 39)).heap.size (w.alloc (.cells #[.int .i64 pl, .int .i64 ks, .int .i64 rr, .int .i64 rp] 39)) W → Calls Try.prog 32 #[.pointer (some ⟨s.p, 0, none⟩)] W fun e w' => e = .returned (.int .i64 512) ∧ W = w' := fun W b => beyond_any (h.call (below3 b1 b)) hz
  have H := Hid.mk (And.intro hc (And.intro hy b1))
  clear hc hy h hz b1 hrow
  go_enter Try.func9, Try.ntmps9
  go_upto_region 3 with fail
  generalize w.alloc (.cells #[.int .i64 pl, .int .i64 ks, .int .i64 rr, .int .i64 rp] 39) = w1 at *
  generalize hG : w.heap.size = G at *
  go_region_held3 (fun w' => Below w1.heap.size w1 w' ∧ w'.cell? ⟨G, 0, none⟩ = some (.int .i64 pl) ∧ w'.cell? ⟨G, 1, none⟩ = some (.int .i64 ks) ∧ w'.cell? ⟨G, 2, none⟩ = some (.int .i64 rr) ∧ w'.cell? ⟨G, 3, none⟩ = some (.int .i64 rp))
    (first | assumption | exact kS.out _ (Below.refl _ w1) | exact kS.out _ (Below.refl _ w1).drew | exact kS.out _ (below3 (And.left (by assumption)) (by assumption)) | exact kS.out _ (below3 (And.left (by assumption)) (below_al _ _)) | fail)
    (first | (go_at_call 31; refine (H.out.1 _ (And.left (by assumption))).mono ?_; rintro e w5 ⟨s2, rfl, W5, e5, f5, b5⟩) | (go_at_call 32; refine (H.out.2.1 _ (And.left (by assumption))).mono ?_; rintro e w6 ⟨rfl, rfl⟩))
  go_wp2_with fail
  go_ret
  have b5' : Below w1.heap.size w1 w5 := below3 (Below.refl _ w1).drew b5
  have hw : w.heap.size ≤ w1.heap.size := by have := H.out.2.2.size; rw [hG]; omega
  subst hG
  have B5 := below3 H.out.2.2 b5'
  refine ⟨w5.heap.size, s2, rfl, ⟨heap_alloc_new _ _, W5.alloc _, e5, fun i hi => Nat.le_trans hw (f5 i hi), Ow.nil _ _ _ _, B5.size⟩, B5.alloc B5.size _⟩
end Go.Proofs.Ytccelipljbkkgaa
