/-
  What a transaction shows beside the plain one (pure). No condition. TxnPlays: what its rounds hold. No condition. TxnPlays: what its rounds hold in memory. No condition.
-/
import Derived.Test.YtccelipljbkkgaaPlf
import Derived.Test.YtccelipljbkkgaaSim
import Derived.Test.YtccelipljbkkgaaBlk
import Derived.Test.YtccelipljbkkgaaLsa
import Derived.Laws.MakeOwn
import Derived.Deep.CutRange
namespace Go.Proofs.Ytccelipljbkkgaa
open Go Go.RowKit Go.Maps

theorem get_lv {t : Ab} (h : InvA t) {y : L3} (hy : y ∈ lvA t.sp) : getA t y.1 y.2.1 = some y.2.2 ∧ K64 y.1 ∧ K64 y.2.1 ∧ K64 y.2.2 := by
  obtain ⟨x, hx, q, hp⟩ := lvA_mem hy
  have h1 := h.ids x hx
  have h2 := h.qs x hx
  have h3 := h.pss x hx _ hp
  refine ⟨?_, k64 (by omega) (by omega), k64 (by omega) (by omega), k64 (by omega) (by omega)⟩
  unfold getA
  rw [q, gA_mem h.up hx]
  exact mem_mget (h.ups x hx) hp
theorem svR_ren (φ : Int → Int) (x : Asp) : svR (renx φ x) = svR x := by
  unfold svR renx renP
  rw [List.length_map]
theorem Sim.rows {X : TX} {Q : PP} {ix : List Nat} (h : Sim X Q ix) : X.a.sp.map svR = Q.y.sp.map svR ∧ X.a.sp.length = Q.y.sp.length := by
  rw [h.a]
  refine ⟨?_, ?_⟩
  · show (Q.y.sp.map (renx (phi ix))).map svR = _
    rw [List.map_map]
    apply List.map_congr_left
    intro x _
    exact svR_ren _ x
  · show (Q.y.sp.map (renx (phi ix))).length = _
    rw [List.length_map]
theorem idx_le {ix : List Nat} (hp : ix.Pairwise (· < ·)) : ∀ (i : Nat) (h : i < ix.length), i ≤ ix[i]
  | 0, _ => Nat.zero_le _
  | i + 1, h => by
    have h1 := idx_le hp i (by omega)
    have h2 := List.pairwise_iff_getElem.1 hp i (i + 1) (by omega) h (by omega)
    omega
theorem Sim.tx8 {X : TX} {Q : PP} {ix : List Nat} (h : Sim X Q ix) : Q.tx.length ≤ 8 := by
  rw [← h.ixl]
  by_cases h0 : ix.length = 0
  · omega
  · have hl : ix.length - 1 < ix.length := by omega
    have h1 := idx_le h.ixp (ix.length - 1) hl
    have h2 := h.ixb _ (List.getElem_mem hl)
    have := h.n8
    omega
theorem Sim.inv {X : TX} {Q : PP} {ix : List Nat} (h : Sim X Q ix) (hi : InvA X.a) : InvA Q.y := by
  have h1 := hi
  rw [h.a] at h1
  exact inv_of_ren h1 h.pls (by have := h.tx8; omega)
theorem Sim.none {X : TX} {Q : PP} {ix : List Nat} (h : Sim X Q ix) (id page : Int) : (getX X id page).2.2 = (getA Q.y id page).isSome := by
  unfold getX
  rw [h.a, get_ren]
  cases getA Q.y id page with
  | none => rfl
  | some p =>
    simp only [Option.map_some, Option.isSome_some]
    split <;> rfl
/-- what both say of a page that stands somewhere -/
theorem Sim.got {X : TX} {Q : PP} {ix : List Nat} (h : Sim X Q ix) {id page p : Int} (hg : getA Q.y id page = some p) :
    (0 ≤ p ∧ p < 512 ∧ getX X id page = (ByteArray.empty, p, true) ∧ getP Q.y Q.tx id page = (ByteArray.empty, false)) ∨ (∃ (c : Nat) (str : ByteArray), c < 8 ∧ getX X id page = (str, 512 + (c : Int), true) ∧ getP Q.y Q.tx id page = (str, true)) := by
  have hp : 0 ≤ p ∧ (p < 512 ∨ (1000 ≤ p ∧ p < 1000 + (Q.tx.length : Int))) := by
    have hg2 := hg
    unfold getA at hg2
    cases hx : gA Q.y.sp id with
    | none => rw [hx] at hg2; cases hg2
    | some x =>
      rw [hx] at hg2
      exact h.pls x (gA_some hx).1 _ (mget_mem hg2)
  have eX : getA X.a id page = some (phi ix p) := by rw [h.a, get_ren, hg]; rfl
  rcases hp.2 with hl | hr
  · left
    have e1 : phi ix p = p := by unfold phi; rw [if_pos (by omega)]
    refine ⟨hp.1, hl, ?_, ?_⟩
    · unfold getX
      rw [eX, e1]
      simp only
      rw [if_neg (by rw [h.fi]; omega)]
    · unfold getP
      rw [hg]
      simp only
      rw [if_pos (Or.inl (by omega))]
  · right
    have hk : (p - 1000).toNat < Q.tx.length := by omega
    have hkx : (p - 1000).toNat < ix.length := by rw [h.ixl]; exact hk
    have hc := h.ixb _ (getD_in hkx)
    have e1 : phi ix p = 512 + (ix.getD (p - 1000).toNat 0 : Int) := by unfold phi; rw [if_neg (by omega)]
    have ht := h.txt _ hk
    generalize ix.getD (p - 1000).toNat 0 = c at *
    refine ⟨c, Q.tx.getD (p - 1000).toNat ByteArray.empty, by have := h.n8; omega, ?_, ?_⟩
    · unfold getX
      rw [eX, e1]
      simp only
      rw [if_pos (by rw [h.fi]; omega), h.fi, show ((512 : Int) + (c : Int) - 512).toNat = c by omega]
      rw [show X.cs.getD c ⟨(0, 0, 0, 0, 0, 0), ByteArray.empty⟩ = X.cs.getD c dfl from rfl, ht]
    · unfold getP
      rw [hg]
      simp only
      rw [if_neg (by omega)]
theorem calls_some {P : Program} {f args w R} (h : Calls P f args w R) : ∃ e w', R e w' := by
  obtain ⟨e, w', _, hR, _⟩ := h []
  exact ⟨e, w', hR⟩
/-- pages stand below 512, whatever record is done -/
theorem Pls.all {t : Ab} (h : Pls 0 t) (K S P A T N : Int) : Pls 0 (apA t K S P A T N).1 := by
  cases hk : kindB K with
  | true => exact h.ap S P A T N hk
  | false =>
    unfold apA
    by_cases hm : mayB K S P A T N = false
    · rw [if_pos hm]; exact h
    rw [if_neg hm]
    have hm2 : mayR K S P A T N := mayB_iff.1 (by cases q : mayB K S P A T N with | true => rfl | false => exact absurd q hm)
    have hk4 : K = 1 ∨ K = 3 ∨ K = 8 ∨ K = 9 := by
      unfold kindB at hk
      simp only [Bool.or_eq_false_iff, beq_eq_false_iff_ne] at hk
      unfold mayR at hm2
      omega
    unfold mayR at hm2
    rcases hk4 with rfl | rfl | rfl | rfl
    · simp only [Int.reduceEq, if_false, if_true]
      cases hg : gA t.sp S with
      | none => exact h
      | some x =>
        show Pls 0 (if x.q ≤ P then _ else _ : Ab × Int).1
        split
        · exact h
        · intro y hy p hp
          rcases mem_sA' hy with rfl | hy
          · rcases mem_mput hp with rfl | hp
            · show (0 : Int) ≤ A ∧ (A < 512 ∨ _)
              omega
            · exact h x (gA_some hg).1 p hp
          · exact h y hy p hp
    · simp only [Int.reduceEq, if_false, if_true]
      show Pls 0 (if cntA t.sp A = 0 ∨ cntA t.sp T ≠ 0 then _ else _ : Ab × Int).1
      split
      · exact h
      · intro y hy p hp
        obtain ⟨z, hz, rfl⟩ := List.mem_map.1 hy
        obtain ⟨q, hq, rfl⟩ := List.mem_map.1 hp
        have := h z hz q hq
        show 0 ≤ mvV A T q.2 ∧ (mvV A T q.2 < 512 ∨ _)
        unfold mvV
        split <;> omega
    · exact h
    · exact h
theorem Pls.run (f : Nat → R6) : ∀ k, Pls 0 (runA f k)
  | 0 => fun x hx => by cases hx
  | k + 1 => (Pls.run f k).all _ _ _ _ _ _
theorem cnt_pls {t : Ab} (h : Pls 0 t) {a : Int} (ha : 512 ≤ a) : cntA t.sp a = 0 := by
  rw [← cL_lvA]
  unfold cL
  rw [List.length_eq_zero_iff, List.filter_eq_nil_iff]
  intro y hy
  have := h.lv y hy
  simp only [decide_eq_true_eq]
  omega
theorem phi_low {t : Ab} (h : Pls 0 t) : renA (phi []) t = t := by
  unfold renA
  have e : t.sp.map (renx (phi [])) = t.sp := by
    conv => rhs; rw [← List.map_id t.sp]
    apply List.map_congr_left
    intro x hx
    have e2 : renP (phi []) x.ps = x.ps := by
      unfold renP
      conv => rhs; rw [← List.map_id x.ps]
      apply List.map_congr_left
      intro p hp
      have := h x hx p hp
      unfold phi
      rw [if_pos (by omega)]
      rfl
    unfold renx
    rw [e2]
    rfl
  rw [e]
theorem Sim.start {t : Ab} (h : Pls 0 t) (pl ks : Int) : Sim ⟨t, pl, ks, 0, 0, 64, 512, []⟩ ⟨t, [], 0⟩ [] :=
  ⟨rfl, rfl, List.Pairwise.nil, (fun i hi => by cases hi), (phi_low h).symm, h, (fun k hk => absurd hk (Nat.not_lt_zero k)), rfl, rfl, Nat.zero_le _⟩
/-- what is left of a page that is laid, or of a record that is done, may be -/
theorem inv_lay {w : World} {s : St} (h : Whole w s) (S P : Int) {A : Int} (hA : 0 ≤ A ∧ A ≤ 2000) : InvA (layA (ab s) S P A).1 := by
  cases hg : gA (ab s).sp S with
  | none => unfold layA; rw [hg]; exact h.inv
  | some x =>
    by_cases hq : P < 0 ∨ x.q ≤ P
    · unfold layA; rw [hg]; simp only [if_pos hq]; exact h.inv
    · obtain ⟨e, w', _, s', h1, h2, _⟩ := calls_some (lay_any h (S := S) (P := P) (A := A) hg (by omega) (by omega) hA)
      have := h1.inv
      rw [h2] at this
      exact this
theorem inv_ap {w : World} {s : St} (h : Whole w s) (K S P A T N : Int) : InvA (apA (ab s) K S P A T N).1 := by
  obtain ⟨e, w', _, s', h1, h2, _⟩ := calls_some (apply_any h K S P A T N)
  have := h1.inv
  rw [h2] at this
  exact this
theorem Sim.invL {X : TX} {Q : PP} {ix : List Nat} (h : Sim X Q ix) {B g v s w} (t : TxH B g v X s w) (S P : Int) : InvA (layA Q.y S P (1000 + Q.tx.length)).1 := by
  have q := inv_lay t.st S P (A := 512 + (X.cs.length : Int)) (by have := h.n8; omega)
  rw [t.eq] at q
  have e1 : layA X.a S P (512 + X.cs.length) = (renA (phi (ix ++ [X.cs.length])) (layA Q.y S P (1000 + Q.tx.length)).1, (layA Q.y S P (1000 + Q.tx.length)).2) := by
    rw [h.grow, ← phi_new ix X.cs.length, h.ixl]
    exact lay_ren _ _ _ _ _
  rw [e1] at q
  exact inv_of_ren q (h.pls.lay S P) (by have := h.tx8; omega)
theorem Sim.invD {X : TX} {Q : PP} {ix : List Nat} (h : Sim X Q ix) {B g v s w} (t : TxH B g v X s w) (K S P A T N : Int) (hk : kindB K = true) : InvA (apA Q.y K S P A T N).1 := by
  have q := inv_ap t.st K S P A T N
  rw [t.eq] at q
  have e1 : apA X.a K S P A T N = (renA (phi ix) (apA Q.y K S P A T N).1, (apA Q.y K S P A T N).2) := by
    rw [h.a]
    exact ap_ren _ _ _ _ _ _ _ hk
  rw [e1] at q
  exact inv_of_ren q (h.pls.ap S P A T N hk) (by have := h.tx8; omega)
theorem HoldZ.fresh {B : Nat} {w0 w w' : World} {P t Z Z'} (h : HoldZ B w0 P t Z w) (q : Below w.heap.size w w') (hz : ∀ z ∈ Z', z ∈ Z ∨ (w.heap.size ≤ z ∧ z < w'.heap.size)) : HoldZ B w0 P t Z' w' := by
  obtain ⟨s, h1, h2, h3, h4, h5, h6, h7⟩ := h
  refine ⟨s, h1, h2.call q, h3, h4.trans (q.mono (Nat.le_trans h5 h4.size)), h5, h6, fun z hz' => ?_⟩
  rcases hz z hz' with hz | hz
  · exact ⟨⟨(h7 z hz).1.1, Nat.lt_of_lt_of_le (h7 z hz).1.2 q.size⟩, (h7 z hz).2⟩
  · exact ⟨⟨Nat.le_trans (Nat.le_trans h5 h4.size) hz.1, hz.2⟩, fun hm => by have := h2.at'.foot_lt _ hm; omega⟩
/-- blocks that are the answer's -/
def zs (g : Nat) (v0 v1 v2 v3 : Value) : List Nat := g :: (v0.ownBlock.toList ++ (v1.ownBlock.toList ++ (v2.ownBlock.toList ++ v3.ownBlock.toList)))
theorem zs_0 {g v0 v1 v2 v3 j} (h : v0.ownBlock = some j) : j ∈ zs g v0 v1 v2 v3 := by simp [zs, h]
theorem zs_1 {g v0 v1 v2 v3 j} (h : v1.ownBlock = some j) : j ∈ zs g v0 v1 v2 v3 := by simp [zs, h]
theorem zs_2 {g v0 v1 v2 v3 j} (h : v2.ownBlock = some j) : j ∈ zs g v0 v1 v2 v3 := by simp [zs, h]
theorem zs_3 {g v0 v1 v2 v3 j} (h : v3.ownBlock = some j) : j ∈ zs g v0 v1 v2 v3 := by simp [zs, h]
theorem zs_g (g v0 v1 v2 v3) : g ∈ zs g v0 v1 v2 v3 := by simp [zs]
theorem zs_cases {g v0 v1 v2 v3 j} (h : j ∈ zs g v0 v1 v2 v3) : j = g ∨ v0.ownBlock = some j ∨ v1.ownBlock = some j ∨ v2.ownBlock = some j ∨ v3.ownBlock = some j := by
  simpa [zs] using h
theorem RAt.keep {W W' : World} {B g4 v0 v1 v2 v3 m} (h : RAt W B v0 v1 v2 v3 m) (e : ∀ z ∈ zs g4 v0 v1 v2 v3, W'.heap[z]? = W.heap[z]?) : RAt W' B v0 v1 v2 v3 m :=
  ⟨h.sp.same fun g hg => e g (zs_0 hg), h.lv.same fun g hg => e g (zs_1 hg), h.bad.same fun g hg => e g (zs_2 hg), h.worn.same fun g hg => e g (zs_3 hg)⟩
/-- a state that has t1, the answer's that has t2 in the block g5 -/
structure QdS (w : World) (P g5 : Nat) (t1 t2 : Ab) (v0 v1 v2 v3 : Value) (wr : World) : Prop where
  hold : HoldZ w.heap.size w P t1 (zs g5 v0 v1 v2 v3) wr
  box : Box4 wr g5 v0 v1 v2 v3
  at' : RAt wr w.heap.size v0 v1 v2 v3 (rs t2)
  inv : InvA t2
  n0 : v0.ownBlock ≠ some g5
  n1 : v1.ownBlock ≠ some g5
  n2 : v2.ownBlock ≠ some g5
  n3 : v3.ownBlock ≠ some g5
theorem QdS.call {w P g5 t1 t2 v0 v1 v2 v3 wr wr'} (h : QdS w P g5 t1 t2 v0 v1 v2 v3 wr) (b : Below wr.heap.size wr wr') : QdS w P g5 t1 t2 v0 v1 v2 v3 wr' :=
  ⟨h.hold.call b, h.box.call b, h.at'.call b, h.inv, h.n0, h.n1, h.n2, h.n3⟩
theorem QdS.start {w w1 : World} {P : Nat} (h : HoldZ w.heap.size w P noAb [] w1) : QdS w P w1.heap.size noAb noAb (.slice none 0 0) (.slice none 0 0) (.slice none 0 0) (.slice none 0 0) (w1.alloc (.cells #[.slice none 0 0, .slice none 0 0, .slice none 0 0, .slice none 0 0] 31)) := by
  refine ⟨(h.more _).sub (fun z hz => ?_), Box4.fresh w1 _ _ _ _, ⟨Ow.nil _ _ _ _, Ow.nil _ _ _ _, Ow.nil _ _ _ _, Ow.nil _ _ _ _⟩, h.hold.inv, by simp [Value.ownBlock], by simp [Value.ownBlock], by simp [Value.ownBlock], by simp [Value.ownBlock]⟩
  simp only [zs, Value.ownBlock, Option.toList_none, List.append_nil, List.mem_cons, List.not_mem_nil, or_false] at hz ⊢
  exact hz
/-- behind the state's own Apply -/
theorem QdS.own {w P g5 t1 t2 t v0 v1 v2 v3 wr w1} (h : QdS w P g5 t1 t2 v0 v1 v2 v3 wr) (h1 : HoldZ w.heap.size w P t (zs g5 v0 v1 v2 v3) w1) (e : ∀ z ∈ zs g5 v0 v1 v2 v3, w1.heap[z]? = wr.heap[z]?) : QdS w P g5 t t2 v0 v1 v2 v3 w1 :=
  ⟨h1, (e g5 (zs_g _ _ _ _ _)).trans h.box, h.at'.keep e, h.inv, h.n0, h.n1, h.n2, h.n3⟩
/-- behind the answer's Apply -/
theorem QdS.ans {w P g5 t1 t2 t v0 v1 v2 v3 wr w2} (h : QdS w P g5 t1 t2 v0 v1 v2 v3 wr) (hi : InvA t) {u0 u1 u2 u3 : Value} (b : Below wr.drew.heap.size wr.drew w2) (R : RAt w2 w.heap.size u0 u1 u2 u3 (rs t)) (o0 : Own2 wr.drew v0 u0) (o1 : Own2 wr.drew v1 u1) (o2 : Own2 wr.drew v2 u2) (o3 : Own2 wr.drew v3 u3) :
    QdS w P g5 t1 t u0 u1 u2 u3 (set4 w2 g5 u0 u1 u2 u3) := by
  have hc := h.call (below3 (Below.refl _ wr).drew b)
  have hg := h.box.lt
  have hsz : wr.drew.heap.size = wr.heap.size := rfl
  have ne : ∀ {v u : Value}, v.ownBlock ≠ some g5 → Own2 wr.drew v u → u.ownBlock ≠ some g5 := fun n q e => by
    rcases q _ e with q | q
    · exact n q
    · omega
  have n0 := ne h.n0 o0
  have n1 := ne h.n1 o1
  have n2 := ne h.n2 o2
  have n3 := ne h.n3 o3
  have k := set4_kp w2 g5 g5 u0 u1 u2 u3
  have hz : HoldZ w.heap.size w P t1 (zs g5 u0 u1 u2 u3) w2 := by
    refine h.hold.fresh (below3 (Below.refl _ wr).drew b) (fun z hz => ?_)
    rcases zs_cases hz with rfl | e | e | e | e
    · exact .inl (zs_g _ _ _ _ _)
    · rcases o0 z e with q | q
      · exact .inl (zs_0 q)
      · exact .inr ⟨by omega, (R.sp.lt z e).2⟩
    · rcases o1 z e with q | q
      · exact .inl (zs_1 q)
      · exact .inr ⟨by omega, (R.lv.lt z e).2⟩
    · rcases o2 z e with q | q
      · exact .inl (zs_2 q)
      · exact .inr ⟨by omega, (R.bad.lt z e).2⟩
    · rcases o3 z e with q | q
      · exact .inl (zs_3 q)
      · exact .inr ⟨by omega, (R.worn.lt z e).2⟩
  have hg5 : g5 ∈ zs g5 u0 u1 u2 u3 := zs_g _ _ _ _ _
  refine ⟨?_, set4_box hc.box _ _ _ _, ⟨R.sp.kp k n0 n0, R.lv.kp k n1 n1, R.bad.kp k n2 n2, R.worn.kp k n3 n3⟩, hi, n0, n1, n2, n3⟩
  unfold set4
  exact (((hz.set hg5 _).set hg5 _).set hg5 _).set hg5 _
theorem BxC.call {w w' : World} {gc r0 r1 r2 r3 r4 r5 str} (h : BxC w gc r0 r1 r2 r3 r4 r5 str) (b : Below w.heap.size w w') : BxC w' gc r0 r1 r2 r3 r4 r5 str := (b.block gc (Array.getElem?_eq_some_iff.1 h).1).trans h
theorem BxC.cells {w : World} {gc r0 r1 r2 r3 r4 r5 str} (h : BxC w gc r0 r1 r2 r3 r4 r5 str) : w.cell? ⟨gc, 0, none⟩ = some (.int .i64 r0) ∧ w.cell? ⟨gc, 1, none⟩ = some (.int .i64 r1) ∧ w.cell? ⟨gc, 2, none⟩ = some (.int .i64 r2) ∧ w.cell? ⟨gc, 3, none⟩ = some (.int .i64 r3) ∧ w.cell? ⟨gc, 4, none⟩ = some (.int .i64 r4) ∧ w.cell? ⟨gc, 5, none⟩ = some (.int .i64 r5) ∧ w.cell? ⟨gc, 6, none⟩ = some (.string str) := by
  refine ⟨?_, ?_, ?_, ?_, ?_, ?_, ?_⟩ <;> rw [cell_of_row w gc _ _ 49 _ h] <;> rfl
theorem BxC.fz {w : World} {gc r0 r1 r2 r3 r4 r5 str} (h : BxC w gc r0 r1 r2 r3 r4 r5 str) (j : Nat) : w.frozen? ⟨gc, j, none⟩ = false := frozen_of_row w gc j _ 49 h
theorem foot_box {w s} (h : StAt w s) {g : Nat} {cs : Array Value} {t : TypeId} {f : Nat × Nat} (hg : w.heap[g]? = some (.cells cs t f)) (h1 : (68 : Nat) ≠ t) (h2 : (99 : Nat) ≠ t) : ∀ i ∈ foot s, i ≠ g := by
  intro i hi
  simp only [foot, maps, List.mem_cons, List.mem_append, List.mem_map] at hi
  rcases hi with rfl | ⟨x, hx, rfl⟩ | rfl | rfl | rfl | rfl | ⟨x, hx, rfl⟩
  · intro e
    have q := h.hp
    rw [e, hg] at q
    cases q
    exact h1 rfl
  · intro e
    have q := (h.hsp x hx).1
    rw [e, hg] at q
    cases q
    exact h2 rfl
  · exact fun e => not_map h.hS hg e.symm
  · exact fun e => not_map h.hR hg e.symm
  · exact fun e => not_map h.hB hg e.symm
  · exact fun e => not_map h.hW hg e.symm
  · exact fun e => not_map (h.hsp x hx).2 hg e.symm
theorem TxH.ne6 {B g v X s w gp v0 v1 v2 v3 v4 n} (h : TxH B g v X s w) (hb : Box6 w gp v0 v1 v2 v3 v4 n) : g ≠ gp := by
  intro e
  have q := h.box
  unfold Box6 at hb
  rw [e, hb] at q
  simp at q
theorem TxH.kp6 {B g v X s w w' gp v0 v1 v2 v3 v4 n} (h : TxH B g v X s w) (hb : Box6 w gp v0 v1 v2 v3 v4 n) (k : Kp w w' gp gp) : TxH B g v X s w' :=
  h.frame (k.2.2.2.2 g (h.ne6 hb) (h.ne6 hb)) (fun i hi => k.2.2.2.2 i (foot_box h.st.at' hb (by decide) (by decide) i hi) (foot_box h.st.at' hb (by decide) (by decide) i hi))
    (fun i hi => k.2.2.2.2 i (fun e => h.ow.ne hb (by decide) (e ▸ hi)) (fun e => h.ow.ne hb (by decide) (e ▸ hi)))
/-- rows that are another's stay when a transaction is turned -/
theorem Ow.tch {w w' : World} {g : Nat} {v v' : Value} {X : TX} {s : St} {Bt B e sz : Nat} {u : Value} {rows : Rws} (o : Ow w B e sz u rows) (t : TxH Bt g v X s w) (d : Tch w w' g v v') (h1 : (76 : Nat) ≠ e) (h2 : (49 : Nat) ≠ e) : Ow w' B e sz u rows :=
  o.same fun b hb => d.block b (o.lt b hb).2 (fun q => o.ne t.box h1 (q ▸ hb)) (fun q => by
    rcases t.ow.own.2 with ⟨p, _⟩ | ⟨g', cap, cur, rfl, q1, q2, q3⟩
    · rw [p] at q; cases q
    · cases q
      exact o.ne q2 h2 hb)
theorem Box6.tch {w w' : World} {g : Nat} {v v' : Value} {X : TX} {s : St} {Bt gp v0 v1 v2 v3 v4 n} (b : Box6 w gp v0 v1 v2 v3 v4 n) (t : TxH Bt g v X s w) (d : Tch w w' g v v') : Box6 w' gp v0 v1 v2 v3 v4 n :=
  (d.block gp b.lt (fun e => t.ne6 b e.symm) (t.ow.ne b (by decide))).trans b
theorem PAt.tch {w w' : World} {g : Nat} {v v' : Value} {X : TX} {s : St} {Bt B v0 v1 v2 v3 vt y tx} (p : PAt w B v0 v1 v2 v3 vt y tx) (t : TxH Bt g v X s w) (d : Tch w w' g v v') : PAt w' B v0 v1 v2 v3 vt y tx :=
  ⟨⟨p.st.sp.tch t d (by decide) (by decide), p.st.lv.tch t d (by decide) (by decide), p.st.bad.tch t d (by decide) (by decide), p.st.worn.tch t d (by decide) (by decide)⟩, p.tx.tch t d (by decide) (by decide)⟩
/-- a transaction and the plain one, the plain one's box at gp; w1: ahead of New -/
structure TyS (w1 : World) (B gp g : Nat) (X : TX) (Q : PP) (ix : List Nat) (v : Value) (s : St) (v0 v1 v2 v3 vt : Value) (wr : World) : Prop where
  tx : TxH w1.heap.size g v X s wr
  pa : PAt wr B v0 v1 v2 v3 vt Q.y Q.tx
  box : Box6 wr gp v0 v1 v2 v3 vt Q.n
  hgp : w1.heap.size ≤ gp
  bel : Below w1.heap.size w1 wr
  sim : Sim X Q ix
theorem TyS.call {w1 B gp g X Q ix v s v0 v1 v2 v3 vt wr wr'} (h : TyS w1 B gp g X Q ix v s v0 v1 v2 v3 vt wr) (b : Below wr.heap.size wr wr') : TyS w1 B gp g X Q ix v s v0 v1 v2 v3 vt wr' :=
  ⟨h.tx.call b, h.pa.call b, h.box.call b, h.hgp, below3 h.bel b, h.sim⟩
/-- ahead of the first round: the box of the plain one made behind New, or ahead of it -/
theorem TyS.startA {w w7 w5 : World} {P g5 g : Nat} {t : Ab} {v0 v1 v2 v3 : Value} (h : QdS w P g5 t t v0 v1 v2 v3 w7) (hP : Pls 0 t) {pl ks : Int} {s5 : St} (T : TxH w7.drew.heap.size g (.slice none 0 0) ⟨t, pl, ks, 0, 0, 64, 512, []⟩ s5 w5) (B : Below w7.heap.size w7 w5) :
    TyS w7 w.heap.size w5.heap.size g ⟨t, pl, ks, 0, 0, 64, 512, []⟩ ⟨t, [], 0⟩ [] (.slice none 0 0) s5 v0 v1 v2 v3 (.slice none 0 0) (w5.alloc (.cells #[v0, v1, v2, v3, .slice none 0 0, .int .i64 0] 46)) :=
  ⟨(T.alloc _).lower (Nat.le_refl _), ⟨(h.at'.call B).alloc _, Ow.nil _ _ _ _⟩, heap_alloc_new _ _, B.size, B.alloc B.size _, Sim.start hP pl ks⟩
theorem TyS.startB {w w7 w5 : World} {P g5 g : Nat} {t : Ab} {v0 v1 v2 v3 : Value} (h : QdS w P g5 t t v0 v1 v2 v3 w7) (hP : Pls 0 t) {pl ks : Int} {s5 : St} {o : Obj} (T : TxH (w7.alloc o).drew.heap.size g (.slice none 0 0) ⟨t, pl, ks, 0, 0, 64, 512, []⟩ s5 w5) (B : Below w7.heap.size w7 w5) {z0 z1 z2 z3 z4 : Value} {n : Int} (X : Box6 w5 w7.heap.size z0 z1 z2 z3 z4 n) :
    TyS w7 w.heap.size w7.heap.size g ⟨t, pl, ks, 0, 0, 64, 512, []⟩ ⟨t, [], 0⟩ [] (.slice none 0 0) s5 v0 v1 v2 v3 (.slice none 0 0) (set6 w5 w7.heap.size v0 v1 v2 v3 (.slice none 0 0) 0) := by
  have k := set6_kp w5 w7.heap.size v0 v1 v2 v3 (.slice none 0 0) 0
  refine ⟨(T.lower (by show _ ≤ (w7.alloc o).heap.size; rw [size_alloc]; omega)).kp6 X k, ⟨(h.at'.call B).kp k X (.inr rfl), Ow.nil _ _ _ _⟩, set6_box X _ _ _ _ _ _, Nat.le_refl _, kp_bel B k (Nat.le_refl _) (Nat.le_refl _), Sim.start hP pl ks⟩
/-- in the midst of a round: the plain one's answer in a box of its own at gq -/
structure TyM (w1 : World) (B gp gq g : Nat) (X : TX) (n : Int) (Q' : PP) (v : Value) (s : St) (v0 v1 v2 v3 vt u0 u1 u2 u3 ut : Value) (wr : World) : Prop where
  tx : TxH w1.heap.size g v X s wr
  pa : PAt wr B u0 u1 u2 u3 ut Q'.y Q'.tx
  qb : Box6 wr gq u0 u1 u2 u3 ut Q'.n
  pb : Box6 wr gp v0 v1 v2 v3 vt n
  hgp : w1.heap.size ≤ gp
  bel : Below w1.heap.size w1 wr
theorem TyS.mid {w1 B gp g X Q ix v s v0 v1 v2 v3 vt wr} (h : TyS w1 B gp g X Q ix v s v0 v1 v2 v3 vt wr) {gq : Nat} (hgq : wr.heap.size ≤ gq) {W w4 : World} {z0 z1 z2 z3 z4 : Value} {m : Int} (bW : Below wr.heap.size wr W) (qb : Box6 W gq z0 z1 z2 z3 z4 m) {Q' : PP} {u0 u1 u2 u3 ut : Value} (R : RAt w4 B u0 u1 u2 u3 (rs Q'.y)) (T : Ow w4 B 9 1 ut (Q'.tx.map rT)) (b4 : Below W.heap.size W w4) :
    TyM w1 B gp gq g X Q.n Q' v s v0 v1 v2 v3 vt u0 u1 u2 u3 ut (set6 w4 gq u0 u1 u2 u3 ut Q'.n) := by
  obtain ⟨f1, f2, f3, f4⟩ := p6_fin (w := wr) ⟨R, T⟩ (qb.call b4) (below3 bW b4) hgq Q'.n
  exact ⟨h.tx.call f4, ⟨f2, f3⟩, f1, h.box.call f4, h.hgp, below3 h.bel f4⟩
theorem TyM.call {w1 B gp gq g X n Q' v s v0 v1 v2 v3 vt u0 u1 u2 u3 ut wr wr'} (h : TyM w1 B gp gq g X n Q' v s v0 v1 v2 v3 vt u0 u1 u2 u3 ut wr) (b : Below wr.heap.size wr wr') : TyM w1 B gp gq g X n Q' v s v0 v1 v2 v3 vt u0 u1 u2 u3 ut wr' :=
  ⟨h.tx.call b, h.pa.call b, h.qb.call b, h.pb.call b, h.hgp, below3 h.bel b⟩
theorem TyM.did {w1 B gp gq g X n Q' v s v0 v1 v2 v3 vt u0 u1 u2 u3 ut wr w6} (h : TyM w1 B gp gq g X n Q' v s v0 v1 v2 v3 vt u0 u1 u2 u3 ut wr) {X' : TX} {v6 : Value} {s6 : St} (t : TxH w1.heap.size g v6 X' s6 w6) (d : Tch wr w6 g v v6) : TyM w1 B gp gq g X' n Q' v6 s6 v0 v1 v2 v3 vt u0 u1 u2 u3 ut w6 :=
  ⟨t, h.pa.tch h.tx d, h.qb.tch h.tx d, h.pb.tch h.tx d, h.hgp, h.bel.trans (d.below h.bel.size h.tx.hg h.tx.vlow)⟩
theorem TyM.fin {w1 B gp gq g X n Q' v s v0 v1 v2 v3 vt u0 u1 u2 u3 ut wr} (h : TyM w1 B gp gq g X n Q' v s v0 v1 v2 v3 vt u0 u1 u2 u3 ut wr) {ix : List Nat} (S : Sim X Q' ix) : TyS w1 B gp g X Q' ix v s u0 u1 u2 u3 ut (set6 wr gp u0 u1 u2 u3 ut Q'.n) := by
  have k := set6_kp wr gp u0 u1 u2 u3 ut Q'.n
  exact ⟨h.tx.kp6 h.pb k, ⟨h.pa.st.kp k h.pb (.inr rfl), h.pa.tx.kp k (h.pa.tx.ne h.pb (by decide)) (h.pa.tx.ne h.pb (by decide))⟩, set6_box h.pb _ _ _ _ _ _, h.hgp, kp_bel h.bel k h.hgp h.hgp, S⟩
/-- a change of the answer's row, and the error -/
def stepQ (Q : PP) (pl ks : Int) (c : Cg) : PP × Int := if c.r.1 = 1 then putP Q pl ks c.r.2.1 c.r.2.2.1 c.s else doP Q pl ks c.r.1 c.r.2.1 c.r.2.2.1 c.r.2.2.2.1 c.r.2.2.2.2.1 c.r.2.2.2.2.2
end Go.Proofs.Ytccelipljbkkgaa
