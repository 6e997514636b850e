/-
  The plain transaction said plainly; states whose pages stand at other places (plain facts of stage 17, laid anew). No condition.
-/
import Derived.Test.YtacgemibaojbaaaPud
import Derived.Deep.AppendLies
namespace Go.Proofs.Ytacgemibaojbaaa
open Go Go.RowKit Go.Maps

theorem gA_cons (x : Asp) (r : List Asp) (id : Int) : gA (x :: r) id = if x.id = id then some x else gA r id := by
  unfold gA
  rw [List.find?_cons]
  by_cases h : x.id = id <;> simp [h]
theorem Ow.ne {w : World} {B e sz v rows} (h : Ow w B e sz v rows) {g : Nat} {cs : Array Value} {t : TypeId} {f : Nat × Nat} (hg : w.heap[g]? = some (.cells cs t f)) (ht : t ≠ e) : v.ownBlock ≠ some g := by
  intro q
  rcases h.own.2 with ⟨p, _⟩ | ⟨g', cap, cur, rfl, q1, q2, q3⟩
  · rw [p] at q; cases q
  · cases q
    rw [q2] at hg
    cases hg
    exact ht rfl
theorem gdr {w w' : World} {r : Option Nat} (g : w.drew.grownBy w' r) : w.grownBy w' r := ⟨g.os, g.tape, g.output, g.size, g.block⟩
section
variable {ops : Array Oper} {o : Oper} {a : Act} {K : Act → World → Prop} {Q : Exit → Act → World → Prop} {E' : Prop}
/-- append of one that is written out, at a step of a drawn region -/
theorem step_app {t e sz bytes : Nat} (E : EI t e sz bytes) {w : World} {B : Nat} {v : Value} {rows : Rws} (hgd : o.guard = none) (s x : Operand) (ho : o.op = .call { callee := .builtin .append, args := #[s, x], argTypes := #[t, t] })
    (h : Ow w B e sz v rows) (hB : B ≤ w.heap.size) (cs : Array Value) (hs : a.eval s = v) (hx : a.eval x = .slice (some ⟨w.heap.size, 0, none⟩) 1 1) (hc : cs.size = sz) (h1 : ∀ u ∈ cs.toList, u.oneCell' = true) (hn : rows.length < 1000000)
    (hK : ∀ v' w', Ow w' B e sz v' (rows ++ [cs.toList]) → w.grownBy w' v.ownBlock → (v'.ownBlock = v.ownBlock ∨ ∃ g, v'.ownBlock = some g ∧ w.heap.size ≤ g) → K (a.put o.dst v') w') :
    if Region.wanted o (yielded ops a.tmps) = true then Oper.wp Try.prog o a (w.alloc (.cells cs e)) K Q else E' := by
  obtain ⟨i, z, q1, q2, q3, q4, q5⟩ := E.info
  have hl : cs.toList.length = 1 * sz := by rw [Array.length_toList, hc, Nat.one_mul]
  have hby : (rows.length + 1) * bytes ≤ 140737488355328 := by
    have := Nat.mul_le_mul_left (rows.length + 1) E.top
    omega
  refine step_append_lies _ hgd s x t ho B e i z sz bytes E.under q1 q2 q3 q4 q5 E.pos v rows.length rows.flatten hs (h.own.alloc _) ⟨w.heap.size, 0, none⟩ 1 1 cs.toList hx hl (lit_cells w cs e) h1 (by omega) (by simp [maxLen]; omega) hby (by rw [size_alloc]; omega) _ rfl (fun g cap w' p1 p2 p4 _ => ?_)
  have gr : w.grownBy w' v.ownBlock := by
    have g1 := World.grownBy_alloc w (.cells cs e) v.ownBlock
    exact ⟨p2.os.trans g1.os, p2.tape.trans g1.tape, p2.output.trans g1.output, Nat.le_trans g1.size p2.size, fun k hk hne => (p2.block k (Nat.lt_of_lt_of_le hk g1.size) hne).trans (g1.block k hk hne)⟩
  refine hK _ w' (h.more (by rw [hl, Nat.one_mul]) h1 p1) gr ?_
  rcases p4 with p4 | p4
  · exact .inl p4.symm
  · exact .inr ⟨g, rfl, by rw [p4, size_alloc]; omega⟩
end
def renP (φ : Int → Int) (ps : Pl) : Pl := ps.map fun p => (p.1, φ p.2)
def renx (φ : Int → Int) (x : Asp) : Asp := { x with ps := renP φ x.ps }
def renA (φ : Int → Int) (t : Ab) : Ab := { t with sp := t.sp.map (renx φ) }
theorem gA_ren (φ : Int → Int) (l : List Asp) (id : Int) : gA (l.map (renx φ)) id = (gA l id).map (renx φ) := by
  unfold gA
  rw [List.find?_map]
  rfl
theorem sA_ren (φ : Int → Int) (l : List Asp) (x : Asp) : sA (l.map (renx φ)) (renx φ x) = (sA l x).map (renx φ) := by
  unfold sA
  rw [List.map_map, List.map_map]
  apply List.map_congr_left
  intro y _
  simp only [Function.comp]
  show (if y.id = x.id then _ else _) = renx φ (if y.id = x.id then x else y)
  split <;> rfl
theorem dA_ren (φ : Int → Int) (l : List Asp) (id : Int) : dA (l.map (renx φ)) id = (dA l id).map (renx φ) := by
  unfold dA
  rw [List.filter_map]
  rfl
theorem iA_ren (φ : Int → Int) (x : Asp) : ∀ l : List Asp, iA (renx φ x) (l.map (renx φ)) = (iA x l).map (renx φ)
  | [] => rfl
  | y :: r => by
    rw [List.map_cons]
    unfold iA
    show (if x.id < y.id then _ else _) = _
    split
    · rfl
    · rw [List.map_cons, iA_ren φ x r]
theorem mget_ren (φ : Int → Int) (ps : Pl) (k : Int) : mget (renP φ ps) k = (mget ps k).map φ := by
  unfold mget renP
  rw [List.find?_map]
  simp only [Option.map_map]
  rfl
theorem mdel_ren (φ : Int → Int) (ps : Pl) (k : Int) : mdel (renP φ ps) k = renP φ (mdel ps k) := by
  unfold mdel renP
  rw [List.filter_map]
  rfl
theorem mins_ren (φ : Int → Int) (k v : Int) : ∀ ps : Pl, mins (k, φ v) (renP φ ps) = renP φ (mins (k, v) ps)
  | [] => rfl
  | y :: r => by
    show mins (k, φ v) ((y.1, φ y.2) :: renP φ r) = _
    unfold mins
    show (if k < y.1 then _ else _) = renP φ (if k < y.1 then _ else _)
    split
    · rfl
    · rw [mins_ren φ k v r]; rfl
theorem mput_ren (φ : Int → Int) (ps : Pl) (k v : Int) : mput (renP φ ps) k (φ v) = renP φ (mput ps k v) := by
  unfold mput
  rw [mdel_ren, mins_ren]
theorem lay_ren (φ : Int → Int) (t : Ab) (S P A : Int) : layA (renA φ t) S P (φ A) = (renA φ (layA t S P A).1, (layA t S P A).2) := by
  unfold layA
  show (match gA (t.sp.map (renx φ)) S with | none => _ | some x => _) = _
  rw [gA_ren]
  cases gA t.sp S with
  | none => rfl
  | some x =>
    show (if P < 0 ∨ x.q ≤ P then _ else _) = (renA φ (if P < 0 ∨ x.q ≤ P then _ else _ : Ab × Int).1, (if P < 0 ∨ x.q ≤ P then _ else _ : Ab × Int).2)
    by_cases h : P < 0 ∨ x.q ≤ P
    · simp only [if_pos h]
    · simp only [if_neg h]
      have e : sA (t.sp.map (renx φ)) { renx φ x with ps := mput (renP φ x.ps) P (φ A) } = (sA t.sp { x with ps := mput x.ps P A }).map (renx φ) := by
        rw [mput_ren]
        exact sA_ren φ t.sp { x with ps := mput x.ps P A }
      show (({ renA φ t with sp := sA (t.sp.map (renx φ)) { renx φ x with ps := mput (renP φ x.ps) P (φ A) } } : Ab), (0 : Int)) = _
      rw [e]
      rfl
theorem cl_ren (φ : Int → Int) (t : Ab) (S : Int) : clA (renA φ t) S = clA t S := by
  unfold clA
  show (match gA (t.sp.map (renx φ)) S with | none => _ | some x => _) = _
  rw [gA_ren]
  cases gA t.sp S <;> rfl
theorem get_ren (φ : Int → Int) (t : Ab) (i p : Int) : getA (renA φ t) i p = (getA t i p).map φ := by
  unfold getA
  show (match gA (t.sp.map (renx φ)) i with | none => _ | some x => _) = _
  rw [gA_ren]
  cases gA t.sp i with
  | none => rfl
  | some x => exact mget_ren φ x.ps p
theorem pages_ren (φ : Int → Int) : ∀ l : List Asp, pagesN (l.map (renx φ)) = pagesN l
  | [] => rfl
  | x :: r => by
    rw [List.map_cons, pagesN, pagesN, pages_ren φ r]
    show (renP φ x.ps).length + _ = _
    unfold renP
    rw [List.length_map]
theorem ap_ren (φ : Int → Int) (t : Ab) {K : Int} (S P A T N : Int) (hK : kindB K = true) : apA (renA φ t) K S P A T N = (renA φ (apA t K S P A T N).1, (apA t K S P A T N).2) := by
  have hk : K = 2 ∨ K = 4 ∨ K = 5 ∨ K = 6 ∨ K = 7 := by
    unfold kindB at hK
    simp only [Bool.or_eq_true, beq_iff_eq] at hK
    omega
  unfold apA
  by_cases hm : mayB K S P A T N = false
  · simp only [if_pos hm]
  simp only [if_neg hm]
  have gS : gA (renA φ t).sp S = (gA t.sp S).map (renx φ) := gA_ren φ t.sp S
  have gT : gA (renA φ t).sp T = (gA t.sp T).map (renx φ) := gA_ren φ t.sp T
  rcases hk with rfl | rfl | rfl | rfl | rfl
  · simp only [Int.reduceEq, if_false, if_true]
    rw [gS]
    cases gA t.sp S with
    | none => rfl
    | some x =>
      show (if mget (renP φ x.ps) P = none then _ else _) = (renA φ (if mget x.ps P = none then _ else _ : Ab × Int).1, (if mget x.ps P = none then _ else _ : Ab × Int).2)
      rw [mget_ren]
      cases hg : mget x.ps P with
      | none => rfl
      | some v =>
        simp only [Option.map_some, reduceCtorEq, if_false]
        have e : sA (t.sp.map (renx φ)) { renx φ x with ps := mdel (renP φ x.ps) P } = (sA t.sp { x with ps := mdel x.ps P }).map (renx φ) := by
          rw [mdel_ren]
          exact sA_ren φ t.sp { x with ps := mdel x.ps P }
        show (({ renA φ t with sp := sA (t.sp.map (renx φ)) { renx φ x with ps := mdel (renP φ x.ps) P } } : Ab), (0 : Int)) = _
        rw [e]
        rfl
  · simp only [Int.reduceEq, if_false, if_true]
    rw [gS]
    cases gA t.sp S with
    | some x => rfl
    | none =>
      show (({ renA φ t with sp := iA (renx φ ⟨S, N, false, []⟩) (t.sp.map (renx φ)) } : Ab), (0 : Int)) = _
      rw [iA_ren]
      rfl
  · simp only [Int.reduceEq, if_false, if_true]
    rw [gS]
    cases gA t.sp S with
    | none => rfl
    | some x =>
      show (({ renA φ t with sp := dA (t.sp.map (renx φ)) S } : Ab), (0 : Int)) = _
      rw [dA_ren]
      rfl
  · simp only [Int.reduceEq, if_false, if_true]
    rw [gS, gT]
    cases gA t.sp S with
    | none => rfl
    | some x =>
      cases gA t.sp T with
      | some y => rfl
      | none =>
        show (({ renA φ t with sp := iA (renx φ ⟨T, x.q, false, x.ps⟩) (t.sp.map (renx φ)) } : Ab), (0 : Int)) = _
        rw [iA_ren]
        rfl
  · simp only [Int.reduceEq, if_false, if_true]
    rw [gS]
    cases gA t.sp S with
    | none => rfl
    | some x =>
      have e : sA (t.sp.map (renx φ)) { renx φ x with sl := true } = (sA t.sp { x with sl := true }).map (renx φ) := sA_ren φ t.sp { x with sl := true }
      show (({ renA φ t with sp := sA (t.sp.map (renx φ)) { renx φ x with sl := true } } : Ab), (0 : Int)) = _
      rw [e]
      rfl
/-- renaming that is one to one where pages stand leaves their number of places -/
def fL3 (φ : Int → Int) (y : L3) : L3 := (y.1, y.2.1, φ y.2.2)
theorem lvA_ren (φ : Int → Int) : ∀ l : List Asp, lvA (l.map (renx φ)) = (lvA l).map (fL3 φ)
  | [] => rfl
  | x :: r => by
    rw [List.map_cons, lvA, lvA, lvA_ren φ r, List.map_append]
    congr 1
    unfold lvx
    show (renP φ x.ps).map _ = _
    unfold renP
    rw [List.map_map, List.map_map]
    rfl
theorem at3_ren (φ : Int → Int) (l : List L3) {k : Nat} (h : k < l.length) : at3 (l.map (fL3 φ)) k = φ (at3 l k) := by
  unfold at3
  simp [List.getD_eq_getElem?_getD, h, fL3]
theorem fstL_ren (φ : Int → Int) (l : List L3) (hi : ∀ x ∈ l, ∀ y ∈ l, φ x.2.2 = φ y.2.2 → x.2.2 = y.2.2) {j k : Nat} (hk : k < l.length) : fstL (l.map (fL3 φ)) j k = fstL l j k := by
  unfold fstL
  rw [← List.map_take, List.all_map]
  have key : ∀ y ∈ l.take j, ((fun y : L3 => decide (y.2.2 ≠ at3 (l.map (fL3 φ)) k)) ∘ fL3 φ) y = decide (y.2.2 ≠ at3 l k) := by
    intro y hy
    simp only [Function.comp]
    rw [at3_ren φ l hk]
    have hm : l.getD k (0, 0, 0) ∈ l := by
      rw [List.getD_eq_getElem?_getD, List.getElem?_eq_getElem hk]
      exact List.getElem_mem hk
    have hyl : y ∈ l := List.mem_of_mem_take hy
    by_cases e : y.2.2 = at3 l k
    · have : (fL3 φ y).2.2 = φ (at3 l k) := by show φ y.2.2 = _; rw [e]
      simp [e, this]
    · have : (fL3 φ y).2.2 ≠ φ (at3 l k) := fun q => e (hi y hyl _ hm q)
      simp [e, this]
  rw [Bool.eq_iff_iff, List.all_eq_true, List.all_eq_true]
  constructor
  · intro H y hy; rw [← key y hy]; exact H y hy
  · intro H y hy; rw [key y hy]; exact H y hy
theorem nL_ren (φ : Int → Int) (l : List L3) (hi : ∀ x ∈ l, ∀ y ∈ l, φ x.2.2 = φ y.2.2 → x.2.2 = y.2.2) : ∀ k, k ≤ l.length → nL (l.map (fL3 φ)) k = nL l k
  | 0, _ => rfl
  | k + 1, h => by
    rw [nL, nL, nL_ren φ l hi k (by omega), fstL_ren φ l hi (by omega)]
theorem live_ren (φ : Int → Int) (t : Ab) (hi : ∀ x ∈ lvA t.sp, ∀ y ∈ lvA t.sp, φ x.2.2 = φ y.2.2 → x.2.2 = y.2.2) : liveA (renA φ t) = liveA t := by
  unfold liveA
  show nL (lvA (t.sp.map (renx φ))) (lvA (t.sp.map (renx φ))).length = _
  rw [lvA_ren, List.length_map]
  exact nL_ren φ _ hi _ (Nat.le_refl _)
theorem renA_congr {φ ψ : Int → Int} {t : Ab} (h : ∀ x ∈ t.sp, ∀ p ∈ x.ps, φ p.2 = ψ p.2) : renA φ t = renA ψ t := by
  unfold renA
  congr 1
  apply List.map_congr_left
  intro x hx
  unfold renx renP
  congr 1
  apply List.map_congr_left
  intro p hp
  rw [h x hx p hp]
/-- the plain transaction: what stands where, texts, how many changes -/
structure PP where
  y : Ab
  tx : List ByteArray
  n : Nat
def stepP (Q : PP) (pl ks : Int) (R : Ab × Int) (tx : List ByteArray) : PP × Int :=
  if 8 ≤ Q.n then (Q, 171) else if R.2 ≠ 0 then (Q, R.2) else if pl < (liveA R.1 : Int) ∨ ks < (pagesN R.1.sp : Int) then (Q, 172) else (⟨R.1, tx, Q.n + 1⟩, 0)
def putP (Q : PP) (pl ks S P : Int) (str : ByteArray) : PP × Int :=
  if (64 : Int) < (str.size : Int) then (Q, 173) else if clA Q.y S ≠ 0 then (Q, clA Q.y S) else stepP Q pl ks (layA Q.y S P (1000 + Q.tx.length)) (Q.tx ++ [str])
def doP (Q : PP) (pl ks K S P A T N : Int) : PP × Int :=
  if (kindB K && mayB K S P A T N) = false then (Q, 1) else if K = 2 ∧ clA Q.y S ≠ 0 then (Q, clA Q.y S) else stepP Q pl ks (apA Q.y K S P A T N) Q.tx
theorem getD_in {l : List Nat} {k : Nat} (h : k < l.length) : l.getD k 0 ∈ l := by
  rw [List.getD_eq_getElem?_getD, List.getElem?_eq_getElem h]
  exact List.getElem_mem h
theorem mem_sA' {l : List Asp} {x y : Asp} (h : y ∈ sA l x) : y = x ∨ y ∈ l := by
  unfold sA at h
  obtain ⟨z, hz, rfl⟩ := List.mem_map.1 h
  split
  · exact .inl rfl
  · exact .inr hz
theorem mem_iA' {x y : Asp} : ∀ {l : List Asp}, y ∈ iA x l → y = x ∨ y ∈ l
  | [], h => by
    unfold iA at h
    exact .inl (List.mem_singleton.1 h)
  | z :: r, h => by
    unfold iA at h
    split at h
    · rcases List.mem_cons.1 h with h | h
      · exact .inl h
      · exact .inr h
    · rcases List.mem_cons.1 h with h | h
      · exact .inr (by rw [h]; simp)
      · rcases mem_iA' h with q | q
        · exact .inl q
        · exact .inr (by simp [q])
theorem getD_snoc {α : Type} (l : List α) (y d : α) {k : Nat} (h : k < l.length) : (l ++ [y]).getD k d = l.getD k d := by
  rw [List.getD_eq_getElem?_getD, List.getElem?_append_left h, ← List.getD_eq_getElem?_getD]
theorem getD_last {α : Type} (l : List α) (y d : α) : (l ++ [y]).getD l.length d = y := by
  rw [List.getD_eq_getElem?_getD, List.getElem?_append_right (Nat.le_refl _)]
  simp
theorem getA_rng {t : Ab} (h : InvA t) {id page p : Int} (hg : getA t id page = some p) : 0 ≤ p ∧ p ≤ 2000 := by
  unfold getA at hg
  cases hx : gA t.sp id with
  | none => rw [hx] at hg; cases hg
  | some x =>
    rw [hx] at hg
    exact (h.pss x (gA_some hx).1 _ (mget_mem hg)).2
theorem snoc_len {α β : Type} (f : α → β) (l : List α) (y : β) : (l.map f ++ [y]).length = l.length + 1 := by simp
end Go.Proofs.Ytacgemibaojbaaa
