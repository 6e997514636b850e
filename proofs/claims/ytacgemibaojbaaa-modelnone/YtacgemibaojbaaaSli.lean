/-
  Slices of structs that a call itself has made: how they grow by append, and what their elements are. No condition.
-/
import Derived.Test.YtacgemibaojbaaaSpa
import Derived.Maps.AppendAt
import Derived.Laws.OwnMore
namespace Go.Proofs.Ytacgemibaojbaaa
open Go Go.RowKit Go.Maps

abbrev Rws := List (List Value)
/-- v is a slice of these rows, in a block from B on -/
structure Ow (w : World) (B : Nat) (e : TypeId) (sz : Nat) (v : Value) (rows : Rws) : Prop where
  own : w.ownsRow B e sz v rows.length rows.flatten
  len : ∀ r ∈ rows, r.length = sz
  one : ∀ r ∈ rows, ∀ u ∈ r, u.oneCell' = true
theorem Ow.kept {w w' : World} {B e sz v rows} {row : Option Nat} (h : Ow w B e sz v rows) (b : w.grownBy w' row) (hne : v.ownBlock = none ∨ v.ownBlock ≠ row) : Ow w' B e sz v rows := ⟨h.own.kept b hne, h.len, h.one⟩
theorem Ow.call {w w' : World} {B e sz v rows} (h : Ow w B e sz v rows) (b : Below w.heap.size w w') : Ow w' B e sz v rows :=
  ⟨h.own.kept (row := none) ⟨b.os, b.tape, b.output, b.size, fun j hj _ => b.block j hj⟩ (by cases hv : v.ownBlock <;> simp), h.len, h.one⟩
theorem Ow.alloc {w : World} {B e sz v rows} (h : Ow w B e sz v rows) (o : Obj) : Ow (w.alloc o) B e sz v rows := ⟨h.own.alloc o, h.len, h.one⟩
theorem Ow.drew {w : World} {B e sz v rows} (h : Ow w B e sz v rows) : Ow w.drew B e sz v rows := ⟨h.own, h.len, h.one⟩
theorem Ow.same {w w' : World} {B e sz v rows} (h : Ow w B e sz v rows) (b : ∀ g, v.ownBlock = some g → w'.heap[g]? = w.heap[g]?) : Ow w' B e sz v rows := by
  refine ⟨⟨h.own.1, ?_⟩, h.len, h.one⟩
  rcases h.own.2 with q | ⟨g, cap, cur, rfl, q1, q2, q3⟩
  · exact .inl q
  · exact .inr ⟨g, cap, cur, rfl, q1, (b g rfl).trans q2, q3⟩
theorem Ow.lower {w : World} {B B' e sz v rows} (h : Ow w B e sz v rows) (hb : B' ≤ B) : Ow w B' e sz v rows := by
  refine ⟨⟨h.own.1, ?_⟩, h.len, h.one⟩
  rcases h.own.2 with q | ⟨g, cap, cur, rfl, q1, q2⟩
  · exact .inl q
  · exact .inr ⟨g, cap, cur, rfl, Nat.le_trans hb q1, q2⟩
theorem Ow.form {w : World} {B e sz v rows} (h : Ow w B e sz v rows) : ∃ a cap, v = .slice a rows.length cap := by
  rcases h.own.2 with ⟨h1, h2⟩ | ⟨g, cap, _, h1, _⟩
  · exact ⟨none, 0, by rw [h1, h2]⟩
  · exact ⟨_, cap, h1⟩
theorem Ow.nil (w : World) (B : Nat) (e : TypeId) (sz : Nat) : Ow w B e sz (.slice none 0 0) [] := ⟨World.ownsRow_nil w B e sz, fun _ h => (by cases h), fun _ h => (by cases h)⟩
theorem Ow.made (w : World) {B : Nat} (hB : B ≤ w.heap.size) (e : TypeId) (sz : Nat) : Ow (w.alloc (.cells #[] e)) B e sz (.slice (some ⟨w.heap.size, 0, none⟩) 0 0) [] :=
  ⟨World.ownsRow_made w #[] 0 hB (Nat.zero_le _) (by simp), fun _ h => (by cases h), fun _ h => (by cases h)⟩
theorem Ow.lt {w : World} {B e sz v rows} (h : Ow w B e sz v rows) : ∀ g, v.ownBlock = some g → B ≤ g ∧ g < w.heap.size := h.own.lt
theorem flat_get {sz : Nat} : ∀ {rows : Rws}, (∀ r ∈ rows, r.length = sz) → ∀ {j c : Nat}, j < rows.length → c < sz → rows.flatten[j * sz + c]? = (rows.getD j [])[c]?
  | [], _, _, _, hj, _ => by simp at hj
  | r :: rs, hl, j, c, hj, hc => by
    have h1 : r.length = sz := hl r (by simp)
    rw [List.flatten_cons]
    cases j with
    | zero =>
      rw [List.getElem?_append_left (by omega)]
      simp
    | succ j =>
      rw [List.getElem?_append_right (by rw [h1, Nat.succ_mul]; omega), h1, show (j + 1) * sz + c - sz = j * sz + c by rw [Nat.succ_mul]; omega, flat_get (fun r hr => hl r (by simp [hr])) (by simpa using hj) hc]
      simp
theorem flat_len {sz : Nat} : ∀ {rows : Rws}, (∀ r ∈ rows, r.length = sz) → rows.flatten.length = rows.length * sz
  | [], _ => by simp
  | r :: rs, hl => by
    rw [List.flatten_cons, List.length_append, hl r (by simp), flat_len (fun r hr => hl r (by simp [hr])), List.length_cons, Nat.succ_mul]; omega
/-- an element's cells -/
theorem Ow.at {w : World} {B e sz a n cap rows} (h : Ow w B e sz (.slice a n cap) rows) {j : Nat} (hj : j < rows.length) : ∃ g, a = some ⟨g, 0, none⟩ ∧ B ≤ g ∧ g < w.heap.size ∧ ∀ c, c < sz → w.cell? ⟨g, j * sz + c, none⟩ = (rows.getD j [])[c]? := by
  rcases h.own.2 with ⟨_, h2⟩ | ⟨g, cap', cur, h1, hB, hg, r⟩
  · omega
  · simp only [Value.slice.injEq] at h1
    obtain ⟨rfl, rfl, rfl⟩ := h1
    have hl := h.own.lt g rfl
    refine ⟨g, rfl, hB, hl.2, fun c hc => ?_⟩
    have : j * sz + c < rows.length * sz := by
      have h1 : (j + 1) * sz ≤ rows.length * sz := Nat.mul_le_mul_right _ hj
      rw [Nat.succ_mul] at h1
      omega
    rw [h.own.cellAt (j * sz + c) this]
    exact flat_get h.len hj hc
/-- what is known of an element's type -/
structure EI (t e sz bytes : Nat) : Prop where
  under : Try.prog.underlying t = some (.slice e)
  info : ∃ i z, Try.prog.info? e = some i ∧ i.zero = some z ∧ i.size = sz ∧ i.bytes = bytes ∧ z.cells.size = sz
  pos : 0 < sz
  top : bytes ≤ 64
theorem lit_cells (w : World) (cs : Array Value) (e : TypeId) : ∀ j u, cs.toList[j]? = some u → (w.alloc (.cells cs e)).cell? ((⟨w.heap.size, 0, none⟩ : Addr).add j) = some u := by
  intro j u hu
  have ea : (⟨w.heap.size, 0, none⟩ : Addr).add j = ⟨w.heap.size, j, none⟩ := by unfold Addr.add; split <;> simp_all
  rw [ea, cell_of_row _ _ j _ e _ (heap_alloc_new w _), ← hu]
  simp
theorem Ow.more {w w' : World} {B e sz v v' rows} (h : Ow w B e sz v rows) {r : List Value} (hr : r.length = sz) (h1 : ∀ u ∈ r, u.oneCell' = true) (ho : w'.ownsRow B e sz v' (rows.length + 1) (rows.flatten ++ r)) : Ow w' B e sz v' (rows ++ [r]) := by
  refine ⟨?_, fun q hq => ?_, fun q hq => ?_⟩
  · rw [List.length_append, List.flatten_append]
    simpa using ho
  all_goals
    rcases List.mem_append.1 hq with hq | hq
  · exact h.len q hq
  · rw [List.mem_singleton.1 hq]; exact hr
  · exact h.one q hq
  · rw [List.mem_singleton.1 hq]; exact h1
section
variable {ops : Array Oper} {rest : List Oper} {o : Oper} {a : Act} {Q : Exit → Act → World → Prop}
/-- append of one that is written out -/
theorem wp_app {t e sz bytes : Nat} (E : EI t e sz bytes) {w : World} {B : Nat} {v : Value} {rows : Rws} (hgd : o.guard = none) (s x : Operand) (ho : o.op = .call { callee := .builtin .append, args := #[s, x], argTypes := #[t, t] })
    (h : Ow w B e sz v rows) (hB : B ≤ w.heap.size) (cs : Array Value) (hs : a.eval s = v) (hx : a.eval x = .slice (some ⟨w.heap.size, 0, none⟩) 1 1) (hc : cs.size = sz) (h1 : ∀ u ∈ cs.toList, u.oneCell' = true) (hn : rows.length < 1000000)
    (hK : ∀ v' w', Ow w' B e sz v' (rows ++ [cs.toList]) → w.grownBy w' v.ownBlock → (v'.ownBlock = v.ownBlock ∨ ∃ g, v'.ownBlock = some g ∧ w.heap.size ≤ g) → wpList Try.prog ops Q rest (a.put o.dst v') w') :
    wpList Try.prog ops Q (o :: rest) a (w.alloc (.cells cs e)) := by
  obtain ⟨i, z, q1, q2, q3, q4, q5⟩ := E.info
  have hl : cs.toList.length = 1 * sz := by rw [Array.length_toList, hc, Nat.one_mul]
  have hby : (rows.length + 1) * bytes ≤ 140737488355328 := by
    have := Nat.mul_le_mul_left (rows.length + 1) E.top
    omega
  refine wpList_append_own_at _ hgd s x t ho B e i z sz bytes E.under q1 q2 q3 q4 q5 E.pos v rows.length rows.flatten hs (h.own.alloc _) ⟨w.heap.size, 0, none⟩ 1 1 cs.toList hx hl (lit_cells w cs e) h1 (by simp [maxLen]; omega) hby (by rw [size_alloc]; omega) (fun v' w' p1 p2 _ p4 => ?_)
  have g : w.grownBy w' v.ownBlock := by
    have g1 := World.grownBy_alloc w (.cells cs e) v.ownBlock
    exact ⟨p2.os.trans g1.os, p2.tape.trans g1.tape, p2.output.trans g1.output, Nat.le_trans g1.size p2.size, fun k hk hne => (p2.block k (Nat.lt_of_lt_of_le hk g1.size) hne).trans (g1.block k hk hne)⟩
  refine hK v' w' (h.more (by rw [hl, Nat.one_mul]) h1 p1) g ?_
  rcases p4 with p4 | p4
  · exact .inl p4
  · exact .inr ⟨_, p4, by rw [size_alloc]; omega⟩
end
/-- a slice of numbers -/
def rI (l : List Int) : Rws := l.map fun i => [.int .i64 i]
theorem rI_flat (l : List Int) : (rI l).flatten = l.map (Value.int .i64) := by
  induction l with
  | nil => rfl
  | cons a l ih => simp only [rI, List.map_cons, List.flatten_cons] at *; rw [ih]; rfl
theorem rI_len (l : List Int) : (rI l).length = l.length := by simp [rI]
theorem Ow.ints {w : World} {B v} {l : List Int} {n : Nat} (hn : n = l.length) (h : w.ownsRow B 3 1 v n (l.map (Value.int .i64))) : Ow w B 3 1 v (rI l) := by
  subst hn
  refine ⟨by rw [rI_flat, rI_len]; exact h, fun r hr => ?_, fun r hr u hu => ?_⟩
  · obtain ⟨i, _, rfl⟩ := List.mem_map.1 hr; rfl
  · obtain ⟨i, _, rfl⟩ := List.mem_map.1 hr
    rw [List.mem_singleton.1 hu]; rfl
theorem Ow.intAt {w : World} {B a n cap} {l : List Int} (h : Ow w B 3 1 (.slice a n cap) (rI l)) {j : Nat} (hj : j < l.length) : ∃ g, a = some ⟨g, 0, none⟩ ∧ B ≤ g ∧ g < w.heap.size ∧ w.cell? ⟨g, j, none⟩ = some (.int .i64 (l.getD j 0)) := by
  obtain ⟨g, rfl, hB, hl, hc⟩ := h.at (j := j) (by rw [rI_len]; exact hj)
  refine ⟨g, rfl, hB, hl, ?_⟩
  have := hc 0 (by omega)
  rw [show j * 1 + 0 = j by omega] at this
  rw [this]
  simp [rI, List.getD_eq_getElem?_getD, hj]
set_option maxRecDepth 100000 in
theorem ei64 : EI 58 64 4 32 := ⟨Try.underlying58, ⟨_, _, rfl, rfl, rfl, rfl, rfl⟩, by decide, by decide⟩
set_option maxRecDepth 100000 in
theorem ei87 : EI 28 87 3 24 := ⟨Try.underlying28, ⟨_, _, rfl, rfl, rfl, rfl, rfl⟩, by decide, by decide⟩
set_option maxRecDepth 100000 in
theorem ei90 : EI 29 90 3 24 := ⟨Try.underlying29, ⟨_, _, rfl, rfl, rfl, rfl, rfl⟩, by decide, by decide⟩
set_option maxRecDepth 100000 in
theorem ei3 : EI 30 3 1 8 := ⟨Try.underlying30, ⟨_, _, rfl, rfl, rfl, rfl, rfl⟩, by decide, by decide⟩
set_option maxRecDepth 100000 in
theorem ei122 : EI 31 122 2 16 := ⟨Try.underlying31, ⟨_, _, rfl, rfl, rfl, rfl, rfl⟩, by decide, by decide⟩
set_option maxRecDepth 100000 in
theorem ei62 : EI 56 62 3 32 := ⟨Try.underlying56, ⟨_, _, rfl, rfl, rfl, rfl, rfl⟩, by decide, by decide⟩
end Go.Proofs.Ytacgemibaojbaaa
