/-
  What a state tells: Get, Refs, Live, Keys, Bad, Bads, Worn; and what no state tells. No condition. Slices of structs that a call itself has made: how they grow by append, and what their elements are. No condition. Space: what is told of one space. No condition. Spaces: all spaces, by their numbers. No condition. A state that the call itself has made, by what it has alone; a page that two spaces have. No condition. Rows of records that are handed in. No condition. A state beside blocks of the call's own; which blocks are bad and how often each was erased, told by records. No condition.
-/
import Derived.Test.YtaphpdmfjnhlaaaGreatDoorBH4
import Derived.Maps.AppendAt
import Derived.Laws.OwnMore
namespace Go.Proofs.YtaphpdmfjnhlaaaGreatDoor.S8
open Go Go.RowKit Go.Maps
def getA (t : Ab) (id page : Int) : Option Int := match gA t.sp id with | none => none | some x => mget x.ps page
set_option maxRecDepth 20000 in
theorem get_any {w s} (h : StAt w s) {id page : Int} (hi : K64 id) (hp : K64 page) :
  Calls Tryz.prog 28 #[.pointer (some ⟨s.p, 0, none⟩), .int .i64 id, .int .i64 page] w fun e w' => e = .returned (.tuple #[.int .i64 ((getA (ab s) id page).getD 0), .bool (getA (ab s) id page).isSome]) /\ w = w' := by
 have c0 := h.c0
 unfold getA
 cases hg : gsp s.sp id with
 | none =>
  rw [ab_gspN hg]
  have l0 := h.noSp hi hg
  clear h hg
  go_enter Tryz.func28, Tryz.ntmps28
  go_wp2
  go_ret2
  exact ⟨rfl, rfl⟩
 | some x =>
  rw [ab_gsp hg]
  have hxid := (gsp_some hg).2
  have hgx := gsp_id hg
  subst hxid
  have l0 := h.aSp hi hgx
  have hX := h.hsp x (gsp_some hg).1
  have q2 := hX.pb
  have l1 := hX.2.lookOk hp
  show Calls _ _ _ _ fun e w' => e = .returned (.tuple #[.int .i64 ((mget x.ps page).getD 0), .bool (mget x.ps page).isSome]) /\ w = w'
  generalize (mget x.ps page).getD 0 = a at *
  generalize (mget x.ps page).isSome = b at *
  clear h hg hgx hX
  go_enter Tryz.func28, Tryz.ntmps28
  go_wp2
  go_ret2
  exact ⟨rfl, rfl⟩
/-! no state -/
end Go.Proofs.YtaphpdmfjnhlaaaGreatDoor.S8
namespace Go.Proofs.YtaphpdmfjnhlaaaGreatDoor.S8
open Go Go.RowKit Go.Maps
abbrev Rws := List (List Value)
structure Ow (w : World) (B : Nat) (e : TypeId) (sz : Nat) (v : Value) (rows : Rws) : Prop where
 own : w.ownsRow B e sz v rows.length rows.flatten
 len : ∀ r ∈ rows, r.length = sz
 one : ∀ r ∈ rows, ∀ u ∈ r, u.oneCell' = true
theorem Ow.call {w w' : World} {B e sz v rows} (h : Ow w B e sz v rows) (b : Below w.heap.size w w') : Ow w' B e sz v rows :=
 ⟨h.own.kept (row := none) ⟨b.os, b.tape, b.output, b.size, fun j hj _ => b.block j hj⟩ (by cases hv : v.ownBlock <;> simp), h.len, h.one⟩
theorem Ow.alloc {w : World} {B e sz v rows} (h : Ow w B e sz v rows) (o : Obj) : Ow (w.alloc o) B e sz v rows := ⟨h.own.alloc o, h.len, h.one⟩
theorem Ow.drew {w : World} {B e sz v rows} (h : Ow w B e sz v rows) : Ow w.drew B e sz v rows := ⟨h.own, h.len, h.one⟩
theorem Ow.same {w w' : World} {B e sz v rows} (h : Ow w B e sz v rows) (b : ∀ g, v.ownBlock = some g -> w'.heap[g]? = w.heap[g]?) : Ow w' B e sz v rows := by
 refine ⟨⟨h.own.1, ?_⟩, h.len, h.one⟩
 rcases h.own.2 with q | ⟨g, cap, cur, rfl, q1, q2, q3⟩
 ·exact .inl q
 ·exact .inr ⟨g, cap, cur, rfl, q1, (b g rfl).trans q2, q3⟩
theorem Ow.lower {w : World} {B B' e sz v rows} (h : Ow w B e sz v rows) (hb : B' <= B) : Ow w B' e sz v rows := by
 refine ⟨⟨h.own.1, ?_⟩, h.len, h.one⟩
 rcases h.own.2 with q | ⟨g, cap, cur, rfl, q1, q2⟩
 ·exact .inl q
 ·exact .inr ⟨g, cap, cur, rfl, Nat.le_trans hb q1, q2⟩
theorem Ow.form {w : World} {B e sz v rows} (h : Ow w B e sz v rows) : ∃ a cap, v = .slice a rows.length cap := by
 rcases h.own.2 with ⟨h1, h2⟩ | ⟨g, cap, _, h1, _⟩
 ·exact ⟨none, 0, by rw [h1, h2]⟩
 ·exact ⟨_, cap, h1⟩
theorem Ow.nil (w : World) (B : Nat) (e : TypeId) (sz : Nat) : Ow w B e sz (.slice none 0 0) [] := ⟨World.ownsRow_nil w B e sz, fun _ h => (by cases h), fun _ h => (by cases h)⟩
theorem Ow.made (w : World) {B : Nat} (hB : B <= w.heap.size) (e : TypeId) (sz : Nat) : Ow (w.alloc (.cells #[] e)) B e sz (.slice (some ⟨w.heap.size, 0, none⟩) 0 0) [] :=
 ⟨World.ownsRow_made w #[] 0 hB (Nat.zero_le _) (by simp), fun _ h => (by cases h), fun _ h => (by cases h)⟩
theorem Ow.lt {w : World} {B e sz v rows} (h : Ow w B e sz v rows) : ∀ g, v.ownBlock = some g -> B <= g /\ g < w.heap.size := h.own.lt
theorem flat_get {sz : Nat} : ∀ {rows : Rws}, (∀ r ∈ rows, r.length = sz) -> ∀ {j c : Nat}, j < rows.length -> c < sz -> rows.flatten[j * sz + c]? = (rows.getD j [])[c]?
 | [], _, _, _, hj, _ => by simp at hj
 | r :: rs, hl, j, c, hj, hc => by
  have h1 : r.length = sz := hl r (by simp)
  rw [List.flatten_cons]
  cases j with
  | zero =>
   rw [List.getElem?_append_left (by omega)]
   simp
  | succ j =>
   rw [List.getElem?_append_right (by rw [h1, Nat.succ_mul]; omega), h1, show (j + 1) * sz + c - sz = j * sz + c by rw [Nat.succ_mul]; omega, flat_get (fun r hr => hl r (by simp [hr])) (by simpa using hj) hc]
   simp
theorem Ow.at {w : World} {B e sz a n cap rows} (h : Ow w B e sz (.slice a n cap) rows) {j : Nat} (hj : j < rows.length) : ∃ g, a = some ⟨g, 0, none⟩ /\ B <= g /\ g < w.heap.size /\ ∀ c, c < sz -> w.cell? ⟨g, j * sz + c, none⟩ = (rows.getD j [])[c]? := by
 rcases h.own.2 with ⟨_, h2⟩ | ⟨g, cap', cur, h1, hB, hg, r⟩
 ·omega
 ·simp only [Value.slice.injEq] at h1
  obtain ⟨rfl, rfl, rfl⟩ := h1
  have hl := h.own.lt g rfl
  refine ⟨g, rfl, hB, hl.2, fun c hc => ?_⟩
  have : j * sz + c < rows.length * sz := by
   have h1 : (j + 1) * sz <= rows.length * sz := Nat.mul_le_mul_right _ hj
   rw [Nat.succ_mul] at h1
   omega
  rw [h.own.cellAt (j * sz + c) this]
  exact flat_get h.len hj hc
structure EI (t e sz bytes : Nat) : Prop where
 under : Tryz.prog.underlying t = some (.slice e)
 info : ∃ i z, Tryz.prog.info? e = some i /\ i.zero = some z /\ i.size = sz /\ i.bytes = bytes /\ z.cells.size = sz
 pos : 0 < sz
 top : bytes <= 64
theorem lit_cells (w : World) (cs : Array Value) (e : TypeId) : ∀ j u, cs.toList[j]? = some u -> (w.alloc (.cells cs e)).cell? ((⟨w.heap.size, 0, none⟩ : Addr).add j) = some u := by
 intro j u hu
 have ea : (⟨w.heap.size, 0, none⟩ : Addr).add j = ⟨w.heap.size, j, none⟩ := by unfold Addr.add; split <;> simp_all
 rw [ea, cell_of_row _ _ j _ e _ (heap_alloc_new w _), <- hu]
 simp
theorem Ow.more {w w' : World} {B e sz v v' rows} (h : Ow w B e sz v rows) {r : List Value} (hr : r.length = sz) (h1 : ∀ u ∈ r, u.oneCell' = true) (ho : w'.ownsRow B e sz v' (rows.length + 1) (rows.flatten ++ r)) : Ow w' B e sz v' (rows ++ [r]) := by
 refine ⟨?_, fun q hq => ?_, fun q hq => ?_⟩
 ·rw [List.length_append, List.flatten_append]
  simpa using ho
 all_goals
  rcases List.mem_append.1 hq with hq | hq
 ·exact h.len q hq
 ·rw [List.mem_singleton.1 hq]; exact hr
 ·exact h.one q hq
 ·rw [List.mem_singleton.1 hq]; exact h1
section
variable {ops : Array Oper} {rest : List Oper} {o : Oper} {a : Act} {Q : Exit -> Act -> World -> Prop}
theorem wp_app {t e sz bytes : Nat} (E : EI t e sz bytes) {w : World} {B : Nat} {v : Value} {rows : Rws} (hgd : o.guard = none) (s x : Operand) (ho : o.op = .call { callee := .builtin .append, args := #[s, x], argTypes := #[t, t] })
  (h : Ow w B e sz v rows) (hB : B <= w.heap.size) (cs : Array Value) (hs : a.eval s = v) (hx : a.eval x = .slice (some ⟨w.heap.size, 0, none⟩) 1 1) (hc : cs.size = sz) (h1 : ∀ u ∈ cs.toList, u.oneCell' = true) (hn : rows.length < 1000000)
  (hK : ∀ v' w', Ow w' B e sz v' (rows ++ [cs.toList]) -> w.grownBy w' v.ownBlock -> (v'.ownBlock = v.ownBlock \/ ∃ g, v'.ownBlock = some g /\ w.heap.size <= g) -> wpList Tryz.prog ops Q rest (a.put o.dst v') w') :
  wpList Tryz.prog ops Q (o :: rest) a (w.alloc (.cells cs e)) := by
 obtain ⟨i, z, q1, q2, q3, q4, q5⟩ := E.info
 have hl : cs.toList.length = 1 * sz := by rw [Array.length_toList, hc, Nat.one_mul]
 have hby : (rows.length + 1) * bytes <= 140737488355328 := by
  have := Nat.mul_le_mul_left (rows.length + 1) E.top
  omega
 refine wpList_append_own_at _ hgd s x t ho B e i z sz bytes E.under q1 q2 q3 q4 q5 E.pos v rows.length rows.flatten hs (h.own.alloc _) ⟨w.heap.size, 0, none⟩ 1 1 cs.toList hx hl (lit_cells w cs e) h1 (by simp [maxLen]; omega) hby (by rw [size_alloc]; omega) (fun v' w' p1 p2 _ p4 => ?_)
 have g : w.grownBy w' v.ownBlock := by
  have g1 := World.grownBy_alloc w (.cells cs e) v.ownBlock
  exact ⟨p2.os.trans g1.os, p2.tape.trans g1.tape, p2.output.trans g1.output, Nat.le_trans g1.size p2.size, fun k hk hne => (p2.block k (Nat.lt_of_lt_of_le hk g1.size) hne).trans (g1.block k hk hne)⟩
 refine hK v' w' (h.more (by rw [hl, Nat.one_mul]) h1 p1) g ?_
 rcases p4 with p4 | p4
 ·exact .inl p4
 ·exact .inr ⟨_, p4, by rw [size_alloc]; omega⟩
end
def rI (l : List Int) : Rws := l.map fun i => [.int .i64 i]
theorem rI_len (l : List Int) : (rI l).length = l.length := by simp [rI]
theorem Ow.intAt {w : World} {B a n cap} {l : List Int} (h : Ow w B 3 1 (.slice a n cap) (rI l)) {j : Nat} (hj : j < l.length) : ∃ g, a = some ⟨g, 0, none⟩ /\ B <= g /\ g < w.heap.size /\ w.cell? ⟨g, j, none⟩ = some (.int .i64 (l.getD j 0)) := by
 obtain ⟨g, rfl, hB, hl, hc⟩ := h.at (j := j) (by rw [rI_len]; exact hj)
 refine ⟨g, rfl, hB, hl, ?_⟩
 have := hc 0 (by omega)
 rw [show j * 1 + 0 = j by omega] at this
 rw [this]
 simp [rI, List.getD_eq_getElem?_getD, hj]
set_option maxRecDepth 100000 in
theorem ei87 : EI 54 87 6 48 := ⟨Tryz.underlying54, ⟨_, _, rfl, rfl, rfl, rfl, rfl⟩, by decide, by decide⟩
set_option maxRecDepth 100000 in
theorem ei106 : EI 34 106 3 24 := ⟨Tryz.underlying34, ⟨_, _, rfl, rfl, rfl, rfl, rfl⟩, by decide, by decide⟩
set_option maxRecDepth 100000 in
theorem ei113 : EI 35 113 3 24 := ⟨Tryz.underlying35, ⟨_, _, rfl, rfl, rfl, rfl, rfl⟩, by decide, by decide⟩
set_option maxRecDepth 100000 in
theorem ei3 : EI 30 3 1 8 := ⟨Tryz.underlying30, ⟨_, _, rfl, rfl, rfl, rfl, rfl⟩, by decide, by decide⟩
set_option maxRecDepth 100000 in
theorem ei162 : EI 36 162 2 16 := ⟨Tryz.underlying36, ⟨_, _, rfl, rfl, rfl, rfl, rfl⟩, by decide, by decide⟩
end Go.Proofs.YtaphpdmfjnhlaaaGreatDoor.S8
namespace Go.Proofs.YtaphpdmfjnhlaaaGreatDoor.S8
open Go Go.RowKit Go.Maps
end Go.Proofs.YtaphpdmfjnhlaaaGreatDoor.S8
namespace Go.Proofs.YtaphpdmfjnhlaaaGreatDoor.S8
open Go Go.RowKit Go.Maps
theorem take_snoc {α : Type} (l : List α) (j : Nat) (d : α) (h : j < l.length) : l.take (j + 1) = l.take j ++ [l.getD j d] := by
 rw [List.take_succ_eq_append_getElem h]
 simp [List.getD_eq_getElem?_getD, h]
end Go.Proofs.YtaphpdmfjnhlaaaGreatDoor.S8
namespace Go.Proofs.YtaphpdmfjnhlaaaGreatDoor.S8
open Go Go.RowKit Go.Maps
def Hold (B : Nat) (w0 : World) (P : Nat) (t : Ab) (w : World) : Prop := ∃ s, s.p = P /\ Whole w s /\ ab s = t /\ Below B w0 w /\ B <= w0.heap.size /\ ∀ i ∈ foot s, B <= i
def noAb : Ab := ⟨[], [], []⟩
theorem whole_new {w : World} {g : Nat} (h : StAt w (newSt g)) : Whole w (newSt g) := by
 refine ⟨h, ⟨?_, ?_, ?_, ?_, ?_, ?_, ?_, ?_, ?_⟩, ⟨fun a => ?_, fun a => ?_, fun a => ?_⟩⟩
 all_goals try (intro x hx; cases hx)
 ·exact List.Pairwise.nil
 ·exact List.Pairwise.nil
 ·exact List.Pairwise.nil
 ·simp [newSt, ab, cntA, mget]
 ·simp [newSt, ab, cntA]
 ·simp [newSt, ab, cntA]
theorem newW_any (w : World) : Calls Tryz.prog 34 #[] w fun e w' => e = .returned (.pointer (some ⟨w.heap.size + 4, 0, none⟩)) /\ Whole w' (newSt w.heap.size) /\ Below w.heap.size w w' :=
 (new_any w).mono fun _ _ h => ⟨h.1, whole_new h.2.1, h.2.2⟩
theorem foot_new (g : Nat) : ∀ i ∈ foot (newSt g), g <= i := by
 intro i hi
 simp [foot, maps, newSt] at hi
 omega
theorem Hold.below {B : Nat} {w0 w : World} {P t} (h : Hold B w0 P t w) : Below B w0 w := by
 obtain ⟨s, h1, h2, h3, h4, h5, h6⟩ := h
 exact h4
theorem hold_get {B : Nat} {w0 w : World} {P t} (h : Hold B w0 P t w) {id page : Int} (hi : K64 id) (hp : K64 page) : Calls Tryz.prog 28 #[.pointer (some ⟨P, 0, none⟩), .int .i64 id, .int .i64 page] w fun e w' => e = .returned (.tuple #[.int .i64 ((getA t id page).getD 0), .bool (getA t id page).isSome]) /\ w = w' := by
 obtain ⟨s, rfl, h2, rfl, h4, h5, h6⟩ := h
 exact get_any h2.at' hi hp
/-! a page that two spaces have -/
def t1 : Ab := ⟨[⟨1, 4, false, []⟩], [], []⟩
def t2 : Ab := ⟨[⟨1, 4, false, [(0, 5)]⟩], [], []⟩
def t3 : Ab := ⟨[⟨1, 4, false, [(0, 5)]⟩, ⟨2, 4, false, [(0, 5)]⟩], [], []⟩
end Go.Proofs.YtaphpdmfjnhlaaaGreatDoor.S8
namespace Go.Proofs.YtaphpdmfjnhlaaaGreatDoor.S8
open Go Go.RowKit
abbrev R6 := Int × Int × Int × Int × Int × Int
def R6.wf (r : R6) : Prop := (Lit.int .i64 r.1).wf = true /\ (Lit.int .i64 r.2.1).wf = true /\ (Lit.int .i64 r.2.2.1).wf = true /\ (Lit.int .i64 r.2.2.2.1).wf = true /\ (Lit.int .i64 r.2.2.2.2.1).wf = true /\ (Lit.int .i64 r.2.2.2.2.2).wf = true
def R6.at (w : World) (g o : Nat) (r : R6) : Prop := w.cell? ⟨g, o, none⟩ = some (.int .i64 r.1) /\ w.cell? ⟨g, o + 1, none⟩ = some (.int .i64 r.2.1) /\ w.cell? ⟨g, o + 2, none⟩ = some (.int .i64 r.2.2.1) ∧
 w.cell? ⟨g, o + 3, none⟩ = some (.int .i64 r.2.2.2.1) /\ w.cell? ⟨g, o + 4, none⟩ = some (.int .i64 r.2.2.2.2.1) /\ w.cell? ⟨g, o + 5, none⟩ = some (.int .i64 r.2.2.2.2.2)
def RecsF (w : World) (a : Option Addr) (n : Nat) (f : Nat -> R6) : Prop := ∀ i, i < n -> ∃ g o, a = some ⟨g, o, none⟩ /\ g < w.heap.size /\ (f i).at w g (o + i * 6) /\ (f i).wf
def apR (t : Ab) (r : R6) : Ab × Int := apA t r.1 r.2.1 r.2.2.1 r.2.2.2.1 r.2.2.2.2.1 r.2.2.2.2.2
end Go.Proofs.YtaphpdmfjnhlaaaGreatDoor.S8
namespace Go.Proofs.YtaphpdmfjnhlaaaGreatDoor.S8
open Go Go.RowKit Go.Maps
def HoldZ (B : Nat) (w0 : World) (P : Nat) (t : Ab) (Z : List Nat) (w : World) : Prop :=
 ∃ s, s.p = P /\ Whole w s /\ ab s = t /\ Below B w0 w /\ B <= w0.heap.size /\ (∀ i ∈ foot s, B <= i) /\ ∀ z ∈ Z, (B <= z /\ z < w.heap.size) /\ z ∉ foot s
theorem HoldZ.hold {B : Nat} {w0 w : World} {P t Z} (h : HoldZ B w0 P t Z w) : Hold B w0 P t w := by
 obtain ⟨s, h1, h2, h3, h4, h5, h6, h7⟩ := h
 exact ⟨s, h1, h2, h3, h4, h5, h6⟩
theorem HoldZ.call {B : Nat} {w0 w w' : World} {P t Z} (h : HoldZ B w0 P t Z w) (q : Below w.heap.size w w') : HoldZ B w0 P t Z w' := by
 obtain ⟨s, h1, h2, h3, h4, h5, h6, h7⟩ := h
 exact ⟨s, h1, h2.call q, h3, h4.trans (q.mono (Nat.le_trans h5 h4.size)), h5, h6, fun z hz => ⟨⟨(h7 z hz).1.1, Nat.lt_of_lt_of_le (h7 z hz).1.2 q.size⟩, (h7 z hz).2⟩⟩
theorem newZ {B : Nat} {w0 w : World} {Z : List Nat} (b : Below B w0 w) (hB : B <= w0.heap.size) (hZ : ∀ z ∈ Z, B <= z /\ z < w.heap.size) : Calls Tryz.prog 34 #[] w fun e w' => e = .returned (.pointer (some ⟨w.heap.size + 4, 0, none⟩)) /\ HoldZ B w0 (w.heap.size + 4) noAb Z w' /\ Below w.heap.size w w' := by
 refine (newW_any w).mono ?_
 rintro e w' ⟨rfl, h1, h2⟩
 exact ⟨rfl, ⟨newSt w.heap.size, rfl, h1, rfl, b.trans (h2.mono (Nat.le_trans hB b.size)), hB, fun i hi => Nat.le_trans (Nat.le_trans hB b.size) (foot_new _ i hi), fun z hz => ⟨⟨(hZ z hz).1, Nat.lt_of_lt_of_le (hZ z hz).2 h2.size⟩, fun hm => by have := foot_new _ _ hm; have := (hZ z hz).2; omega⟩⟩, h2⟩
theorem applyZ {B : Nat} {w0 w : World} {P t Z} (h : HoldZ B w0 P t Z w) (r : R6) : Calls Tryz.prog 78 #[.pointer (some ⟨P, 0, none⟩), rv r.1 r.2.1 r.2.2.1 r.2.2.2.1 r.2.2.2.2.1 r.2.2.2.2.2] w fun e w' => e = .returned (.int .i64 (apR t r).2) /\ HoldZ B w0 P (apR t r).1 Z w' /\ (∀ z ∈ Z, w'.heap[z]? = w.heap[z]?) /\ Below B w w' := by
 obtain ⟨s, rfl, h2, rfl, h4, h5, h6, h7⟩ := h
 refine (apply_any h2 _ _ _ _ _ _).mono ?_
 rintro e w' ⟨rfl, s', g1, g2, g3⟩
 refine ⟨rfl, ⟨s', g3.home, g1, g2, g3.below h4 (Nat.le_trans h5 h4.size) h6, h5, g3.high (Nat.le_trans h5 h4.size) h6, fun z hz => ⟨⟨(h7 z hz).1.1, Nat.lt_of_lt_of_le (h7 z hz).1.2 g3.size⟩, fun hm => ?_⟩⟩, fun z hz => g3.block z (h7 z hz).1.2 (h7 z hz).2, g3.below (Below.refl _ w) (Nat.le_trans h5 h4.size) h6⟩
 rcases g3.own z hm with q | q
 ·exact (h7 z hz).2 q
 ·have := (h7 z hz).1.2
  omega
end Go.Proofs.YtaphpdmfjnhlaaaGreatDoor.S8
