/-
  A state in memory: its four maps, its spaces, their maps; what a store into one of them leaves of the others. No condition.
-/
import Derived.Test.YtccelipljbkkgaaMp
import Derived.Test.YtccelipljbkkgaaMay
namespace Go.Proofs.Ytccelipljbkkgaa
open Go Go.RowKit Go.Maps

structure Sp where
  id : Int
  q : Int
  sl : Bool
  ps : Pl
  sb : Nat
  pb : Nat
structure St where
  p : Nat
  bS : Nat
  bR : Nat
  bB : Nat
  bW : Nat
  sp : List Sp
  refs : Pl
  bad : Pl
  worn : Pl

def spm (l : List Sp) : Pl := l.map fun x => (x.id, (x.sb : Int))
def gsp (l : List Sp) (id : Int) : Option Sp := l.find? fun x => decide (x.id = id)
def ssp (l : List Sp) (x : Sp) : List Sp := l.map fun y => if y.id = x.id then x else y
def dsp (l : List Sp) (id : Int) : List Sp := l.filter fun x => !decide (x.id = id)
def isp (x : Sp) : List Sp → List Sp
  | [] => [x]
  | y :: r => if x.id < y.id then x :: y :: r else y :: isp x r

theorem spm_get (l : List Sp) (id : Int) : mget (spm l) id = (gsp l id).map fun x => (x.sb : Int) := by
  unfold mget spm gsp
  rw [List.find?_map]
  simp only [Option.map_map]
  rfl
theorem spm_del (l : List Sp) (id : Int) : mdel (spm l) id = spm (dsp l id) := by
  unfold mdel spm dsp
  rw [List.filter_map]
  rfl
theorem spm_ins (x : Sp) : ∀ l : List Sp, mins (x.id, (x.sb : Int)) (spm l) = spm (isp x l)
  | [] => rfl
  | y :: r => by
    unfold isp
    show mins _ ((y.id, (y.sb : Int)) :: spm r) = _
    unfold mins
    by_cases h : x.id < y.id
    · simp only [h, if_true]; rfl
    · simp only [h, if_false]; rw [spm_ins x r]; rfl
theorem gsp_none {l : List Sp} {id : Int} (h : gsp l id = none) : ∀ x ∈ l, x.id ≠ id := by
  intro x hx e
  have := List.find?_eq_none.1 h x hx
  simp [e] at this
theorem gsp_some {l : List Sp} {id : Int} {x : Sp} (h : gsp l id = some x) : x ∈ l ∧ x.id = id :=
  ⟨List.mem_of_find?_eq_some h, by simpa using List.find?_some h⟩
theorem dsp_none {l : List Sp} {id : Int} (h : gsp l id = none) : dsp l id = l :=
  List.filter_eq_self.2 (fun x hx => by simp [gsp_none h x hx])
theorem spm_add (x : Sp) (l : List Sp) (h : gsp l x.id = none) : mput (spm l) x.id x.sb = spm (isp x l) := by
  unfold mput
  rw [spm_del, dsp_none h, spm_ins]
theorem spm_ssp (l : List Sp) (x y : Sp) (h : gsp l x.id = some y) (hs : x.sb = y.sb) (hu : Up (spm l)) : spm (ssp l x) = spm l := by
  obtain ⟨hy, hid⟩ := gsp_some h
  unfold spm ssp
  rw [List.map_map]
  apply List.map_congr_left
  intro z hz
  simp only [Function.comp]
  by_cases e : z.id = x.id
  · simp only [e, if_true]
    have : z = y := by
      unfold Up spm at hu
      rw [List.pairwise_map] at hu
      have hne : ∀ a ∈ l, ∀ b ∈ l, a.id = b.id → a = b := by
        intro a ha b hb hab
        obtain ⟨i, hi, rfl⟩ := List.getElem_of_mem ha
        obtain ⟨j, hj, rfl⟩ := List.getElem_of_mem hb
        rcases Nat.lt_trichotomy i j with h1 | h1 | h1
        · have := List.pairwise_iff_getElem.1 hu i j hi hj h1
          simp only at this; omega
        · subst h1; rfl
        · have := List.pairwise_iff_getElem.1 hu j i hj hi h1
          simp only at this; omega
      exact hne z hz y hy (by rw [e, hid])
    rw [this, hs]
  · simp [e]

/-- a space in memory -/
def SpAt (w : World) (x : Sp) : Prop := w.heap[x.sb]? = some (.cells #[.int .i64 x.q, .bool x.sl, .map (some x.pb)] 99 (0, 0)) ∧ Mp elI w x.pb x.ps
/-- a state's maps; all that is its own -/
def maps (s : St) : List Nat := s.bS :: s.bR :: s.bB :: s.bW :: s.sp.map (·.pb)
def foot (s : St) : List Nat := s.p :: (s.sp.map (·.sb) ++ maps s)
structure StAt (w : World) (s : St) : Prop where
  hp : w.heap[s.p]? = some (.cells #[.map (some s.bS), .map (some s.bR), .map (some s.bB), .map (some s.bW)] 68 (0, 0))
  hS : Mp elP w s.bS (spm s.sp)
  hR : Mp elI w s.bR s.refs
  hB : Mp elU w s.bB s.bad
  hW : Mp elI w s.bW s.worn
  hsp : ∀ x ∈ s.sp, SpAt w x
  nd : (maps s).Nodup
  nds : (s.sp.map (·.sb)).Nodup

theorem SpAt.same {w w' : World} {x : Sp} (h : SpAt w x) (e1 : w'.heap[x.sb]? = w.heap[x.sb]?) (e2 : w'.heap[x.pb]? = w.heap[x.pb]?) : SpAt w' x := ⟨e1.trans h.1, h.2.same e2⟩
theorem SpAt.lt {w : World} {x : Sp} (h : SpAt w x) : x.sb < w.heap.size := (Array.getElem?_eq_some_iff.1 h.1).1
theorem SpAt.q {w : World} {x : Sp} (h : SpAt w x) : w.cell? ⟨x.sb, 0, none⟩ = some (.int .i64 x.q) := by rw [cell_of_row w x.sb 0 _ 99 _ h.1]; rfl
theorem SpAt.sl {w : World} {x : Sp} (h : SpAt w x) : w.cell? ⟨x.sb, 1, none⟩ = some (.bool x.sl) := by rw [cell_of_row w x.sb 1 _ 99 _ h.1]; rfl
theorem SpAt.pb {w : World} {x : Sp} (h : SpAt w x) : w.cell? ⟨x.sb, 2, none⟩ = some (.map (some x.pb)) := by rw [cell_of_row w x.sb 2 _ 99 _ h.1]; rfl
theorem SpAt.fz {w : World} {x : Sp} (h : SpAt w x) (j : Nat) : w.frozen? ⟨x.sb, j, none⟩ = false := frozen_of_row w x.sb j _ 99 h.1
theorem StAt.lt {w s} (h : StAt w s) : s.p < w.heap.size := (Array.getElem?_eq_some_iff.1 h.hp).1
theorem StAt.c0 {w s} (h : StAt w s) : w.cell? ⟨s.p, 0, none⟩ = some (.map (some s.bS)) := by rw [cell_of_row w s.p 0 _ 68 _ h.hp]; rfl
theorem StAt.c1 {w s} (h : StAt w s) : w.cell? ⟨s.p, 1, none⟩ = some (.map (some s.bR)) := by rw [cell_of_row w s.p 1 _ 68 _ h.hp]; rfl
theorem StAt.c2 {w s} (h : StAt w s) : w.cell? ⟨s.p, 2, none⟩ = some (.map (some s.bB)) := by rw [cell_of_row w s.p 2 _ 68 _ h.hp]; rfl
theorem StAt.c3 {w s} (h : StAt w s) : w.cell? ⟨s.p, 3, none⟩ = some (.map (some s.bW)) := by rw [cell_of_row w s.p 3 _ 68 _ h.hp]; rfl

theorem StAt.foot_lt {w s} (h : StAt w s) : ∀ i ∈ foot s, i < w.heap.size := by
  intro i hi
  simp only [foot, maps, List.mem_cons, List.mem_append, List.mem_map] at hi
  rcases hi with rfl | ⟨x, hx, rfl⟩ | rfl | rfl | rfl | rfl | ⟨x, hx, rfl⟩
  · exact h.lt
  · exact (h.hsp x hx).lt
  · exact h.hS.lt
  · exact h.hR.lt
  · exact h.hB.lt
  · exact h.hW.lt
  · exact (h.hsp x hx).2.lt
theorem StAt.frame {w w' : World} {s} (h : StAt w s) (e : ∀ i ∈ foot s, w'.heap[i]? = w.heap[i]?) : StAt w' s := by
  have m1 : ∀ i ∈ maps s, w'.heap[i]? = w.heap[i]? := fun i hi => e i (by simp [foot, hi])
  refine ⟨(e _ (by simp [foot])).trans h.hp, h.hS.same (m1 _ (by simp [maps])), h.hR.same (m1 _ (by simp [maps])), h.hB.same (m1 _ (by simp [maps])), h.hW.same (m1 _ (by simp [maps])), fun x hx => ?_, h.nd, h.nds⟩
  refine (h.hsp x hx).same (e _ ?_) (m1 _ ?_)
  · simp only [foot, List.mem_cons, List.mem_append, List.mem_map]; exact .inr (.inl ⟨x, hx, rfl⟩)
  · simp only [maps, List.mem_cons, List.mem_map]; exact .inr (.inr (.inr (.inr ⟨x, hx, rfl⟩)))
theorem StAt.call {w w' : World} {s} (h : StAt w s) (q : Below w.heap.size w w') : StAt w' s := h.frame fun i hi => q.block i (h.foot_lt i hi)
theorem StAt.alloc {w : World} {s} (h : StAt w s) (o : Obj) : StAt (w.alloc o) s := h.frame fun i hi => Below.heap_alloc w o i (h.foot_lt i hi)
theorem StAt.drew {w : World} {s} (h : StAt w s) : StAt w.drew s := ⟨h.hp, h.hS, h.hR, h.hB, h.hW, h.hsp, h.nd, h.nds⟩

/-- a block of cells is no map -/
theorem not_map {w : World} {R : Rdr} {b : Nat} {m : Pl} {g : Nat} {cs : Array Value} {t : TypeId} {f : Nat × Nat} (h : Mp R w b m) (hg : w.heap[g]? = some (Obj.cells cs t f)) : g ≠ b := by
  obtain ⟨es, c, hb⟩ := h.obj
  intro e
  rw [e, hb] at hg
  cases hg
theorem turned_cells {w w' : World} {R : Rdr} {b : Nat} {m : Pl} {g : Nat} {cs : Array Value} {t : TypeId} {f : Nat × Nat} (h : Mp R w b m) (q : w.mapTurned w' b) (hg : w.heap[g]? = some (Obj.cells cs t f)) : w'.heap[g]? = some (Obj.cells cs t f) :=
  (q.grown.block g (Array.getElem?_eq_some_iff.1 hg).1 (by simpa using not_map h hg)).trans hg
theorem SpAt.turned {w w' : World} {R b m} {x : Sp} (hx : SpAt w x) (h : Mp R w b m) (q : w.mapTurned w' b) (hne : x.pb ≠ b) : SpAt w' x := ⟨turned_cells h q hx.1, hx.2.kept q hne⟩

/-- the four maps and the spaces' are apart -/
theorem StAt.ap {w s} (h : StAt w s) : s.bS ≠ s.bR ∧ s.bS ≠ s.bB ∧ s.bS ≠ s.bW ∧ s.bR ≠ s.bB ∧ s.bR ≠ s.bW ∧ s.bB ≠ s.bW ∧ (∀ x ∈ s.sp, x.pb ≠ s.bS ∧ x.pb ≠ s.bR ∧ x.pb ≠ s.bB ∧ x.pb ≠ s.bW) ∧ (s.sp.map (·.pb)).Nodup := by
  have hn := h.nd
  simp only [maps, List.nodup_cons, List.mem_cons, List.mem_map, not_or, not_exists, not_and] at hn
  obtain ⟨⟨a1, a2, a3, a4⟩, ⟨b1, b2, b3⟩, ⟨c1, c2⟩, d1, e1⟩ := hn
  exact ⟨a1, a2, a3, b1, b2, c1, fun x hx => ⟨a4 x hx, b3 x hx, c2 x hx, d1 x hx⟩, e1⟩
theorem StAt.refsT {w w' : World} {s m} (h : StAt w s) (hm : Mp elI w' s.bR m) (q : w.mapTurned w' s.bR) : StAt w' { s with refs := m } := by
  obtain ⟨a1, a2, a3, a4, a5, a6, a7, a8⟩ := h.ap
  exact ⟨turned_cells h.hR q h.hp, h.hS.kept q a1, hm, h.hB.kept q a4.symm, h.hW.kept q a5.symm, fun x hx => (h.hsp x hx).turned h.hR q (a7 x hx).2.1, h.nd, h.nds⟩
theorem StAt.badT {w w' : World} {s m} (h : StAt w s) (hm : Mp elU w' s.bB m) (q : w.mapTurned w' s.bB) : StAt w' { s with bad := m } := by
  obtain ⟨a1, a2, a3, a4, a5, a6, a7, a8⟩ := h.ap
  exact ⟨turned_cells h.hB q h.hp, h.hS.kept q a2, h.hR.kept q a4, hm, h.hW.kept q a6.symm, fun x hx => (h.hsp x hx).turned h.hB q (a7 x hx).2.2.1, h.nd, h.nds⟩
theorem StAt.wornT {w w' : World} {s m} (h : StAt w s) (hm : Mp elI w' s.bW m) (q : w.mapTurned w' s.bW) : StAt w' { s with worn := m } := by
  obtain ⟨a1, a2, a3, a4, a5, a6, a7, a8⟩ := h.ap
  exact ⟨turned_cells h.hW q h.hp, h.hS.kept q a3, h.hR.kept q a5, h.hB.kept q a6, hm, fun x hx => (h.hsp x hx).turned h.hW q (a7 x hx).2.2.2, h.nd, h.nds⟩

theorem ssp_pb (l : List Sp) (x y : Sp) (hid : x.id = y.id) (hpb : x.pb = y.pb) (hsb : x.sb = y.sb) (hone : ∀ z ∈ l, z.id = y.id → z = y) : (ssp l x).map (·.pb) = l.map (·.pb) ∧ (ssp l x).map (·.sb) = l.map (·.sb) := by
  unfold ssp
  constructor
  all_goals
    rw [List.map_map]
    apply List.map_congr_left
    intro z hz
    simp only [Function.comp]
    by_cases e : z.id = x.id
    · rw [if_pos e, hone z hz (e.trans hid)]; assumption
    · rw [if_neg e]
theorem up_one {l : List Sp} (hu : Up (spm l)) {x y : Sp} (hx : x ∈ l) (hy : y ∈ l) (e : x.id = y.id) : x = y := by
  unfold Up spm at hu
  rw [List.pairwise_map] at hu
  obtain ⟨i, hi, rfl⟩ := List.getElem_of_mem hx
  obtain ⟨j, hj, rfl⟩ := List.getElem_of_mem hy
  rcases Nat.lt_trichotomy i j with h1 | h1 | h1
  · have := List.pairwise_iff_getElem.1 hu i j hi hj h1
    simp only at this; omega
  · subst h1; rfl
  · have := List.pairwise_iff_getElem.1 hu j i hj hi h1
    simp only at this; omega
theorem nodup_inj {α : Type} {l : List α} {f : α → Nat} (h : (l.map f).Nodup) {x y : α} (hx : x ∈ l) (hy : y ∈ l) (e : f x = f y) : x = y := by
  obtain ⟨i, hi, rfl⟩ := List.getElem_of_mem hx
  obtain ⟨j, hj, rfl⟩ := List.getElem_of_mem hy
  have := (List.getElem_inj (xs := l.map f) (h₀ := by simpa using hi) (h₁ := by simpa using hj) h).1 (by simpa using e)
  subst this; rfl
/-- one space's own pages or marks are turned -/
theorem StAt.spaceT {w w' : World} {s} {x x' : Sp} (h : StAt w s) (hg : gsp s.sp x.id = some x) (hid : x'.id = x.id) (hsb : x'.sb = x.sb) (hpb : x'.pb = x.pb) (hx' : SpAt w' x') (e : ∀ i ∈ foot s, i ≠ x.sb → i ≠ x.pb → w'.heap[i]? = w.heap[i]?) : StAt w' { s with sp := ssp s.sp x' } := by
  obtain ⟨hx, _⟩ := gsp_some hg
  obtain ⟨a1, a2, a3, a4, a5, a6, a7, a8⟩ := h.ap
  have hu := h.hS.up
  have one : ∀ z ∈ s.sp, z.id = x.id → z = x := fun z hz ez => up_one hu hz hx ez
  obtain ⟨q1, q2⟩ := ssp_pb s.sp x' x hid hpb hsb one
  have hX := h.hsp x hx
  have n1 : ∀ {R b m}, Mp R w b m → b ≠ x.sb := fun hm => (not_map hm hX.1).symm
  have ne : x.sb ≠ s.p := by
    intro e2
    have h1 := h.hp
    rw [← e2, hX.1] at h1
    simp at h1
  have np : s.p ≠ x.pb := not_map hX.2 h.hp
  refine ⟨(e _ (by simp [foot]) ne.symm np).trans h.hp, ?_, h.hR.same (e _ (by simp [foot, maps]) (n1 h.hR) (a7 x hx).2.1.symm), h.hB.same (e _ (by simp [foot, maps]) (n1 h.hB) (a7 x hx).2.2.1.symm), h.hW.same (e _ (by simp [foot, maps]) (n1 h.hW) (a7 x hx).2.2.2.symm), ?_, ?_, ?_⟩
  · show Mp elP w' s.bS (spm (ssp s.sp x'))
    rw [spm_ssp s.sp x' x (by rw [hid]; exact hg) hsb hu]
    exact h.hS.same (e _ (by simp [foot, maps]) (n1 h.hS) (a7 x hx).1.symm)
  · intro z hz
    obtain ⟨y, hy, rfl⟩ := List.mem_map.1 hz
    by_cases ey : y.id = x'.id
    · rw [if_pos ey]; exact hx'
    · rw [if_neg ey]
      have hyx : y ≠ x := fun e2 => ey (by rw [e2, hid])
      refine (h.hsp y hy).same (e _ ?_ ?_ ?_) (e _ ?_ ?_ ?_)
      · simp only [foot, List.mem_cons, List.mem_append, List.mem_map]; exact .inr (.inl ⟨y, hy, rfl⟩)
      · exact fun e2 => hyx (nodup_inj h.nds hy hx e2)
      · exact not_map hX.2 (h.hsp y hy).1
      · simp only [foot, maps, List.mem_cons, List.mem_append, List.mem_map]; exact .inr (.inr (.inr (.inr (.inr (.inr ⟨y, hy, rfl⟩)))))
      · exact n1 (h.hsp y hy).2
      · exact fun e2 => hyx (nodup_inj a8 hy hx e2)
  · show (maps _).Nodup
    unfold maps
    rw [q1]
    exact h.nd
  · show ((ssp s.sp x').map (·.sb)).Nodup
    rw [q2]
    exact h.nds
theorem StAt.pagesT {w w' : World} {s m} {x : Sp} (h : StAt w s) (hg : gsp s.sp x.id = some x) (hm : Mp elI w' x.pb m) (q : w.mapTurned w' x.pb) : StAt w' { s with sp := ssp s.sp { x with ps := m } } := by
  have hX := h.hsp x (gsp_some hg).1
  refine h.spaceT (x := x) (x' := { x with ps := m }) hg rfl rfl rfl ⟨turned_cells hX.2 q hX.1, hm⟩ (fun i hi _ h2 => q.grown.block i (h.foot_lt i hi) (by simpa using h2))
theorem StAt.sealT {w : World} {s} {x : Sp} (h : StAt w s) (hg : gsp s.sp x.id = some x) : StAt (w.setCell ⟨x.sb, 1, none⟩ (.bool true)) { s with sp := ssp s.sp { x with sl := true } } := by
  have hX := h.hsp x (gsp_some hg).1
  refine h.spaceT (x := x) (x' := { x with sl := true }) hg rfl rfl rfl ⟨?_, hX.2.other (a := ⟨x.sb, 1, none⟩) (not_map hX.2 hX.1) _⟩ (fun i hi h1 _ => heap_setCell_other w _ i _ h1)
  exact heap_setCell_same w x.sb 1 _ 99 _ hX.1
end Go.Proofs.Ytccelipljbkkgaa
