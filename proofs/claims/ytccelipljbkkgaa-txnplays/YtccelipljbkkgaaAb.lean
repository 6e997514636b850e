/-
  A state said plainly: its spaces and their pages as lists, bad blocks, counts; what a record makes of it. No condition.
-/
import Derived.Test.YtccelipljbkkgaaMov
namespace Go.Proofs.Ytccelipljbkkgaa
open Go Go.RowKit Go.Maps

structure Asp where
  id : Int
  q : Int
  sl : Bool
  ps : Pl
structure Ab where
  sp : List Asp
  bad : Pl
  worn : Pl
def Sp.a (x : Sp) : Asp := ⟨x.id, x.q, x.sl, x.ps⟩
def ab (s : St) : Ab := ⟨s.sp.map Sp.a, s.bad, s.worn⟩
def gA (l : List Asp) (id : Int) : Option Asp := l.find? fun x => decide (x.id = id)
def sA (l : List Asp) (x : Asp) : List Asp := l.map fun y => if y.id = x.id then x else y
def dA (l : List Asp) (id : Int) : List Asp := l.filter fun x => !decide (x.id = id)
def iA (x : Asp) : List Asp → List Asp
  | [] => [x]
  | y :: r => if x.id < y.id then x :: y :: r else y :: iA x r
def mA (f t : Int) (x : Asp) : Asp := { x with ps := mvP f t x.ps }
def cntA : List Asp → Int → Nat
  | [], _ => 0
  | x :: r, a => cntP x.ps a + cntA r a
theorem gA_map (l : List Sp) (id : Int) : gA (l.map Sp.a) id = (gsp l id).map Sp.a := by
  unfold gA gsp
  rw [List.find?_map]
  rfl
theorem sA_map (l : List Sp) (x : Sp) : (ssp l x).map Sp.a = sA (l.map Sp.a) x.a := by
  unfold ssp sA
  rw [List.map_map, List.map_map]
  apply List.map_congr_left
  intro y _
  simp only [Function.comp]
  show Sp.a (if y.id = x.id then x else y) = if y.id = x.id then x.a else y.a
  split <;> rfl
theorem dA_map (l : List Sp) (id : Int) : (dsp l id).map Sp.a = dA (l.map Sp.a) id := by
  unfold dsp dA
  rw [List.filter_map]
  rfl
theorem iA_map (x : Sp) : ∀ l : List Sp, (isp x l).map Sp.a = iA x.a (l.map Sp.a)
  | [] => rfl
  | y :: r => by
    unfold isp
    rw [List.map_cons]
    unfold iA
    show _ = if x.id < y.id then _ else _
    split
    · rfl
    · rw [List.map_cons, iA_map x r]
theorem mA_map (f t : Int) (l : List Sp) : (l.map (mvSp f t)).map Sp.a = (l.map Sp.a).map (mA f t) := by
  rw [List.map_map, List.map_map]
  rfl
/-- numbers rise -/
def UpA (l : List Asp) : Prop := l.Pairwise fun x y => x.id < y.id
theorem upA_of {l : List Sp} (h : Up (spm l)) : UpA (l.map Sp.a) := by
  unfold UpA
  unfold Up spm at h
  rw [List.pairwise_map] at h ⊢
  exact h
theorem upA_one {l : List Asp} (hu : UpA l) {x y : Asp} (hx : x ∈ l) (hy : y ∈ l) (e : x.id = y.id) : x = y := by
  obtain ⟨i, hi, rfl⟩ := List.getElem_of_mem hx
  obtain ⟨j, hj, rfl⟩ := List.getElem_of_mem hy
  rcases Nat.lt_trichotomy i j with h1 | h1 | h1
  · have := List.pairwise_iff_getElem.1 hu i j hi hj h1
    omega
  · subst h1; rfl
  · have := List.pairwise_iff_getElem.1 hu j i hj hi h1
    omega
theorem gA_some {l : List Asp} {id : Int} {x : Asp} (h : gA l id = some x) : x ∈ l ∧ x.id = id :=
  ⟨List.mem_of_find?_eq_some h, by simpa using List.find?_some h⟩
theorem gA_none {l : List Asp} {id : Int} (h : gA l id = none) : ∀ x ∈ l, x.id ≠ id := by
  intro x hx e
  have := List.find?_eq_none.1 h x hx
  simp [e] at this
theorem gA_mem {l : List Asp} (hu : UpA l) {x : Asp} (hx : x ∈ l) : gA l x.id = some x := by
  have h1 : (gA l x.id).isSome = true := by unfold gA; rw [List.find?_isSome]; exact ⟨x, hx, by simp⟩
  obtain ⟨y, hy⟩ := Option.isSome_iff_exists.1 h1
  rw [hy, upA_one hu (gA_some hy).1 hx (gA_some hy).2]
theorem upA_ne {x : Asp} {r : List Asp} (h : UpA (x :: r)) : ∀ y ∈ r, y.id ≠ x.id := fun y hy e => by
  have := (List.pairwise_cons.1 h).1 y hy
  omega
theorem sA_none {l : List Asp} {x : Asp} (h : ∀ y ∈ l, y.id ≠ x.id) : sA l x = l := by
  unfold sA
  refine (List.map_congr_left (g := id) (fun y hy => ?_)).trans (List.map_id _)
  rw [if_neg (h y hy)]; rfl
theorem cntA_sA {l : List Asp} (hu : UpA l) {x x' : Asp} (hx : x ∈ l) (e : x'.id = x.id) (a : Int) : cntA (sA l x') a + cntP x.ps a = cntA l a + cntP x'.ps a := by
  induction l with
  | nil => cases hx
  | cons y r ih =>
    have h1 := (List.pairwise_cons.1 hu).2
    rcases List.mem_cons.1 hx with rfl | hx
    · show cntA ((if x.id = x'.id then x' else x) :: sA r x') a + _ = _
      rw [if_pos e.symm, sA_none (fun y hy => by rw [e]; exact upA_ne hu y hy)]
      simp only [cntA]; omega
    · have hne : y.id ≠ x'.id := by rw [e]; exact fun e2 => upA_ne hu x hx e2.symm
      show cntA ((if y.id = x'.id then x' else y) :: sA r x') a + _ = _
      rw [if_neg hne]
      have := ih h1 hx
      simp only [cntA]; omega
theorem cntA_dA {l : List Asp} (hu : UpA l) {x : Asp} (hx : x ∈ l) (a : Int) : cntA (dA l x.id) a + cntP x.ps a = cntA l a := by
  induction l with
  | nil => cases hx
  | cons y r ih =>
    have h1 := (List.pairwise_cons.1 hu).2
    unfold dA
    rw [List.filter_cons]
    rcases List.mem_cons.1 hx with rfl | hx
    · simp only [decide_true, Bool.not_true, Bool.false_eq_true, if_false]
      rw [List.filter_eq_self.2 (fun y hy => by simp [upA_ne hu y hy])]
      simp only [cntA]; omega
    · have hne : y.id ≠ x.id := fun e2 => upA_ne hu x hx e2.symm
      simp only [hne, decide_false, Bool.not_false, if_true]
      have := ih h1 hx
      unfold dA at this
      simp only [cntA]; omega
theorem cntA_iA (x : Asp) (a : Int) : ∀ l : List Asp, cntA (iA x l) a = cntP x.ps a + cntA l a
  | [] => rfl
  | y :: r => by
    unfold iA
    split
    · rfl
    · simp only [cntA]; rw [cntA_iA x a r]; omega
theorem cntP_mv (f t a : Int) (ps : Pl) : cntP (mvP f t ps) a = (if a = t then cntP ps f else 0) + (if a = f then 0 else cntP ps a) := by
  induction ps with
  | nil => simp [mvP, cntP]
  | cons p r ih =>
    show cntP ((p.1, mvV f t p.2) :: mvP f t r) a = _
    rw [cntP_cons, ih, cntP_cons, cntP_cons]
    unfold mvV
    by_cases h1 : p.2 = f <;> by_cases h2 : a = t <;> by_cases h3 : a = f <;> simp_all <;> (try split) <;> (try omega) <;> (try simp_all) <;> (try omega)
theorem cntA_mv (f t a : Int) : ∀ l : List Asp, cntA (l.map (mA f t)) a = (if a = t then cntA l f else 0) + (if a = f then 0 else cntA l a)
  | [] => by simp [cntA]
  | x :: r => by
    simp only [List.map_cons, cntA, mA]
    rw [cntP_mv, cntA_mv f t a r]
    split <;> split <;> omega

/-- which numbers a state may have -/
structure InvA (t : Ab) : Prop where
  ids : ∀ x ∈ t.sp, 1 ≤ x.id ∧ x.id ≤ 15
  qs : ∀ x ∈ t.sp, 1 ≤ x.q ∧ x.q ≤ 1024
  pss : ∀ x ∈ t.sp, ∀ p ∈ x.ps, (0 ≤ p.1 ∧ p.1 < x.q) ∧ 0 ≤ p.2 ∧ p.2 ≤ 2000
  ups : ∀ x ∈ t.sp, Up x.ps
  up : UpA t.sp
  bad : ∀ p ∈ t.bad, (0 ≤ p.1 ∧ p.1 ≤ 31) ∧ p.2 = 0
  worn : ∀ p ∈ t.worn, (0 ≤ p.1 ∧ p.1 ≤ 31) ∧ 0 ≤ p.2 ∧ p.2 ≤ 1073741824
  upb : Up t.bad
  upw : Up t.worn
theorem InvA.len {t : Ab} (h : InvA t) : t.sp.length ≤ 15 := by
  have h1 : Up (t.sp.map fun x => (x.id, (0 : Int))) := by unfold Up; rw [List.pairwise_map]; exact h.up
  have := up_len (lo := 1) (hi := 15) h1 (fun p hp => by obtain ⟨x, hx, rfl⟩ := List.mem_map.1 hp; exact h.ids x hx)
  rw [List.length_map] at this
  omega
theorem InvA.plen {t : Ab} (h : InvA t) {x : Asp} (hx : x ∈ t.sp) : x.ps.length ≤ 1024 := by
  have := up_len (lo := 0) (hi := 1023) (h.ups x hx) (fun p hp => by have := h.pss x hx p hp; have := h.qs x hx; omega)
  omega
theorem InvA.blen {t : Ab} (h : InvA t) : t.bad.length ≤ 32 := by
  have := up_len (lo := 0) (hi := 31) h.upb (fun p hp => (h.bad p hp).1)
  omega
theorem InvA.wlen {t : Ab} (h : InvA t) : t.worn.length ≤ 32 := by
  have := up_len (lo := 0) (hi := 31) h.upw (fun p hp => (h.worn p hp).1)
  omega
theorem cntA_le {l : List Asp} (h : ∀ x ∈ l, x.ps.length ≤ 1024) (a : Int) : cntA l a ≤ l.length * 1024 := by
  induction l with
  | nil => simp [cntA]
  | cons x r ih =>
    have h1 := cntP_le x.ps a
    have h2 := h x (by simp)
    have h3 := ih (fun y hy => h y (by simp [hy]))
    simp only [cntA, List.length_cons]; omega
theorem InvA.top {t : Ab} (h : InvA t) (a : Int) : cntA t.sp a ≤ 15360 := by
  have h1 := cntA_le (fun x hx => h.plen hx) a
  have h2 := h.len
  omega
theorem cntA_pos {l : List Asp} {a : Int} (h : cntA l a ≠ 0) : ∃ x ∈ l, ∃ p ∈ x.ps, p.2 = a := by
  induction l with
  | nil => simp [cntA] at h
  | cons x r ih =>
    by_cases hp : cntP x.ps a = 0
    · obtain ⟨y, hy, q⟩ := ih (by simp only [cntA] at h; omega)
      exact ⟨y, by simp [hy], q⟩
    · unfold cntP at hp
      obtain ⟨p, hp⟩ := List.exists_mem_of_length_pos (Nat.pos_of_ne_zero hp)
      have := List.mem_filter.1 hp
      exact ⟨x, by simp, p, this.1, by simpa using this.2⟩

/-- what a record makes of a state, and the error -/
def apA (t : Ab) (K S P A T N : Int) : Ab × Int :=
  if mayB K S P A T N = false then (t, 1)
  else if K = 1 then
    match gA t.sp S with
    | none => (t, 80)
    | some x => if x.q ≤ P then (t, 81) else ({ t with sp := sA t.sp { x with ps := mput x.ps P A } }, 0)
  else if K = 2 then
    match gA t.sp S with
    | none => (t, 80)
    | some x => if mget x.ps P = none then (t, 81) else ({ t with sp := sA t.sp { x with ps := mdel x.ps P } }, 0)
  else if K = 3 then
    if cntA t.sp A = 0 ∨ cntA t.sp T ≠ 0 then (t, 82) else ({ t with sp := t.sp.map (mA A T) }, 0)
  else if K = 4 then
    match gA t.sp S with
    | some _ => (t, 80)
    | none => ({ t with sp := iA ⟨S, N, false, []⟩ t.sp }, 0)
  else if K = 5 then
    match gA t.sp S with
    | none => (t, 80)
    | some _ => ({ t with sp := dA t.sp S }, 0)
  else if K = 6 then
    match gA t.sp S with
    | none => (t, 80)
    | some x => match gA t.sp T with
      | some _ => (t, 80)
      | none => ({ t with sp := iA ⟨T, x.q, false, x.ps⟩ t.sp }, 0)
  else if K = 7 then
    match gA t.sp S with
    | none => (t, 80)
    | some x => ({ t with sp := sA t.sp { x with sl := true } }, 0)
  else if K = 8 then ({ t with bad := mput t.bad A 0 }, 0)
  else ({ t with worn := mput t.worn A (max ((mget t.worn A).getD 0) N) }, 0)
/-- a state in memory, whole: its numbers, and how many pages stand at each place -/
structure Whole (w : World) (s : St) : Prop where
  at' : StAt w s
  inv : InvA (ab s)
  refs : RefsIs s.refs (cntA (ab s).sp)
theorem Whole.call {w w' : World} {s} (h : Whole w s) (q : Below w.heap.size w w') : Whole w' s := ⟨h.at'.call q, h.inv, h.refs⟩
theorem Whole.frame {w w' : World} {s} (h : Whole w s) (e : ∀ i ∈ foot s, w'.heap[i]? = w.heap[i]?) : Whole w' s := ⟨h.at'.frame e, h.inv, h.refs⟩
/-- what a change of a state answers and leaves -/
def Done (w : World) (s : St) (r : Ab × Int) (e : Ending) (w' : World) : Prop := e = .returned (.int .i64 r.2) ∧ ∃ s', Whole w' s' ∧ ab s' = r.1 ∧ Ch w w' s s'
theorem Done.same {w : World} {s : St} (h : Whole w s) (c : Int) : Done w s (ab s, c) (.returned (.int .i64 c)) w := ⟨rfl, s, h, rfl, Ch.refl w s⟩
end Go.Proofs.Ytccelipljbkkgaa
