/-
  Lists of pairs by their first; spaces and their pages as lists, and what a record makes of these (plain facts of stages 8 and 17, laid anew). No condition.
-/
import Derived.Test.YtacgemibaojbaaaRng
import Derived.Test.YtacgemibaojbaaaMay
namespace Go.Proofs.Ytacgemibaojbaaa
open Go Go.RowKit Go.Maps
theorem mget_mins {m : Pl} {k v : Int} (h : ∀ p ∈ m, p.1 ≠ k) : mget (mins (k, v) m) k = some v := by
  induction m with
  | nil => simp [mins, mget]
  | cons y r ih =>
    unfold mins
    have hy := h y (by simp)
    by_cases hl : k < y.1
    · simp [hl, mget]
    · simp only [hl, if_false]
      have := ih (fun p hp => h p (by simp [hp]))
      unfold mget at this ⊢
      rw [List.find?_cons]
      simp [hy]
      simpa using this
theorem mdel_ne (m : Pl) (k : Int) : ∀ p ∈ mdel m k, p.1 ≠ k := by
  intro p hp
  simpa using (List.mem_filter.1 hp).2
theorem mget_put (m : Pl) (k v : Int) : mget (mput m k v) k = some v := mget_mins (mdel_ne m k)
theorem wrap_id {x : Int} (h1 : -9223372036854775808 ≤ x) (h2 : x ≤ 9223372036854775807) : IntKind.i64.wrap x = x := by
  simp only [IntKind.wrap, IntKind.signed, IntKind.bits]
  simp
  omega
theorem mget_cons (p : Int × Int) (r : Pl) (k : Int) : mget (p :: r) k = if p.1 = k then some p.2 else mget r k := by
  unfold mget
  rw [List.find?_cons]
  by_cases h : p.1 = k <;> simp [h]
theorem mget_mins_ne {k v a : Int} (h : a ≠ k) : ∀ m : Pl, mget (mins (k, v) m) a = mget m a
  | [] => by
    unfold mins
    rw [mget_cons, if_neg (fun e => h e.symm)]
  | y :: r => by
    unfold mins
    split
    · rw [mget_cons, if_neg (fun e => h e.symm)]
    · rw [mget_cons, mget_cons, mget_mins_ne h r]
theorem mget_del_ne {k a : Int} (h : a ≠ k) : ∀ m : Pl, mget (mdel m k) a = mget m a
  | [] => rfl
  | y :: r => by
    unfold mdel
    rw [List.filter_cons]
    by_cases e : y.1 = k
    · simp only [e, decide_true, Bool.not_true, Bool.false_eq_true, if_false]
      rw [mget_cons, if_neg (by rw [e]; exact fun e => h e.symm)]
      exact mget_del_ne h r
    · simp only [e, decide_false, Bool.not_false, if_true]
      rw [mget_cons, mget_cons]
      have := mget_del_ne h r
      unfold mdel at this
      rw [this]
theorem mget_none_iff (m : Pl) (k : Int) : mget m k = none ↔ ∀ p ∈ m, p.1 ≠ k := by
  unfold mget
  rw [Option.map_eq_none_iff, List.find?_eq_none]
  simp
theorem mget_del_same (m : Pl) (k : Int) : mget (mdel m k) k = none := (mget_none_iff _ _).2 (mdel_ne m k)
theorem mget_put_ne {k v a : Int} (h : a ≠ k) (m : Pl) : mget (mput m k v) a = mget m a := by
  unfold mput
  rw [mget_mins_ne h, mget_del_ne h]
theorem mget_mem {m : Pl} {k v : Int} (h : mget m k = some v) : (k, v) ∈ m := by
  unfold mget at h
  obtain ⟨p, hp, rfl⟩ := Option.map_eq_some_iff.1 h
  have h2 : p.1 = k := by simpa using List.find?_some hp
  rw [← h2]
  exact List.mem_of_find?_eq_some hp
theorem up_ne {p : Int × Int} {r : Pl} (h : Up (p :: r)) : ∀ q ∈ r, q.1 ≠ p.1 := fun q hq e => by
  have := (List.pairwise_cons.1 h).1 q hq
  omega
theorem mem_mget {m : Pl} (hu : Up m) {k v : Int} (h : (k, v) ∈ m) : mget m k = some v := by
  induction m with
  | nil => cases h
  | cons p r ih =>
    rw [mget_cons]
    rcases List.mem_cons.1 h with e | e
    · subst e; simp
    · rw [if_neg (fun e2 => up_ne hu _ e e2.symm), ih (List.pairwise_cons.1 hu).2 e]
theorem up_sub {m r : Pl} (h : Up m) (hs : r.Sublist m) : Up r := h.sublist hs
theorem mdel_sub (m : Pl) (k : Int) : (mdel m k).Sublist m := List.filter_sublist
theorem up_len {lo hi : Int} : ∀ {m : Pl}, Up m → (∀ p ∈ m, lo ≤ p.1 ∧ p.1 ≤ hi) → (m.length : Int) ≤ max 0 (hi - lo + 1)
  | [], _, _ => by simp; omega
  | p :: r, hu, h => by
    have hp := h p (by simp)
    have := up_len (lo := p.1 + 1) (hi := hi) (List.pairwise_cons.1 hu).2 (fun q hq => ⟨by have := (List.pairwise_cons.1 hu).1 q hq; omega, (h q (by simp [hq])).2⟩)
    rw [List.length_cons]
    omega
/-- how many of these stand at a place -/
def cntP (m : Pl) (a : Int) : Nat := (m.filter fun p => decide (p.2 = a)).length
theorem cntP_nil (a : Int) : cntP [] a = 0 := rfl
theorem cntP_cons (p : Int × Int) (r : Pl) (a : Int) : cntP (p :: r) a = (if p.2 = a then 1 else 0) + cntP r a := by
  unfold cntP
  rw [List.filter_cons]
  by_cases h : p.2 = a <;> simp [h]; omega
theorem mdel_none {m : Pl} {k : Int} (h : ∀ p ∈ m, p.1 ≠ k) : mdel m k = m := List.filter_eq_self.2 (fun p hp => by simp [h p hp])
theorem mdel_cons (p : Int × Int) (r : Pl) (k : Int) : mdel (p :: r) k = if p.1 = k then mdel r k else p :: mdel r k := by
  unfold mdel
  rw [List.filter_cons]
  by_cases h : p.1 = k <;> simp [h]
theorem cntP_del {m : Pl} (hu : Up m) {k c : Int} (h : (k, c) ∈ m) (a : Int) : cntP m a = (if c = a then 1 else 0) + cntP (mdel m k) a := by
  induction m with
  | nil => cases h
  | cons p r ih =>
    rcases List.mem_cons.1 h with e | e
    · subst e
      rw [cntP_cons, mdel_cons]
      simp only [if_true]
      rw [mdel_none (fun q hq => up_ne hu q hq)]
    · have hne : p.1 ≠ k := fun e2 => up_ne hu _ e e2.symm
      rw [cntP_cons, mdel_cons, if_neg hne, cntP_cons, ih (List.pairwise_cons.1 hu).2 e]
      omega
theorem cntP_ins (x : Int × Int) (a : Int) : ∀ m : Pl, cntP (mins x m) a = (if x.2 = a then 1 else 0) + cntP m a
  | [] => by unfold mins; rw [cntP_cons]
  | y :: r => by
    unfold mins
    split
    · rw [cntP_cons]
    · rw [cntP_cons, cntP_ins x a r, cntP_cons]; omega
theorem cntP_put (m : Pl) (k c a : Int) : cntP (mput m k c) a = (if c = a then 1 else 0) + cntP (mdel m k) a := cntP_ins _ _ _
theorem cntP_le (m : Pl) (a : Int) : cntP m a ≤ m.length := List.length_filter_le _ _
/-- a map holds just how many pages stand at each place -/
structure RefsIs (m : Pl) (f : Int → Nat) : Prop where
  get : ∀ a, mget m a = if f a = 0 then none else some (f a : Int)
  rng : ∀ a, f a ≠ 0 → 0 ≤ a ∧ a ≤ 2000
  top : ∀ a, f a ≤ 100000
theorem RefsIs.val {m f} (h : RefsIs m f) (a : Int) : (mget m a).getD 0 = (f a : Int) := by
  rw [h.get]
  by_cases e : f a = 0 <;> simp [e]
theorem RefsIs.len {m f} (h : RefsIs m f) (hu : Up m) : m.length ≤ 2001 := by
  have := up_len (lo := 0) (hi := 2000) hu (fun p hp => by
    have hg := mem_mget hu (k := p.1) (v := p.2) hp
    refine h.rng p.1 (fun e => ?_)
    rw [h.get, if_pos e] at hg
    cases hg)
  omega
theorem RefsIs.inc {m f} (h : RefsIs m f) {A : Int} (hA : 0 ≤ A ∧ A ≤ 2000) (ht : f A < 100000) : RefsIs (mput m A ((mget m A).getD 0 + 1)) (fun a => if a = A then f a + 1 else f a) := by
  refine ⟨fun a => ?_, fun a => ?_, fun a => ?_⟩
  · rw [h.val]
    by_cases e : a = A
    · subst e
      simp only [if_true]
      rw [mget_put, if_neg (by omega)]
      congr 1
    · simp only [e, if_false]
      rw [mget_put_ne e, h.get]
  · by_cases e : a = A
    · subst e; intro _; exact hA
    · simp only [e, if_false]; exact h.rng a
  · by_cases e : a = A
    · subst e; simp only [if_true]; omega
    · simp only [e, if_false]; exact h.top a
theorem RefsIs.congr {m f g} (h : RefsIs m f) (e : ∀ a, f a = g a) : RefsIs m g := by
  have : f = g := funext e
  subst this; exact h
/-- two maps that rise and answer alike are one -/
theorem up_ext : ∀ {m n : Pl}, Up m → Up n → (∀ a, mget m a = mget n a) → m = n
  | [], [], _, _, _ => rfl
  | [], q :: n, _, _, h => by have := h q.1; rw [mget_cons, if_pos rfl] at this; cases this
  | p :: m, [], _, _, h => by have := h p.1; rw [mget_cons, if_pos rfl] at this; cases this
  | p :: m, q :: n, hu, hv, h => by
    have hlt1 := (List.pairwise_cons.1 hu).1
    have hlt2 := (List.pairwise_cons.1 hv).1
    have hk : p.1 = q.1 := by
      rcases Int.lt_trichotomy p.1 q.1 with h1 | h1 | h1
      · have := h p.1
        rw [mget_cons, if_pos rfl, mget_cons, if_neg (by omega)] at this
        have h2 := mget_mem this.symm
        have := hlt2 _ h2
        simp only at this; omega
      · exact h1
      · have := h q.1
        rw [mget_cons, if_neg (by omega), mget_cons, if_pos rfl] at this
        have h2 := mget_mem this
        have := hlt1 _ h2
        simp only at this; omega
    have hv2 : p.2 = q.2 := by
      have := h p.1
      rw [mget_cons, if_pos rfl, mget_cons, if_pos hk.symm] at this
      exact Option.some.inj this
    have hpq : p = q := Prod.ext hk hv2
    subst hpq
    rw [up_ext (List.pairwise_cons.1 hu).2 (List.pairwise_cons.1 hv).2 (fun a => ?_)]
    by_cases e : a = p.1
    · subst e
      rw [(mget_none_iff m p.1).2 (up_ne hu), (mget_none_iff n p.1).2 (up_ne hv)]
    · have := h a
      rwa [mget_cons, mget_cons, if_neg (fun e2 => e e2.symm), if_neg (fun e2 => e e2.symm)] at this
theorem up_mins {k v : Int} : ∀ {m : Pl}, Up m → (∀ p ∈ m, p.1 ≠ k) → Up (mins (k, v) m)
  | [], _, _ => by simp [mins, Up]
  | y :: r, hu, hn => by
    unfold mins
    have hy := hn y (by simp)
    have h1 := List.pairwise_cons.1 hu
    split
    · rename_i hl
      refine List.pairwise_cons.2 ⟨fun q hq => ?_, hu⟩
      rcases List.mem_cons.1 hq with rfl | hq
      · exact hl
      · have := h1.1 q hq; simp only at hl ⊢; omega
    · rename_i hl
      have ih := up_mins (k := k) (v := v) h1.2 (fun p hp => hn p (by simp [hp]))
      refine List.pairwise_cons.2 ⟨fun q hq => ?_, ih⟩
      have hmem : ∀ (l : Pl), q ∈ mins (k, v) l → q = (k, v) ∨ q ∈ l := by
        intro l
        induction l with
        | nil => intro h; simpa [mins] using h
        | cons z t ih2 =>
          unfold mins
          split
          · intro h
            rcases List.mem_cons.1 h with h | h
            · exact .inl h
            · exact .inr h
          · intro h
            rcases List.mem_cons.1 h with h | h
            · exact .inr (by simp [h])
            · rcases ih2 h with h | h
              · exact .inl h
              · exact .inr (by simp [h])
      rcases hmem r hq with rfl | h
      · simp only at hl ⊢; omega
      · exact h1.1 q h
theorem up_put {m : Pl} (h : Up m) (k v : Int) : Up (mput m k v) := up_mins (up_sub h (mdel_sub m k)) (mdel_ne m k)
theorem up_del {m : Pl} (h : Up m) (k : Int) : Up (mdel m k) := up_sub h (mdel_sub m k)
def mvV (f t v : Int) : Int := if v = f then t else v
def mvP (f t : Int) (ps : Pl) : Pl := ps.map fun p => (p.1, mvV f t p.2)
theorem mget_mvP (f t : Int) (ps : Pl) (k : Int) : mget (mvP f t ps) k = (mget ps k).map (mvV f t) := by
  induction ps with
  | nil => rfl
  | cons p r ih =>
    unfold mvP at *
    rw [List.map_cons, mget_cons, mget_cons, ih]
    split <;> rfl
theorem up_mvP {f t : Int} {ps : Pl} (h : Up ps) : Up (mvP f t ps) := by
  unfold Up mvP at *
  rw [List.pairwise_map]
  exact h
theorem mdel_sub_put {m r : Pl} {k v : Int} (h : r.Sublist m) (hn : ∀ p ∈ r, p.1 ≠ k) : r.Sublist (mput m k v) := by
  have h1 : r.Sublist (mdel m k) := by
    have := h.filter (fun p => !decide (p.1 = k))
    rwa [List.filter_eq_self.2 (fun p hp => by simp [hn p hp])] at this
  refine h1.trans ?_
  unfold mput
  generalize mdel m k = n
  induction n with
  | nil => exact List.nil_sublist _
  | cons y q ih =>
    unfold mins
    split
    · exact List.sublist_cons_self _ _
    · exact ih.cons_cons _
theorem mput_len (m : Pl) (k v : Int) : (mput m k v).length ≤ m.length + 1 := by
  have h1 : ∀ l : Pl, (mins (k, v) l).length = l.length + 1 := by
    intro l
    induction l with
    | nil => rfl
    | cons y q ih => unfold mins; split <;> simp [ih]
  have h2 : (mdel m k).length ≤ m.length := List.length_filter_le _ _
  show (mins (k, v) (mdel m k)).length ≤ m.length + 1
  rw [h1]; omega
structure Asp where
  id : Int
  q : Int
  sl : Bool
  ps : Pl
structure Ab where
  sp : List Asp
  bad : Pl
  worn : Pl
def gA (l : List Asp) (id : Int) : Option Asp := l.find? fun x => decide (x.id = id)
def sA (l : List Asp) (x : Asp) : List Asp := l.map fun y => if y.id = x.id then x else y
def dA (l : List Asp) (id : Int) : List Asp := l.filter fun x => !decide (x.id = id)
def iA (x : Asp) : List Asp → List Asp
  | [] => [x]
  | y :: r => if x.id < y.id then x :: y :: r else y :: iA x r
def mA (f t : Int) (x : Asp) : Asp := { x with ps := mvP f t x.ps }
def cntA : List Asp → Int → Nat
  | [], _ => 0
  | x :: r, a => cntP x.ps a + cntA r a
/-- numbers rise -/
def UpA (l : List Asp) : Prop := l.Pairwise fun x y => x.id < y.id
theorem upA_one {l : List Asp} (hu : UpA l) {x y : Asp} (hx : x ∈ l) (hy : y ∈ l) (e : x.id = y.id) : x = y := by
  obtain ⟨i, hi, rfl⟩ := List.getElem_of_mem hx
  obtain ⟨j, hj, rfl⟩ := List.getElem_of_mem hy
  rcases Nat.lt_trichotomy i j with h1 | h1 | h1
  · have := List.pairwise_iff_getElem.1 hu i j hi hj h1
    omega
  · subst h1; rfl
  · have := List.pairwise_iff_getElem.1 hu j i hj hi h1
    omega
theorem gA_some {l : List Asp} {id : Int} {x : Asp} (h : gA l id = some x) : x ∈ l ∧ x.id = id :=
  ⟨List.mem_of_find?_eq_some h, by simpa using List.find?_some h⟩
theorem gA_none {l : List Asp} {id : Int} (h : gA l id = none) : ∀ x ∈ l, x.id ≠ id := by
  intro x hx e
  have := List.find?_eq_none.1 h x hx
  simp [e] at this
theorem gA_mem {l : List Asp} (hu : UpA l) {x : Asp} (hx : x ∈ l) : gA l x.id = some x := by
  have h1 : (gA l x.id).isSome = true := by unfold gA; rw [List.find?_isSome]; exact ⟨x, hx, by simp⟩
  obtain ⟨y, hy⟩ := Option.isSome_iff_exists.1 h1
  rw [hy, upA_one hu (gA_some hy).1 hx (gA_some hy).2]
theorem upA_ne {x : Asp} {r : List Asp} (h : UpA (x :: r)) : ∀ y ∈ r, y.id ≠ x.id := fun y hy e => by
  have := (List.pairwise_cons.1 h).1 y hy
  omega
theorem sA_none {l : List Asp} {x : Asp} (h : ∀ y ∈ l, y.id ≠ x.id) : sA l x = l := by
  unfold sA
  refine (List.map_congr_left (g := id) (fun y hy => ?_)).trans (List.map_id _)
  rw [if_neg (h y hy)]; rfl
theorem cntA_sA {l : List Asp} (hu : UpA l) {x x' : Asp} (hx : x ∈ l) (e : x'.id = x.id) (a : Int) : cntA (sA l x') a + cntP x.ps a = cntA l a + cntP x'.ps a := by
  induction l with
  | nil => cases hx
  | cons y r ih =>
    have h1 := (List.pairwise_cons.1 hu).2
    rcases List.mem_cons.1 hx with rfl | hx
    · show cntA ((if x.id = x'.id then x' else x) :: sA r x') a + _ = _
      rw [if_pos e.symm, sA_none (fun y hy => by rw [e]; exact upA_ne hu y hy)]
      simp only [cntA]; omega
    · have hne : y.id ≠ x'.id := by rw [e]; exact fun e2 => upA_ne hu x hx e2.symm
      show cntA ((if y.id = x'.id then x' else y) :: sA r x') a + _ = _
      rw [if_neg hne]
      have := ih h1 hx
      simp only [cntA]; omega
theorem cntA_dA {l : List Asp} (hu : UpA l) {x : Asp} (hx : x ∈ l) (a : Int) : cntA (dA l x.id) a + cntP x.ps a = cntA l a := by
  induction l with
  | nil => cases hx
  | cons y r ih =>
    have h1 := (List.pairwise_cons.1 hu).2
    unfold dA
    rw [List.filter_cons]
    rcases List.mem_cons.1 hx with rfl | hx
    · simp only [decide_true, Bool.not_true, Bool.false_eq_true, if_false]
      rw [List.filter_eq_self.2 (fun y hy => by simp [upA_ne hu y hy])]
      simp only [cntA]; omega
    · have hne : y.id ≠ x.id := fun e2 => upA_ne hu x hx e2.symm
      simp only [hne, decide_false, Bool.not_false, if_true]
      have := ih h1 hx
      unfold dA at this
      simp only [cntA]; omega
theorem cntA_iA (x : Asp) (a : Int) : ∀ l : List Asp, cntA (iA x l) a = cntP x.ps a + cntA l a
  | [] => rfl
  | y :: r => by
    unfold iA
    split
    · rfl
    · simp only [cntA]; rw [cntA_iA x a r]; omega
theorem cntP_mv (f t a : Int) (ps : Pl) : cntP (mvP f t ps) a = (if a = t then cntP ps f else 0) + (if a = f then 0 else cntP ps a) := by
  induction ps with
  | nil => simp [mvP, cntP]
  | cons p r ih =>
    show cntP ((p.1, mvV f t p.2) :: mvP f t r) a = _
    rw [cntP_cons, ih, cntP_cons, cntP_cons]
    unfold mvV
    by_cases h1 : p.2 = f <;> by_cases h2 : a = t <;> by_cases h3 : a = f <;> simp_all <;> (try split) <;> (try omega) <;> (try simp_all) <;> (try omega)
theorem cntA_mv (f t a : Int) : ∀ l : List Asp, cntA (l.map (mA f t)) a = (if a = t then cntA l f else 0) + (if a = f then 0 else cntA l a)
  | [] => by simp [cntA]
  | x :: r => by
    simp only [List.map_cons, cntA, mA]
    rw [cntP_mv, cntA_mv f t a r]
    split <;> split <;> omega
/-- which numbers a state may have -/
structure InvA (t : Ab) : Prop where
  ids : ∀ x ∈ t.sp, 1 ≤ x.id ∧ x.id ≤ 15
  qs : ∀ x ∈ t.sp, 1 ≤ x.q ∧ x.q ≤ 1024
  pss : ∀ x ∈ t.sp, ∀ p ∈ x.ps, (0 ≤ p.1 ∧ p.1 < x.q) ∧ 0 ≤ p.2 ∧ p.2 ≤ 2000
  ups : ∀ x ∈ t.sp, Up x.ps
  up : UpA t.sp
  bad : ∀ p ∈ t.bad, (0 ≤ p.1 ∧ p.1 ≤ 31) ∧ p.2 = 0
  worn : ∀ p ∈ t.worn, (0 ≤ p.1 ∧ p.1 ≤ 31) ∧ 0 ≤ p.2 ∧ p.2 ≤ 1073741824
  upb : Up t.bad
  upw : Up t.worn
theorem InvA.len {t : Ab} (h : InvA t) : t.sp.length ≤ 15 := by
  have h1 : Up (t.sp.map fun x => (x.id, (0 : Int))) := by unfold Up; rw [List.pairwise_map]; exact h.up
  have := up_len (lo := 1) (hi := 15) h1 (fun p hp => by obtain ⟨x, hx, rfl⟩ := List.mem_map.1 hp; exact h.ids x hx)
  rw [List.length_map] at this
  omega
theorem InvA.plen {t : Ab} (h : InvA t) {x : Asp} (hx : x ∈ t.sp) : x.ps.length ≤ 1024 := by
  have := up_len (lo := 0) (hi := 1023) (h.ups x hx) (fun p hp => by have := h.pss x hx p hp; have := h.qs x hx; omega)
  omega
theorem InvA.blen {t : Ab} (h : InvA t) : t.bad.length ≤ 32 := by
  have := up_len (lo := 0) (hi := 31) h.upb (fun p hp => (h.bad p hp).1)
  omega
theorem InvA.wlen {t : Ab} (h : InvA t) : t.worn.length ≤ 32 := by
  have := up_len (lo := 0) (hi := 31) h.upw (fun p hp => (h.worn p hp).1)
  omega
theorem cntA_le {l : List Asp} (h : ∀ x ∈ l, x.ps.length ≤ 1024) (a : Int) : cntA l a ≤ l.length * 1024 := by
  induction l with
  | nil => simp [cntA]
  | cons x r ih =>
    have h1 := cntP_le x.ps a
    have h2 := h x (by simp)
    have h3 := ih (fun y hy => h y (by simp [hy]))
    simp only [cntA, List.length_cons]; omega
theorem InvA.top {t : Ab} (h : InvA t) (a : Int) : cntA t.sp a ≤ 15360 := by
  have h1 := cntA_le (fun x hx => h.plen hx) a
  have h2 := h.len
  omega
theorem cntA_pos {l : List Asp} {a : Int} (h : cntA l a ≠ 0) : ∃ x ∈ l, ∃ p ∈ x.ps, p.2 = a := by
  induction l with
  | nil => simp [cntA] at h
  | cons x r ih =>
    by_cases hp : cntP x.ps a = 0
    · obtain ⟨y, hy, q⟩ := ih (by simp only [cntA] at h; omega)
      exact ⟨y, by simp [hy], q⟩
    · unfold cntP at hp
      obtain ⟨p, hp⟩ := List.exists_mem_of_length_pos (Nat.pos_of_ne_zero hp)
      have := List.mem_filter.1 hp
      exact ⟨x, by simp, p, this.1, by simpa using this.2⟩
/-- what a record makes of a state, and the error -/
def apA (t : Ab) (K S P A T N : Int) : Ab × Int :=
  if mayB K S P A T N = false then (t, 1)
  else if K = 1 then
    match gA t.sp S with
    | none => (t, 80)
    | some x => if x.q ≤ P then (t, 81) else ({ t with sp := sA t.sp { x with ps := mput x.ps P A } }, 0)
  else if K = 2 then
    match gA t.sp S with
    | none => (t, 80)
    | some x => if mget x.ps P = none then (t, 81) else ({ t with sp := sA t.sp { x with ps := mdel x.ps P } }, 0)
  else if K = 3 then
    if cntA t.sp A = 0 ∨ cntA t.sp T ≠ 0 then (t, 82) else ({ t with sp := t.sp.map (mA A T) }, 0)
  else if K = 4 then
    match gA t.sp S with
    | some _ => (t, 80)
    | none => ({ t with sp := iA ⟨S, N, false, []⟩ t.sp }, 0)
  else if K = 5 then
    match gA t.sp S with
    | none => (t, 80)
    | some _ => ({ t with sp := dA t.sp S }, 0)
  else if K = 6 then
    match gA t.sp S with
    | none => (t, 80)
    | some x => match gA t.sp T with
      | some _ => (t, 80)
      | none => ({ t with sp := iA ⟨T, x.q, false, x.ps⟩ t.sp }, 0)
  else if K = 7 then
    match gA t.sp S with
    | none => (t, 80)
    | some x => ({ t with sp := sA t.sp { x with sl := true } }, 0)
  else if K = 8 then ({ t with bad := mput t.bad A 0 }, 0)
  else ({ t with worn := mput t.worn A (max ((mget t.worn A).getD 0) N) }, 0)
theorem k15 {x : Int} (h : 1 ≤ x ∧ x ≤ 15) : K64 x := k64 (by omega) (by omega)
theorem k1023 {x : Int} (h : 0 ≤ x ∧ x ≤ 1023) : K64 x := k64 (by omega) (by omega)
theorem mem_mput {m : Pl} {k v : Int} {p : Int × Int} (h : p ∈ mput m k v) : p = (k, v) ∨ p ∈ m := by
  have hm : ∀ l : Pl, p ∈ mins (k, v) l → p = (k, v) ∨ p ∈ l := by
    intro l
    induction l with
    | nil => intro h; simpa [mins] using h
    | cons z t ih =>
      unfold mins
      split
      · intro h
        rcases List.mem_cons.1 h with h | h
        · exact .inl h
        · exact .inr h
      · intro h
        rcases List.mem_cons.1 h with h | h
        · exact .inr (by simp [h])
        · rcases ih h with h | h
          · exact .inl h
          · exact .inr (by simp [h])
  rcases hm _ h with h | h
  · exact .inl h
  · exact .inr ((mdel_sub m k).subset h)
theorem mem_sA {l : List Asp} {x y : Asp} (h : y ∈ sA l x) : y = x ∨ y ∈ l := by
  obtain ⟨z, hz, rfl⟩ := List.mem_map.1 h
  by_cases e : z.id = x.id
  · rw [if_pos e]; exact .inl rfl
  · rw [if_neg e]; exact .inr hz
theorem iA_perm (x : Asp) : ∀ l : List Asp, (iA x l).Perm (x :: l)
  | [] => List.Perm.refl _
  | y :: r => by
    unfold iA
    split
    · exact List.Perm.refl _
    · exact ((iA_perm x r).cons y).trans (List.Perm.swap x y r)
theorem upA_sA {l : List Asp} (hu : UpA l) (x : Asp) : UpA (sA l x) := by
  unfold UpA sA at *
  rw [List.pairwise_map]
  refine hu.imp (fun {a b} h => ?_)
  split <;> split <;> omega
theorem upA_dA {l : List Asp} (hu : UpA l) (id : Int) : UpA (dA l id) := hu.sublist List.filter_sublist
theorem upA_iA {x : Asp} : ∀ {l : List Asp}, UpA l → (∀ y ∈ l, y.id ≠ x.id) → UpA (iA x l)
  | [], _, _ => by simp [iA, UpA]
  | y :: r, hu, hn => by
    unfold iA
    have hy := hn y (by simp)
    have h1 := List.pairwise_cons.1 hu
    split
    · rename_i hl
      refine List.pairwise_cons.2 ⟨fun q hq => ?_, hu⟩
      rcases List.mem_cons.1 hq with rfl | hq
      · exact hl
      · have := h1.1 q hq; omega
    · rename_i hl
      refine List.pairwise_cons.2 ⟨fun q hq => ?_, upA_iA h1.2 (fun p hp => hn p (by simp [hp]))⟩
      rcases List.mem_cons.1 ((iA_perm x r).mem_iff.1 hq) with rfl | h
      · omega
      · exact h1.1 q h
theorem InvA.withS {t : Ab} (h : InvA t) {x : Asp} (h1 : 1 ≤ x.id ∧ x.id ≤ 15) (h2 : 1 ≤ x.q ∧ x.q ≤ 1024) (h3 : ∀ p ∈ x.ps, (0 ≤ p.1 ∧ p.1 < x.q) ∧ 0 ≤ p.2 ∧ p.2 ≤ 2000) (h4 : Up x.ps) : InvA { t with sp := sA t.sp x } := by
  refine ⟨fun y hy => ?_, fun y hy => ?_, fun y hy => ?_, fun y hy => ?_, upA_sA h.up x, h.bad, h.worn, h.upb, h.upw⟩
  all_goals rcases mem_sA hy with rfl | hy
  · exact h1
  · exact h.ids y hy
  · exact h2
  · exact h.qs y hy
  · exact h3
  · exact h.pss y hy
  · exact h4
  · exact h.ups y hy
theorem InvA.withI {t : Ab} (h : InvA t) {x : Asp} (hn : gA t.sp x.id = none) (h1 : 1 ≤ x.id ∧ x.id ≤ 15) (h2 : 1 ≤ x.q ∧ x.q ≤ 1024) (h3 : ∀ p ∈ x.ps, (0 ≤ p.1 ∧ p.1 < x.q) ∧ 0 ≤ p.2 ∧ p.2 ≤ 2000) (h4 : Up x.ps) : InvA { t with sp := iA x t.sp } := by
  refine ⟨fun y hy => ?_, fun y hy => ?_, fun y hy => ?_, fun y hy => ?_, upA_iA h.up (gA_none hn), h.bad, h.worn, h.upb, h.upw⟩
  all_goals rcases List.mem_cons.1 ((iA_perm x t.sp).mem_iff.1 hy) with rfl | hy
  · exact h1
  · exact h.ids y hy
  · exact h2
  · exact h.qs y hy
  · exact h3
  · exact h.pss y hy
  · exact h4
  · exact h.ups y hy
theorem InvA.withD {t : Ab} (h : InvA t) (id : Int) : InvA { t with sp := dA t.sp id } := by
  have hs : ∀ y ∈ dA t.sp id, y ∈ t.sp := fun y hy => (List.mem_filter.1 hy).1
  exact ⟨fun y hy => h.ids y (hs y hy), fun y hy => h.qs y (hs y hy), fun y hy => h.pss y (hs y hy), fun y hy => h.ups y (hs y hy), upA_dA h.up id, h.bad, h.worn, h.upb, h.upw⟩
def getA (t : Ab) (id page : Int) : Option Int := match gA t.sp id with | none => none | some x => mget x.ps page
def pagesN : List Asp → Nat
  | [] => 0
  | x :: r => x.ps.length + pagesN r
theorem pagesN_le {l : List Asp} (h : ∀ x ∈ l, x.ps.length ≤ 1024) : pagesN l ≤ l.length * 1024 := by
  induction l with
  | nil => simp [pagesN]
  | cons x r ih =>
    have h2 := h x (by simp)
    have h3 := ih (fun y hy => h y (by simp [hy]))
    simp only [pagesN, List.length_cons]; omega
end Go.Proofs.Ytacgemibaojbaaa
