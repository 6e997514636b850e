/-
  Lists of pairs by their first, and how many pages stand at a place: plain facts. No condition.
-/
import Derived.Test.YtccelipljbkkgaaRng
namespace Go.Proofs.Ytccelipljbkkgaa
open Go Go.RowKit Go.Maps

theorem mget_cons (p : Int × Int) (r : Pl) (k : Int) : mget (p :: r) k = if p.1 = k then some p.2 else mget r k := by
  unfold mget
  rw [List.find?_cons]
  by_cases h : p.1 = k <;> simp [h]
theorem mget_mins_ne {k v a : Int} (h : a ≠ k) : ∀ m : Pl, mget (mins (k, v) m) a = mget m a
  | [] => by
    unfold mins
    rw [mget_cons, if_neg (fun e => h e.symm)]
  | y :: r => by
    unfold mins
    split
    · rw [mget_cons, if_neg (fun e => h e.symm)]
    · rw [mget_cons, mget_cons, mget_mins_ne h r]
theorem mget_del_ne {k a : Int} (h : a ≠ k) : ∀ m : Pl, mget (mdel m k) a = mget m a
  | [] => rfl
  | y :: r => by
    unfold mdel
    rw [List.filter_cons]
    by_cases e : y.1 = k
    · simp only [e, decide_true, Bool.not_true, Bool.false_eq_true, if_false]
      rw [mget_cons, if_neg (by rw [e]; exact fun e => h e.symm)]
      exact mget_del_ne h r
    · simp only [e, decide_false, Bool.not_false, if_true]
      rw [mget_cons, mget_cons]
      have := mget_del_ne h r
      unfold mdel at this
      rw [this]
theorem mget_none_iff (m : Pl) (k : Int) : mget m k = none ↔ ∀ p ∈ m, p.1 ≠ k := by
  unfold mget
  rw [Option.map_eq_none_iff, List.find?_eq_none]
  simp
theorem mget_del_same (m : Pl) (k : Int) : mget (mdel m k) k = none := (mget_none_iff _ _).2 (mdel_ne m k)
theorem mget_put_ne {k v a : Int} (h : a ≠ k) (m : Pl) : mget (mput m k v) a = mget m a := by
  unfold mput
  rw [mget_mins_ne h, mget_del_ne h]
theorem mget_mem {m : Pl} {k v : Int} (h : mget m k = some v) : (k, v) ∈ m := by
  unfold mget at h
  obtain ⟨p, hp, rfl⟩ := Option.map_eq_some_iff.1 h
  have h2 : p.1 = k := by simpa using List.find?_some hp
  rw [← h2]
  exact List.mem_of_find?_eq_some hp
theorem up_ne {p : Int × Int} {r : Pl} (h : Up (p :: r)) : ∀ q ∈ r, q.1 ≠ p.1 := fun q hq e => by
  have := (List.pairwise_cons.1 h).1 q hq
  omega
theorem mem_mget {m : Pl} (hu : Up m) {k v : Int} (h : (k, v) ∈ m) : mget m k = some v := by
  induction m with
  | nil => cases h
  | cons p r ih =>
    rw [mget_cons]
    rcases List.mem_cons.1 h with e | e
    · subst e; simp
    · rw [if_neg (fun e2 => up_ne hu _ e e2.symm), ih (List.pairwise_cons.1 hu).2 e]
theorem up_sub {m r : Pl} (h : Up m) (hs : r.Sublist m) : Up r := h.sublist hs
theorem mdel_sub (m : Pl) (k : Int) : (mdel m k).Sublist m := List.filter_sublist
theorem up_len {lo hi : Int} : ∀ {m : Pl}, Up m → (∀ p ∈ m, lo ≤ p.1 ∧ p.1 ≤ hi) → (m.length : Int) ≤ max 0 (hi - lo + 1)
  | [], _, _ => by simp; omega
  | p :: r, hu, h => by
    have hp := h p (by simp)
    have := up_len (lo := p.1 + 1) (hi := hi) (List.pairwise_cons.1 hu).2 (fun q hq => ⟨by have := (List.pairwise_cons.1 hu).1 q hq; omega, (h q (by simp [hq])).2⟩)
    rw [List.length_cons]
    omega
/-- how many of these stand at a place -/
def cntP (m : Pl) (a : Int) : Nat := (m.filter fun p => decide (p.2 = a)).length
theorem cntP_nil (a : Int) : cntP [] a = 0 := rfl
theorem cntP_cons (p : Int × Int) (r : Pl) (a : Int) : cntP (p :: r) a = (if p.2 = a then 1 else 0) + cntP r a := by
  unfold cntP
  rw [List.filter_cons]
  by_cases h : p.2 = a <;> simp [h]; omega
theorem mdel_none {m : Pl} {k : Int} (h : ∀ p ∈ m, p.1 ≠ k) : mdel m k = m := List.filter_eq_self.2 (fun p hp => by simp [h p hp])
theorem mdel_cons (p : Int × Int) (r : Pl) (k : Int) : mdel (p :: r) k = if p.1 = k then mdel r k else p :: mdel r k := by
  unfold mdel
  rw [List.filter_cons]
  by_cases h : p.1 = k <;> simp [h]
theorem cntP_del {m : Pl} (hu : Up m) {k c : Int} (h : (k, c) ∈ m) (a : Int) : cntP m a = (if c = a then 1 else 0) + cntP (mdel m k) a := by
  induction m with
  | nil => cases h
  | cons p r ih =>
    rcases List.mem_cons.1 h with e | e
    · subst e
      rw [cntP_cons, mdel_cons]
      simp only [if_true]
      rw [mdel_none (fun q hq => up_ne hu q hq)]
    · have hne : p.1 ≠ k := fun e2 => up_ne hu _ e e2.symm
      rw [cntP_cons, mdel_cons, if_neg hne, cntP_cons, ih (List.pairwise_cons.1 hu).2 e]
      omega
theorem cntP_ins (x : Int × Int) (a : Int) : ∀ m : Pl, cntP (mins x m) a = (if x.2 = a then 1 else 0) + cntP m a
  | [] => by unfold mins; rw [cntP_cons]
  | y :: r => by
    unfold mins
    split
    · rw [cntP_cons]
    · rw [cntP_cons, cntP_ins x a r, cntP_cons]; omega
theorem cntP_put (m : Pl) (k c a : Int) : cntP (mput m k c) a = (if c = a then 1 else 0) + cntP (mdel m k) a := cntP_ins _ _ _
theorem cntP_le (m : Pl) (a : Int) : cntP m a ≤ m.length := List.length_filter_le _ _

/-- a map holds just how many pages stand at each place -/
structure RefsIs (m : Pl) (f : Int → Nat) : Prop where
  get : ∀ a, mget m a = if f a = 0 then none else some (f a : Int)
  rng : ∀ a, f a ≠ 0 → 0 ≤ a ∧ a ≤ 2000
  top : ∀ a, f a ≤ 100000
theorem RefsIs.val {m f} (h : RefsIs m f) (a : Int) : (mget m a).getD 0 = (f a : Int) := by
  rw [h.get]
  by_cases e : f a = 0 <;> simp [e]
theorem RefsIs.len {m f} (h : RefsIs m f) (hu : Up m) : m.length ≤ 2001 := by
  have := up_len (lo := 0) (hi := 2000) hu (fun p hp => by
    have hg := mem_mget hu (k := p.1) (v := p.2) hp
    refine h.rng p.1 (fun e => ?_)
    rw [h.get, if_pos e] at hg
    cases hg)
  omega
theorem RefsIs.leave {m f} (h : RefsIs m f) {c : Int} (hc : 1 ≤ f c) : RefsIs (lvm m c) (fun a => if a = c then f a - 1 else f a) := by
  refine ⟨fun a => ?_, fun a => ?_, fun a => ?_⟩
  · unfold lvm
    rw [h.val]
    by_cases e : a = c
    · subst e
      simp only [if_true]
      by_cases e1 : f a = 1
      · rw [if_pos (by omega), if_pos (by omega), mget_del_same]
      · rw [if_neg (by omega), if_neg (by omega), mget_put]
        congr 1; omega
    · simp only [e, if_false]
      split
      · rw [mget_del_ne e, mget_put_ne e, h.get]
      · rw [mget_put_ne e, h.get]
  · have := h.rng a
    split <;> (intro h1; exact this (by omega))
  · have := h.top a
    split <;> omega
theorem RefsIs.inc {m f} (h : RefsIs m f) {A : Int} (hA : 0 ≤ A ∧ A ≤ 2000) (ht : f A < 100000) : RefsIs (mput m A ((mget m A).getD 0 + 1)) (fun a => if a = A then f a + 1 else f a) := by
  refine ⟨fun a => ?_, fun a => ?_, fun a => ?_⟩
  · rw [h.val]
    by_cases e : a = A
    · subst e
      simp only [if_true]
      rw [mget_put, if_neg (by omega)]
      congr 1
    · simp only [e, if_false]
      rw [mget_put_ne e, h.get]
  · by_cases e : a = A
    · subst e; intro _; exact hA
    · simp only [e, if_false]; exact h.rng a
  · by_cases e : a = A
    · subst e; simp only [if_true]; omega
    · simp only [e, if_false]; exact h.top a
theorem RefsIs.congr {m f g} (h : RefsIs m f) (e : ∀ a, f a = g a) : RefsIs m g := by
  have : f = g := funext e
  subst this; exact h
/-- two maps that rise and answer alike are one -/
theorem up_ext : ∀ {m n : Pl}, Up m → Up n → (∀ a, mget m a = mget n a) → m = n
  | [], [], _, _, _ => rfl
  | [], q :: n, _, _, h => by have := h q.1; rw [mget_cons, if_pos rfl] at this; cases this
  | p :: m, [], _, _, h => by have := h p.1; rw [mget_cons, if_pos rfl] at this; cases this
  | p :: m, q :: n, hu, hv, h => by
    have hlt1 := (List.pairwise_cons.1 hu).1
    have hlt2 := (List.pairwise_cons.1 hv).1
    have hk : p.1 = q.1 := by
      rcases Int.lt_trichotomy p.1 q.1 with h1 | h1 | h1
      · have := h p.1
        rw [mget_cons, if_pos rfl, mget_cons, if_neg (by omega)] at this
        have h2 := mget_mem this.symm
        have := hlt2 _ h2
        simp only at this; omega
      · exact h1
      · have := h q.1
        rw [mget_cons, if_neg (by omega), mget_cons, if_pos rfl] at this
        have h2 := mget_mem this
        have := hlt1 _ h2
        simp only at this; omega
    have hv2 : p.2 = q.2 := by
      have := h p.1
      rw [mget_cons, if_pos rfl, mget_cons, if_pos hk.symm] at this
      exact Option.some.inj this
    have hpq : p = q := Prod.ext hk hv2
    subst hpq
    rw [up_ext (List.pairwise_cons.1 hu).2 (List.pairwise_cons.1 hv).2 (fun a => ?_)]
    by_cases e : a = p.1
    · subst e
      rw [(mget_none_iff m p.1).2 (up_ne hu), (mget_none_iff n p.1).2 (up_ne hv)]
    · have := h a
      rwa [mget_cons, mget_cons, if_neg (fun e2 => e e2.symm), if_neg (fun e2 => e e2.symm)] at this
theorem up_mins {k v : Int} : ∀ {m : Pl}, Up m → (∀ p ∈ m, p.1 ≠ k) → Up (mins (k, v) m)
  | [], _, _ => by simp [mins, Up]
  | y :: r, hu, hn => by
    unfold mins
    have hy := hn y (by simp)
    have h1 := List.pairwise_cons.1 hu
    split
    · rename_i hl
      refine List.pairwise_cons.2 ⟨fun q hq => ?_, hu⟩
      rcases List.mem_cons.1 hq with rfl | hq
      · exact hl
      · have := h1.1 q hq; simp only at hl ⊢; omega
    · rename_i hl
      have ih := up_mins (k := k) (v := v) h1.2 (fun p hp => hn p (by simp [hp]))
      refine List.pairwise_cons.2 ⟨fun q hq => ?_, ih⟩
      have hmem : ∀ (l : Pl), q ∈ mins (k, v) l → q = (k, v) ∨ q ∈ l := by
        intro l
        induction l with
        | nil => intro h; simpa [mins] using h
        | cons z t ih2 =>
          unfold mins
          split
          · intro h
            rcases List.mem_cons.1 h with h | h
            · exact .inl h
            · exact .inr h
          · intro h
            rcases List.mem_cons.1 h with h | h
            · exact .inr (by simp [h])
            · rcases ih2 h with h | h
              · exact .inl h
              · exact .inr (by simp [h])
      rcases hmem r hq with rfl | h
      · simp only at hl ⊢; omega
      · exact h1.1 q h
theorem up_put {m : Pl} (h : Up m) (k v : Int) : Up (mput m k v) := up_mins (up_sub h (mdel_sub m k)) (mdel_ne m k)
theorem up_del {m : Pl} (h : Up m) (k : Int) : Up (mdel m k) := up_sub h (mdel_sub m k)
end Go.Proofs.Ytccelipljbkkgaa
