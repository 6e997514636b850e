/-
  The plain state as the answer's lists; a record makes the same of both. No condition.
-/
import Derived.Test.YtacgemibaojbaaaDop
import Derived.Test.YtacgemibaojbaaaPur
namespace Go.Proofs.Ytacgemibaojbaaa
open Go Go.RowKit Go.Maps

def fS (x : Asp) : S3 := (x.id, x.q, x.sl)
def fL (i : Int) (p : Int × Int) : L3 := (i, p.1, p.2)
def lvx (x : Asp) : List L3 := x.ps.map (fL x.id)
def lvA : List Asp → List L3
  | [] => []
  | x :: r => lvx x ++ lvA r
def rs (t : Ab) : Rs := ⟨t.sp.map fS, lvA t.sp, t.bad.map (·.1), t.worn⟩
theorem lvx_mem {x : Asp} {y : L3} (h : y ∈ lvx x) : y.1 = x.id ∧ (y.2.1, y.2.2) ∈ x.ps := by
  obtain ⟨p, hp, rfl⟩ := List.mem_map.1 h
  exact ⟨rfl, hp⟩
theorem lvA_mem {l : List Asp} {y : L3} (h : y ∈ lvA l) : ∃ x ∈ l, y.1 = x.id ∧ (y.2.1, y.2.2) ∈ x.ps := by
  induction l with
  | nil => cases h
  | cons x r ih =>
    rcases List.mem_append.1 h with h | h
    · exact ⟨x, by simp, lvx_mem h⟩
    · obtain ⟨z, hz, q⟩ := ih h
      exact ⟨z, by simp [hz], q⟩
-- inserting
theorem gI_true {α : Type} (c k : α → Bool) (x : α) (l : List α) : gI c k x true l = l.filter k := by
  induction l with
  | nil => rfl
  | cons y r ih =>
    rw [gI, List.filter_cons]
    simp only [Bool.not_true, Bool.false_and, Bool.false_eq_true, if_false, List.nil_append, Bool.true_or, ih]
    cases k y <;> rfl
theorem gI_first {α : Type} {c k : α → Bool} {x : α} {l : List α} (h : ∀ y ∈ l, c y = true ∧ k y = true) : gI c k x false l = x :: l := by
  cases l with
  | nil => rfl
  | cons y r =>
    have h1 := h y (by simp)
    rw [gI, h1.1, h1.2, Bool.false_or, gI_true, List.filter_eq_self.2 (fun z hz => (h z (by simp [hz])).2)]
    rfl
theorem gI_pass {α : Type} {c k : α → Bool} {x : α} {l1 : List α} (h : ∀ y ∈ l1, c y = false ∧ k y = true) (l2 : List α) : gI c k x false (l1 ++ l2) = l1 ++ gI c k x false l2 := by
  induction l1 with
  | nil => rfl
  | cons y r ih =>
    have h1 := h y (by simp)
    rw [List.cons_append, gI, h1.1, h1.2]
    simp only [Bool.not_false, Bool.and_false, Bool.false_eq_true, if_false, if_true, List.nil_append, Bool.or_self, List.cons_append]
    rw [ih (fun z hz => h z (by simp [hz]))]
theorem gI_map {α β : Type} (f : α → β) (c k : β → Bool) (x : α) (i : Bool) (l : List α) : gI c k (f x) i (l.map f) = (gI (fun y => c (f y)) (fun y => k (f y)) x i l).map f := by
  induction l generalizing i with
  | nil => cases i <;> rfl
  | cons y r ih =>
    rw [List.map_cons, gI, gI, ih, List.map_append, List.map_append]
    congr 1
    congr 1
    · split <;> rfl
    · split <;> rfl
theorem wI_gI (x : L3) (i : Bool) (l : List L3) : wI x i l = gI (fun y : L3 => decide (x.1 < y.1) || (decide (y.1 = x.1) && decide (x.2.1 ≤ y.2.1))) (fun y : L3 => decide (y.1 ≠ x.1) || decide (y.2.1 ≠ x.2.1)) x i l := by
  induction l generalizing i with
  | nil => rfl
  | cons y r ih => rw [wI, gI, ih]
theorem mins_first {x : Int × Int} {l : Pl} (h : ∀ p ∈ l, x.1 < p.1) : mins x l = x :: l := by
  cases l with
  | nil => rfl
  | cons y r => rw [mins, if_pos (h y (by simp))]
theorem mins_last {x : Int × Int} {l : Pl} (h : ∀ p ∈ l, p.1 < x.1) : mins x l = l ++ [x] := by
  induction l with
  | nil => rfl
  | cons y r ih =>
    have h1 := h y (by simp)
    rw [mins, if_neg (by omega), ih (fun p hp => h p (by simp [hp]))]
    rfl
theorem mput_last {k v : Int} {l : Pl} (h : ∀ p ∈ l, p.1 < k) : mput l k v = l ++ [(k, v)] := by
  unfold mput
  rw [mdel_none (fun p hp => by have := h p hp; omega), mins_last h]
theorem mput_case {k v : Int} {y : Int × Int} {r : Pl} (hu : Up (y :: r)) : mput (y :: r) k v = if k ≤ y.1 then (k, v) :: mdel (y :: r) k else y :: mput r k v := by
  have h1 := (List.pairwise_cons.1 hu).1
  unfold mput
  split
  · rename_i h
    refine mins_first (fun p hp => ?_)
    have h2 := List.mem_filter.1 hp
    have h3 : p.1 ≠ k := by simpa using h2.2
    rcases List.mem_cons.1 h2.1 with rfl | h4
    · show k < p.1; omega
    · have := h1 p h4; show k < p.1; omega
  · rename_i h
    rw [mdel_cons, if_neg (by omega), mins, if_neg (by show ¬ k < y.1; omega)]
/-- inserting a pair behind which the rest stands -/
theorem gI_put {β : Type} (f : Int × Int → β) (c k : β → Bool) (A v : Int) (hc : ∀ p, c (f p) = decide (A ≤ p.1)) (hk : ∀ p, k (f p) = decide (p.1 ≠ A)) (rest : List β) (hr : ∀ y ∈ rest, c y = true ∧ k y = true) :
    ∀ {ps : Pl}, Up ps → gI c k (f (A, v)) false (ps.map f ++ rest) = (mput ps A v).map f ++ rest
  | [], _ => by
    rw [List.map_nil, List.nil_append, gI_first hr]
    rfl
  | y :: r, hu => by
    have hu2 := (List.pairwise_cons.1 hu).2
    rw [mput_case hu, List.map_cons, List.cons_append, gI, hc, hk]
    by_cases h : A ≤ y.1
    · simp only [h, decide_true, Bool.not_false, Bool.and_self, if_true, Bool.false_or]
      rw [gI_true, List.filter_append, List.filter_eq_self.2 (fun z hz => (hr z hz).2), mdel_cons, List.filter_map]
      have e : r.filter (k ∘ f) = mdel r A := by
        unfold mdel
        refine List.filter_congr (fun p _ => ?_)
        show k (f p) = _
        rw [hk]; simp
      rw [e]
      by_cases h2 : y.1 = A
      · simp [h2]
      · simp [h2]
    · have h2 : y.1 ≠ A := by omega
      simp only [h, decide_false, Bool.and_false, Bool.false_eq_true, if_false, List.nil_append, Bool.or_self, h2, ne_eq, not_false_eq_true, decide_true, if_true, List.map_cons, List.cons_append]
      rw [gI_put f c k A v hc hk rest hr hu2]
-- spaces
theorem mI_new {x : Asp} {l : List Asp} (h : ∀ y ∈ l, y.id ≠ x.id) : mI (fS x) (l.map fS) = (iA x l).map fS := by
  rw [mI, gI_map]
  congr 1
  induction l with
  | nil => rfl
  | cons y r ih =>
    have h1 := h y (by simp)
    rw [gI, iA]
    by_cases hc : x.id < y.id
    · have e : gI (fun y : Asp => decide ((fS x).1 < (fS y).1)) (fun y : Asp => decide ((fS y).1 ≠ (fS x).1)) x true r = r := by
        rw [gI_true]; exact List.filter_eq_self.2 (fun z hz => decide_eq_true (h z (by simp [hz])))
      simp only [fS] at *
      simp [hc, h1, e]
    · have := ih (fun z hz => h z (by simp [hz]))
      simp only [fS] at *
      simp [hc, h1, this]
theorem mI_set {x : Asp} : ∀ {l : List Asp}, UpA l → (∃ y ∈ l, y.id = x.id) → mI (fS x) (l.map fS) = (sA l x).map fS
  | [], _, ⟨_, h, _⟩ => by cases h
  | y :: r, hu, h => by
    have hu2 := (List.pairwise_cons.1 hu).2
    have hlt := (List.pairwise_cons.1 hu).1
    show _ = ((if y.id = x.id then x else y) :: sA r x).map fS
    by_cases e : y.id = x.id
    · rw [if_pos e, sA_none (fun z hz => by rw [← e]; exact upA_ne hu z hz), mI, List.map_cons, gI]
      have e2 : gI (fun y : S3 => decide ((fS x).1 < y.1)) (fun y : S3 => decide (y.1 ≠ (fS x).1)) (fS x) false (r.map fS) = fS x :: r.map fS := gI_first (fun z hz => by
        obtain ⟨u, hu', rfl⟩ := List.mem_map.1 hz
        have := hlt u hu'
        exact ⟨decide_eq_true (by show x.id < u.id; omega), decide_eq_true (by show u.id ≠ x.id; omega)⟩)
      have e3 : decide ((fS x).1 < (fS y).1) = false := decide_eq_false (by show ¬ x.id < y.id; omega)
      have e4 : decide ((fS y).1 ≠ (fS x).1) = false := by simp [fS, e]
      rw [e3, e4]
      simp only [Bool.and_false, Bool.false_eq_true, if_false, List.nil_append, Bool.or_self]
      rw [e2]; rfl
    · have h2 : ∃ y ∈ r, y.id = x.id := by
        obtain ⟨z, hz, q⟩ := h
        rcases List.mem_cons.1 hz with rfl | hz
        · exact absurd q e
        · exact ⟨z, hz, q⟩
      obtain ⟨z, hz, q⟩ := h2
      have h3 := hlt z hz
      rw [if_neg e, mI, List.map_cons, gI]
      have e3 : decide ((fS x).1 < (fS y).1) = false := decide_eq_false (by show ¬ x.id < y.id; omega)
      have e4 : decide ((fS y).1 ≠ (fS x).1) = true := by simp [fS, e]
      rw [e3, e4]
      simp only [Bool.and_false, Bool.false_eq_true, if_false, if_true, List.nil_append, Bool.or_self]
      have := mI_set hu2 ⟨z, hz, q⟩
      rw [mI] at this
      rw [this]; rfl
theorem fnd_none {l : List Asp} {S : Int} (h : gA l S = none) (k : Nat) : fndGo S (l.map fS) k = -1 := by
  rcases fnd_spec S (l.map fS) k with h1 | ⟨j, h1, h2, h3⟩
  · exact h1.1
  · exfalso
    rw [List.length_map] at h1
    rw [List.getD_eq_getElem?_getD, List.getElem?_map, List.getElem?_eq_getElem h1] at h3
    exact gA_none h _ (List.getElem_mem h1) h3
theorem fnd_some {l : List Asp} (hu : UpA l) {S : Int} {x : Asp} (h : gA l S = some x) : ∃ j : Nat, fndGo S (l.map fS) 0 = (j : Int) ∧ (l.map fS).getD j (0, 0, false) = fS x := by
  obtain ⟨hx, hi⟩ := gA_some h
  rcases fnd_spec S (l.map fS) 0 with h1 | ⟨j, h1, h2, h3⟩
  · exact absurd hi (h1.2 (fS x) (List.mem_map.2 ⟨x, hx, rfl⟩))
  · rw [List.length_map] at h1
    have e : (l.map fS).getD j (0, 0, false) = fS l[j] := by
      rw [List.getD_eq_getElem?_getD, List.getElem?_map, List.getElem?_eq_getElem h1]; rfl
    rw [e] at h3
    refine ⟨j, by rw [h2, Nat.zero_add], ?_⟩
    rw [e, upA_one hu (List.getElem_mem h1) hx (h3.trans hi.symm)]
-- pages
theorem cL_app (a : Int) (l1 l2 : List L3) : cL a (l1 ++ l2) = cL a l1 + cL a l2 := by simp [cL]
theorem cL_lvx (a : Int) (x : Asp) : cL a (lvx x) = cntP x.ps a := by
  unfold cL lvx cntP
  rw [List.filter_map, List.length_map]; rfl
theorem cL_lvA (a : Int) : ∀ l : List Asp, cL a (lvA l) = cntA l a
  | [] => rfl
  | x :: r => by rw [lvA, cL_app, cL_lvx, cL_lvA a r]; rfl
theorem gL_app (i p : Int) (l1 l2 : List L3) : gL i p (l1 ++ l2) = (gL i p l1).or (gL i p l2) := by
  induction l1 with
  | nil => rfl
  | cons y r ih =>
    rw [List.cons_append, gL, gL, ih]
    split <;> rfl
theorem gL_lvx (i p : Int) (x : Asp) : gL i p (lvx x) = if x.id = i then mget x.ps p else none := by
  unfold lvx
  induction x.ps with
  | nil => simp [gL, mget]
  | cons y r ih =>
    rw [List.map_cons, gL, ih, mget_cons]
    by_cases h1 : x.id = i <;> by_cases h2 : y.1 = p <;> simp [fL, h1, h2]
theorem gL_none {i p : Int} : ∀ {l : List Asp}, (∀ x ∈ l, x.id ≠ i) → gL i p (lvA l) = none
  | [], _ => rfl
  | x :: r, h => by rw [lvA, gL_app, gL_lvx, if_neg (h x (by simp)), gL_none (fun y hy => h y (by simp [hy]))]; rfl
theorem gL_lvA (i p : Int) : ∀ {l : List Asp}, UpA l → gL i p (lvA l) = (gA l i).bind fun x => mget x.ps p
  | [], _ => rfl
  | x :: r, hu => by
    have hu2 := (List.pairwise_cons.1 hu).2
    rw [lvA, gL_app, gL_lvx]
    by_cases e : x.id = i
    · rw [if_pos e, gL_none (fun y hy => by rw [← e]; exact upA_ne hu y hy)]
      have : gA (x :: r) i = some x := by unfold gA; rw [List.find?_cons]; simp [e]
      rw [this]
      show _ = mget x.ps p
      cases mget x.ps p <;> rfl
    · rw [if_neg e, gL_lvA i p hu2]
      have : gA (x :: r) i = gA r i := by unfold gA; rw [List.find?_cons]; simp [e]
      rw [this]; rfl
theorem lvA_mv (f t : Int) : ∀ l : List Asp, (lvA l).map (mvL f t) = lvA (l.map (mA f t))
  | [] => rfl
  | x :: r => by
    rw [lvA, List.map_append, lvA_mv f t r, List.map_cons, lvA]
    congr 1
    unfold lvx mA mvP
    rw [List.map_map, List.map_map]
    refine List.map_congr_left (fun p _ => ?_)
    by_cases e : p.2 = f <;> simp [fL, mvL, mvV, e]
theorem lvA_wI (S P A : Int) {x : Asp} (hx : x.id = S) : ∀ {l : List Asp}, UpA l → x ∈ l → Up x.ps → wI (S, P, A) false (lvA l) = lvA (sA l { x with ps := mput x.ps P A })
  | [], _, h, _ => by cases h
  | y :: r, hu, h, hp => by
    have hu2 := (List.pairwise_cons.1 hu).2
    have hlt := (List.pairwise_cons.1 hu).1
    show _ = lvA ((if y.id = x.id then { x with ps := mput x.ps P A } else y) :: sA r { x with ps := mput x.ps P A })
    rw [wI_gI, lvA]
    rcases List.mem_cons.1 h with rfl | h
    · rw [if_pos rfl, sA_none (x := { x with ps := mput x.ps P A }) (fun z hz => upA_ne hu z hz)]
      rw [lvA]
      unfold lvx
      have := gI_put (fL x.id) (fun y : L3 => decide (S < y.1) || (decide (y.1 = S) && decide (P ≤ y.2.1))) (fun y : L3 => decide (y.1 ≠ S) || decide (y.2.1 ≠ P)) P A (fun p => by simp [fL, hx]) (fun p => by simp [fL, hx]) (lvA r) (fun z hz => by
        obtain ⟨u, hu, q, _⟩ := lvA_mem hz
        have := hlt u hu
        have h1 : S < z.1 := by omega
        have h2 : z.1 ≠ S := by omega
        simp [h1, h2]) hp
      have e : fL x.id (P, A) = (S, P, A) := by rw [← hx]; rfl
      rw [e] at this
      exact this
    · have h3 := hlt x h
      rw [if_neg (by omega), lvA, gI_pass (fun z hz => by
        have q := (lvx_mem hz).1
        have h1 : ¬ S < z.1 := by omega
        have h2 : z.1 ≠ S := by omega
        simp [h1, h2]), ← wI_gI, lvA_wI S P A hx hu2 h hp]
theorem lvA_del (S P : Int) (hP : 0 ≤ P) {x : Asp} (hx : x.id = S) : ∀ {l : List Asp}, UpA l → x ∈ l → (lvA l).filter (fun y : L3 => decide (y.1 ≠ S ∨ 0 ≤ P ∧ y.2.1 ≠ P)) = lvA (sA l { x with ps := mdel x.ps P })
  | [], _, h => by cases h
  | y :: r, hu, h => by
    have hu2 := (List.pairwise_cons.1 hu).2
    have hlt := (List.pairwise_cons.1 hu).1
    show _ = lvA ((if y.id = x.id then { x with ps := mdel x.ps P } else y) :: sA r { x with ps := mdel x.ps P })
    rw [lvA, List.filter_append]
    rcases List.mem_cons.1 h with rfl | h
    · rw [if_pos rfl, sA_none (x := { x with ps := mdel x.ps P }) (fun z hz => upA_ne hu z hz), lvA]
      congr 1
      · unfold lvx mdel
        rw [List.filter_map]
        congr 1
        refine List.filter_congr (fun p _ => ?_)
        by_cases e : p.1 = P <;> simp [fL, hx, hP, e]
      · refine List.filter_eq_self.2 (fun z hz => ?_)
        obtain ⟨u, hu, q, _⟩ := lvA_mem hz
        have := hlt u hu
        have h2 : z.1 ≠ S := by omega
        simp [h2]
    · have h3 := hlt x h
      rw [if_neg (by omega), lvA, lvA_del S P hP hx hu2 h]
      congr 1
      refine List.filter_eq_self.2 (fun z hz => ?_)
      have q := (lvx_mem hz).1
      have h2 : z.1 ≠ S := by omega
      simp [h2]
theorem lvA_dA (S : Int) : ∀ l : List Asp, (lvA l).filter (fun y : L3 => decide (y.1 ≠ S ∨ (0 : Int) ≤ -1 ∧ y.2.1 ≠ -1)) = lvA (dA l S)
  | [] => rfl
  | x :: r => by
    rw [lvA, List.filter_append, lvA_dA S r]
    unfold dA
    rw [List.filter_cons]
    by_cases e : x.id = S
    · rw [List.filter_eq_nil_iff.2 (fun z hz => by have q := (lvx_mem hz).1; simp [q, e])]
      simp [e]
    · rw [List.filter_eq_self.2 (fun z hz => by have q := (lvx_mem hz).1; simp [q, e])]
      simp [e, lvA]
theorem lvA_iA (x : Asp) (h : x.ps = []) : ∀ l : List Asp, lvA (iA x l) = lvA l
  | [] => by simp [iA, lvA, lvx, h]
  | y :: r => by
    unfold iA
    split
    · simp [lvA, lvx, h]
    · rw [lvA, lvA_iA x h r, lvA]
-- a copy
theorem mem_iA (x : Asp) : ∀ l : List Asp, x ∈ iA x l
  | [] => by simp [iA]
  | y :: r => by
    unfold iA
    split
    · simp
    · exact List.mem_cons_of_mem _ (mem_iA x r)
theorem sA_iA {x x' : Asp} (e : x'.id = x.id) : ∀ {l : List Asp}, (∀ y ∈ l, y.id ≠ x.id) → sA (iA x l) x' = iA x' l
  | [], _ => by simp [sA, iA, e]
  | y :: r, h => by
    have h1 := h y (by simp)
    have h2 : sA (y :: r) x' = y :: r := sA_none (fun z hz => by rw [e]; exact h z hz)
    unfold iA
    rw [e]
    split
    · show (if x.id = x'.id then x' else x) :: sA (y :: r) x' = _
      rw [if_pos e.symm, h2]
    · show (if y.id = x'.id then x' else y) :: sA (iA x r) x' = _
      rw [if_neg (by omega), sA_iA e (fun z hz => h z (by simp [hz]))]
theorem cpL_app (S T : Int) : ∀ (l1 l2 out : List L3), cpL S T (l1 ++ l2) out = cpL S T l2 (cpL S T l1 out)
  | [], _, _ => rfl
  | y :: r, l2, out => by rw [List.cons_append, cpL, cpL, cpL_app S T r l2]
theorem cpL_skip {S T : Int} : ∀ {l : List L3} (out : List L3), (∀ y ∈ l, y.1 ≠ S) → cpL S T l out = out
  | [], _, _ => rfl
  | y :: r, out, h => by rw [cpL, if_neg (h y (by simp)), cpL_skip _ (fun z hz => h z (by simp [hz]))]
theorem cpL_go {S T q : Int} {l : List Asp} (hu : UpA l) (hT : ∀ y ∈ l, y.id ≠ T) : ∀ (p2 p1 : Pl), Up (p1 ++ p2) → cpL S T (p2.map (fL S)) (lvA (iA ⟨T, q, false, p1⟩ l)) = lvA (iA ⟨T, q, false, p1 ++ p2⟩ l)
  | [], p1, _ => by rw [List.append_nil]; rfl
  | p :: r, p1, hp => by
    have hp1 : ∀ u ∈ p1, u.1 < p.1 := fun u hu => (List.pairwise_append.1 hp).2.2 u hu p (by simp)
    rw [List.map_cons, cpL, if_pos (show (fL S p).1 = S from rfl)]
    have e := lvA_wI T p.1 p.2 (x := ⟨T, q, false, p1⟩) rfl (upA_iA hu hT) (mem_iA _ l) (List.pairwise_append.1 hp).1
    show cpL S T (r.map (fL S)) (wI (T, p.1, p.2) false _) = _
    rw [e, sA_iA (x := ⟨T, q, false, p1⟩) (x' := ⟨T, q, false, mput p1 p.1 p.2⟩) rfl hT, mput_last hp1]
    rw [cpL_go hu hT r (p1 ++ [(p.1, p.2)]) (by rw [List.append_assoc]; exact hp)]
    rw [List.append_assoc]
    rfl
theorem cpL_skipA {S T : Int} : ∀ {l : List Asp} (out : List L3), (∀ y ∈ l, y.id ≠ S) → cpL S T (lvA l) out = out := fun out h => cpL_skip out (fun z hz => by
  obtain ⟨u, hu, q, _⟩ := lvA_mem hz
  rw [q]; exact h u hu)
theorem cpL_lvA {S T : Int} {x : Asp} (hx : x.id = S) : ∀ {l : List Asp} (out : List L3), UpA l → x ∈ l → cpL S T (lvA l) out = cpL S T (lvx x) out
  | [], _, _, h => by cases h
  | y :: r, out, hu, h => by
    have hu2 := (List.pairwise_cons.1 hu).2
    have hlt := (List.pairwise_cons.1 hu).1
    rw [lvA, cpL_app]
    rcases List.mem_cons.1 h with rfl | h
    · rw [cpL_skipA _ (fun z hz => by rw [← hx]; exact upA_ne hu z hz)]
    · have h3 := hlt x h
      rw [cpL_skip (l := lvx y) out (fun z hz => by have q := (lvx_mem hz).1; omega), cpL_lvA hx out hu2 h]
theorem lvA_cp {S T q : Int} {l : List Asp} (hu : UpA l) {x : Asp} (hx : x ∈ l) (hi : x.id = S) (hT : ∀ y ∈ l, y.id ≠ T) (hp : Up x.ps) : cpL S T (lvA l) (lvA l) = lvA (iA ⟨T, q, false, x.ps⟩ l) := by
  rw [cpL_lvA hi _ hu hx]
  have := cpL_go (S := S) (q := q) hu hT x.ps [] (by simpa using hp)
  rw [lvA_iA _ rfl] at this
  unfold lvx
  rw [hi]
  exact this
-- blocks
theorem bad_put (A : Int) {m : Pl} (hu : Up m) : gI (fun y : Int => decide (A ≤ y)) (fun y : Int => decide (y ≠ A)) A false (m.map (·.1)) = (mput m A 0).map (·.1) := by
  have := gI_put (fun p : Int × Int => p.1) (fun y : Int => decide (A ≤ y)) (fun y : Int => decide (y ≠ A)) A 0 (fun _ => rfl) (fun _ => rfl) [] (fun _ h => by cases h) hu
  rw [List.append_nil, List.append_nil] at this
  exact this
theorem worn_put (A N : Int) {m : Pl} (hu : Up m) : gI (fun y : Int × Int => decide (A ≤ y.1)) (fun y : Int × Int => decide (y.1 ≠ A)) (A, N) false m = mput m A N := by
  have := gI_put (fun p : Int × Int => p) (fun y : Int × Int => decide (A ≤ y.1)) (fun y : Int × Int => decide (y.1 ≠ A)) A N (fun _ => rfl) (fun _ => rfl) [] (fun _ h => by cases h) hu
  rw [List.append_nil, List.append_nil, List.map_id', List.map_id'] at this
  exact this
theorem mget_put_same (m : Pl) (k v : Int) : mget (mput m k v) k = some v := by
  unfold mput
  have h := mdel_ne m k
  generalize mdel m k = n at h
  induction n with
  | nil => simp [mins, mget]
  | cons y r ih =>
    rw [mins]
    split
    · rw [mget_cons, if_pos rfl]
    · rw [mget_cons, if_neg (h y (by simp)), ih (fun p hp => h p (by simp [hp]))]
theorem mput_self {m : Pl} (hu : Up m) {k v : Int} (h : mget m k = some v) : mput m k v = m :=
  up_ext (up_put hu k v) hu (fun a => by
    by_cases e : a = k
    · rw [e, mget_put_same, h]
    · rw [mget_put_ne e])
theorem hit_iff {m : Pl} (hu : Up m) (A N : Int) : hitW A N m = true ↔ ∃ v, mget m A = some v ∧ N < v := by
  unfold hitW
  rw [List.any_eq_true]
  constructor
  · rintro ⟨y, hy, e⟩
    simp only [Bool.and_eq_true, decide_eq_true_eq] at e
    exact ⟨y.2, mem_mget hu (by rw [← e.1]; exact hy), e.2⟩
  · rintro ⟨v, hv, hl⟩
    exact ⟨(A, v), mget_mem hv, by simp [hl]⟩
theorem worn_is {m : Pl} (hu : Up m) {A N : Int} (hN : 0 ≤ N) : (if hitW A N m = true then m else gI (fun y : Int × Int => decide (A ≤ y.1)) (fun y : Int × Int => decide (y.1 ≠ A)) (A, N) false m) = mput m A (max ((mget m A).getD 0) N) := by
  by_cases h : hitW A N m = true
  · rw [if_pos h]
    obtain ⟨v, hv, hl⟩ := (hit_iff hu A N).1 h
    rw [hv, Option.getD_some, Int.max_eq_left (by omega), mput_self hu hv]
  · rw [if_neg h, worn_put A N hu]
    congr 1
    cases hg : mget m A with
    | none => rw [Option.getD_none]; omega
    | some v =>
      have : ¬ N < v := fun hl => h ((hit_iff hu A N).2 ⟨v, hg, hl⟩)
      rw [Option.getD_some]; omega
theorem lvA_sl {x : Asp} : ∀ {l : List Asp}, UpA l → x ∈ l → lvA (sA l { x with sl := true }) = lvA l
  | [], _, h => by cases h
  | y :: r, hu, h => by
    have hu2 := (List.pairwise_cons.1 hu).2
    show lvA ((if y.id = x.id then { x with sl := true } else y) :: sA r { x with sl := true }) = _
    rcases List.mem_cons.1 h with rfl | h
    · rw [if_pos rfl, sA_none (x := { x with sl := true }) (fun z hz => upA_ne hu z hz)]; rfl
    · have h3 := (List.pairwise_cons.1 hu).1 x h
      rw [if_neg (by omega), lvA, lvA_sl hu2 h, lvA]
theorem fS_sA {x x' : Asp} (e : fS x' = fS x) : ∀ {l : List Asp}, UpA l → x ∈ l → (sA l x').map fS = l.map fS
  | [], _, h => by cases h
  | y :: r, hu, h => by
    have hu2 := (List.pairwise_cons.1 hu).2
    have hi : x'.id = x.id := congrArg (·.1) e
    show ((if y.id = x'.id then x' else y) :: sA r x').map fS = _
    rcases List.mem_cons.1 h with rfl | h
    · rw [if_pos hi.symm, sA_none (fun z hz => by rw [hi]; exact upA_ne hu z hz), List.map_cons, List.map_cons, e]
    · have h3 := (List.pairwise_cons.1 hu).1 x h
      rw [if_neg (by omega), List.map_cons, fS_sA e hu2 h, List.map_cons]
theorem fS_dA (S : Int) (l : List Asp) : (l.map fS).filter (fun y : S3 => decide (y.1 ≠ S)) = (dA l S).map fS := by
  unfold dA
  rw [List.filter_map]
  congr 1
  exact List.filter_congr (fun p _ => by by_cases e : p.id = S <;> simp [fS, e])
theorem ap_same {t : Ab} (h : InvA t) (K S P A T N : Int) : apR' (rs t) K S P A T N = (rs (apA t K S P A T N).1, (apA t K S P A T N).2) := by
  unfold apR' apA
  by_cases hm : mayB K S P A T N = false
  · rw [if_pos hm, if_pos hm]
  rw [if_neg hm, if_neg hm]
  have hR := mayB_iff.1 (by simpa using hm)
  have hk : K = 1 ∨ K = 2 ∨ K = 3 ∨ K = 4 ∨ K = 5 ∨ K = 6 ∨ K = 7 ∨ K = 8 ∨ K = 9 := by unfold mayR at hR; omega
  unfold doR
  clear hm
  rcases hk with rfl | rfl | rfl | rfl | rfl | rfl | rfl | rfl | rfl
  · have hP : 0 ≤ P := by unfold mayR at hR; omega
    simp only [Int.reduceEq, if_false, if_true]
    cases hg : gA t.sp S with
    | none => rw [show fndGo S (rs t).sp 0 = -1 from fnd_none hg 0]; rfl
    | some x =>
      obtain ⟨j, e1, e2⟩ := fnd_some h.up hg
      obtain ⟨hx, hi⟩ := gA_some hg
      rw [show fndGo S (rs t).sp 0 = j from e1, if_neg (by omega), Int.toNat_natCast, show (rs t).sp.getD j (0, 0, false) = fS x from e2]
      by_cases hq : x.q ≤ P
      · rw [if_pos (.inr hq)]; simp only [hq, if_true]
      · rw [if_neg (by show ¬ (P < 0 ∨ x.q ≤ P); omega)]; simp only [hq, if_false]
        rw [show (rs t).lv = lvA t.sp from rfl, lvA_wI S P A hi h.up hx (h.ups x hx)]
        unfold rs
        simp only [fS_sA (x := x) (x' := { x with ps := mput x.ps P A }) rfl h.up hx]
  · have hP : 0 ≤ P := by unfold mayR at hR; omega
    simp only [Int.reduceEq, if_false, if_true]
    cases hg : gA t.sp S with
    | none => rw [show fndGo S (rs t).sp 0 = -1 from fnd_none hg 0]; rfl
    | some x =>
      obtain ⟨j, e1, e2⟩ := fnd_some h.up hg
      obtain ⟨hx, hi⟩ := gA_some hg
      rw [show fndGo S (rs t).sp 0 = j from e1, if_neg (by omega), show (rs t).lv = lvA t.sp from rfl, gL_lvA S P h.up, hg]
      simp only [Option.bind_some]
      by_cases hq : mget x.ps P = none
      · simp only [hq, if_true]
      · simp only [hq, if_false]
        rw [lvA_del S P hP hi h.up hx]
        unfold rs
        simp only [fS_sA (x := x) (x' := { x with ps := mdel x.ps P }) rfl h.up hx]
  · simp only [Int.reduceEq, if_false, if_true]
    rw [show (rs t).lv = lvA t.sp from rfl, cL_lvA, cL_lvA]
    by_cases hq : cntA t.sp A = 0 ∨ cntA t.sp T ≠ 0
    · rw [if_pos hq, if_pos (by omega)]
    · rw [if_neg hq, if_neg (by omega), lvA_mv]
      unfold rs
      simp only [List.map_map]
      rfl
  · simp only [Int.reduceEq, if_false, if_true]
    cases hg : gA t.sp S with
    | none =>
      rw [show fndGo S (rs t).sp 0 = -1 from fnd_none hg 0, if_neg (by omega)]
      have := mI_new (x := ⟨S, N, false, []⟩) (gA_none hg)
      rw [show mI (S, N, false) (rs t).sp = (iA ⟨S, N, false, []⟩ t.sp).map fS from this]
      unfold rs
      simp only [lvA_iA ⟨S, N, false, []⟩ rfl]
    | some x =>
      obtain ⟨j, e1, e2⟩ := fnd_some h.up hg
      rw [show fndGo S (rs t).sp 0 = j from e1, if_pos (by omega)]
  · simp only [Int.reduceEq, if_false, if_true]
    cases hg : gA t.sp S with
    | none => rw [show fndGo S (rs t).sp 0 = -1 from fnd_none hg 0]; rfl
    | some x =>
      obtain ⟨j, e1, e2⟩ := fnd_some h.up hg
      rw [show fndGo S (rs t).sp 0 = j from e1, if_neg (by omega)]
      rw [show (rs t).lv = lvA t.sp from rfl, lvA_dA, show (rs t).sp = t.sp.map fS from rfl, fS_dA]
      rfl
  · simp only [Int.reduceEq, if_false, if_true]
    cases hg : gA t.sp S with
    | none => rw [show fndGo S (rs t).sp 0 = -1 from fnd_none hg 0]; rfl
    | some x =>
      obtain ⟨j, e1, e2⟩ := fnd_some h.up hg
      obtain ⟨hx, hi⟩ := gA_some hg
      rw [show fndGo S (rs t).sp 0 = j from e1, if_neg (by omega), Int.toNat_natCast, show (rs t).sp.getD j (0, 0, false) = fS x from e2]
      cases hT : gA t.sp T with
      | none =>
        rw [show fndGo T (rs t).sp 0 = -1 from fnd_none hT 0, if_neg (by omega)]
        have := mI_new (x := ⟨T, x.q, false, x.ps⟩) (gA_none hT)
        rw [show (rs t).lv = lvA t.sp from rfl, lvA_cp (q := x.q) h.up hx hi (gA_none hT) (h.ups x hx)]
        rw [show mI (T, (fS x).2.1, false) (rs t).sp = (iA ⟨T, x.q, false, x.ps⟩ t.sp).map fS from this]
        rfl
      | some y =>
        obtain ⟨j', e1, e2⟩ := fnd_some h.up hT
        rw [show fndGo T (rs t).sp 0 = j' from e1, if_pos (by omega)]
  · simp only [Int.reduceEq, if_false, if_true]
    cases hg : gA t.sp S with
    | none => rw [show fndGo S (rs t).sp 0 = -1 from fnd_none hg 0]; rfl
    | some x =>
      obtain ⟨j, e1, e2⟩ := fnd_some h.up hg
      obtain ⟨hx, hi⟩ := gA_some hg
      rw [show fndGo S (rs t).sp 0 = j from e1, if_neg (by omega), Int.toNat_natCast, show (rs t).sp.getD j (0, 0, false) = fS x from e2]
      have := mI_set (x := { x with sl := true }) h.up ⟨x, hx, rfl⟩
      rw [show mI ((fS x).1, (fS x).2.1, true) (rs t).sp = (sA t.sp { x with sl := true }).map fS from this]
      unfold rs
      simp only [lvA_sl h.up hx]
  · simp only [Int.reduceEq, if_false, if_true]
    rw [show (rs t).bad = t.bad.map (·.1) from rfl, bad_put A h.upb]
    rfl
  · have hN : 0 ≤ N := by unfold mayR at hR; omega
    simp only [Int.reduceEq, if_false, if_true]
    rw [show (rs t).worn = t.worn from rfl, worn_is h.upw hN]
    rfl
end Go.Proofs.Ytacgemibaojbaaa
