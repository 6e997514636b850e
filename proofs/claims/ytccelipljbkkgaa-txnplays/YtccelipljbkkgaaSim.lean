/-
  States whose pages stand at other places: the same but for these. No condition. A transaction beside the plain one: the same, but for the places of pages that were put. No condition.
-/
import Derived.Test.YtccelipljbkkgaaTxr
namespace Go.Proofs.Ytccelipljbkkgaa
open Go Go.RowKit Go.Maps

def renP (φ : Int → Int) (ps : Pl) : Pl := ps.map fun p => (p.1, φ p.2)
def renx (φ : Int → Int) (x : Asp) : Asp := { x with ps := renP φ x.ps }
def renA (φ : Int → Int) (t : Ab) : Ab := { t with sp := t.sp.map (renx φ) }
theorem gA_ren (φ : Int → Int) (l : List Asp) (id : Int) : gA (l.map (renx φ)) id = (gA l id).map (renx φ) := by
  unfold gA
  rw [List.find?_map]
  rfl
theorem sA_ren (φ : Int → Int) (l : List Asp) (x : Asp) : sA (l.map (renx φ)) (renx φ x) = (sA l x).map (renx φ) := by
  unfold sA
  rw [List.map_map, List.map_map]
  apply List.map_congr_left
  intro y _
  simp only [Function.comp]
  show (if y.id = x.id then _ else _) = renx φ (if y.id = x.id then x else y)
  split <;> rfl
theorem dA_ren (φ : Int → Int) (l : List Asp) (id : Int) : dA (l.map (renx φ)) id = (dA l id).map (renx φ) := by
  unfold dA
  rw [List.filter_map]
  rfl
theorem iA_ren (φ : Int → Int) (x : Asp) : ∀ l : List Asp, iA (renx φ x) (l.map (renx φ)) = (iA x l).map (renx φ)
  | [] => rfl
  | y :: r => by
    rw [List.map_cons]
    unfold iA
    show (if x.id < y.id then _ else _) = _
    split
    · rfl
    · rw [List.map_cons, iA_ren φ x r]
theorem mget_ren (φ : Int → Int) (ps : Pl) (k : Int) : mget (renP φ ps) k = (mget ps k).map φ := by
  unfold mget renP
  rw [List.find?_map]
  simp only [Option.map_map]
  rfl
theorem mdel_ren (φ : Int → Int) (ps : Pl) (k : Int) : mdel (renP φ ps) k = renP φ (mdel ps k) := by
  unfold mdel renP
  rw [List.filter_map]
  rfl
theorem mins_ren (φ : Int → Int) (k v : Int) : ∀ ps : Pl, mins (k, φ v) (renP φ ps) = renP φ (mins (k, v) ps)
  | [] => rfl
  | y :: r => by
    show mins (k, φ v) ((y.1, φ y.2) :: renP φ r) = _
    unfold mins
    show (if k < y.1 then _ else _) = renP φ (if k < y.1 then _ else _)
    split
    · rfl
    · rw [mins_ren φ k v r]; rfl
theorem mput_ren (φ : Int → Int) (ps : Pl) (k v : Int) : mput (renP φ ps) k (φ v) = renP φ (mput ps k v) := by
  unfold mput
  rw [mdel_ren, mins_ren]
theorem lay_ren (φ : Int → Int) (t : Ab) (S P A : Int) : layA (renA φ t) S P (φ A) = (renA φ (layA t S P A).1, (layA t S P A).2) := by
  unfold layA
  show (match gA (t.sp.map (renx φ)) S with | none => _ | some x => _) = _
  rw [gA_ren]
  cases gA t.sp S with
  | none => rfl
  | some x =>
    show (if P < 0 ∨ x.q ≤ P then _ else _) = (renA φ (if P < 0 ∨ x.q ≤ P then _ else _ : Ab × Int).1, (if P < 0 ∨ x.q ≤ P then _ else _ : Ab × Int).2)
    by_cases h : P < 0 ∨ x.q ≤ P
    · simp only [if_pos h]
    · simp only [if_neg h]
      have e : sA (t.sp.map (renx φ)) { renx φ x with ps := mput (renP φ x.ps) P (φ A) } = (sA t.sp { x with ps := mput x.ps P A }).map (renx φ) := by
        rw [mput_ren]
        exact sA_ren φ t.sp { x with ps := mput x.ps P A }
      show (({ renA φ t with sp := sA (t.sp.map (renx φ)) { renx φ x with ps := mput (renP φ x.ps) P (φ A) } } : Ab), (0 : Int)) = _
      rw [e]
      rfl
theorem cl_ren (φ : Int → Int) (t : Ab) (S : Int) : clA (renA φ t) S = clA t S := by
  unfold clA
  show (match gA (t.sp.map (renx φ)) S with | none => _ | some x => _) = _
  rw [gA_ren]
  cases gA t.sp S <;> rfl
theorem get_ren (φ : Int → Int) (t : Ab) (i p : Int) : getA (renA φ t) i p = (getA t i p).map φ := by
  unfold getA
  show (match gA (t.sp.map (renx φ)) i with | none => _ | some x => _) = _
  rw [gA_ren]
  cases gA t.sp i with
  | none => rfl
  | some x => exact mget_ren φ x.ps p
theorem pages_ren (φ : Int → Int) : ∀ l : List Asp, pagesN (l.map (renx φ)) = pagesN l
  | [] => rfl
  | x :: r => by
    rw [List.map_cons, pagesN, pagesN, pages_ren φ r]
    show (renP φ x.ps).length + _ = _
    unfold renP
    rw [List.length_map]
theorem ap_ren (φ : Int → Int) (t : Ab) {K : Int} (S P A T N : Int) (hK : kindB K = true) : apA (renA φ t) K S P A T N = (renA φ (apA t K S P A T N).1, (apA t K S P A T N).2) := by
  have hk : K = 2 ∨ K = 4 ∨ K = 5 ∨ K = 6 ∨ K = 7 := by
    unfold kindB at hK
    simp only [Bool.or_eq_true, beq_iff_eq] at hK
    omega
  unfold apA
  by_cases hm : mayB K S P A T N = false
  · simp only [if_pos hm]
  simp only [if_neg hm]
  have gS : gA (renA φ t).sp S = (gA t.sp S).map (renx φ) := gA_ren φ t.sp S
  have gT : gA (renA φ t).sp T = (gA t.sp T).map (renx φ) := gA_ren φ t.sp T
  rcases hk with rfl | rfl | rfl | rfl | rfl
  · simp only [Int.reduceEq, if_false, if_true]
    rw [gS]
    cases gA t.sp S with
    | none => rfl
    | some x =>
      show (if mget (renP φ x.ps) P = none then _ else _) = (renA φ (if mget x.ps P = none then _ else _ : Ab × Int).1, (if mget x.ps P = none then _ else _ : Ab × Int).2)
      rw [mget_ren]
      cases hg : mget x.ps P with
      | none => rfl
      | some v =>
        simp only [Option.map_some, reduceCtorEq, if_false]
        have e : sA (t.sp.map (renx φ)) { renx φ x with ps := mdel (renP φ x.ps) P } = (sA t.sp { x with ps := mdel x.ps P }).map (renx φ) := by
          rw [mdel_ren]
          exact sA_ren φ t.sp { x with ps := mdel x.ps P }
        show (({ renA φ t with sp := sA (t.sp.map (renx φ)) { renx φ x with ps := mdel (renP φ x.ps) P } } : Ab), (0 : Int)) = _
        rw [e]
        rfl
  · simp only [Int.reduceEq, if_false, if_true]
    rw [gS]
    cases gA t.sp S with
    | some x => rfl
    | none =>
      show (({ renA φ t with sp := iA (renx φ ⟨S, N, false, []⟩) (t.sp.map (renx φ)) } : Ab), (0 : Int)) = _
      rw [iA_ren]
      rfl
  · simp only [Int.reduceEq, if_false, if_true]
    rw [gS]
    cases gA t.sp S with
    | none => rfl
    | some x =>
      show (({ renA φ t with sp := dA (t.sp.map (renx φ)) S } : Ab), (0 : Int)) = _
      rw [dA_ren]
      rfl
  · simp only [Int.reduceEq, if_false, if_true]
    rw [gS, gT]
    cases gA t.sp S with
    | none => rfl
    | some x =>
      cases gA t.sp T with
      | some y => rfl
      | none =>
        show (({ renA φ t with sp := iA (renx φ ⟨T, x.q, false, x.ps⟩) (t.sp.map (renx φ)) } : Ab), (0 : Int)) = _
        rw [iA_ren]
        rfl
  · simp only [Int.reduceEq, if_false, if_true]
    rw [gS]
    cases gA t.sp S with
    | none => rfl
    | some x =>
      have e : sA (t.sp.map (renx φ)) { renx φ x with sl := true } = (sA t.sp { x with sl := true }).map (renx φ) := sA_ren φ t.sp { x with sl := true }
      show (({ renA φ t with sp := sA (t.sp.map (renx φ)) { renx φ x with sl := true } } : Ab), (0 : Int)) = _
      rw [e]
      rfl
/-- renaming that is one to one where pages stand leaves their number of places -/
def fL3 (φ : Int → Int) (y : L3) : L3 := (y.1, y.2.1, φ y.2.2)
theorem lvA_ren (φ : Int → Int) : ∀ l : List Asp, lvA (l.map (renx φ)) = (lvA l).map (fL3 φ)
  | [] => rfl
  | x :: r => by
    rw [List.map_cons, lvA, lvA, lvA_ren φ r, List.map_append]
    congr 1
    unfold lvx
    show (renP φ x.ps).map _ = _
    unfold renP
    rw [List.map_map, List.map_map]
    rfl
theorem at3_ren (φ : Int → Int) (l : List L3) {k : Nat} (h : k < l.length) : at3 (l.map (fL3 φ)) k = φ (at3 l k) := by
  unfold at3
  simp [List.getD_eq_getElem?_getD, h, fL3]
theorem fstL_ren (φ : Int → Int) (l : List L3) (hi : ∀ x ∈ l, ∀ y ∈ l, φ x.2.2 = φ y.2.2 → x.2.2 = y.2.2) {j k : Nat} (hk : k < l.length) : fstL (l.map (fL3 φ)) j k = fstL l j k := by
  unfold fstL
  rw [← List.map_take, List.all_map]
  have key : ∀ y ∈ l.take j, ((fun y : L3 => decide (y.2.2 ≠ at3 (l.map (fL3 φ)) k)) ∘ fL3 φ) y = decide (y.2.2 ≠ at3 l k) := by
    intro y hy
    simp only [Function.comp]
    rw [at3_ren φ l hk]
    have hm : l.getD k (0, 0, 0) ∈ l := by
      rw [List.getD_eq_getElem?_getD, List.getElem?_eq_getElem hk]
      exact List.getElem_mem hk
    have hyl : y ∈ l := List.mem_of_mem_take hy
    by_cases e : y.2.2 = at3 l k
    · have : (fL3 φ y).2.2 = φ (at3 l k) := by show φ y.2.2 = _; rw [e]
      simp [e, this]
    · have : (fL3 φ y).2.2 ≠ φ (at3 l k) := fun q => e (hi y hyl _ hm q)
      simp [e, this]
  rw [Bool.eq_iff_iff, List.all_eq_true, List.all_eq_true]
  constructor
  · intro H y hy; rw [← key y hy]; exact H y hy
  · intro H y hy; rw [key y hy]; exact H y hy
theorem nL_ren (φ : Int → Int) (l : List L3) (hi : ∀ x ∈ l, ∀ y ∈ l, φ x.2.2 = φ y.2.2 → x.2.2 = y.2.2) : ∀ k, k ≤ l.length → nL (l.map (fL3 φ)) k = nL l k
  | 0, _ => rfl
  | k + 1, h => by
    rw [nL, nL, nL_ren φ l hi k (by omega), fstL_ren φ l hi (by omega)]
theorem live_ren (φ : Int → Int) (t : Ab) (hi : ∀ x ∈ lvA t.sp, ∀ y ∈ lvA t.sp, φ x.2.2 = φ y.2.2 → x.2.2 = y.2.2) : liveA (renA φ t) = liveA t := by
  unfold liveA
  show nL (lvA (t.sp.map (renx φ))) (lvA (t.sp.map (renx φ))).length = _
  rw [lvA_ren, List.length_map]
  exact nL_ren φ _ hi _ (Nat.le_refl _)
theorem renA_congr {φ ψ : Int → Int} {t : Ab} (h : ∀ x ∈ t.sp, ∀ p ∈ x.ps, φ p.2 = ψ p.2) : renA φ t = renA ψ t := by
  unfold renA
  congr 1
  apply List.map_congr_left
  intro x hx
  unfold renx renP
  congr 1
  apply List.map_congr_left
  intro p hp
  rw [h x hx p hp]
/-- the plain transaction: what stands where, texts, how many changes -/
structure PP where
  y : Ab
  tx : List ByteArray
  n : Nat
def roomA (pl ks : Int) (t : Ab) : Prop := pl < (liveA t : Int) ∨ ks < (pagesN t.sp : Int)
def stepP (Q : PP) (pl ks : Int) (R : Ab × Int) (tx : List ByteArray) : PP × Int :=
  if 8 ≤ Q.n then (Q, 171) else if R.2 ≠ 0 then (Q, R.2) else if pl < (liveA R.1 : Int) ∨ ks < (pagesN R.1.sp : Int) then (Q, 172) else (⟨R.1, tx, Q.n + 1⟩, 0)
def putP (Q : PP) (pl ks S P : Int) (str : ByteArray) : PP × Int :=
  if (64 : Int) < (str.size : Int) then (Q, 173) else if clA Q.y S ≠ 0 then (Q, clA Q.y S) else stepP Q pl ks (layA Q.y S P (1000 + Q.tx.length)) (Q.tx ++ [str])
def doP (Q : PP) (pl ks K S P A T N : Int) : PP × Int :=
  if (kindB K && mayB K S P A T N) = false then (Q, 1) else if K = 2 ∧ clA Q.y S ≠ 0 then (Q, clA Q.y S) else stepP Q pl ks (apA Q.y K S P A T N) Q.tx
def dfl : Cg := ⟨(0, 0, 0, 0, 0, 0), ByteArray.empty⟩
/-- where a page of the plain one stands here -/
def phi (ix : List Nat) (a : Int) : Int := if a < 1000 then a else 512 + (ix.getD (a - 1000).toNat 0 : Int)
def Pls (n : Nat) (t : Ab) : Prop := ∀ x ∈ t.sp, ∀ p ∈ x.ps, 0 ≤ p.2 ∧ (p.2 < 512 ∨ (1000 ≤ p.2 ∧ p.2 < 1000 + (n : Int)))
structure Sim (X : TX) (Q : PP) (ix : List Nat) : Prop where
  n : Q.n = X.cs.length
  ixl : ix.length = Q.tx.length
  ixp : ix.Pairwise (· < ·)
  ixb : ∀ i ∈ ix, i < X.cs.length
  a : X.a = renA (phi ix) Q.y
  pls : Pls Q.tx.length Q.y
  txt : ∀ k, k < Q.tx.length → (X.cs.getD (ix.getD k 0) dfl).s = Q.tx.getD k ByteArray.empty
  fi : X.fi = 512
  sz : X.sz = 64
  n8 : X.cs.length ≤ 8
theorem getD_in {l : List Nat} {k : Nat} (h : k < l.length) : l.getD k 0 ∈ l := by
  rw [List.getD_eq_getElem?_getD, List.getElem?_eq_getElem h]
  exact List.getElem_mem h
theorem phi_inj {ix : List Nat} (hp : ix.Pairwise (· < ·)) {a b : Int} (ha : a < 512 ∨ (1000 ≤ a ∧ a < 1000 + (ix.length : Int))) (hb : b < 512 ∨ (1000 ≤ b ∧ b < 1000 + (ix.length : Int))) (h : phi ix a = phi ix b) : a = b := by
  unfold phi at h
  by_cases h1 : a < 1000
  · by_cases h2 : b < 1000
    · rw [if_pos h1, if_pos h2] at h; exact h
    · rw [if_pos h1, if_neg h2] at h; omega
  · by_cases h2 : b < 1000
    · rw [if_neg h1, if_pos h2] at h; omega
    · rw [if_neg h1, if_neg h2] at h
      have e : ix.getD (a - 1000).toNat 0 = ix.getD (b - 1000).toNat 0 := by omega
      have la : (a - 1000).toNat < ix.length := by omega
      have lb : (b - 1000).toNat < ix.length := by omega
      rw [List.getD_eq_getElem?_getD, List.getD_eq_getElem?_getD, List.getElem?_eq_getElem la, List.getElem?_eq_getElem lb] at e
      simp only [Option.getD_some] at e
      rcases Nat.lt_trichotomy (a - 1000).toNat (b - 1000).toNat with q | q | q
      · have := List.pairwise_iff_getElem.1 hp _ _ la lb q; omega
      · omega
      · have := List.pairwise_iff_getElem.1 hp _ _ lb la q; omega
theorem Pls.lv {n : Nat} {t : Ab} (h : Pls n t) : ∀ y ∈ lvA t.sp, y.2.2 < 512 ∨ (1000 ≤ y.2.2 ∧ y.2.2 < 1000 + (n : Int)) := fun y hy => by
  obtain ⟨x, hx, _, hp⟩ := lvA_mem hy
  exact (h x hx _ hp).2
theorem live_phi {ix : List Nat} (hp : ix.Pairwise (· < ·)) {t : Ab} (h : Pls ix.length t) : liveA (renA (phi ix) t) = liveA t :=
  live_ren _ t (fun x hx y hy e => phi_inj hp (h.lv x hx) (h.lv y hy) e)
theorem inv_of_ren {φ : Int → Int} {n : Nat} {t : Ab} (h : InvA (renA φ t)) (hp : Pls n t) (hn : n ≤ 1000) : InvA t := by
  have hm : ∀ x ∈ t.sp, renx φ x ∈ (renA φ t).sp := fun x hx => List.mem_map.2 ⟨x, hx, rfl⟩
  have hq : ∀ {x : Asp} {p : Int × Int}, p ∈ x.ps → (p.1, φ p.2) ∈ (renx φ x).ps := fun {x p} hp => List.mem_map.2 ⟨p, hp, rfl⟩
  refine ⟨fun x hx => h.ids (renx φ x) (hm x hx), fun x hx => h.qs (renx φ x) (hm x hx), fun x hx p hpx => ⟨(h.pss _ (hm x hx) _ (hq hpx)).1, ?_⟩, fun x hx => ?_, ?_, h.bad, h.worn, h.upb, h.upw⟩
  · have := hp x hx p hpx; omega
  · have := h.ups _ (hm x hx)
    unfold Up at this ⊢
    have e : (renx φ x).ps = x.ps.map fun p => (p.1, φ p.2) := rfl
    rw [e, List.pairwise_map] at this
    exact this
  · have := h.up
    unfold UpA at this ⊢
    have e : (renA φ t).sp = t.sp.map (renx φ) := rfl
    rw [e, List.pairwise_map] at this
    exact this
theorem mem_sA' {l : List Asp} {x y : Asp} (h : y ∈ sA l x) : y = x ∨ y ∈ l := by
  unfold sA at h
  obtain ⟨z, hz, rfl⟩ := List.mem_map.1 h
  split
  · exact .inl rfl
  · exact .inr hz
theorem mem_iA' {x y : Asp} : ∀ {l : List Asp}, y ∈ iA x l → y = x ∨ y ∈ l
  | [], h => by
    unfold iA at h
    exact .inl (List.mem_singleton.1 h)
  | z :: r, h => by
    unfold iA at h
    split at h
    · rcases List.mem_cons.1 h with h | h
      · exact .inl h
      · exact .inr h
    · rcases List.mem_cons.1 h with h | h
      · exact .inr (by rw [h]; simp)
      · rcases mem_iA' h with q | q
        · exact .inl q
        · exact .inr (by simp [q])
theorem Pls.ap {n : Nat} {t : Ab} (h : Pls n t) {K : Int} (S P A T N : Int) (hK : kindB K = true) : Pls n (apA t K S P A T N).1 := by
  have hk : K = 2 ∨ K = 4 ∨ K = 5 ∨ K = 6 ∨ K = 7 := by
    unfold kindB at hK
    simp only [Bool.or_eq_true, beq_iff_eq] at hK
    omega
  unfold apA
  by_cases hm : mayB K S P A T N = false
  · rw [if_pos hm]; exact h
  rw [if_neg hm]
  rcases hk with rfl | rfl | rfl | rfl | rfl
  · simp only [Int.reduceEq, if_false, if_true]
    cases hg : gA t.sp S with
    | none => exact h
    | some x =>
      show Pls n (if mget x.ps P = none then _ else _ : Ab × Int).1
      split
      · exact h
      · intro y hy p hp
        rcases mem_sA' hy with rfl | hy
        · exact h x (gA_some hg).1 p (List.mem_filter.1 hp).1
        · exact h y hy p hp
  · simp only [Int.reduceEq, if_false, if_true]
    cases gA t.sp S with
    | some x => exact h
    | none =>
      intro y hy p hp
      rcases mem_iA' hy with rfl | hy
      · cases hp
      · exact h y hy p hp
  · simp only [Int.reduceEq, if_false, if_true]
    cases gA t.sp S with
    | none => exact h
    | some x =>
      intro y hy p hp
      exact h y (List.mem_filter.1 hy).1 p hp
  · simp only [Int.reduceEq, if_false, if_true]
    cases hg : gA t.sp S with
    | none => exact h
    | some x =>
      cases gA t.sp T with
      | some z => exact h
      | none =>
        intro y hy p hp
        rcases mem_iA' hy with rfl | hy
        · exact h x (gA_some hg).1 p hp
        · exact h y hy p hp
  · simp only [Int.reduceEq, if_false, if_true]
    cases hg : gA t.sp S with
    | none => exact h
    | some x =>
      intro y hy p hp
      rcases mem_sA' hy with rfl | hy
      · exact h x (gA_some hg).1 p hp
      · exact h y hy p hp
theorem Pls.lay {n : Nat} {t : Ab} (h : Pls n t) (S P : Int) : Pls (n + 1) (layA t S P (1000 + n)).1 := by
  have up : Pls (n + 1) t := fun x hx p hp => by have := h x hx p hp; omega
  unfold layA
  cases hg : gA t.sp S with
  | none => exact up
  | some x =>
    show Pls (n + 1) (if P < 0 ∨ x.q ≤ P then _ else _ : Ab × Int).1
    split
    · exact up
    · intro y hy p hp
      rcases mem_sA' hy with rfl | hy
      · rcases mem_mput hp with rfl | hp
        · show (0 : Int) ≤ 1000 + n ∧ _
          omega
        · exact up x (gA_some hg).1 p hp
      · exact up y hy p hp
theorem phi_more {ix : List Nat} (c : Nat) {a : Int} (ha : a < 512 ∨ (1000 ≤ a ∧ a < 1000 + (ix.length : Int))) : phi (ix ++ [c]) a = phi ix a := by
  unfold phi
  by_cases h1 : a < 1000
  · rw [if_pos h1, if_pos h1]
  · rw [if_neg h1, if_neg h1]
    have la : (a - 1000).toNat < ix.length := by omega
    rw [List.getD_eq_getElem?_getD, List.getElem?_append_left la, ← List.getD_eq_getElem?_getD]
theorem phi_new (ix : List Nat) (c : Nat) : phi (ix ++ [c]) (1000 + ix.length) = 512 + (c : Int) := by
  unfold phi
  rw [if_neg (by omega), show ((1000 : Int) + ix.length - 1000).toNat = ix.length by omega, List.getD_eq_getElem?_getD, List.getElem?_append_right (Nat.le_refl _)]
  simp
theorem Sim.grow {X : TX} {Q : PP} {ix : List Nat} (h : Sim X Q ix) : X.a = renA (phi (ix ++ [X.cs.length])) Q.y := by
  rw [h.a]
  refine renA_congr (fun x hx p hp => (phi_more _ ?_).symm)
  have := (h.pls x hx p hp).2
  rw [h.ixl]; exact this
theorem Sim.pairs {X : TX} {Q : PP} {ix : List Nat} (h : Sim X Q ix) : (ix ++ [X.cs.length]).Pairwise (· < ·) := by
  rw [List.pairwise_append]
  refine ⟨h.ixp, List.pairwise_singleton _ _, fun a ha b hb => ?_⟩
  rw [List.mem_singleton.1 hb]
  exact h.ixb a ha
theorem getD_snoc {α : Type} (l : List α) (y d : α) {k : Nat} (h : k < l.length) : (l ++ [y]).getD k d = l.getD k d := by
  rw [List.getD_eq_getElem?_getD, List.getElem?_append_left h, ← List.getD_eq_getElem?_getD]
theorem getD_last {α : Type} (l : List α) (y d : α) : (l ++ [y]).getD l.length d = y := by
  rw [List.getD_eq_getElem?_getD, List.getElem?_append_right (Nat.le_refl _)]
  simp
/-- a page that is put: both answer alike, and are alike behind it -/
theorem Sim.put {X : TX} {Q : PP} {ix : List Nat} (h : Sim X Q ix) (S P : Int) (str : ByteArray) : (putX X S P str).2 = (putP Q X.pl X.ks S P str).2 ∧ ∃ ix', Sim (putX X S P str).1 (putP Q X.pl X.ks S P str).1 ix' := by
  unfold putX putP
  rw [h.sz]
  by_cases h1 : (64 : Int) < (str.size : Int)
  · rw [if_pos h1, if_pos h1]; exact ⟨rfl, ix, h⟩
  rw [if_neg h1, if_neg h1, show clA X.a S = clA Q.y S by rw [h.a]; exact cl_ren _ _ _]
  by_cases h2 : clA Q.y S ≠ 0
  · rw [if_pos h2, if_pos h2]; exact ⟨rfl, ix, h⟩
  rw [if_neg h2, if_neg h2]
  have e1 : layA X.a S P (X.fi + X.cs.length) = (renA (phi (ix ++ [X.cs.length])) (layA Q.y S P (1000 + Q.tx.length)).1, (layA Q.y S P (1000 + Q.tx.length)).2) := by
    rw [h.grow, h.fi, ← phi_new ix X.cs.length, h.ixl]
    exact lay_ren _ _ _ _ _
  rw [e1]
  have hP := h.pls.lay S P
  unfold tryA stepP
  rw [h.n]
  by_cases h3 : 8 ≤ X.cs.length
  · rw [if_pos h3, if_pos h3]; exact ⟨rfl, ix, h⟩
  rw [if_neg h3, if_neg h3]
  generalize layA Q.y S P (1000 + Q.tx.length) = R at *
  obtain ⟨t, e⟩ := R
  simp only at hP ⊢
  by_cases h4 : e ≠ 0
  · rw [if_pos h4, if_pos h4]; exact ⟨rfl, ix, h⟩
  rw [if_neg h4, if_neg h4]
  have hl : (ix ++ [X.cs.length]).length = Q.tx.length + 1 := by rw [List.length_append, h.ixl]; rfl
  rw [live_phi h.pairs (by rw [hl]; exact hP), show pagesN (renA (phi (ix ++ [X.cs.length])) t).sp = pagesN t.sp from pages_ren _ _]
  by_cases h5 : X.pl < (liveA t : Int) ∨ X.ks < (pagesN t.sp : Int)
  · rw [if_pos h5, if_pos h5]; exact ⟨rfl, ix, h⟩
  rw [if_neg h5, if_neg h5]
  refine ⟨rfl, ix ++ [X.cs.length], ⟨?_, ?_, h.pairs, fun i hi => ?_, rfl, ?_, fun k hk => ?_, h.fi, h.sz, ?_⟩⟩
  · show X.cs.length + 1 = (X.cs ++ [_]).length
    rw [List.length_append]; rfl
  · show _ = (Q.tx ++ [str]).length
    rw [hl, List.length_append]; rfl
  · show i < (X.cs ++ [_]).length
    rw [List.length_append]
    rcases List.mem_append.1 hi with q | q
    · have := h.ixb i q; simp; omega
    · rw [List.mem_singleton.1 q]; simp
  · show Pls (Q.tx ++ [str]).length t
    rw [List.length_append]
    exact hP
  · show ((X.cs ++ [_]).getD ((ix ++ [X.cs.length]).getD k 0) dfl).s = (Q.tx ++ [str]).getD k ByteArray.empty
    have hk' : k < Q.tx.length + 1 := by have : (Q.tx ++ [str]).length = Q.tx.length + 1 := by simp
                                         rw [← this]; exact hk
    by_cases hk2 : k < Q.tx.length
    · have hk3 : k < ix.length := by rw [h.ixl]; exact hk2
      rw [getD_snoc ix _ _ hk3, getD_snoc Q.tx _ _ hk2, getD_snoc X.cs _ _ (h.ixb _ (getD_in hk3))]
      exact h.txt k hk2
    · have hk3 : k = Q.tx.length := by omega
      subst hk3
      rw [getD_last, show (ix ++ [X.cs.length]).getD Q.tx.length 0 = X.cs.length by rw [← h.ixl]; exact getD_last _ _ _, getD_last]
  · show (X.cs ++ [_]).length ≤ 8
    rw [List.length_append]; simp; omega
/-- a record that is done: both answer alike, and are alike behind it -/
theorem Sim.do' {X : TX} {Q : PP} {ix : List Nat} (h : Sim X Q ix) (K S P A T N : Int) : (doX X K S P A T N).2 = (doP Q X.pl X.ks K S P A T N).2 ∧ ∃ ix', Sim (doX X K S P A T N).1 (doP Q X.pl X.ks K S P A T N).1 ix' := by
  unfold doX doP
  by_cases h1 : (kindB K && mayB K S P A T N) = false
  · rw [if_pos h1, if_pos h1]; exact ⟨rfl, ix, h⟩
  rw [if_neg h1, if_neg h1, show clA X.a S = clA Q.y S by rw [h.a]; exact cl_ren _ _ _]
  by_cases h2 : K = 2 ∧ clA Q.y S ≠ 0
  · rw [if_pos h2, if_pos h2]; exact ⟨rfl, ix, h⟩
  rw [if_neg h2, if_neg h2]
  have hk : kindB K = true := by
    cases hb : kindB K with
    | true => rfl
    | false => rw [hb] at h1; simp at h1
  have e1 : apA X.a K S P A T N = (renA (phi ix) (apA Q.y K S P A T N).1, (apA Q.y K S P A T N).2) := by
    rw [h.a]
    exact ap_ren _ _ _ _ _ _ _ hk
  rw [e1]
  have hP := h.pls.ap S P A T N hk
  unfold tryA stepP
  rw [h.n]
  by_cases h3 : 8 ≤ X.cs.length
  · rw [if_pos h3, if_pos h3]; exact ⟨rfl, ix, h⟩
  rw [if_neg h3, if_neg h3]
  generalize apA Q.y K S P A T N = R at *
  obtain ⟨t, e⟩ := R
  simp only at hP ⊢
  by_cases h4 : e ≠ 0
  · rw [if_pos h4, if_pos h4]; exact ⟨rfl, ix, h⟩
  rw [if_neg h4, if_neg h4]
  rw [live_phi h.ixp (by rw [h.ixl]; exact hP), show pagesN (renA (phi ix) t).sp = pagesN t.sp from pages_ren _ _]
  by_cases h5 : X.pl < (liveA t : Int) ∨ X.ks < (pagesN t.sp : Int)
  · rw [if_pos h5, if_pos h5]; exact ⟨rfl, ix, h⟩
  rw [if_neg h5, if_neg h5]
  refine ⟨rfl, ix, ⟨?_, h.ixl, h.ixp, fun i hi => ?_, rfl, hP, fun k hk => ?_, h.fi, h.sz, ?_⟩⟩
  · show X.cs.length + 1 = (X.cs ++ [_]).length
    rw [List.length_append]; rfl
  · show i < (X.cs ++ [_]).length
    rw [List.length_append]
    have := h.ixb i hi; simp; omega
  · show ((X.cs ++ [_]).getD (ix.getD k 0) dfl).s = _
    rw [getD_snoc X.cs _ _ (h.ixb _ (getD_in (by rw [h.ixl]; exact hk)))]
    exact h.txt k hk
  · show (X.cs ++ [_]).length ≤ 8
    rw [List.length_append]; simp; omega
end Go.Proofs.Ytccelipljbkkgaa
