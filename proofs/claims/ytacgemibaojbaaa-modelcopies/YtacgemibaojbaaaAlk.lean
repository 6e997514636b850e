/-
  The program's answers and the answer's own, alike: how many pages, places, the dump. No condition.
-/
import Derived.Test.YtacgemibaojbaaaLiv
namespace Go.Proofs.Ytacgemibaojbaaa
open Go Go.RowKit Go.Maps

theorem lvA_len : ∀ l : List Asp, (lvA l).length = pagesN l
  | [] => rfl
  | x :: r => by
    rw [lvA, List.length_append, lvA_len r]
    unfold lvx
    rw [List.length_map]
    rfl
theorem mdel_len : ∀ {m : Pl}, Up m → ∀ {k v : Int}, mget m k = some v → m.length = (mdel m k).length + 1
  | [], _, _, _, h => by simp [mget] at h
  | p :: r, hu, k, v, h => by
    rw [mdel_cons]
    by_cases e : p.1 = k
    · rw [if_pos e, mdel_none (fun q hq => by rw [← e]; exact up_ne hu q hq), List.length_cons]
    · rw [mget_cons, if_neg e] at h
      rw [if_neg e, List.length_cons, List.length_cons, mdel_len (List.pairwise_cons.1 hu).2 h]
theorem fstL_iff (l : List L3) (k : Nat) : fstL l k k = true ↔ cL (at3 l k) (l.take k) = 0 := by
  unfold fstL cL
  rw [List.all_eq_true, List.length_eq_zero_iff, List.filter_eq_nil_iff]
  simp
theorem nL_is (l : List L3) : ∀ (k : Nat), k ≤ l.length → ∀ {m : Pl}, Up m → (∀ a, (mget m a).isSome = true ↔ cL a (l.take k) ≠ 0) → m.length = nL l k
  | 0, _, m, _, h => by
    cases m with
    | nil => rfl
    | cons p r =>
      have := (h p.1).1 (by rw [mget_cons, if_pos rfl]; rfl)
      simp [cL] at this
  | k + 1, hk, m, hu, h => by
    have hs := fun a => cL_snoc a l k (by omega)
    rw [nL]
    by_cases hf : fstL l k k = true
    · rw [if_pos hf]
      have h0 := (fstL_iff l k).1 hf
      have h1 := hs (at3 l k)
      rw [show (l.getD k (0, 0, 0)).2.2 = at3 l k from rfl, if_pos rfl, h0] at h1
      obtain ⟨v, hv⟩ := Option.isSome_iff_exists.1 ((h (at3 l k)).2 (by omega))
      rw [mdel_len hu hv, nL_is l k (by omega) (up_del hu (at3 l k)) (fun a => ?_)]
      by_cases e : a = at3 l k
      · rw [e, mget_del_same]
        simp [h0]
      · rw [mget_del_ne e, h a]
        have h2 := hs a
        rw [show (l.getD k (0, 0, 0)).2.2 = at3 l k from rfl, if_neg (fun q => e q.symm)] at h2
        omega
    · rw [if_neg hf]
      have h0 : cL (at3 l k) (l.take k) ≠ 0 := fun e => hf ((fstL_iff l k).2 e)
      refine nL_is l k (by omega) hu (fun a => ?_)
      rw [h a]
      have h2 := hs a
      rw [show (l.getD k (0, 0, 0)).2.2 = at3 l k from rfl] at h2
      by_cases e : at3 l k = a
      · rw [if_pos e] at h2
        rw [e] at h0
        omega
      · rw [if_neg e] at h2
        omega
theorem nL_refs {l : List Asp} {m : Pl} (h : RefsIs m (cntA l)) (hu : Up m) : nL (lvA l) (lvA l).length = m.length := by
  refine (nL_is (lvA l) _ (Nat.le_refl _) hu (fun a => ?_)).symm
  rw [List.take_length, cL_lvA, h.get]
  by_cases e : cntA l a = 0 <;> simp [e]
theorem fil_skip {x : Int} {l : List Asp} (h : ∀ y ∈ l, y.id ≠ x) : (lvA l).filter (fun y => decide (y.1 = x)) = [] := by
  refine List.filter_eq_nil_iff.2 (fun z hz => ?_)
  obtain ⟨u, hu, q, _⟩ := lvA_mem hz
  have := h u hu
  simp [q, this]
theorem fil_lvA {x : Asp} : ∀ {l : List Asp}, UpA l → x ∈ l → (lvA l).filter (fun y => decide (y.1 = x.id)) = lvx x
  | [], _, h => by cases h
  | y :: r, hu, h => by
    rw [lvA, List.filter_append]
    rcases List.mem_cons.1 h with rfl | h
    · rw [fil_skip (upA_ne hu), List.append_nil]
      exact List.filter_eq_self.2 (fun z hz => by simp [(lvx_mem hz).1])
    · have h3 := (List.pairwise_cons.1 hu).1 x h
      rw [fil_lvA (List.pairwise_cons.1 hu).2 h, List.filter_eq_nil_iff.2 (fun z hz => by have q := (lvx_mem hz).1; simp; omega), List.nil_append]
theorem pL_lvA {x : Asp} {l : List Asp} (hu : UpA l) (h : x ∈ l) : pL x.id (lvA l) = x.ps.length := by
  unfold pL
  rw [fil_lvA hu h]
  unfold lvx
  rw [List.length_map]
theorem lens_rs {t : Ab} (h : InvA t) : Lens (rs t) := by
  have h1 := h.len
  have h2 := h.blen
  have h3 := h.wlen
  have h4 : ∀ l : List Asp, (∀ x ∈ l, x.ps.length ≤ 1024) → (lvA l).length ≤ l.length * 1024 := by
    intro l
    induction l with
    | nil => intro _; simp [lvA]
    | cons x r ih =>
      intro hl
      have := hl x (by simp)
      have := ih (fun y hy => hl y (by simp [hy]))
      rw [lvA, List.length_append]
      unfold lvx
      rw [List.length_map, List.length_cons]
      omega
  have h5 := h4 t.sp (fun x hx => h.plen hx)
  unfold Lens rs
  simp only [List.length_map]
  omega
end Go.Proofs.Ytacgemibaojbaaa
