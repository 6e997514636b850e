/-
  The program's answers and the answer's own, alike: how many pages, places, the dump. No condition. Same: a state has just what the answer's has. No condition. What a state tells makes the same state of nothing: said plainly. No condition.
-/
import Derived.Test.YtaphpdmfjnhlaaaGreatDoorBH8
import Derived.Test.YtaphpdmfjnhlaaaGreatDoorBH5
namespace Go.Proofs.YtaphpdmfjnhlaaaGreatDoor.S8
open Go Go.RowKit Go.Maps
theorem lens_rs {t : Ab} (h : InvA t) : Lens (rs t) := by
 have h1 := h.len
 have h2 := h.blen
 have h3 := h.wlen
 have h4 : ∀ l : List Asp, (∀ x ∈ l, x.ps.length <= 1024) -> (lvA l).length <= l.length * 1024 := by
  intro l
  induction l with
  | nil => intro _; simp [lvA]
  | cons x r ih =>
   intro hl
   have := hl x (by simp)
   have := ih (fun y hy => hl y (by simp [hy]))
   rw [lvA, List.length_append]
   unfold lvx
   rw [List.length_map, List.length_cons]
   omega
 have h5 := h4 t.sp (fun x hx => h.plen hx)
 unfold Lens rs
 simp only [List.length_map]
 omega
end Go.Proofs.YtaphpdmfjnhlaaaGreatDoor.S8
namespace Go.Proofs.YtaphpdmfjnhlaaaGreatDoor.S8
open Go Go.RowKit Go.Maps
end Go.Proofs.YtaphpdmfjnhlaaaGreatDoor.S8
namespace Go.Proofs.YtaphpdmfjnhlaaaGreatDoor.S8
open Go Go.RowKit Go.Maps
def plays : Ab -> List R6 -> Ab -> Prop
 | t, [], t' => t = t'
 | t, r :: l, t' => (apR t r).2 = 0 /\ plays (apR t r).1 l t'
theorem plays_app {l1 l2 : List R6} {t t1 t2 : Ab} (h1 : plays t l1 t1) (h2 : plays t1 l2 t2) : plays t (l1 ++ l2) t2 := by
 induction l1 generalizing t with
 | nil => cases h1; exact h2
 | cons r l ih => exact ⟨h1.1, ih h1.2⟩
theorem plays_one {t t' : Ab} {r : R6} (h : apR t r = (t', 0)) : plays t [r] t' := by
 unfold plays plays
 rw [h]
 exact ⟨rfl, rfl⟩
theorem iA_last {x : Asp} : ∀ {l : List Asp}, (∀ y ∈ l, y.id < x.id) -> iA x l = l ++ [x]
 | [], _ => rfl
 | y :: r, h => by
  have h1 := h y (by simp)
  rw [iA, if_neg (by omega), iA_last (fun z hz => h z (by simp [hz]))]
  rfl
theorem gA_last {l : List Asp} {x : Asp} (h : ∀ y ∈ l, y.id < x.id) : gA (l ++ [x]) x.id = some x := by
 have h1 : gA l x.id = none := by
  unfold gA
  rw [List.find?_eq_none]
  intro y hy
  have := h y hy
  simp
  omega
 unfold gA at h1 |-
 rw [List.find?_append, h1]
 simp
theorem gA_no {l : List Asp} {i : Int} (h : ∀ y ∈ l, y.id < i) : gA l i = none := by
 unfold gA
 rw [List.find?_eq_none]
 intro y hy
 have := h y hy
 simp
 omega
theorem sA_last {l : List Asp} {x x' : Asp} (h : ∀ y ∈ l, y.id < x.id) (e : x'.id = x.id) : sA (l ++ [x]) x' = l ++ [x'] := by
 have h1 : sA l x' = l := sA_none (fun y hy => by have := h y hy; omega)
 unfold sA at h1 |-
 rw [List.map_append, h1]
 simp [e]
theorem plays_ps {sp : List Asp} {b w : Pl} {i q : Int} (hi : 1 <= i /\ i <= 15) (hq : 1 <= q /\ q <= 1024) (hsp : ∀ y ∈ sp, y.id < i) : ∀ (p2 p1 : Pl), Up (p1 ++ p2) -> (∀ p ∈ p2, (0 <= p.1 /\ p.1 < q) /\ 0 <= p.2 /\ p.2 <= 511) →
  plays ⟨sp ++ [⟨i, q, false, p1⟩], b, w⟩ (p2.map (dPut i)) ⟨sp ++ [⟨i, q, false, p1 ++ p2⟩], b, w⟩
 | [], p1, _, _ => by rw [List.append_nil]; rfl
 | p :: r, p1, hu, hp => by
  have hp1 : ∀ u ∈ p1, u.1 < p.1 := fun u hu2 => (List.pairwise_append.1 hu).2.2 u hu2 p (by simp)
  have h0 := hp p (by simp)
  have hm : mayB 1 i p.1 p.2 0 0 = true := mayB_iff.2 (Or.inl (by omega))
  have e : apR ⟨sp ++ [⟨i, q, false, p1⟩], b, w⟩ (dPut i p) = (⟨sp ++ [⟨i, q, false, p1 ++ [(p.1, p.2)]⟩], b, w⟩, 0) := by
   unfold apR dPut apA
   simp only [hm, Bool.true_eq_false, if_false, if_true]
   rw [gA_last (x := ⟨i, q, false, p1⟩) hsp]
   simp only
   rw [if_neg (by omega), mput_last hp1, sA_last (x := ⟨i, q, false, p1⟩) (x' := ⟨i, q, false, p1 ++ [(p.1, p.2)]⟩) hsp rfl]
  have h2 := plays_ps (b := b) (w := w) hi hq hsp r (p1 ++ [(p.1, p.2)]) (by rw [List.append_assoc]; exact hu) (fun u hu2 => hp u (by simp [hu2]))
  rw [List.append_assoc] at h2
  have h3 := plays_app (plays_one e) h2
  exact h3
theorem plays_sp {sp : List Asp} {b w : Pl} {x : Asp} (hi : 1 <= x.id /\ x.id <= 15) (hq : 1 <= x.q /\ x.q <= 1024) (hsp : ∀ y ∈ sp, y.id < x.id) (hu : Up x.ps) (hp : ∀ p ∈ x.ps, (0 <= p.1 /\ p.1 < x.q) /\ 0 <= p.2 /\ p.2 <= 511) :
  plays ⟨sp, b, w⟩ (dmA x) ⟨sp ++ [x], b, w⟩ := by
 have hm : mayB 4 x.id 0 0 0 x.q = true := mayB_iff.2 (by unfold mayR; omega)
 have e1 : apR ⟨sp, b, w⟩ (4, x.id, 0, 0, 0, x.q) = (⟨sp ++ [⟨x.id, x.q, false, []⟩], b, w⟩, 0) := by
  unfold apR apA
  simp only [hm, Bool.true_eq_false, if_false, if_true, Int.reduceEq]
  rw [gA_no hsp]
  simp only
  rw [iA_last (x := ⟨x.id, x.q, false, []⟩) hsp]
 have e2 := plays_ps (b := b) (w := w) hi hq hsp x.ps [] hu hp
 rw [List.nil_append] at e2
 have h1 := plays_app (plays_one e1) e2
 unfold dmA
 by_cases hs : x.sl = true
 ·rw [if_pos hs]
  have hm7 : mayB 7 x.id 0 0 0 0 = true := mayB_iff.2 (by unfold mayR; omega)
  have e3 : apR ⟨sp ++ [⟨x.id, x.q, false, x.ps⟩], b, w⟩ (7, x.id, 0, 0, 0, 0) = (⟨sp ++ [x], b, w⟩, 0) := by
   unfold apR apA
   simp only [hm7, Bool.true_eq_false, if_false, if_true, Int.reduceEq]
   rw [gA_last (x := ⟨x.id, x.q, false, x.ps⟩) hsp]
   simp only
   rw [sA_last (x := ⟨x.id, x.q, false, x.ps⟩) (x' := ⟨x.id, x.q, true, x.ps⟩) hsp rfl]
   have : (⟨x.id, x.q, true, x.ps⟩ : Asp) = x := by cases x; simp_all
   rw [this]
  have h2 := plays_app h1 (plays_one e3)
  simpa using h2
 ·rw [if_neg hs, List.append_nil]
  have : (⟨x.id, x.q, false, x.ps⟩ : Asp) = x := by cases x; simp_all
  rw [this] at h1
  exact h1
theorem plays_sps {b w : Pl} : ∀ (s2 s1 : List Asp), UpA (s1 ++ s2) -> (∀ x ∈ s2, (1 <= x.id /\ x.id <= 15) /\ (1 <= x.q /\ x.q <= 1024) /\ Up x.ps /\ ∀ p ∈ x.ps, (0 <= p.1 /\ p.1 < x.q) /\ 0 <= p.2 /\ p.2 <= 511) -> plays ⟨s1, b, w⟩ (s2.flatMap dmA) ⟨s1 ++ s2, b, w⟩
 | [], s1, _, _ => by rw [List.append_nil]; rfl
 | x :: r, s1, hu, h => by
  have h0 := h x (by simp)
  have h1 := plays_sp (sp := s1) (b := b) (w := w) h0.1 h0.2.1 (fun y hy => (List.pairwise_append.1 hu).2.2 y hy x (by simp)) h0.2.2.1 h0.2.2.2
  have h2 := plays_sps (b := b) (w := w) r (s1 ++ [x]) (by rw [List.append_assoc]; exact hu) (fun y hy => h y (by simp [hy]))
  rw [List.append_assoc] at h2
  rw [List.flatMap_cons]
  exact plays_app h1 h2
theorem plays_bad {sp : List Asp} {w : Pl} : ∀ (b2 b1 : Pl), Up (b1 ++ b2) -> (∀ p ∈ b2, (0 <= p.1 /\ p.1 <= 31) /\ p.2 = 0) -> plays ⟨sp, b1, w⟩ (b2.map dBad) ⟨sp, b1 ++ b2, w⟩
 | [], b1, _, _ => by rw [List.append_nil]; rfl
 | p :: r, b1, hu, h => by
  have h0 := h p (by simp)
  have hb1 : ∀ u ∈ b1, u.1 < p.1 := fun u hu2 => (List.pairwise_append.1 hu).2.2 u hu2 p (by simp)
  have hm : mayB 8 0 0 p.1 0 0 = true := mayB_iff.2 (by unfold mayR; omega)
  have e : apR ⟨sp, b1, w⟩ (dBad p) = (⟨sp, b1 ++ [p], w⟩, 0) := by
   unfold apR dBad apA
   simp only [hm, Bool.true_eq_false, if_false, if_true, Int.reduceEq]
   rw [mput_last hb1]
   have : (p.1, (0 : Int)) = p := by rw [<- h0.2]
   rw [this]
  have h2 := plays_bad (sp := sp) (w := w) r (b1 ++ [p]) (by rw [List.append_assoc]; exact hu) (fun u hu2 => h u (by simp [hu2]))
  rw [List.append_assoc] at h2
  exact plays_app (plays_one e) h2
theorem plays_worn {sp : List Asp} {b : Pl} : ∀ (w2 w1 : Pl), Up (w1 ++ w2) -> (∀ p ∈ w2, (0 <= p.1 /\ p.1 <= 31) /\ 0 <= p.2 /\ p.2 <= 1073741824) -> plays ⟨sp, b, w1⟩ (w2.map dWorn) ⟨sp, b, w1 ++ w2⟩
 | [], w1, _, _ => by rw [List.append_nil]; rfl
 | p :: r, w1, hu, h => by
  have h0 := h p (by simp)
  have hb1 : ∀ u ∈ w1, u.1 < p.1 := fun u hu2 => (List.pairwise_append.1 hu).2.2 u hu2 p (by simp)
  have hm : mayB 9 0 0 p.1 0 p.2 = true := mayB_iff.2 (by unfold mayR; omega)
  have e : apR ⟨sp, b, w1⟩ (dWorn p) = (⟨sp, b, w1 ++ [p]⟩, 0) := by
   unfold apR dWorn apA
   simp only [hm, Bool.true_eq_false, if_false, Int.reduceEq]
   rw [(mget_none_iff w1 p.1).2 (fun u hu2 => by have := hb1 u hu2; omega), mput_last hb1]
   have : max ((none : Option Int).getD 0) p.2 = p.2 := by show max 0 p.2 = p.2; omega
   rw [this]
  have h2 := plays_worn (sp := sp) (b := b) r (w1 ++ [p]) (by rw [List.append_assoc]; exact hu) (fun u hu2 => h u (by simp [hu2]))
  rw [List.append_assoc] at h2
  exact plays_app (plays_one e) h2
theorem plays_dump {t : Ab} (h : InvA t) : plays noAb (dumpA t) t := by
 obtain ⟨sp, b, w⟩ := t
 have h1 := plays_sps (b := []) (w := []) sp [] h.up (fun x hx => ⟨h.ids x hx, h.qs x hx, h.ups x hx, h.pss x hx⟩)
 have h2 := plays_bad (sp := sp) (w := []) b [] h.upb h.bad
 have h3 := plays_worn (sp := sp) (b := b) w [] h.upw h.worn
 rw [List.nil_append] at h1 h2 h3
 exact plays_app (plays_app h1 h2) h3
end Go.Proofs.YtaphpdmfjnhlaaaGreatDoor.S8
