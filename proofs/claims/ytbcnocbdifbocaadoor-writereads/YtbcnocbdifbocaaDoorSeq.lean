/-
  Pages written one behind the other, block by block, where nothing happens. Pure.
-/
import Derived.Test.YtbcnocbdifbocaaDoorFin
namespace Go.Proofs.YtbcnocbdifbocaaDoor
open Go Go.RowKit
set_option maxRecDepth 100000

/-- of a block of which a page was taken none else is open -/
theorem Tk.others {X : Wx} {b X1 p} (ok : Lf.Ok X.C.B X.C.P X.xs X.o X.nx) (h : Tk X b X1 p) {i : Nat} (hi : i < X.C.B) (hne : i ≠ b) : X.xs.getD i 0 ≠ 1 := by
  intro e
  have := (ok.opn i hi).1 e
  rcases h with ⟨h1, _⟩ | ⟨h1, _⟩ <;> omega
theorem Fin.put {X : Wx} (h : Fin X) (ok : Lf.Ok X.C.B X.C.P X.xs X.o X.nx) {b : Nat} {X1 : Wx} {q : Nat} (ht : Tk X b X1 q) (n : Nat) (s : ByteArray) : Fin (X1.put b q n s) := by
  obtain ⟨hb, hl, hnx, hxs, _, _, _, _⟩ := ht.xs ok
  obtain ⟨e1, e2, e3⟩ := ht.C
  obtain ⟨_, q', hq', hqP, hde, hpg⟩ := h.tk ok ht
  obtain rfl : q = q' := by omega
  have hC : (X1.put b q n s).C.B = X.C.B ∧ (X1.put b q n s).C.P = X.C.P ∧ (X1.put b q n s).C.dead = X.C.dead ∧ (X1.put b q n s).C.off = X.C.off ∧ (X1.put b q n s).C.Z = X.C.Z := by
    show X1.C.B = X.C.B ∧ X1.C.P = X.C.P ∧ X1.C.dead = X.C.dead ∧ X1.C.off = X.C.off ∧ X1.C.Z = X.C.Z
    rw [e1]; exact ⟨rfl, rfl, rfl, rfl, rfl⟩
  have hp : ∀ i p, ¬ (i = b ∧ p = q) → (X1.put b q n s).C.pg i p = X.C.pg i p := by
    intro i p hne
    show (putPg _ b q _).pg i p = _
    rw [putPg_pg, if_neg hne]
    show X1.C.pg i p = X.C.pg i p
    rw [e1]
  obtain ⟨c1, c2, c3, c4, c5⟩ := hC
  refine ⟨by rw [c4]; exact h.off, fun i hi hx => ?_, fun i hi hx => ?_, fun i => ?_, by rw [c5]; exact h.geo⟩
  · rw [c1] at hi
    have hx' : X1.xs.getD i 0 = 0 := hx
    rw [hxs i] at hx'
    by_cases e : i = b
    · rw [if_pos e] at hx'; split at hx' <;> omega
    · rw [if_neg e] at hx'
      obtain ⟨d1, d2⟩ := h.free i hi hx'
      exact ⟨by rw [c3]; exact d1, fun p hp' => by rw [hp i p (fun x => e x.1)]; exact d2 p (by rw [← c2]; exact hp')⟩
  · rw [c1] at hi
    have hx' : X1.xs.getD i 0 = 1 := hx
    rw [hxs i] at hx'
    by_cases e : i = b
    · subst e
      refine ⟨by rw [c3]; exact hde, fun p hp1 hp2 => ?_⟩
      have hp1' : X1.nx ≤ p := hp1
      rw [hnx] at hp1'
      rw [hp i p (fun x => by omega)]
      exact hpg p (by omega) (by rw [← c2]; exact hp2)
    · rw [if_neg e] at hx'
      exact absurd hx' (ht.others ok hi e)
  · have : (X1.put b q n s).wn = X.wn := e2
    rw [this]; exact h.cnt i
theorem Fin.beg (b p z : Nat) (cl : List (Int × Int × Int)) (fl : List Int) (hz : z ≤ 256) : Fin (begX b p z cl fl) := by
  have hr : ∀ i, (List.replicate b (0 : Int)).getD i 0 = 0 := fun i => by
    by_cases h : i < b <;> simp [List.getD_eq_getElem?_getD, h]
  refine ⟨rfl, fun i _ _ => ⟨by simp [begX, begC, newC], fun _ _ => rfl⟩, fun i _ hx => ?_, fun i => ?_, hz⟩
  · have : (List.replicate b (0 : Int)).getD i 0 = 1 := hx
    rw [hr] at this; omega
  · show 0 ≤ (List.replicate b (0 : Int)).getD i 0 ∧ _ ≤ _
    rw [show (begX b p z cl fl).wn = List.replicate b 0 from rfl, hr]; omega
/-- a blocks are written whole, and r pages of the next -/
structure Sq (X : Wx) (a r : Nat) (T : Nat → ByteArray) (Q : Nat → Nat) : Prop where
  fin : Fin X
  wz : ∀ i, X.wn.getD i 0 = 0
  le : a < X.C.B ∧ r < X.C.P ∨ a = X.C.B ∧ r = 0
  xs : ∀ i, i < X.C.B → X.xs.getD i 0 = if i < a then 2 else if i = a ∧ 0 < r then 1 else 0
  nx : 0 < r → X.nx = r
  says : ∀ i p, (i < a ∧ p < X.C.P) ∨ (i = a ∧ p < r) → Says X.C i p (T (i * X.C.P + p)) 1 (Q (i * X.C.P + p)) 0 1 0
  did : X.C.did = ((a * X.C.P + r : Nat) : Int)
  bd : X.bd = []
theorem Sq.beg (b p z : Nat) (cl : List (Int × Int × Int)) (fl : List Int) (hz : z ≤ 256) (hb : 0 < b) (hp : 0 < p) (T : Nat → ByteArray) (Q : Nat → Nat) : Sq (begX b p z cl fl) 0 0 T Q := by
  have hr : ∀ i, (List.replicate b (0 : Int)).getD i 0 = 0 := fun i => by
    by_cases h : i < b <;> simp [List.getD_eq_getElem?_getD, h]
  refine ⟨Fin.beg b p z cl fl hz, hr, .inl ⟨hb, hp⟩, fun i _ => ?_, fun h => by omega, fun i p h => by omega, ?_, rfl⟩
  · rw [if_neg (by omega), if_neg (by omega)]
    exact hr i
  · show (0 : Int) = _
    simp
theorem Sq.tk {X : Wx} {a r T Q} (h : Sq X a r T Q) (ok : Lf.Ok X.C.B X.C.P X.xs X.o X.nx) {b : Nat} {X1 : Wx} {p : Int} (ht : Tk X b X1 p) : a < X.C.B ∧ b = a ∧ p = r := by
  have hab : a < X.C.B := by
    rcases h.le with q | q
    · exact q.1
    · have hb := (ht.xs ok).1
      exfalso
      have hx := h.xs b hb
      rw [if_pos (by omega)] at hx
      rcases ht with ⟨h1, _⟩ | ⟨_, h1, _⟩
      · have := (ok.open_at b h1).2; omega
      · have := h1.free; omega
  have hxa := h.xs a hab
  rw [if_neg (by omega)] at hxa
  by_cases hr : 0 < r
  · rw [if_pos ⟨rfl, hr⟩] at hxa
    have ho := (ok.opn a hab).1 hxa
    rcases ht with ⟨h1, _, rfl⟩ | ⟨h1, _⟩
    · exact ⟨hab, by omega, h.nx hr⟩
    · omega
  · rw [if_neg (fun x => hr x.2)] at hxa
    rcases ht with ⟨h1, _⟩ | ⟨_, h1, _, rfl⟩
    · exfalso
      obtain ⟨h2, h3⟩ := ok.open_at b h1
      have hx := h.xs b h2
      rw [h3] at hx
      split at hx
      · omega
      · split at hx <;> omega
    · refine ⟨hab, ?_, by omega⟩
      rcases Nat.lt_trichotomy b a with e | e | e
      · exfalso
        have hx := h.xs b h1.lt
        rw [if_pos e, h1.free] at hx
        omega
      · exact e
      · exfalso
        have := h1.first a e hxa
        rw [h.wz, h.wz] at this
        omega
theorem Sq.more {X : Wx} {a r T Q} (h : Sq X a r T Q) (ok : Lf.Ok X.C.B X.C.P X.xs X.o X.nx) (hn : ∀ i, Q i < 18446744073709551616) (hs : (T (a * X.C.P + r)).size ≤ X.C.Z) {X1 : Wx} (ht : Tk X a X1 (r : Nat)) :
    ∃ a' r', a' * X.C.P + r' = a * X.C.P + r + 1 ∧ (r' < X.C.P) ∧ Sq (X1.put a r (Q (a * X.C.P + r)) (T (a * X.C.P + r))) a' r' T Q ∧ (a' = a ∧ r' = r + 1 ∨ a' = a + 1 ∧ r' = 0 ∧ r + 1 = X.C.P) := by
  obtain ⟨hab, _, _⟩ := h.tk ok ht
  obtain ⟨hb, hl, hnx, hxs, ho, _, hrP, _⟩ := ht.xs ok
  obtain ⟨e1, e2, e3⟩ := ht.C
  have hk := ok.kb
  have hf := h.fin.put ok ht (Q (a * X.C.P + r)) (T (a * X.C.P + r))
  have cB : (X1.put a r (Q (a * X.C.P + r)) (T (a * X.C.P + r))).C.B = X.C.B := by show X1.C.B = X.C.B; rw [e1]
  have cP : (X1.put a r (Q (a * X.C.P + r)) (T (a * X.C.P + r))).C.P = X.C.P := by show X1.C.P = X.C.P; rw [e1]
  have hwz : ∀ i, (X1.put a r (Q (a * X.C.P + r)) (T (a * X.C.P + r))).wn.getD i 0 = 0 := fun i => by
    show X1.wn.getD i 0 = 0; rw [e2]; exact h.wz i
  have hdid : (X1.put a r (Q (a * X.C.P + r)) (T (a * X.C.P + r))).C.did = ((a * X.C.P + r + 1 : Nat) : Int) := by
    show X1.C.did + 1 = _; rw [e1, h.did]; omega
  have hsay : ∀ i p, (i < a ∧ p < X.C.P) ∨ (i = a ∧ p < r + 1) → Says (X1.put a r (Q (a * X.C.P + r)) (T (a * X.C.P + r))).C i p (T (i * X.C.P + p)) 1 (Q (i * X.C.P + p)) 0 1 0 := by
    intro i p hip
    by_cases e : i = a ∧ p = r
    · obtain ⟨rfl, rfl⟩ := e
      have := put_says X1 i p (Q (i * X.C.P + p)) (T (i * X.C.P + p)) (by rw [e2]; exact h.fin.cnt i) (by rw [e1]; exact h.fin.geo) (hn _) (by rw [e1]; exact hs)
      rw [e2, h.wz] at this
      exact this
    · exact put_says_other X1 a r _ _ (by rw [e1]; exact h.says i p (by omega)) (fun x => e ⟨x.1, x.2⟩)
  by_cases e : r + 1 = X.C.P
  · refine ⟨a + 1, 0, ?_, by omega, ⟨hf, hwz, ?_, fun i hi => ?_, fun x => by omega, fun i p hip => ?_, ?_, by show X1.bd = []; rw [e3]; exact h.bd⟩, .inr ⟨rfl, rfl, e⟩⟩
    · rw [Nat.succ_mul]; omega
    · rw [cB, cP]; omega
    · rw [cB] at hi
      show X1.xs.getD i 0 = _
      rw [hxs i, if_pos (show ((r : Nat) : Int) + 1 = X.C.P by omega)]
      have := h.xs i hi
      by_cases e2 : i = a
      · rw [if_pos e2, if_pos (by omega)]
      · rw [if_neg e2, this]
        by_cases e3 : i < a
        · rw [if_pos e3, if_pos (by omega)]
        · rw [if_neg e3, if_neg (fun x => e2 x.1), if_neg (by omega), if_neg (by omega)]
    · rw [cP] at hip ⊢
      exact hsay i p (by omega)
    · rw [hdid, cP, Nat.succ_mul]; omega
  · refine ⟨a, r + 1, by omega, by omega, ⟨hf, hwz, ?_, fun i hi => ?_, fun x => ?_, fun i p hip => ?_, ?_, by show X1.bd = []; rw [e3]; exact h.bd⟩, .inl ⟨rfl, rfl⟩⟩
    · rw [cB, cP]; omega
    · rw [cB] at hi
      show X1.xs.getD i 0 = _
      rw [hxs i, if_neg (show ¬ ((r : Nat) : Int) + 1 = X.C.P by omega)]
      have := h.xs i hi
      by_cases e2 : i = a
      · rw [if_pos e2, if_neg (by omega), if_pos ⟨e2, by omega⟩]
      · rw [if_neg e2, this]
        by_cases e3 : i < a
        · rw [if_pos e3, if_pos e3]
        · rw [if_neg e3, if_neg (fun x => e2 x.1), if_neg e3, if_neg (fun x => e2 x.1)]
    · show X1.nx = _; rw [hnx]; omega
    · rw [cP] at hip ⊢
      exact hsay i p (by omega)
    · rw [hdid, cP]; omega
end Go.Proofs.YtbcnocbdifbocaaDoor
