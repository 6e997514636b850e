/-
  Blocks that are written and erased, one behind the other, are worn alike. Pure.
-/
import Derived.Test.YtbcnocbdifbocaaDoorErs
namespace Go.Proofs.YtbcnocbdifbocaaDoor
open Go Go.RowKit
set_option maxRecDepth 100000

/-- nothing happens to a chip -/
structure Calm (C : Ch) : Prop where
  cuts : ∀ i, C.cuts i = none
  fails : ∀ i, C.fails i = false
  dead : ∀ i, C.dead i = false
theorem Calm.beg (b p z : Nat) : Calm (begX b p z [] []).C := ⟨fun _ => rfl, fun _ => rfl, fun _ => by simp [begX, begC, newC]⟩
/-- each block is free, or the open one; counts are m, or one more, and that of the open one is m -/
structure Lv (X : Wx) (k : Nat) (m : Int) : Prop where
  fin : Fin X
  calm : Calm X.C
  kind : ∀ i, i < X.C.B → X.xs.getD i 0 = 0 ∨ X.xs.getD i 0 = 1
  level : ∀ i, i < X.C.B → m ≤ X.wn.getD i 0 ∧ X.wn.getD i 0 ≤ m + 1
  opn : ∀ i, i < X.C.B → X.xs.getD i 0 = 1 → X.wn.getD i 0 = m
  worn : ∀ i, X.C.worn i = X.wn.getD i 0
  most : ∀ i, X.wn.getD i 0 ≤ k
  did : X.C.did ≤ 2 * k
  bd : X.bd = []
theorem Lv.beg (b p z : Nat) (hz : z ≤ 256) : Lv (begX b p z [] []) 0 0 := by
  have hr : ∀ i, (List.replicate b (0 : Int)).getD i 0 = 0 := fun i => by
    by_cases h : i < b <;> simp [List.getD_eq_getElem?_getD, h]
  have hw : ∀ i, (begX b p z [] []).wn.getD i 0 = 0 := hr
  exact ⟨Fin.beg b p z [] [] hz, Calm.beg b p z, fun i _ => .inl (hr i), fun i _ => by rw [hw]; omega, fun i _ _ => hw i, fun i => by rw [hw]; rfl, fun i => by rw [hw]; omega, by show (0 : Int) ≤ _; omega, rfl⟩
/-- a page was written: its block's count is the least; all others are free -/
structure Lw (X : Wx) (k : Nat) (m : Int) (b q : Nat) : Prop where
  fin : Fin X
  calm : Calm X.C
  lt : b < X.C.B
  qlt : q < X.C.P
  is : X.xs.getD b 0 = if q + 1 = X.C.P then 2 else 1
  others : ∀ i, i < X.C.B → i ≠ b → X.xs.getD i 0 = 0
  level : ∀ i, i < X.C.B → m ≤ X.wn.getD i 0 ∧ X.wn.getD i 0 ≤ m + 1
  own : X.wn.getD b 0 = m
  worn : ∀ i, X.C.worn i = X.wn.getD i 0
  most : ∀ i, X.wn.getD i 0 ≤ k
  did : X.C.did ≤ 2 * k + 1
  bd : X.bd = []
theorem Lv.wrote {X : Wx} {k : Nat} {m : Int} (h : Lv X k m) (ok : Lf.Ok X.C.B X.C.P X.xs X.o X.nx) (hB : 0 < X.C.B) {n : Nat} {s : ByteArray} {pl er : Int} {Y : Wx} (q : PlOk X n s pl er Y) :
    ∃ (b q : Nat) (m' : Int), pl = (b : Int) * (X.C.P : Int) + q ∧ er = 0 ∧ Lw Y k m' b q ∧ Geq Y X := by
  rcases q with ⟨_, _, _, h4, h5⟩ | ⟨b, X1, q, ht, hb, hq, rfl, rfl, rfl⟩
  · exfalso
    rcases h.kind 0 hB with e | e
    · exact h5 0 hB e
    · have := (ok.opn 0 hB).1 e
      omega
  · obtain ⟨_, hl, hnx, hxs, _, _, _, _⟩ := ht.xs ok
    obtain ⟨e1, e2, e3⟩ := ht.C
    have hfin := h.fin.put ok ht n s
    have cB : (X1.put b q n s).C.B = X.C.B := by show X1.C.B = X.C.B; rw [e1]
    have cP : (X1.put b q n s).C.P = X.C.P := by show X1.C.P = X.C.P; rw [e1]
    have cZ : (X1.put b q n s).C.Z = X.C.Z := by show X1.C.Z = X.C.Z; rw [e1]
    have hwn : (X1.put b q n s).wn = X.wn := e2
    have hcalm : Calm (X1.put b q n s).C := ⟨fun i => by show X1.C.cuts i = none; rw [e1]; exact h.calm.cuts i, fun i => by show X1.C.fails i = false; rw [e1]; exact h.calm.fails i, fun i => by show X1.C.dead i = false; rw [e1]; exact h.calm.dead i⟩
    have hoth : ∀ i, i < X.C.B → i ≠ b → X.xs.getD i 0 = 0 := fun i hi hne => (h.kind i hi).resolve_right (ht.others ok hi hne)
    have hlev : ∃ m' : Int, X.wn.getD b 0 = m' ∧ ∀ i, i < X.C.B → m' ≤ X.wn.getD i 0 ∧ X.wn.getD i 0 ≤ m' + 1 := by
      rcases ht with ⟨h1, _⟩ | ⟨_, h1, _⟩
      · obtain ⟨h2, h3⟩ := ok.open_at b h1
        exact ⟨m, h.opn b h2 h3, h.level⟩
      · refine ⟨_, rfl, fun i hi => ?_⟩
        have h6 := h.level i hi
        have h7 := h.level b hb
        have h8 : X.wn.getD b 0 ≤ X.wn.getD i 0 := by
          by_cases e : i = b
          · rw [e]; exact Int.le_refl _
          · exact h1.least i hi (hoth i hi e)
        omega
    obtain ⟨m', hm1, hm2⟩ := hlev
    refine ⟨b, q, m', rfl, rfl, ⟨hfin, hcalm, by rw [cB]; exact hb, by rw [cP]; exact hq, ?_, fun i hi hne => ?_, by rw [cB, hwn]; exact hm2, by rw [hwn]; exact hm1, fun i => ?_, by rw [hwn]; exact h.most, ?_, by show X1.bd = []; rw [e3]; exact h.bd⟩, cB, cP, cZ⟩
    · show X1.xs.getD b 0 = _
      rw [hxs b, if_pos rfl, cP]
      by_cases e : q + 1 = X.C.P
      · rw [if_pos (by omega), if_pos e]
      · rw [if_neg (by omega), if_neg e]
    · rw [cB] at hi
      show X1.xs.getD i 0 = _
      rw [hxs i, if_neg hne]
      exact hoth i hi hne
    · rw [hwn, ← h.worn]; show X1.C.worn i = _; rw [e1]
    · show X1.C.did + 1 ≤ _; rw [e1]; have := h.did; omega
theorem Lw.stays {X : Wx} {k : Nat} {m : Int} {b q : Nat} (h : Lw X k m b q) (hq : ¬ q + 1 = X.C.P) : Lv X (k + 1) m := by
  have hi := h.is
  rw [if_neg hq] at hi
  refine ⟨h.fin, h.calm, fun i hi' => ?_, h.level, fun i hi' hx => ?_, h.worn, fun i => by have := h.most i; omega, by have := h.did; omega, h.bd⟩
  · by_cases e : i = b
    · subst e; exact .inr hi
    · exact .inl (h.others i hi' e)
  · by_cases e : i = b
    · subst e; exact h.own
    · rw [h.others i hi' e] at hx; omega
theorem Lw.erased {X : Wx} {k : Nat} {m : Int} {b q : Nat} (h : Lw X k m b q) (hq : q + 1 = X.C.P) (hl : X.xs.length = X.C.B) (hw : X.wn.length = X.C.B) (hk : k ≤ 2000) : X.erE b = 0 ∧ X.erX b = X.era b ∧ Lv (X.era b) (k + 1) m := by
  have hi := h.is
  rw [if_pos hq] at hi
  have hlt := h.lt
  have hgo := erase_go h.lt h.fin.off (h.calm.cuts _) (h.calm.dead b) (h.calm.fails _) (by rw [hi]; decide)
  have hmo := h.most b
  have hx : ∀ i, (X.era b).xs.getD i 0 = if i = b then 0 else X.xs.getD i 0 := era_xs (by omega)
  have hwn : ∀ i, (X.era b).wn.getD i 0 = if i = b then X.wn.getD b 0 + 1 else X.wn.getD i 0 := era_wn (by omega)
  have hxz : ∀ i, i < X.C.B → (X.era b).xs.getD i 0 = 0 := fun i hi' => by
    rw [hx]
    by_cases e : i = b
    · rw [if_pos e]
    · rw [if_neg e]; exact h.others i hi' e
  refine ⟨hgo.1, hgo.2, h.fin.era (by omega) (by omega) (h.calm.dead b) (by omega), ⟨h.calm.cuts, h.calm.fails, h.calm.dead⟩, fun i hi' => .inl (hxz i hi'), fun i hi' => ?_, fun i hi' hx' => ?_, fun i => ?_, fun i => ?_, ?_, h.bd⟩
  · have := h.level i hi'
    have := h.own
    rw [hwn]
    split <;> omega
  · rw [hxz i hi'] at hx'; omega
  · rw [hwn]
    show upd X.C.worn b (X.C.worn b + 1) i = _
    unfold upd
    split
    · rw [h.worn]
    · exact h.worn i
  · rw [hwn]
    have := h.most i
    split <;> omega
  · show X.C.did + 1 ≤ _
    have := h.did
    omega
end Go.Proofs.YtbcnocbdifbocaaDoor
