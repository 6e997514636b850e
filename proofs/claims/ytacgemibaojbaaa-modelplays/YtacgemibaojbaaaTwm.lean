/-
  The plain device beside the plain one, act by act (pure). No condition.
-/
import Derived.Test.YtacgemibaojbaaaSmm
import Derived.Test.YtacgemibaojbaaaPly
namespace Go.Proofs.Ytacgemibaojbaaa
open Go Go.RowKit Go.Maps

def pkM (X : MX) (pl ks : Int) : Prop := X.pl = pl ∧ X.ks = ks ∧ X.sz = 64
theorem tw_none {X now tx Q} (h : TwM X now tx Q) (hq : Q = none) : X.op = none := by
  rcases h.cases with ⟨q, _⟩ | ⟨l, q, _, e, _⟩
  · exact q
  · rw [hq] at e; cases e
theorem tw_some {X now tx q} (h : TwM X now tx (some q)) : ∃ l ix, X.op = some l ∧ SimM X.L l q.y q.tx ix X.puts ∧ (q.n : Int) = X.did := by
  rcases h.cases with ⟨_, e⟩ | ⟨l, q', hx, e, ⟨ix, h1⟩, h2⟩
  · cases e
  · cases e; exact ⟨l, ix, hx, h1, h2⟩
theorem tw_begin {X now tx} (h : TwM X now tx none) : (beginX X).2 = 0 ∧ TwM (beginX X).1 now tx (some ⟨now, tx, 0⟩) := by
  have hx := tw_none h rfl
  have e : beginX X = ({ X with op := some X.st, did := 0 }, 0) := by unfold beginX; rw [hx]; rfl
  rw [e]
  exact ⟨rfl, h.st, h.st, rfl⟩
theorem tw_begin' {X now tx q} (h : TwM X now tx (some q)) : beginX X = (X, 180) := by
  obtain ⟨l, ix, hx, _⟩ := tw_some h
  unfold beginX; rw [hx]; rfl
theorem tw_commit {X now tx q} (h : TwM X now tx (some q)) : (commitX X).2 = 0 ∧ TwM (commitX X).1 q.y q.tx none := by
  obtain ⟨l, ix, hx, h1, _⟩ := tw_some h
  have e : commitX X = ({ X with st := l, op := none }, 0) := by unfold commitX; rw [hx]
  rw [e]
  exact ⟨rfl, ⟨ix, h1⟩, trivial⟩
theorem tw_commit' {X now tx} (h : TwM X now tx none) : commitX X = (X, 180) := by
  unfold commitX; rw [tw_none h rfl]
theorem tw_abort {X now tx q} (h : TwM X now tx (some q)) : (abortX X).2 = 0 ∧ TwM (abortX X).1 now tx none := by
  obtain ⟨l, ix, hx, h1, _⟩ := tw_some h
  have e : abortX X = ({ X with op := none }, 0) := by unfold abortX; rw [hx]
  rw [e]
  exact ⟨rfl, h.st, trivial⟩
theorem tw_abort' {X now tx} (h : TwM X now tx none) : abortX X = (X, 180) := by
  unfold abortX; rw [tw_none h rfl]
theorem tw_of_tr {X Y X' : MX} {now tx} {Q' : PP} (st : ∃ ix, SimM X.L X.st now tx ix X.puts) (hL : ∀ p, p ≤ X.puts → Y.L p = X.L p) (hp : X.puts ≤ Y.puts) (hs : Y.st = X.st) (t : TrM Y X' Q') : TwM X' now tx (some Q') := by
  obtain ⟨ix, h1⟩ := st
  obtain ⟨l', hx, ⟨ix', h2⟩, h3⟩ := t.op
  refine TwM.mk' ⟨ix, ?_⟩ hx ⟨⟨ix', ?_⟩, h3⟩
  · rw [t.st, t.L, t.puts, hs]
    exact h1.mono hp hL
  · rw [t.L, t.puts]
    exact h2
theorem tw_put {X now tx q} (h : TwM X now tx (some q)) {pl ks : Int} (hp : pkM X pl ks) (h0 : 0 ≤ X.puts) (S P : Int) (str : ByteArray) :
    (putX X S P str).2 = (putP q pl ks S P str).2 ∧ TwM (putX X S P str).1 now tx (some (putP q pl ks S P str).1) ∧ pkM (putX X S P str).1 pl ks := by
  obtain ⟨l, ix, hx, h1, h2⟩ := tw_some h
  obtain ⟨p1, p2, p3⟩ := hp
  have q1 := put_same hx h2 h1 p3 h0 S P str
  rw [p1, p2] at q1
  obtain ⟨e, Y, y1, y2, y3, y4, y5, y6, t⟩ := q1
  exact ⟨e, tw_of_tr h.st y1 y2 y3 t, by rw [t.pl, y4], by rw [t.ks, y5], by rw [t.sz, y6, p3]⟩
theorem tw_do {X now tx q} (h : TwM X now tx (some q)) {pl ks : Int} (hp : pkM X pl ks) (K S P A T N : Int) :
    (doX X K S P A T N).2 = (doP q pl ks K S P A T N).2 ∧ TwM (doX X K S P A T N).1 now tx (some (doP q pl ks K S P A T N).1) ∧ pkM (doX X K S P A T N).1 pl ks := by
  obtain ⟨l, ix, hx, h1, h2⟩ := tw_some h
  obtain ⟨p1, p2, p3⟩ := hp
  have q1 := do_same hx h2 h1 K S P A T N
  rw [p1, p2] at q1
  obtain ⟨e, t⟩ := q1
  exact ⟨e, tw_of_tr h.st (fun _ _ => rfl) (Int.le_refl _) rfl t, by rw [t.pl, p1], by rw [t.ks, p2], by rw [t.sz, p3]⟩
theorem tw_put' {X now tx} (h : TwM X now tx none) (S P : Int) (str : ByteArray) : putX X S P str = (X, 180) := by
  unfold putX; rw [tw_none h rfl]
theorem tw_do' {X now tx} (h : TwM X now tx none) (K S P A T N : Int) : doX X K S P A T N = (X, 180) := by
  unfold doX; rw [tw_none h rfl]
theorem pk_begin {X pl ks} (h : pkM X pl ks) : pkM (beginX X).1 pl ks := by unfold beginX; split <;> exact h
theorem pk_commit {X pl ks} (h : pkM X pl ks) : pkM (commitX X).1 pl ks := by unfold commitX; cases X.op <;> exact h
theorem pk_abort {X pl ks} (h : pkM X pl ks) : pkM (abortX X).1 pl ks := by unfold abortX; cases X.op <;> exact h
theorem puts_begin (X : MX) : (beginX X).1.puts = X.puts := by unfold beginX; split <;> rfl
theorem puts_commit (X : MX) : (commitX X).1.puts = X.puts := by unfold commitX; cases X.op <;> rfl
theorem puts_abort (X : MX) : (abortX X).1.puts = X.puts := by unfold abortX; cases X.op <;> rfl
theorem puts_put (X : MX) (S P : Int) (str : ByteArray) : (putX X S P str).1.puts ≤ X.puts + 1 := by
  unfold putX
  cases X.op with
  | none => simp; omega
  | some l =>
    simp only
    split
    · simp; omega
    · split
      · simp; omega
      · rw [tryX_puts]; simp [moreX]
theorem puts_do (X : MX) (K S P A T N : Int) : (doX X K S P A T N).1.puts ≤ X.puts + 1 := by
  unfold doX
  cases X.op with
  | none => simp; omega
  | some l =>
    simp only
    split
    · simp; omega
    · split
      · simp; omega
      · rw [tryX_puts]; omega
theorem tw_now {X now tx Q} (h : TwM X now tx Q) : match Q with | none => ∃ ix, SimM X.L (nowL X) now tx ix X.puts | some q => ∃ ix, SimM X.L (nowL X) q.y q.tx ix X.puts := by
  cases Q with
  | none =>
    have hx := tw_none h rfl
    obtain ⟨ix, h1⟩ := h.st
    exact ⟨ix, by unfold nowL; rw [hx]; exact h1⟩
  | some q =>
    obtain ⟨l, ix, hx, h1, _⟩ := tw_some h
    exact ⟨ix, by unfold nowL; rw [hx]; exact h1⟩
theorem SimM.layE {L l y tx ix} {n : Int} (ho : SimM L l y tx ix n) (h0 : 0 ≤ n) (S P : Int) : ∃ ix', layA (abl l) S P (n + 1) = (renA (phi ix') (layA y S P (1000 + tx.length)).1, (layA y S P (1000 + tx.length)).2) := by
  obtain ⟨c, hc⟩ : ∃ c : Nat, (c : Int) = n + 1 := ⟨(n + 1).toNat, by omega⟩
  refine ⟨ix ++ [c], ?_⟩
  have hgrow : abl l = renA (phi (ix ++ [c])) y := by
    rw [ho.a]
    refine renA_congr (fun x hx p hp => (phi_more _ ?_).symm)
    have := ho.pls x hx p hp
    rw [ho.ixl]; exact this
  rw [hgrow, ← hc, ← phi_new ix c, ho.ixl]
  exact lay_ren _ _ _ _ _
/-- what is left may be -/
theorem tw_inv {X now tx q} (h : TwM X now tx (some q)) (hi : MxI X) (hp : X.puts ≤ 900) : InvA q.y ∧ q.tx.length ≤ 900 ∧ q.n ≤ 8 ∧ (∀ S P, InvA (layA q.y S P (1000 + q.tx.length)).1) ∧ (∀ K S P A T N, kindB K = true → InvA (apA q.y K S P A T N).1) := by
  obtain ⟨l, ix, hx, h1, h2⟩ := tw_some h
  have hl := hi.op l hx
  have hlen : q.tx.length ≤ 900 := by have := hi.p0; rcases h1.len with e | e <;> omega
  have hy := h1.inv hl hi.p0 (by omega)
  refine ⟨hy, hlen, by have := hi.d1; omega, fun S P => ?_, fun K S P A T N hk => ?_⟩
  · obtain ⟨ix', e⟩ := h1.layE hi.p0 S P
    have q1 := ((hl.mono (show X.puts ≤ X.puts + 1 by omega)).lay S P (p := X.puts + 1) ⟨by have := hi.p0; omega, by omega⟩ (by omega)).inv
    rw [show (⟨(layA (abl l) S P (X.puts + 1)).1.sp, [], []⟩ : Ab) = (layA (abl l) S P (X.puts + 1)).1 from (abl_lay l S P (X.puts + 1)).symm, e] at q1
    exact inv_of_ren q1 (h1.pls.lay S P) (by omega)
  · cases hm : mayB K S P A T N with
    | false =>
      unfold apA
      rw [if_pos hm]
      exact hy
    | true =>
      have q1 := (hl.ap (S := S) (P := P) (A := A) (T := T) (N := N) hm (kindB_or hk)).inv
      rw [show (⟨(apA (abl l) K S P A T N).1.sp, [], []⟩ : Ab) = (apA (abl l) K S P A T N).1 from (abl_ap hm (kindB_or hk)).symm, h1.a, ap_ren _ _ _ _ _ _ _ hk] at q1
      exact inv_of_ren q1 (h1.pls.ap S P A T N hk) (by omega)
end Go.Proofs.Ytacgemibaojbaaa
