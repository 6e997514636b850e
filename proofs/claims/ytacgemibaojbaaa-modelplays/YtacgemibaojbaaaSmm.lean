/-
  The plain device beside the plain transaction (pure): the same, but for the numbers by which pages that are one are known. No condition.
-/
import Derived.Test.YtacgemibaojbaaaSin
namespace Go.Proofs.Ytacgemibaojbaaa
open Go Go.RowKit Go.Maps

/-- of which put a page of the plain one is -/
def phi (ix : List Nat) (a : Int) : Int := (ix.getD (a - 1000).toNat 0 : Int)
def Pls (n : Nat) (t : Ab) : Prop := ∀ x ∈ t.sp, ∀ p ∈ x.ps, 1000 ≤ p.2 ∧ p.2 < 1000 + (n : Int)
theorem phi_inj {ix : List Nat} (hp : ix.Pairwise (· < ·)) {a b : Int} (ha : 1000 ≤ a ∧ a < 1000 + (ix.length : Int)) (hb : 1000 ≤ b ∧ b < 1000 + (ix.length : Int)) (h : phi ix a = phi ix b) : a = b := by
  unfold phi at h
  have e : ix.getD (a - 1000).toNat 0 = ix.getD (b - 1000).toNat 0 := by omega
  have la : (a - 1000).toNat < ix.length := by omega
  have lb : (b - 1000).toNat < ix.length := by omega
  rw [List.getD_eq_getElem?_getD, List.getD_eq_getElem?_getD, List.getElem?_eq_getElem la, List.getElem?_eq_getElem lb] at e
  simp only [Option.getD_some] at e
  rcases Nat.lt_trichotomy (a - 1000).toNat (b - 1000).toNat with q | q | q
  · have := List.pairwise_iff_getElem.1 hp _ _ la lb q; omega
  · omega
  · have := List.pairwise_iff_getElem.1 hp _ _ lb la q; omega
theorem Pls.lv {n : Nat} {t : Ab} (h : Pls n t) : ∀ y ∈ lvA t.sp, 1000 ≤ y.2.2 ∧ y.2.2 < 1000 + (n : Int) := fun y hy => by
  obtain ⟨x, hx, _, hp⟩ := lvA_mem hy
  exact h x hx _ hp
theorem live_phi {ix : List Nat} (hp : ix.Pairwise (· < ·)) {t : Ab} (h : Pls ix.length t) : liveA (renA (phi ix) t) = liveA t :=
  live_ren _ t (fun x hx y hy e => phi_inj hp (h.lv x hx) (h.lv y hy) e)
theorem inv_of_ren {φ : Int → Int} {n : Nat} {t : Ab} (h : InvA (renA φ t)) (hp : Pls n t) (hn : n ≤ 1000) : InvA t := by
  have hm : ∀ x ∈ t.sp, renx φ x ∈ (renA φ t).sp := fun x hx => List.mem_map.2 ⟨x, hx, rfl⟩
  have hq : ∀ {x : Asp} {p : Int × Int}, p ∈ x.ps → (p.1, φ p.2) ∈ (renx φ x).ps := fun {x p} hp => List.mem_map.2 ⟨p, hp, rfl⟩
  refine ⟨fun x hx => h.ids (renx φ x) (hm x hx), fun x hx => h.qs (renx φ x) (hm x hx), fun x hx p hpx => ⟨(h.pss _ (hm x hx) _ (hq hpx)).1, ?_⟩, fun x hx => ?_, ?_, h.bad, h.worn, h.upb, h.upw⟩
  · have := hp x hx p hpx; omega
  · have := h.ups _ (hm x hx)
    unfold Up at this ⊢
    have e : (renx φ x).ps = x.ps.map fun p => (p.1, φ p.2) := rfl
    rw [e, List.pairwise_map] at this
    exact this
  · have := h.up
    unfold UpA at this ⊢
    have e : (renA φ t).sp = t.sp.map (renx φ) := rfl
    rw [e, List.pairwise_map] at this
    exact this
theorem Pls.ap {n : Nat} {t : Ab} (h : Pls n t) {K : Int} (S P A T N : Int) (hK : kindB K = true) : Pls n (apA t K S P A T N).1 := by
  have hk := kindB_or hK
  unfold apA
  by_cases hm : mayB K S P A T N = false
  · rw [if_pos hm]; exact h
  rw [if_neg hm]
  rcases hk with rfl | rfl | rfl | rfl | rfl
  · simp only [Int.reduceEq, if_false, if_true]
    cases hg : gA t.sp S with
    | none => exact h
    | some x =>
      show Pls n (if mget x.ps P = none then _ else _ : Ab × Int).1
      split
      · exact h
      · intro y hy p hp
        rcases mem_sA' hy with rfl | hy
        · exact h x (gA_some hg).1 p (List.mem_filter.1 hp).1
        · exact h y hy p hp
  · simp only [Int.reduceEq, if_false, if_true]
    cases gA t.sp S with
    | some x => exact h
    | none =>
      intro y hy p hp
      rcases mem_iA' hy with rfl | hy
      · cases hp
      · exact h y hy p hp
  · simp only [Int.reduceEq, if_false, if_true]
    cases gA t.sp S with
    | none => exact h
    | some x =>
      intro y hy p hp
      exact h y (List.mem_filter.1 hy).1 p hp
  · simp only [Int.reduceEq, if_false, if_true]
    cases hg : gA t.sp S with
    | none => exact h
    | some x =>
      cases gA t.sp T with
      | some z => exact h
      | none =>
        intro y hy p hp
        rcases mem_iA' hy with rfl | hy
        · exact h x (gA_some hg).1 p hp
        · exact h y hy p hp
  · simp only [Int.reduceEq, if_false, if_true]
    cases hg : gA t.sp S with
    | none => exact h
    | some x =>
      intro y hy p hp
      rcases mem_sA' hy with rfl | hy
      · exact h x (gA_some hg).1 p hp
      · exact h y hy p hp
theorem Pls.lay {n : Nat} {t : Ab} (h : Pls n t) (S P : Int) : Pls (n + 1) (layA t S P (1000 + n)).1 := by
  have up : Pls (n + 1) t := fun x hx p hp => by have := h x hx p hp; omega
  unfold layA
  cases hg : gA t.sp S with
  | none => exact up
  | some x =>
    show Pls (n + 1) (if P < 0 ∨ x.q ≤ P then _ else _ : Ab × Int).1
    split
    · exact up
    · intro y hy p hp
      rcases mem_sA' hy with rfl | hy
      · rcases mem_mput hp with rfl | hp
        · show (1000 : Int) ≤ 1000 + n ∧ _
          omega
        · exact up x (gA_some hg).1 p hp
      · exact up y hy p hp
theorem phi_more {ix : List Nat} (c : Nat) {a : Int} (ha : 1000 ≤ a ∧ a < 1000 + (ix.length : Int)) : phi (ix ++ [c]) a = phi ix a := by
  unfold phi
  have la : (a - 1000).toNat < ix.length := by omega
  rw [List.getD_eq_getElem?_getD, List.getElem?_append_left la, ← List.getD_eq_getElem?_getD]
theorem phi_new (ix : List Nat) (c : Nat) : phi (ix ++ [c]) (1000 + ix.length) = (c : Int) := by
  unfold phi
  rw [show ((1000 : Int) + ix.length - 1000).toNat = ix.length by omega, List.getD_eq_getElem?_getD, List.getElem?_append_right (Nat.le_refl _)]
  simp
/-- spaces of the device, and the plain ones; n: how many puts there were -/
structure SimM (L : Int → ByteArray) (l : List Asp) (y : Ab) (tx : List ByteArray) (ix : List Nat) (n : Int) : Prop where
  ixl : ix.length = tx.length
  ixp : ix.Pairwise (· < ·)
  ixb : ∀ i ∈ ix, 1 ≤ i ∧ (i : Int) ≤ n
  a : abl l = renA (phi ix) y
  pls : Pls tx.length y
  txt : ∀ k, k < tx.length → L (ix.getD k 0 : Nat) = tx.getD k ByteArray.empty
theorem SimM.mono {L L' : Int → ByteArray} {l y tx ix} {n n' : Int} (h : SimM L l y tx ix n) (hn : n ≤ n') (hL : ∀ p, p ≤ n → L' p = L p) : SimM L' l y tx ix n' :=
  ⟨h.ixl, h.ixp, fun i hi => ⟨(h.ixb i hi).1, by have := (h.ixb i hi).2; omega⟩, h.a, h.pls, fun k hk => by
    rw [hL _ (h.ixb _ (getD_in (by rw [h.ixl]; exact hk))).2]
    exact h.txt k hk⟩
theorem idx_le {ix : List Nat} (hp : ix.Pairwise (· < ·)) (h1 : ∀ i ∈ ix, 1 ≤ i) : ∀ (i : Nat) (h : i < ix.length), i + 1 ≤ ix[i]
  | 0, h => h1 _ (List.getElem_mem h)
  | i + 1, h => by
    have h2 := idx_le hp h1 i (by omega)
    have h3 := List.pairwise_iff_getElem.1 hp i (i + 1) (by omega) h (by omega)
    omega
theorem SimM.len {L l y tx ix n} (h : SimM L l y tx ix n) : tx.length = 0 ∨ (tx.length : Int) ≤ n := by
  rw [← h.ixl]
  by_cases h0 : ix.length = 0
  · exact .inl h0
  · right
    have hl : ix.length - 1 < ix.length := by omega
    have h1 := idx_le h.ixp (fun i hi => (h.ixb i hi).1) (ix.length - 1) hl
    have h2 := (h.ixb _ (List.getElem_mem hl)).2
    omega
theorem SimM.len' {L l y tx ix n} (h : SimM L l y tx ix n) (hn0 : 0 ≤ n) (hn : n ≤ 1000) : tx.length ≤ 1000 := by
  rcases h.len with q | q <;> omega
theorem SimM.inv {L l y tx ix n} (h : SimM L l y tx ix n) (hi : InvM n l) (hn0 : 0 ≤ n) (hn : n ≤ 1000) : InvA y := by
  have h1 := hi.inv
  rw [show (⟨l, [], []⟩ : Ab) = abl l from rfl, h.a] at h1
  exact inv_of_ren h1 h.pls (h.len' hn0 hn)
theorem SimM.start (L : Int → ByteArray) (n : Int) : SimM L [] ⟨[], [], []⟩ [] [] n :=
  ⟨rfl, List.Pairwise.nil, (fun i hi => by cases hi), rfl, (fun x hx => by cases hx), (fun k hk => absurd hk (Nat.not_lt_zero k))⟩
theorem fitB_iff (pl ks : Int) (t : Ab) : fitB pl ks t = false ↔ (pl < (liveA t : Int) ∨ ks < (pagesN t.sp : Int)) := by
  unfold fitB
  rw [Bool.and_eq_false_iff, decide_eq_false_iff_not, decide_eq_false_iff_not]
  omega
/-- a device and the plain one: what stands, what is open -/
structure TwM (X : MX) (now : Ab) (tx : List ByteArray) (Q : Option PP) : Prop where
  st : ∃ ix, SimM X.L X.st now tx ix X.puts
  op : match X.op, Q with
    | none, none => True
    | some l, some q => (∃ ix, SimM X.L l q.y q.tx ix X.puts) ∧ (q.n : Int) = X.did
    | _, _ => False
theorem TwM.cases {X now tx Q} (h : TwM X now tx Q) : (X.op = none ∧ Q = none) ∨ ∃ l q, X.op = some l ∧ Q = some q ∧ (∃ ix, SimM X.L l q.y q.tx ix X.puts) ∧ (q.n : Int) = X.did := by
  have ho := h.op
  cases hx : X.op with
  | none =>
    cases hq : Q with
    | none => exact .inl ⟨rfl, rfl⟩
    | some q => rw [hx, hq] at ho; exact ho.elim
  | some l =>
    cases hq : Q with
    | none => rw [hx, hq] at ho; exact ho.elim
    | some q => rw [hx, hq] at ho; exact .inr ⟨l, q, rfl, rfl, ho⟩
theorem TwM.mk' {X now tx l q} (st : ∃ ix, SimM X.L X.st now tx ix X.puts) (hx : X.op = some l) (h : (∃ ix, SimM X.L l q.y q.tx ix X.puts) ∧ (q.n : Int) = X.did) : TwM X now tx (some q) :=
  ⟨st, by rw [hx]; exact h⟩
/-- what a try leaves of a device -/
structure TrM (X X' : MX) (Q' : PP) : Prop where
  st : X'.st = X.st
  L : X'.L = X.L
  puts : X'.puts = X.puts
  pl : X'.pl = X.pl
  ks : X'.ks = X.ks
  sz : X'.sz = X.sz
  op : ∃ l', X'.op = some l' ∧ (∃ ix, SimM X.L l' Q'.y Q'.tx ix X.puts) ∧ (Q'.n : Int) = X'.did
theorem TrM.same {X : MX} {l : List Asp} {Q : PP} {ix : List Nat} (hx : X.op = some l) (ho : SimM X.L l Q.y Q.tx ix X.puts) (hn : (Q.n : Int) = X.did) : TrM X X Q :=
  ⟨rfl, rfl, rfl, rfl, rfl, rfl, l, hx, ⟨ix, ho⟩, hn⟩
/-- what the tries of both come to -/
theorem try_same {X : MX} {l : List Asp} {Q : PP} {ix : List Nat} (hx : X.op = some l) (hn : (Q.n : Int) = X.did) (ho : SimM X.L l Q.y Q.tx ix X.puts) {R : Ab × Int} {tx' : List ByteArray} {ix' : List Nat}
    (hb : SimM X.L (renA (phi ix') R.1).sp R.1 tx' ix' X.puts) : (tryX X (renA (phi ix') R.1, R.2)).2 = (stepP Q X.pl X.ks R tx').2 ∧ TrM X (tryX X (renA (phi ix') R.1, R.2)).1 (stepP Q X.pl X.ks R tx').1 := by
  have same := TrM.same hx ho hn
  unfold tryX stepP
  by_cases h8 : 8 ≤ Q.n
  · rw [if_pos (by omega), if_pos h8]; exact ⟨rfl, same⟩
  rw [if_neg (by omega), if_neg h8]
  simp only
  by_cases h0 : R.2 ≠ 0
  · rw [if_pos h0, if_pos h0]; exact ⟨rfl, same⟩
  rw [if_neg h0, if_neg h0]
  have hlive := live_phi hb.ixp (t := R.1) (by rw [hb.ixl]; exact hb.pls)
  have hpg : pagesN (renA (phi ix') R.1).sp = pagesN R.1.sp := pages_ren _ _
  by_cases h5 : X.pl < (liveA R.1 : Int) ∨ X.ks < (pagesN R.1.sp : Int)
  · rw [if_pos ((fitB_iff _ _ _).2 (by rw [hlive, hpg]; exact h5)), if_pos h5]; exact ⟨rfl, same⟩
  rw [if_neg (fun q => h5 (by have := (fitB_iff _ _ _).1 q; rw [hlive, hpg] at this; exact this)), if_neg h5]
  exact ⟨rfl, rfl, rfl, rfl, rfl, rfl, rfl, _, rfl, ⟨ix', hb⟩, by show ((Q.n + 1 : Nat) : Int) = X.did + 1; omega⟩
theorem updL_old (L : Int → ByteArray) (n : Int) (s : ByteArray) : ∀ p, p ≤ n → updL L (n + 1) s p = L p := fun p hp => by unfold updL; rw [if_neg (by omega)]
/-- a page that is put -/
theorem put_same {X : MX} {l : List Asp} {Q : PP} {ix : List Nat} (hx : X.op = some l) (hn : (Q.n : Int) = X.did) (ho : SimM X.L l Q.y Q.tx ix X.puts) (hs : X.sz = 64) (h0 : 0 ≤ X.puts) (S P : Int) (str : ByteArray) :
    (putX X S P str).2 = (putP Q X.pl X.ks S P str).2 ∧ ∃ Y, (∀ p, p ≤ X.puts → Y.L p = X.L p) ∧ X.puts ≤ Y.puts ∧ Y.st = X.st ∧ Y.pl = X.pl ∧ Y.ks = X.ks ∧ Y.sz = X.sz ∧ TrM Y (putX X S P str).1 (putP Q X.pl X.ks S P str).1 := by
  have same := TrM.same hx ho hn
  unfold putX putP
  rw [hx, hs]
  simp only
  by_cases h1 : (64 : Int) < (str.size : Int)
  · rw [if_pos h1, if_pos h1]; exact ⟨rfl, X, fun _ _ => rfl, Int.le_refl _, rfl, rfl, rfl, hs, same⟩
  rw [if_neg h1, if_neg h1, show clA (abl l) S = clA Q.y S by rw [ho.a]; exact cl_ren _ _ _]
  by_cases h2 : clA Q.y S ≠ 0
  · rw [if_pos h2, if_pos h2]; exact ⟨rfl, X, fun _ _ => rfl, Int.le_refl _, rfl, rfl, rfl, hs, same⟩
  rw [if_neg h2, if_neg h2]
  obtain ⟨c, hc⟩ : ∃ c : Nat, (c : Int) = X.puts + 1 := ⟨(X.puts + 1).toNat, by omega⟩
  have hpair : (ix ++ [c]).Pairwise (· < ·) := by
    rw [List.pairwise_append]
    refine ⟨ho.ixp, List.pairwise_singleton _ _, fun a ha b hb => ?_⟩
    rw [List.mem_singleton.1 hb]
    have := (ho.ixb a ha).2
    omega
  have hlen : (ix ++ [c]).length = (Q.tx ++ [str]).length := by rw [List.length_append, List.length_append, ho.ixl]; rfl
  have hgrow : abl l = renA (phi (ix ++ [c])) Q.y := by
    rw [ho.a]
    refine renA_congr (fun x hx p hp => (phi_more _ ?_).symm)
    have := ho.pls x hx p hp
    rw [ho.ixl]; exact this
  have e1 : layA (abl l) S P (X.puts + 1) = (renA (phi (ix ++ [c])) (layA Q.y S P (1000 + Q.tx.length)).1, (layA Q.y S P (1000 + Q.tx.length)).2) := by
    rw [hgrow, ← hc, ← phi_new ix c, ho.ixl]
    exact lay_ren _ _ _ _ _
  have hP := ho.pls.lay S P
  have hab := abl_lay l S P (X.puts + 1)
  rw [e1] at hab
  rw [e1]
  simp only at hab
  have hoY : SimM (moreX X str).L l Q.y Q.tx ix (moreX X str).puts := ho.mono (by show X.puts ≤ X.puts + 1; omega) (updL_old X.L X.puts str)
  have hbY : SimM (moreX X str).L (renA (phi (ix ++ [c])) (layA Q.y S P (1000 + Q.tx.length)).1).sp (layA Q.y S P (1000 + Q.tx.length)).1 (Q.tx ++ [str]) (ix ++ [c]) (moreX X str).puts := by
    refine ⟨hlen, hpair, fun i hi => ?_, hab.symm, ?_, fun k hk => ?_⟩
    · rcases List.mem_append.1 hi with q | q
      · have := ho.ixb i q
        show 1 ≤ i ∧ (i : Int) ≤ X.puts + 1
        omega
      · rw [List.mem_singleton.1 q]
        show 1 ≤ c ∧ (c : Int) ≤ X.puts + 1
        omega
    · rw [List.length_append]; exact hP
    · have hk' : k < Q.tx.length + 1 := by rw [List.length_append] at hk; exact hk
      show updL X.L (X.puts + 1) str _ = _
      by_cases hk2 : k < Q.tx.length
      · have hk3 : k < ix.length := by rw [ho.ixl]; exact hk2
        rw [getD_snoc ix _ _ hk3, getD_snoc Q.tx _ _ hk2, updL_old _ _ _ _ (ho.ixb _ (getD_in hk3)).2]
        exact ho.txt k hk2
      · have hk3 : k = Q.tx.length := by omega
        subst hk3
        rw [getD_last, show (ix ++ [c]).getD Q.tx.length 0 = c by rw [← ho.ixl]; exact getD_last _ _ _, hc]
        unfold updL
        rw [if_pos rfl]
  have q := try_same (X := moreX X str) (l := l) hx hn hoY hbY
  exact ⟨q.1, moreX X str, updL_old X.L X.puts str, by show X.puts ≤ X.puts + 1; omega, rfl, rfl, rfl, hs, q.2⟩
/-- a record that is done -/
theorem do_same {X : MX} {l : List Asp} {Q : PP} {ix : List Nat} (hx : X.op = some l) (hn : (Q.n : Int) = X.did) (ho : SimM X.L l Q.y Q.tx ix X.puts) (K S P A T N : Int) :
    (doX X K S P A T N).2 = (doP Q X.pl X.ks K S P A T N).2 ∧ TrM X (doX X K S P A T N).1 (doP Q X.pl X.ks K S P A T N).1 := by
  have same := TrM.same hx ho hn
  unfold doX doP
  rw [hx]
  simp only
  by_cases h1 : (kindB K && mayB K S P A T N) = false
  · rw [if_pos h1, if_pos h1]; exact ⟨rfl, same⟩
  rw [if_neg h1, if_neg h1, show clA (abl l) S = clA Q.y S by rw [ho.a]; exact cl_ren _ _ _]
  by_cases h2 : K = 2 ∧ clA Q.y S ≠ 0
  · rw [if_pos h2, if_pos h2]; exact ⟨rfl, same⟩
  rw [if_neg h2, if_neg h2]
  have h1' : kindB K = true ∧ mayB K S P A T N = true := by
    cases hb : kindB K <;> cases hm : mayB K S P A T N <;> simp_all
  have e1 : apA (abl l) K S P A T N = (renA (phi ix) (apA Q.y K S P A T N).1, (apA Q.y K S P A T N).2) := by
    rw [ho.a]
    exact ap_ren _ _ _ _ _ _ _ h1'.1
  have hab := abl_ap (l := l) (S := S) (P := P) (A := A) (T := T) (N := N) h1'.2 (kindB_or h1'.1)
  rw [e1] at hab
  rw [e1]
  simp only at hab
  exact try_same hx hn ho ⟨ho.ixl, ho.ixp, ho.ixb, hab.symm, ho.pls.ap S P A T N h1'.1, ho.txt⟩
end Go.Proofs.Ytacgemibaojbaaa
