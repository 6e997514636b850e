/-
  Pages that were told as written, whatever fails: what a writer, its chip and they know of each other. Pure, but for the last. Pages that were told as written: what erasures leave of them, and a block that is let be full; Append of a text that is too long. No condition. What WriteReads keeps beside its writer: what was said, and which pages it has. No condition.
-/
import Derived.Test.YtbcnocbdifbocaaDoorErs
namespace Go.Proofs.YtbcnocbdifbocaaDoor
open Go Go.RowKit

set_option maxRecDepth 100000

/-- H: the pages that were told, with what they say; nothing cuts the power -/
structure Wc (X : Wx) (H : Nat → Nat → Option ByteArray) (K : Nat) : Prop where
  fin : Fin X
  cuts : ∀ i, X.C.cuts i = none
  live : ∀ b, b < X.C.B → X.xs.getD b 0 ≠ 3 → X.C.dead b = false
  had : ∀ b p t, H b p = some t → b < X.C.B ∧ p < X.C.P ∧ X.xs.getD b 0 ≠ 0 ∧ (X.xs.getD b 0 = 1 → (p : Int) < X.nx) ∧ ∃ n W, Says X.C b p t 1 n 0 1 W
  wo : ∀ i, 0 ≤ X.C.worn i ∧ X.C.worn i ≤ K
  wnb : ∀ i, X.wn.getD i 0 ≤ K
theorem Wc.beg (b p z : Nat) (fl : List Int) (hz : z ≤ 256) : Wc (begX b p z [] fl) (fun _ _ => none) 0 := by
  have hr : ∀ i, (List.replicate b (0 : Int)).getD i 0 = 0 := fun i => by
    by_cases h : i < b <;> simp [List.getD_eq_getElem?_getD, h]
  exact ⟨Fin.beg b p z [] fl hz, fun _ => rfl, fun _ _ _ => by simp [begX, begC, newC], fun _ _ _ h => by simp at h, fun _ => ⟨Int.le_refl _, Int.le_refl _⟩, fun i => by show (List.replicate b (0 : Int)).getD i 0 ≤ _; rw [hr]; omega⟩
theorem Wc.more {X : Wx} {H K} (h : Wc X H K) {K' : Nat} (hk : K ≤ K') : Wc X H K' := ⟨h.fin, h.cuts, h.live, h.had, fun i => by have := h.wo i; omega, fun i => by have := h.wnb i; omega⟩
/-- a page that is taken was not told -/
theorem Wc.fresh {X : Wx} {H K} (h : Wc X H K) (ok : Lf.Ok X.C.B X.C.P X.xs X.o X.nx) {b : Nat} {X1 : Wx} {q : Nat} (ht : Tk X b X1 q) : H b q = none := by
  cases e : H b q with
  | none => rfl
  | some t =>
    exfalso
    obtain ⟨_, _, h3, h4, _⟩ := h.had b q t e
    rcases ht with ⟨h1, _, h2⟩ | ⟨_, h1, _⟩
    · have := h4 (ok.open_at b h1).2
      omega
    · exact h3 h1.free
/-- of the block of which a page is taken only pages ahead of it were told -/
theorem Wc.ahead {X : Wx} {H K} (h : Wc X H K) (ok : Lf.Ok X.C.B X.C.P X.xs X.o X.nx) {b : Nat} {X1 : Wx} {q p : Nat} {t : ByteArray} (ht : Tk X b X1 q) (e : H b p = some t) : p < q := by
  obtain ⟨_, _, h3, h4, _⟩ := h.had b p t e
  rcases ht with ⟨h1, _, h2⟩ | ⟨_, h1, _⟩
  · have := h4 (ok.open_at b h1).2
    omega
  · exact absurd h1.free h3
def setH (H : Nat → Nat → Option ByteArray) (b q : Nat) (s : ByteArray) : Nat → Nat → Option ByteArray := fun i p => if i = b ∧ p = q then some s else H i p
theorem Wc.put {X : Wx} {H K} (h : Wc X H K) (ok : Lf.Ok X.C.B X.C.P X.xs X.o X.nx) {b : Nat} {X1 : Wx} {q : Nat} (ht : Tk X b X1 q) (n : Nat) (hn : n < 18446744073709551616) (s : ByteArray) (hs : s.size ≤ X.C.Z) : Wc (X1.put b q n s) (setH H b q s) K := by
  obtain ⟨hb, hl, hnx, hxs, _, _, hq, _⟩ := ht.xs ok
  obtain ⟨e1, e2, e3⟩ := ht.C
  have cB : (X1.put b q n s).C.B = X.C.B := by show X1.C.B = X.C.B; rw [e1]
  have cP : (X1.put b q n s).C.P = X.C.P := by show X1.C.P = X.C.P; rw [e1]
  have hx0 : X.xs.getD b 0 ≠ 3 := by
    rcases ht with ⟨h1, _⟩ | ⟨_, h1, _⟩
    · rw [(ok.open_at b h1).2]; decide
    · rw [h1.free]; decide
  refine ⟨h.fin.put ok ht n s, fun i => by show X1.C.cuts i = none; rw [e1]; exact h.cuts i, fun i hi hx => ?_, fun i p t e => ?_, fun i => by show 0 ≤ X1.C.worn i ∧ X1.C.worn i ≤ K; rw [e1]; exact h.wo i, fun i => by show X1.wn.getD i 0 ≤ K; rw [e2]; exact h.wnb i⟩
  · rw [cB] at hi
    have hx' : X1.xs.getD i 0 ≠ 3 := hx
    rw [hxs i] at hx'
    show X1.C.dead i = false
    rw [e1]
    by_cases e : i = b
    · subst e; exact h.live i hi hx0
    · rw [if_neg e] at hx'; exact h.live i hi hx'
  · unfold setH at e
    rw [cB, cP]
    show _ ∧ _ ∧ X1.xs.getD i 0 ≠ 0 ∧ (X1.xs.getD i 0 = 1 → (p : Int) < X1.nx) ∧ _
    rw [hxs i, hnx]
    by_cases e0 : i = b ∧ p = q
    · rw [if_pos e0] at e
      obtain ⟨rfl, rfl⟩ := e0
      simp only [Option.some.injEq] at e
      subst e
      refine ⟨hb, by omega, ?_, fun _ => by omega, n, _, put_says X1 i p n s (by rw [e2]; exact h.fin.cnt i) (by rw [e1]; exact h.fin.geo) hn (by rw [e1]; exact hs)⟩
      rw [if_pos rfl]
      split <;> decide
    · rw [if_neg e0] at e
      obtain ⟨h1, h2, h3, h4, n', W, h5⟩ := h.had i p t e
      refine ⟨h1, h2, ?_, fun hx => ?_, n', W, put_says_other X1 b q n s (by rw [e1]; exact h5) e0⟩
      · by_cases ei : i = b
        · rw [if_pos ei]; split <;> decide
        · rw [if_neg ei]; exact h3
      · by_cases ei : i = b
        · subst ei
          have := h.ahead ok ht e
          omega
        · rw [if_neg ei] at hx
          exact absurd hx (ht.others ok h1 ei)
/-- a page could not be written, and its block is bad -/
def Wx.failed (X : Wx) (b q : Nat) : Wx := { X with C := { putPg { X.C with did := X.C.did + 1, dead := upd X.C.dead b true } b q (rep (X.C.Z + 32) 0) with did := X.C.did + 1 + 1, mark := upd X.C.mark b true }, xs := X.xs.set b 3, o := -1, bd := note X.bd b }
theorem Wc.fails {X : Wx} {H K} (h : Wc X H K) (ok : Lf.Ok X.C.B X.C.P X.xs X.o X.nx) {b : Nat} {X1 : Wx} {p : Int} (ht : Tk X b X1 p) (n : Nat) (hn : n < 18446744073709551616) (s : ByteArray) (hs : s.size ≤ X.C.Z) (hf : X.C.fails (X.C.did + 1) = true) :
    ∃ q : Nat, p = (q : Int) ∧ q < X.C.P ∧ X1.prE b p 1 n 0 1 s = 53 ∧ (X1.prX b p 1 n 0 1 s).leaveE b 53 = 0 ∧ (X1.prX b p 1 n 0 1 s).leave b 53 = X1.failed b q := by
  obtain ⟨hb, q, rfl, hq, hde, hpg⟩ := h.fin.tk ok ht
  obtain ⟨_, hl, _, hxs, ho, _, _, _⟩ := ht.xs ok
  obtain ⟨e1, e2, _⟩ := ht.C
  have hv := fr_val X1 b n s (by rw [e2]; exact h.fin.cnt b) (by rw [e1]; exact h.fin.geo) hn (by rw [e1]; exact hs)
  have hp := pr_fail (C := X1.C) (b := b) (p := q) (d := frD X1 s) (s := frS X1 b 1 n 0 1 s) (by rw [e1]; exact h.fin.off) (by rw [e1]; exact hb) (by rw [e1]; exact hq) hv.2.1 hv.2.2 (by rw [e1]; exact hpg) (by rw [e1]; exact h.cuts _) (by rw [e1]; exact hf)
  have hm : ∀ (C : Ch), C.off = false → b < C.B → (∀ i, C.cuts i = none) → markC C b = ({ C with did := C.did + 1, mark := upd C.mark b true }, 0) := by
    intro C h1 h2 h3
    unfold markC
    rw [if_pos (refB_ok h1 h2), h3, Int.toNat_natCast]
  have hX : X1.prX b q 1 n 0 1 s = { X1 with C := putPg { X1.C with did := X1.C.did + 1, dead := upd X1.C.dead b true } b q (rep (X1.C.Z + 32) 0) } := by unfold Wx.prX; rw [hp]
  have hmk := hm (putPg { X1.C with did := X1.C.did + 1, dead := upd X1.C.dead b true } b q (rep (X1.C.Z + 32) 0)) (by show X1.C.off = false; rw [e1]; exact h.fin.off) (by show b < X1.C.B; rw [e1]; exact hb) (by intro i; show X1.C.cuts i = none; rw [e1]; exact h.cuts i)
  have hx3 : ¬ X1.xs.getD b 0 = 3 := by
    rw [hxs b, if_pos rfl]; split <;> decide
  refine ⟨q, rfl, hq, ?_, ?_, ?_⟩
  · unfold Wx.prE; rw [hp]
  · unfold Wx.leaveE; rw [hX, if_pos rfl]; simp only; rw [hmk]
  · unfold Wx.leave Wx.retire Wx.letB letX letO Wx.failed
    rw [hX, if_pos rfl]
    simp only
    rw [hmk, if_neg hx3, if_neg hx3, ho]
    have : (if (if ((q : Nat) : Int) + 1 = ↑X.C.P then (-1 : Int) else (b : Int)) = (b : Int) then (-1 : Int) else if ((q : Nat) : Int) + 1 = ↑X.C.P then (-1 : Int) else (b : Int)) = -1 := by
      split <;> simp_all
    rw [this]
    rfl
theorem Says.same {C C' : Ch} {b p : Nat} {t : ByteArray} {K S I O W : Nat} (h : Says C b p t K S I O W) (e1 : C'.pg b p = C.pg b p) (e2 : C'.Z = C.Z) : Says C' b p t K S I O W := by
  obtain ⟨d, s, h1, h2, h3⟩ := h
  exact ⟨d, s, e1.trans h1, h2.trans e2.symm, h3⟩
theorem Wc.failed {X : Wx} {H K} (h : Wc X H K) (ok : Lf.Ok X.C.B X.C.P X.xs X.o X.nx) {b : Nat} {X1 : Wx} {q : Nat} (ht : Tk X b X1 q) : Wc (X1.failed b q) H K := by
  obtain ⟨hb, hl, hnx, hxs, _, _, hq, _⟩ := ht.xs ok
  obtain ⟨e1, e2, e3⟩ := ht.C
  have cB : (X1.failed b q).C.B = X.C.B := by show X1.C.B = X.C.B; rw [e1]
  have cP : (X1.failed b q).C.P = X.C.P := by show X1.C.P = X.C.P; rw [e1]
  have cZ : (X1.failed b q).C.Z = X.C.Z := by show X1.C.Z = X.C.Z; rw [e1]
  have fx : ∀ i, (X1.failed b q).xs.getD i 0 = if i = b then 3 else X.xs.getD i 0 := fun i => by
    show (X1.xs.set b 3).getD i 0 = _
    rw [Lf.getD_set X1.xs i b 3 (by omega)]
    by_cases e : i = b
    · rw [if_pos e, if_pos e]
    · rw [if_neg e, if_neg e, hxs i, if_neg e]
  have fd : ∀ i, (X1.failed b q).C.dead i = if i = b then true else X.C.dead i := fun i => by
    show upd X1.C.dead b true i = _
    unfold upd
    rw [e1]
  have fp : ∀ i p, ¬ (i = b ∧ p = q) → (X1.failed b q).C.pg i p = X.C.pg i p := fun i p hne => by
    show (putPg _ b q _).pg i p = _
    rw [putPg_pg, if_neg hne]
    show X1.C.pg i p = _
    rw [e1]
  have hwn : (X1.failed b q).wn = X.wn := e2
  refine ⟨⟨by show X1.C.off = false; rw [e1]; exact h.fin.off, fun i hi hx => ?_, fun i hi hx => ?_, fun i => by rw [hwn]; exact h.fin.cnt i, by rw [cZ]; exact h.fin.geo⟩, fun i => by show X1.C.cuts i = none; rw [e1]; exact h.cuts i, fun i hi hx => ?_, fun i p t e => ?_, fun i => by show 0 ≤ X1.C.worn i ∧ X1.C.worn i ≤ K; rw [e1]; exact h.wo i, fun i => by rw [hwn]; exact h.wnb i⟩
  · rw [cB] at hi
    rw [fx] at hx
    by_cases e : i = b
    · rw [if_pos e] at hx; omega
    · rw [if_neg e] at hx
      obtain ⟨d1, d2⟩ := h.fin.free i hi hx
      exact ⟨by rw [fd, if_neg e]; exact d1, fun p hp => by rw [fp i p (fun x => e x.1)]; exact d2 p (by rw [← cP]; exact hp)⟩
  · rw [cB] at hi
    rw [fx] at hx
    by_cases e : i = b
    · rw [if_pos e] at hx; omega
    · rw [if_neg e] at hx
      exact absurd hx (ht.others ok hi e)
  · rw [cB] at hi
    rw [fx] at hx
    by_cases e : i = b
    · rw [if_pos e] at hx; exact absurd rfl hx
    · rw [if_neg e] at hx
      rw [fd, if_neg e]
      exact h.live i hi hx
  · obtain ⟨h1, h2, h3, h4, n', W, h5⟩ := h.had i p t e
    have hne : ¬ (i = b ∧ p = q) := by
      rintro ⟨rfl, rfl⟩
      rw [h.fresh ok ht] at e
      cases e
    rw [cB, cP, fx]
    refine ⟨h1, h2, ?_, fun hx => ?_, n', W, h5.same (fp i p hne) cZ⟩
    · split
      · decide
      · exact h3
    · by_cases ei : i = b
      · rw [if_pos ei] at hx; omega
      · rw [if_neg ei] at hx; exact absurd hx (ht.others ok h1 ei)
theorem left_failed {X : Wx} (ok : Lf.Ok X.C.B X.C.P X.xs X.o X.nx) {b : Nat} {X1 : Wx} {p : Int} (h : Tk X b X1 p) : left (X1.xs.set b 3) = left X.xs - 1 := by
  have hl := ok.len
  have hb := (h.xs ok).1
  have hx0 : X.xs.getD b 0 = 0 ∨ X.xs.getD b 0 = 1 := by
    rcases h with ⟨h1, _⟩ | ⟨_, h1, _⟩
    · exact .inr (ok.open_at b h1).2
    · exact .inl h1.free
  have h1 : X1.xs.set b 3 = X.xs.set b 3 := by
    rcases h with ⟨_, rfl, _⟩ | ⟨_, _, rfl, _⟩
    · show (Lf.tkX X.C.P X.xs b X.nx).set b 3 = X.xs.set b 3
      unfold Lf.tkX
      split
      · exact List.set_set ..
      · rfl
    · show (Lf.tkX X.C.P (X.xs.set b 1) b 0).set b 3 = X.xs.set b 3
      unfold Lf.tkX
      split
      · rw [List.set_set, List.set_set]
      · exact List.set_set ..
  rw [h1]
  unfold left
  rw [Lf.cnt_set X.xs b (by omega) 3 0, Lf.cnt_set X.xs b (by omega) 3 1, if_neg (show ¬ (3 : Int) = 0 by decide), if_neg (show ¬ (3 : Int) = 1 by decide)]
  rcases hx0 with e | e <;> rw [e] <;> simp <;> omega
theorem left_nonneg (xs : List Int) : 0 ≤ left xs ∧ left xs ≤ 2 * xs.length := by
  unfold left; have h0 := Lf.cnt_range xs 0; have h1 := Lf.cnt_range xs 1; omega
theorem note_len (l : List Int) (b : Int) : (note l b).length ≤ l.length + 1 := by unfold note; split <;> simp
/-- what Append answers, whatever fails -/
def WQ (H : Nat → Nat → Option ByteArray) (K B P : Nat) (D : Int) (s : ByteArray) (pl er : Int) (Y : Wx) : Prop :=
  (er = 130 ∧ Wc Y H K ∨ er = 0 ∧ ∃ b q : Nat, b < B ∧ q < P ∧ pl = (b : Int) * (P : Int) + q ∧ H b q = none ∧ Wc Y (setH H b q s) K) ∧ Y.C.did ≤ D + 1 ∧ (Y.bd.length : Int) ≤ D
theorem append_w {w : World} {A X} (h : Wtr w A X) (hT : Pg.Tab w) {H K} (hW : Wc X H K) (n : Nat) (hn : n < 18446744073709551616) (s : ByteArray) (hs : s.size ≤ X.C.Z) (D : Int) (hD : D ≤ 80000) (hd : X.C.did + 2 * left X.xs ≤ D) (hl : (X.bd.length : Int) + left X.xs ≤ D) (W0 : Int) :
    Calls Tryd.prog 18 #[.pointer (some ⟨A.a, 0, none⟩), Pg.tagV 1 n 0 1 W0, .string s] w fun e w' => ∃ pl er X' A', e = .returned (.tuple #[.int .i64 pl, .int .i64 er]) ∧ WQ H K X.C.B X.C.P D s pl er X' ∧ Geq X' X ∧ Wtr w' A' X' ∧ Nxt A A' X.C.B w w' := by
  refine append_any h hT (fun Y => Wc Y H K ∧ Y.C.did + 2 * left Y.xs ≤ D ∧ (Y.bd.length : Int) + left Y.xs ≤ D ∧ Geq Y X) (WQ H K X.C.B X.C.P D s) 1 n 0 1 W0 s ⟨hW, hd, hl, rfl, rfl, rfl⟩ ⟨?_, ?_, ?_, ?_, ?_⟩
  · rintro Y ⟨j1, j2, j3, j4⟩
    have := left_nonneg Y.xs
    exact ⟨by omega, fun i _ => j1.fin.may i, by rw [j4.2.2]; exact hs, by omega⟩
  · rintro Y ⟨j1, j2, j3, j4⟩ _ _ _
    have := left_nonneg Y.xs
    exact ⟨.inl ⟨rfl, j1⟩, by omega, by omega⟩
  · rintro Y b X1 p ⟨j1, j2, j3, j4⟩ ok _ _ _ ht he
    have hln := left_nonneg Y.xs
    obtain ⟨e1, e2, e3⟩ := ht.C
    cases hf : Y.C.fails (Y.C.did + 1) with
    | true =>
      exfalso
      obtain ⟨q, rfl, _, h1, _⟩ := j1.fails ok ht n hn s (by rw [j4.2.2]; exact hs) hf
      rw [h1] at he
      exact absurd he (by decide)
    | false =>
      obtain ⟨q, rfl, hq, hb, _, hx⟩ := j1.fin.wrote ok ht n hn s (by rw [j4.2.2]; exact hs) (j1.cuts _) hf
      rw [hx]
      refine ⟨.inr ⟨rfl, b, q, by rw [← j4.1]; exact hb, by rw [← j4.2.1]; exact hq, by rw [j4.2.1], j1.fresh ok ht, j1.put ok ht n hn s (by rw [j4.2.2]; exact hs)⟩, ?_, ?_⟩
      · show X1.C.did + 1 ≤ D + 1; rw [e1]; omega
      · show (X1.bd.length : Int) ≤ D; rw [e3]; omega
  · rintro Y b X1 p ⟨j1, j2, j3, j4⟩ ok _ _ _ ht he hne
    exfalso
    cases hf : Y.C.fails (Y.C.did + 1) with
    | true =>
      obtain ⟨q, rfl, _, h1, h2, _⟩ := j1.fails ok ht n hn s (by rw [j4.2.2]; exact hs) hf
      rw [h1] at hne
      exact hne h2
    | false =>
      obtain ⟨q, rfl, hq, hb, h0, hx⟩ := j1.fin.wrote ok ht n hn s (by rw [j4.2.2]; exact hs) (j1.cuts _) hf
      exact he h0
  · rintro Y b X1 p ⟨j1, j2, j3, j4⟩ ok _ _ _ ht he hne
    obtain ⟨e1, e2, e3⟩ := ht.C
    cases hf : Y.C.fails (Y.C.did + 1) with
    | true =>
      obtain ⟨q, rfl, _, h1, h2, h3⟩ := j1.fails ok ht n hn s (by rw [j4.2.2]; exact hs) hf
      rw [h1, h3]
      have hlf := left_failed ok ht
      have hnl := note_len X1.bd b
      rw [e3] at hnl
      refine ⟨j1.failed ok ht, ?_, ?_, ?_⟩
      · show X1.C.did + 1 + 1 + 2 * left (X1.xs.set b 3) ≤ D; rw [hlf, e1]; omega
      · show ((note X1.bd b).length : Int) + left (X1.xs.set b 3) ≤ D; rw [hlf, e3]; omega
      · refine geq_trans (?_ : Geq _ Y) j4
        exact ⟨by show X1.C.B = _; rw [e1], by show X1.C.P = _; rw [e1], by show X1.C.Z = _; rw [e1]⟩
    | false =>
      obtain ⟨q, rfl, hq, hb, h0, hx⟩ := j1.fin.wrote ok ht n hn s (by rw [j4.2.2]; exact hs) (j1.cuts _) hf
      exact absurd h0 he
set_option maxRecDepth 100000

/-- of a block the first so many pages are no more told -/
def clrJ (H : Nat → Nat → Option ByteArray) (b j : Nat) : Nat → Nat → Option ByteArray := fun i p => if i = b ∧ p < j then none else H i p
theorem clrJ_zero (H : Nat → Nat → Option ByteArray) (b : Nat) : clrJ H b 0 = H := by
  funext i p
  unfold clrJ
  rw [if_neg (by omega)]
theorem Wc.era {X : Wx} {H K} (h : Wc X H K) {b : Nat} (hb : b < X.C.B) (hl : X.xs.length = X.C.B) (hw : X.wn.length = X.C.B) (h3 : X.xs.getD b 0 ≠ 3) (hK : K < 1000) : Wc (X.era b) (clrJ H b X.C.P) (K + 1) := by
  have hx : ∀ i, (X.era b).xs.getD i 0 = if i = b then 0 else X.xs.getD i 0 := era_xs (by omega)
  have hwn : ∀ i, (X.era b).wn.getD i 0 = if i = b then X.wn.getD b 0 + 1 else X.wn.getD i 0 := era_wn (by omega)
  have hwb := h.wnb b
  refine ⟨h.fin.era (by omega) (by omega) (h.live b hb h3) (by omega), h.cuts, fun i hi hx' => ?_, fun i p t e => ?_, fun i => ?_, fun i => ?_⟩
  · rw [hx] at hx'
    by_cases e : i = b
    · subst e; exact h.live i hb h3
    · rw [if_neg e] at hx'; exact h.live i hi hx'
  · unfold clrJ at e
    by_cases e0 : i = b ∧ p < X.C.P
    · rw [if_pos e0] at e; cases e
    · rw [if_neg e0] at e
      obtain ⟨h1, h2, h3', h4, n, W, h5⟩ := h.had i p t e
      have hne : i ≠ b := fun x => e0 ⟨x, h2⟩
      rw [hx, if_neg hne]
      exact ⟨h1, h2, h3', h4, n, W, era_says h5 hne⟩
  · show 0 ≤ upd X.C.worn b (X.C.worn b + 1) i ∧ upd X.C.worn b (X.C.worn b + 1) i ≤ _
    have h1 := h.wo b
    have h2 := h.wo i
    unfold upd
    split <;> omega
  · rw [hwn]
    have h2 := h.wnb i
    split <;> omega
/-- an erasure failed, and the block is bad -/
def Wx.erf (X : Wx) (b : Nat) : Wx := { X with C := { X.C with did := X.C.did + 1 + 1, worn := upd X.C.worn b (X.C.worn b + 1), dead := upd X.C.dead b true, mark := upd X.C.mark b true }, xs := X.xs.set b 3, o := if X.o = b then -1 else X.o, bd := note X.bd b }
theorem erase_fails {X : Wx} {b : Nat} (hb : b < X.C.B) (hoff : X.C.off = false) (hc : ∀ i, X.C.cuts i = none) (hf : X.C.fails (X.C.did + 1) = true) (h3 : X.xs.getD b 0 ≠ 3) : X.erE b = 0 ∧ X.erX b = X.erf b := by
  have he : eraseC X.C b = ({ X.C with did := X.C.did + 1, worn := upd X.C.worn b (X.C.worn b + 1), dead := upd X.C.dead b true }, 54) := by
    unfold eraseC
    rw [if_pos (refB_ok hoff hb), hc, Int.toNat_natCast]
    simp only
    rw [hf, Bool.or_true, if_pos rfl]
  have hm : markC { X.C with did := X.C.did + 1, worn := upd X.C.worn b (X.C.worn b + 1), dead := upd X.C.dead b true } b = ({ X.C with did := X.C.did + 1 + 1, worn := upd X.C.worn b (X.C.worn b + 1), dead := upd X.C.dead b true, mark := upd X.C.mark b true }, 0) := by
    unfold markC
    rw [if_pos (refB_ok (C := { X.C with did := X.C.did + 1, worn := upd X.C.worn b (X.C.worn b + 1), dead := upd X.C.dead b true }) hoff hb), hc, Int.toNat_natCast]
  refine ⟨?_, ?_⟩
  · unfold Wx.erE
    rw [he]
    rw [if_neg (show ¬ (54 : Int) = 0 by decide), if_pos (show (54 : Int) = 54 from rfl), hm]
  · unfold Wx.erX Wx.erC Wx.retire Wx.letB letX letO Wx.erf
    rw [he]
    rw [if_neg (show ¬ (54 : Int) = 0 by decide), if_pos (show (54 : Int) = 54 from rfl)]
    simp only
    rw [hm, if_neg h3, if_neg h3]
theorem Wc.erf {X : Wx} {H K} (h : Wc X H K) {b : Nat} (hl : X.xs.length = X.C.B) (hb : b < X.C.B) : Wc (X.erf b) H (K + 1) := by
  have hx : ∀ i, (X.erf b).xs.getD i 0 = if i = b then 3 else X.xs.getD i 0 := fun i => Lf.getD_set X.xs i b 3 (by omega)
  have hd : ∀ i, (X.erf b).C.dead i = if i = b then true else X.C.dead i := fun i => rfl
  refine ⟨⟨h.fin.off, fun i hi hx' => ?_, fun i hi hx' => ?_, h.fin.cnt, h.fin.geo⟩, h.cuts, fun i hi hx' => ?_, fun i p t e => ?_, fun i => ?_, fun i => by have := h.wnb i; show X.wn.getD i 0 ≤ _; omega⟩
  · rw [hx] at hx'
    by_cases e : i = b
    · rw [if_pos e] at hx'; omega
    · rw [if_neg e] at hx'
      obtain ⟨d1, d2⟩ := h.fin.free i hi hx'
      exact ⟨by rw [hd, if_neg e]; exact d1, d2⟩
  · rw [hx] at hx'
    by_cases e : i = b
    · rw [if_pos e] at hx'; omega
    · rw [if_neg e] at hx'
      obtain ⟨d1, d2⟩ := h.fin.opn i hi hx'
      exact ⟨by rw [hd, if_neg e]; exact d1, d2⟩
  · rw [hx] at hx'
    by_cases e : i = b
    · rw [if_pos e] at hx'; exact absurd rfl hx'
    · rw [if_neg e] at hx'
      rw [hd, if_neg e]
      exact h.live i hi hx'
  · obtain ⟨h1, h2, h3, h4, n, W, h5⟩ := h.had i p t e
    rw [hx]
    refine ⟨h1, h2, ?_, fun hx' => ?_, n, W, h5.same rfl rfl⟩
    · split
      · decide
      · exact h3
    · by_cases ei : i = b
      · rw [if_pos ei] at hx'; omega
      · rw [if_neg ei] at hx'; exact h4 hx'
  · show 0 ≤ upd X.C.worn b (X.C.worn b + 1) i ∧ upd X.C.worn b (X.C.worn b + 1) i ≤ _
    have h1 := h.wo b
    have h2 := h.wo i
    unfold upd
    split <;> omega
/-- the open block is let be full -/
theorem Wc.full {X : Wx} {H K} (h : Wc X H K) (ok : Lf.Ok X.C.B X.C.P X.xs X.o X.nx) {b : Nat} (ho : X.o = b) : Wc (X.letB b 2) H K := by
  obtain ⟨hb, h1⟩ := ok.open_at b ho
  have hl := ok.len
  have hx : ∀ i, (X.letB b 2).xs.getD i 0 = if i = b then 2 else X.xs.getD i 0 := fun i => by
    show (letX X.xs b 2).getD i 0 = _
    unfold letX
    rw [if_neg (by rw [h1]; decide)]
    exact Lf.getD_set X.xs i b 2 (by omega)
  refine ⟨⟨h.fin.off, fun i hi hx' => ?_, fun i hi hx' => ?_, h.fin.cnt, h.fin.geo⟩, h.cuts, fun i hi hx' => ?_, fun i p t e => ?_, h.wo, h.wnb⟩
  · rw [hx] at hx'
    by_cases e : i = b
    · rw [if_pos e] at hx'; omega
    · rw [if_neg e] at hx'; exact h.fin.free i hi hx'
  · rw [hx] at hx'
    by_cases e : i = b
    · rw [if_pos e] at hx'; omega
    · rw [if_neg e] at hx'; exact h.fin.opn i hi hx'
  · by_cases e : i = b
    · subst e; exact h.live i hi (by rw [h1]; decide)
    · rw [hx, if_neg e] at hx'; exact h.live i hi hx'
  · obtain ⟨g1, g2, g3, g4, n, W, g5⟩ := h.had i p t e
    rw [hx]
    refine ⟨g1, g2, ?_, fun hx' => ?_, n, W, g5⟩
    · split
      · decide
      · exact g3
    · by_cases ei : i = b
      · rw [if_pos ei] at hx'; omega
      · rw [if_neg ei] at hx'; exact g4 hx'
theorem append_long {w : World} {A X} (h : Wtr w A X) (n : Nat) (s : ByteArray) (hs : X.C.Z < s.size) (W0 : Int) :
    Calls Tryd.prog 18 #[.pointer (some ⟨A.a, 0, none⟩), Pg.tagV 1 n 0 1 W0, .string s] w fun e w' => e = .returned (.tuple #[.int .i64 0, .int .i64 1]) ∧ Below w.heap.size w w' := by
  have hfr := Hid.mk (fun w => Pg.frame_bad 1 n 0 1 0 (by omega) s X.C.Z (fun q => by have := q.2.2.2; omega) w)
  have hAl := h.lt _ (.inl rfl)
  obtain ⟨c0, -, -, -, -⟩ := h.cells
  have T0 := Pg.TB.fresh w 1 n 0 1 W0
  have B0 := (Below.refl w.heap.size w).alloc (Nat.le_refl _) (.cells #[.int .i64 1, .int .u64 n, .int .i64 0, .int .i64 1, .int .i64 W0] 52)
  have h1 := h.call B0
  have hlt := T0.lt
  have HA := Hid.mk (And.intro T0 B0)
  generalize hw0 : w.alloc (.cells #[.int .i64 1, .int .u64 n, .int .i64 0, .int .i64 1, .int .i64 W0] 52) = V0 at *
  have HW0 := Hid.mk hw0
  have hge := Hid.mk (geom_any h1.chip)
  unfold Pg.tagV at hfr ⊢
  clear h h1 T0 B0 hw0 hs
  go_enter Tryd.func18, Tryd.ntmps18
  go_wp2_with (first
    | (go_at_call 11; rw [HW0.out]; refine hge.out.mono ?_; rintro e w1 ⟨rfl, b1⟩; have T2 := (((HA.out.1.call b1).alloc (.cells #[.int .i64 X.C.B, .int .i64 X.C.P, .int .i64 X.C.Z] 23))); have fz := T2.frozen 4; obtain ⟨u0, u1, u2, u3, u4⟩ := T2.five; have T3 := T2.set4 0; obtain ⟨v0, v1, v2, v3, v4⟩ := T3.five; have hg2 : w1.heap.size ≠ w.heap.size := (by have := b1.size; omega))
    | (go_at_call 38; have BW := ((below3 HA.out.2 b1).alloc (below3 HA.out.2 b1).size (.cells #[.int .i64 X.C.B, .int .i64 X.C.P, .int .i64 X.C.Z] 23)).setCell (p := ⟨w.heap.size, 4, none⟩) (Nat.le_refl _) (.int .i64 0); refine (hfr.out _).mono ?_; rintro e w2 ⟨rfl, b2⟩; have HB := Hid.mk (below3 BW b2); clear BW b2))
  go_ret2
  exact ⟨rfl, HB.out⟩
set_option maxRecDepth 100000

theorem Wtr.setOff {w : World} {A X} (h : Wtr w A X) {g : Nat} (j : Nat) (u : Value) (hc : Cel w g) (hn : ¬ A.own X.C.B g) : Wtr (w.setCell ⟨g, j, none⟩ u) A X :=
  h.off (S := fun i => i = g) (Kp.setCell (S := fun i => i = g) (Kp.refl _ w) (p := ⟨g, j, none⟩) rfl u) (fun i hi => by subst hi; exact ⟨hn, hc⟩)
theorem rowIs_cel {w : World} {b t n f} (h : w.rowIs b t n f) : Cel w b := by
  obtain ⟨c, hb, _⟩ := h
  exact ⟨_, _, _, hb⟩
/-- the writer, the geometry, what was said, what it has -/
structure RdM (w0 : World) (G gs gh b p z v : Nat) (A : Wl) (X : Wx) (H : Nat → Nat → Option ByteArray) (f : Nat → ByteArray) (w : World) : Prop where
  rg : RunG w0 G b p z A X w
  sd : w.rowIs gs 9 v (fun i => .string (f i))
  hv : w.rowIs gh 4 v (fun i => .bool (H (i / p) (i % p)).isSome)
  aps : ¬ A.own X.C.B gs
  aph : ¬ A.own X.C.B gh
  ne : gs ≠ gh
  nG : gs ≠ G ∧ gh ≠ G
  lo : w0.heap.size ≤ gs ∧ w0.heap.size ≤ gh
  eq : ∀ i t, i < v → H (i / p) (i % p) = some t → f i = t
theorem RdM.same {w0 : World} {G gs gh b p z v A X H f} {w w' : World} (h : RdM w0 G gs gh b p z v A X H f w) (k : RunG w0 G b p z A X w') (e1 : w'.heap[gs]? = w.heap[gs]?) (e2 : w'.heap[gh]? = w.heap[gh]?) : RdM w0 G gs gh b p z v A X H f w' :=
  ⟨k, h.sd.of_block e1, h.hv.of_block e2, h.aps, h.aph, h.ne, h.nG, h.lo, h.eq⟩
theorem RdM.call {w0 : World} {G gs gh b p z v A X H f} {w w' : World} (h : RdM w0 G gs gh b p z v A X H f w) (k : Below w.heap.size w w') : RdM w0 G gs gh b p z v A X H f w' := h.same (h.rg.call k) (k.block gs h.sd.lt) (k.block gh h.hv.lt)
theorem RdM.alloc {w0 : World} {G gs gh b p z v A X H f} {w : World} (h : RdM w0 G gs gh b p z v A X H f w) (o : Obj) : RdM w0 G gs gh b p z v A X H f (w.alloc o) := h.call ((Below.refl _ w).alloc (Nat.le_refl _) o)
theorem RdM.drew {w0 : World} {G gs gh b p z v A X H f} {w : World} (h : RdM w0 G gs gh b p z v A X H f w) : RdM w0 G gs gh b p z v A X H f w.drew := h.same h.rg.drew rfl rfl
theorem RdM.drewN {w0 : World} {G gs gh b p z v A X H f} {w : World} (h : RdM w0 G gs gh b p z v A X H f w) (n : Nat) : RdM w0 G gs gh b p z v A X H f (w.drewN n) := h.same (h.rg.drewN n) rfl rfl
theorem RdM.next {w0 : World} {G gs gh b p z v A A' X X' H f} {w w' : World} (h : RdM w0 G gs gh b p z v A X H f w) (k : Wtr w' A' X') (n : Nxt A A' X.C.B w w') (g : Geq X' X) : RdM w0 G gs gh b p z v A' X' H f w' := by
  have own : ∀ i, i < w.heap.size → ¬ A.own X.C.B i → ¬ A'.own X'.C.B i := fun i hi hn x => by
    rw [g.1] at x
    rcases n.own i x with y | y
    · exact hn y
    · omega
  exact ⟨h.rg.next k n g, h.sd.of_block (n.kp.block gs h.sd.lt h.aps), h.hv.of_block (n.kp.block gh h.hv.lt h.aph), own gs h.sd.lt h.aps, own gh h.hv.lt h.aph, h.ne, h.nG, h.lo, h.eq⟩
theorem RunG.setOff {w0 : World} {G b p z A X} {w : World} (h : RunG w0 G b p z A X w) {g : Nat} (j : Nat) (u : Value) (hc : Cel w g) (hn : ¬ A.own X.C.B g) (hG : g ≠ G) (hl : w0.heap.size ≤ g) (h0 : 0 < w0.heap.size) : RunG w0 G b p z A X (w.setCell ⟨g, j, none⟩ u) :=
  ⟨⟨h.run.wtr.setOff j u hc hn, h.run.below.setCell (p := ⟨g, j, none⟩) hl u, h.run.lo, Tab.off (S := fun i => i = g) h.run.tab (Kp.setCell (S := fun i => i = g) (Kp.refl _ w) (p := ⟨g, j, none⟩) rfl u) (fun e => by omega)⟩,
    (Below.heap_setCell w ⟨g, j, none⟩ u G (fun e => hG e.symm)).trans h.geo, h.apart, h.eB, h.eP, h.eZ⟩
/-- a page is told -/
theorem RdM.tell {w0 : World} {G gs gh b p z v A X H f} {w : World} (h : RdM w0 G gs gh b p z v A X H f w) (h0 : 0 < w0.heap.size) {c q : Nat} (hq : q < p) (s : ByteArray) :
    RdM w0 G gs gh b p z v A X (setH H c q s) (fun i => if i = c * p + q then s else f i) ((w.setCell ⟨gs, c * p + q, none⟩ (.string s)).setCell ⟨gh, c * p + q, none⟩ (.bool true)) := by
  have hp : 0 < p := by omega
  have dv : ∀ i, (i / p = c ∧ i % p = q) ↔ i = c * p + q := fun i => by
    constructor
    · rintro ⟨rfl, rfl⟩
      rw [Nat.mul_comm]; exact (Nat.div_add_mod i p).symm
    · rintro rfl
      refine ⟨?_, ?_⟩
      · rw [Nat.add_comm, Nat.add_mul_div_right _ _ hp, Nat.div_eq_of_lt hq, Nat.zero_add]
      · rw [Nat.add_comm, Nat.add_mul_mod_self_right, Nat.mod_eq_of_lt hq]
  have r1 := h.rg.setOff (c * p + q) (.string s) (rowIs_cel h.sd) h.aps h.nG.1 h.lo.1 h0
  have s1 := h.sd.set (c * p + q) (.string s)
  have v1 := h.hv.setOther (a := ⟨gs, c * p + q, none⟩) h.ne.symm (.string s)
  have r2 := r1.setOff (c * p + q) (.bool true) (rowIs_cel v1) h.aph h.nG.2 h.lo.2 h0
  refine ⟨r2, ?_, ?_, h.aps, h.aph, h.ne, h.nG, h.lo, fun i t hi e => ?_⟩
  · refine (s1.setOther (a := ⟨gh, c * p + q, none⟩) h.ne (.bool true)).congr (fun i _ => ?_)
    split <;> rfl
  · refine (v1.set (c * p + q) (.bool true)).congr (fun i _ => ?_)
    unfold setH
    by_cases e : i = c * p + q
    · rw [if_pos e, if_pos ((dv i).2 e)]; rfl
    · rw [if_neg e, if_neg (fun x => e ((dv i).1 x))]
  · unfold setH at e
    by_cases e0 : i = c * p + q
    · rw [if_pos ((dv i).2 e0)] at e
      rw [if_pos e0]
      simpa using e
    · rw [if_neg (fun x => e0 ((dv i).1 x))] at e
      rw [if_neg e0]
      exact h.eq i t hi e
/-- a page is no more told -/
theorem RdM.clear {w0 : World} {G gs gh b p z v A X H f} {w : World} {c j : Nat} (h : RdM w0 G gs gh b p z v A X (clrJ H c j) f w) (h0 : 0 < w0.heap.size) (hj : j < p) :
    RdM w0 G gs gh b p z v A X (clrJ H c (j + 1)) f (w.setCell ⟨gh, c * p + j, none⟩ (.bool false)) := by
  have hp : 0 < p := by omega
  have dv : ∀ i, (i / p = c ∧ i % p = j) ↔ i = c * p + j := fun i => by
    constructor
    · rintro ⟨rfl, rfl⟩
      rw [Nat.mul_comm]; exact (Nat.div_add_mod i p).symm
    · rintro rfl
      refine ⟨?_, ?_⟩
      · rw [Nat.add_comm, Nat.add_mul_div_right _ _ hp, Nat.div_eq_of_lt hj, Nat.zero_add]
      · rw [Nat.add_comm, Nat.add_mul_mod_self_right, Nat.mod_eq_of_lt hj]
  have r2 := h.rg.setOff (c * p + j) (.bool false) (rowIs_cel h.hv) h.aph h.nG.2 h.lo.2 h0
  have key : ∀ i, clrJ H c (j + 1) (i / p) (i % p) = if i = c * p + j then none else clrJ H c j (i / p) (i % p) := fun i => by
    unfold clrJ
    by_cases e : i = c * p + j
    · obtain ⟨e1, e2⟩ := (dv i).2 e
      rw [if_pos e, if_pos ⟨e1, by omega⟩]
    · rw [if_neg e]
      by_cases e1 : i / p = c ∧ i % p < j
      · rw [if_pos e1, if_pos ⟨e1.1, by omega⟩]
      · rw [if_neg e1, if_neg]
        rintro ⟨e2, e3⟩
        by_cases e4 : i % p = j
        · exact e ((dv i).1 ⟨e2, e4⟩)
        · exact e1 ⟨e2, by omega⟩
  refine ⟨r2, h.sd.setOther (a := ⟨gh, c * p + j, none⟩) h.ne (.bool false), ?_, h.aps, h.aph, h.ne, h.nG, h.lo, fun i t hi e => ?_⟩
  · refine (h.hv.set (c * p + j) (.bool false)).congr (fun i _ => ?_)
    rw [key]
    split <;> rfl
  · rw [key] at e
    by_cases e0 : i = c * p + j
    · rw [if_pos e0] at e; cases e
    · rw [if_neg e0] at e; exact h.eq i t hi e
end Go.Proofs.YtbcnocbdifbocaaDoor
