/-
  Pages that were told as written, whatever fails: what a writer, its chip and they know of each other. Pure, but for the last.
-/
import Derived.Test.YtbcnocbdifbocaaDoorErs
namespace Go.Proofs.YtbcnocbdifbocaaDoor
open Go Go.RowKit
set_option maxRecDepth 100000

/-- H: the pages that were told, with what they say; nothing cuts the power -/
structure Wc (X : Wx) (H : Nat → Nat → Option ByteArray) (K : Nat) : Prop where
  fin : Fin X
  cuts : ∀ i, X.C.cuts i = none
  live : ∀ b, b < X.C.B → X.xs.getD b 0 ≠ 3 → X.C.dead b = false
  had : ∀ b p t, H b p = some t → b < X.C.B ∧ p < X.C.P ∧ X.xs.getD b 0 ≠ 0 ∧ (X.xs.getD b 0 = 1 → (p : Int) < X.nx) ∧ ∃ n W, Says X.C b p t 1 n 0 1 W
  wo : ∀ i, 0 ≤ X.C.worn i ∧ X.C.worn i ≤ K
  wnb : ∀ i, X.wn.getD i 0 ≤ K
theorem Wc.beg (b p z : Nat) (fl : List Int) (hz : z ≤ 256) : Wc (begX b p z [] fl) (fun _ _ => none) 0 := by
  have hr : ∀ i, (List.replicate b (0 : Int)).getD i 0 = 0 := fun i => by
    by_cases h : i < b <;> simp [List.getD_eq_getElem?_getD, h]
  exact ⟨Fin.beg b p z [] fl hz, fun _ => rfl, fun _ _ _ => by simp [begX, begC, newC], fun _ _ _ h => by simp at h, fun _ => ⟨Int.le_refl _, Int.le_refl _⟩, fun i => by show (List.replicate b (0 : Int)).getD i 0 ≤ _; rw [hr]; omega⟩
theorem Wc.more {X : Wx} {H K} (h : Wc X H K) {K' : Nat} (hk : K ≤ K') : Wc X H K' := ⟨h.fin, h.cuts, h.live, h.had, fun i => by have := h.wo i; omega, fun i => by have := h.wnb i; omega⟩
/-- a page that is taken was not told -/
theorem Wc.fresh {X : Wx} {H K} (h : Wc X H K) (ok : Lf.Ok X.C.B X.C.P X.xs X.o X.nx) {b : Nat} {X1 : Wx} {q : Nat} (ht : Tk X b X1 q) : H b q = none := by
  cases e : H b q with
  | none => rfl
  | some t =>
    exfalso
    obtain ⟨_, _, h3, h4, _⟩ := h.had b q t e
    rcases ht with ⟨h1, _, h2⟩ | ⟨_, h1, _⟩
    · have := h4 (ok.open_at b h1).2
      omega
    · exact h3 h1.free
/-- of the block of which a page is taken only pages ahead of it were told -/
theorem Wc.ahead {X : Wx} {H K} (h : Wc X H K) (ok : Lf.Ok X.C.B X.C.P X.xs X.o X.nx) {b : Nat} {X1 : Wx} {q p : Nat} {t : ByteArray} (ht : Tk X b X1 q) (e : H b p = some t) : p < q := by
  obtain ⟨_, _, h3, h4, _⟩ := h.had b p t e
  rcases ht with ⟨h1, _, h2⟩ | ⟨_, h1, _⟩
  · have := h4 (ok.open_at b h1).2
    omega
  · exact absurd h1.free h3
def setH (H : Nat → Nat → Option ByteArray) (b q : Nat) (s : ByteArray) : Nat → Nat → Option ByteArray := fun i p => if i = b ∧ p = q then some s else H i p
theorem Wc.put {X : Wx} {H K} (h : Wc X H K) (ok : Lf.Ok X.C.B X.C.P X.xs X.o X.nx) {b : Nat} {X1 : Wx} {q : Nat} (ht : Tk X b X1 q) (n : Nat) (hn : n < 18446744073709551616) (s : ByteArray) (hs : s.size ≤ X.C.Z) : Wc (X1.put b q n s) (setH H b q s) K := by
  obtain ⟨hb, hl, hnx, hxs, _, _, hq, _⟩ := ht.xs ok
  obtain ⟨e1, e2, e3⟩ := ht.C
  have cB : (X1.put b q n s).C.B = X.C.B := by show X1.C.B = X.C.B; rw [e1]
  have cP : (X1.put b q n s).C.P = X.C.P := by show X1.C.P = X.C.P; rw [e1]
  have hx0 : X.xs.getD b 0 ≠ 3 := by
    rcases ht with ⟨h1, _⟩ | ⟨_, h1, _⟩
    · rw [(ok.open_at b h1).2]; decide
    · rw [h1.free]; decide
  refine ⟨h.fin.put ok ht n s, fun i => by show X1.C.cuts i = none; rw [e1]; exact h.cuts i, fun i hi hx => ?_, fun i p t e => ?_, fun i => by show 0 ≤ X1.C.worn i ∧ X1.C.worn i ≤ K; rw [e1]; exact h.wo i, fun i => by show X1.wn.getD i 0 ≤ K; rw [e2]; exact h.wnb i⟩
  · rw [cB] at hi
    have hx' : X1.xs.getD i 0 ≠ 3 := hx
    rw [hxs i] at hx'
    show X1.C.dead i = false
    rw [e1]
    by_cases e : i = b
    · subst e; exact h.live i hi hx0
    · rw [if_neg e] at hx'; exact h.live i hi hx'
  · unfold setH at e
    rw [cB, cP]
    show _ ∧ _ ∧ X1.xs.getD i 0 ≠ 0 ∧ (X1.xs.getD i 0 = 1 → (p : Int) < X1.nx) ∧ _
    rw [hxs i, hnx]
    by_cases e0 : i = b ∧ p = q
    · rw [if_pos e0] at e
      obtain ⟨rfl, rfl⟩ := e0
      simp only [Option.some.injEq] at e
      subst e
      refine ⟨hb, by omega, ?_, fun _ => by omega, n, _, put_says X1 i p n s (by rw [e2]; exact h.fin.cnt i) (by rw [e1]; exact h.fin.geo) hn (by rw [e1]; exact hs)⟩
      rw [if_pos rfl]
      split <;> decide
    · rw [if_neg e0] at e
      obtain ⟨h1, h2, h3, h4, n', W, h5⟩ := h.had i p t e
      refine ⟨h1, h2, ?_, fun hx => ?_, n', W, put_says_other X1 b q n s (by rw [e1]; exact h5) e0⟩
      · by_cases ei : i = b
        · rw [if_pos ei]; split <;> decide
        · rw [if_neg ei]; exact h3
      · by_cases ei : i = b
        · subst ei
          have := h.ahead ok ht e
          omega
        · rw [if_neg ei] at hx
          exact absurd hx (ht.others ok h1 ei)
/-- a page could not be written, and its block is bad -/
def Wx.failed (X : Wx) (b q : Nat) : Wx := { X with C := { putPg { X.C with did := X.C.did + 1, dead := upd X.C.dead b true } b q (rep (X.C.Z + 32) 0) with did := X.C.did + 1 + 1, mark := upd X.C.mark b true }, xs := X.xs.set b 3, o := -1, bd := note X.bd b }
theorem Wc.fails {X : Wx} {H K} (h : Wc X H K) (ok : Lf.Ok X.C.B X.C.P X.xs X.o X.nx) {b : Nat} {X1 : Wx} {p : Int} (ht : Tk X b X1 p) (n : Nat) (hn : n < 18446744073709551616) (s : ByteArray) (hs : s.size ≤ X.C.Z) (hf : X.C.fails (X.C.did + 1) = true) :
    ∃ q : Nat, p = (q : Int) ∧ q < X.C.P ∧ X1.prE b p 1 n 0 1 s = 53 ∧ (X1.prX b p 1 n 0 1 s).leaveE b 53 = 0 ∧ (X1.prX b p 1 n 0 1 s).leave b 53 = X1.failed b q := by
  obtain ⟨hb, q, rfl, hq, hde, hpg⟩ := h.fin.tk ok ht
  obtain ⟨_, hl, _, hxs, ho, _, _, _⟩ := ht.xs ok
  obtain ⟨e1, e2, _⟩ := ht.C
  have hv := fr_val X1 b n s (by rw [e2]; exact h.fin.cnt b) (by rw [e1]; exact h.fin.geo) hn (by rw [e1]; exact hs)
  have hp := pr_fail (C := X1.C) (b := b) (p := q) (d := frD X1 s) (s := frS X1 b 1 n 0 1 s) (by rw [e1]; exact h.fin.off) (by rw [e1]; exact hb) (by rw [e1]; exact hq) hv.2.1 hv.2.2 (by rw [e1]; exact hpg) (by rw [e1]; exact h.cuts _) (by rw [e1]; exact hf)
  have hm : ∀ (C : Ch), C.off = false → b < C.B → (∀ i, C.cuts i = none) → markC C b = ({ C with did := C.did + 1, mark := upd C.mark b true }, 0) := by
    intro C h1 h2 h3
    unfold markC
    rw [if_pos (refB_ok h1 h2), h3, Int.toNat_natCast]
  have hX : X1.prX b q 1 n 0 1 s = { X1 with C := putPg { X1.C with did := X1.C.did + 1, dead := upd X1.C.dead b true } b q (rep (X1.C.Z + 32) 0) } := by unfold Wx.prX; rw [hp]
  have hmk := hm (putPg { X1.C with did := X1.C.did + 1, dead := upd X1.C.dead b true } b q (rep (X1.C.Z + 32) 0)) (by show X1.C.off = false; rw [e1]; exact h.fin.off) (by show b < X1.C.B; rw [e1]; exact hb) (by intro i; show X1.C.cuts i = none; rw [e1]; exact h.cuts i)
  have hx3 : ¬ X1.xs.getD b 0 = 3 := by
    rw [hxs b, if_pos rfl]; split <;> decide
  refine ⟨q, rfl, hq, ?_, ?_, ?_⟩
  · unfold Wx.prE; rw [hp]
  · unfold Wx.leaveE; rw [hX, if_pos rfl]; simp only; rw [hmk]
  · unfold Wx.leave Wx.retire Wx.letB letX letO Wx.failed
    rw [hX, if_pos rfl]
    simp only
    rw [hmk, if_neg hx3, if_neg hx3, ho]
    have : (if (if ((q : Nat) : Int) + 1 = ↑X.C.P then (-1 : Int) else (b : Int)) = (b : Int) then (-1 : Int) else if ((q : Nat) : Int) + 1 = ↑X.C.P then (-1 : Int) else (b : Int)) = -1 := by
      split <;> simp_all
    rw [this]
    rfl
theorem Says.same {C C' : Ch} {b p : Nat} {t : ByteArray} {K S I O W : Nat} (h : Says C b p t K S I O W) (e1 : C'.pg b p = C.pg b p) (e2 : C'.Z = C.Z) : Says C' b p t K S I O W := by
  obtain ⟨d, s, h1, h2, h3⟩ := h
  exact ⟨d, s, e1.trans h1, h2.trans e2.symm, h3⟩
theorem Wc.failed {X : Wx} {H K} (h : Wc X H K) (ok : Lf.Ok X.C.B X.C.P X.xs X.o X.nx) {b : Nat} {X1 : Wx} {q : Nat} (ht : Tk X b X1 q) : Wc (X1.failed b q) H K := by
  obtain ⟨hb, hl, hnx, hxs, _, _, hq, _⟩ := ht.xs ok
  obtain ⟨e1, e2, e3⟩ := ht.C
  have cB : (X1.failed b q).C.B = X.C.B := by show X1.C.B = X.C.B; rw [e1]
  have cP : (X1.failed b q).C.P = X.C.P := by show X1.C.P = X.C.P; rw [e1]
  have cZ : (X1.failed b q).C.Z = X.C.Z := by show X1.C.Z = X.C.Z; rw [e1]
  have fx : ∀ i, (X1.failed b q).xs.getD i 0 = if i = b then 3 else X.xs.getD i 0 := fun i => by
    show (X1.xs.set b 3).getD i 0 = _
    rw [Lf.getD_set X1.xs i b 3 (by omega)]
    by_cases e : i = b
    · rw [if_pos e, if_pos e]
    · rw [if_neg e, if_neg e, hxs i, if_neg e]
  have fd : ∀ i, (X1.failed b q).C.dead i = if i = b then true else X.C.dead i := fun i => by
    show upd X1.C.dead b true i = _
    unfold upd
    rw [e1]
  have fp : ∀ i p, ¬ (i = b ∧ p = q) → (X1.failed b q).C.pg i p = X.C.pg i p := fun i p hne => by
    show (putPg _ b q _).pg i p = _
    rw [putPg_pg, if_neg hne]
    show X1.C.pg i p = _
    rw [e1]
  have hwn : (X1.failed b q).wn = X.wn := e2
  refine ⟨⟨by show X1.C.off = false; rw [e1]; exact h.fin.off, fun i hi hx => ?_, fun i hi hx => ?_, fun i => by rw [hwn]; exact h.fin.cnt i, by rw [cZ]; exact h.fin.geo⟩, fun i => by show X1.C.cuts i = none; rw [e1]; exact h.cuts i, fun i hi hx => ?_, fun i p t e => ?_, fun i => by show 0 ≤ X1.C.worn i ∧ X1.C.worn i ≤ K; rw [e1]; exact h.wo i, fun i => by rw [hwn]; exact h.wnb i⟩
  · rw [cB] at hi
    rw [fx] at hx
    by_cases e : i = b
    · rw [if_pos e] at hx; omega
    · rw [if_neg e] at hx
      obtain ⟨d1, d2⟩ := h.fin.free i hi hx
      exact ⟨by rw [fd, if_neg e]; exact d1, fun p hp => by rw [fp i p (fun x => e x.1)]; exact d2 p (by rw [← cP]; exact hp)⟩
  · rw [cB] at hi
    rw [fx] at hx
    by_cases e : i = b
    · rw [if_pos e] at hx; omega
    · rw [if_neg e] at hx
      exact absurd hx (ht.others ok hi e)
  · rw [cB] at hi
    rw [fx] at hx
    by_cases e : i = b
    · rw [if_pos e] at hx; exact absurd rfl hx
    · rw [if_neg e] at hx
      rw [fd, if_neg e]
      exact h.live i hi hx
  · obtain ⟨h1, h2, h3, h4, n', W, h5⟩ := h.had i p t e
    have hne : ¬ (i = b ∧ p = q) := by
      rintro ⟨rfl, rfl⟩
      rw [h.fresh ok ht] at e
      cases e
    rw [cB, cP, fx]
    refine ⟨h1, h2, ?_, fun hx => ?_, n', W, h5.same (fp i p hne) cZ⟩
    · split
      · decide
      · exact h3
    · by_cases ei : i = b
      · rw [if_pos ei] at hx; omega
      · rw [if_neg ei] at hx; exact absurd hx (ht.others ok h1 ei)
theorem left_failed {X : Wx} (ok : Lf.Ok X.C.B X.C.P X.xs X.o X.nx) {b : Nat} {X1 : Wx} {p : Int} (h : Tk X b X1 p) : left (X1.xs.set b 3) = left X.xs - 1 := by
  have hl := ok.len
  have hb := (h.xs ok).1
  have hx0 : X.xs.getD b 0 = 0 ∨ X.xs.getD b 0 = 1 := by
    rcases h with ⟨h1, _⟩ | ⟨_, h1, _⟩
    · exact .inr (ok.open_at b h1).2
    · exact .inl h1.free
  have h1 : X1.xs.set b 3 = X.xs.set b 3 := by
    rcases h with ⟨_, rfl, _⟩ | ⟨_, _, rfl, _⟩
    · show (Lf.tkX X.C.P X.xs b X.nx).set b 3 = X.xs.set b 3
      unfold Lf.tkX
      split
      · exact List.set_set ..
      · rfl
    · show (Lf.tkX X.C.P (X.xs.set b 1) b 0).set b 3 = X.xs.set b 3
      unfold Lf.tkX
      split
      · rw [List.set_set, List.set_set]
      · exact List.set_set ..
  rw [h1]
  unfold left
  rw [Lf.cnt_set X.xs b (by omega) 3 0, Lf.cnt_set X.xs b (by omega) 3 1, if_neg (show ¬ (3 : Int) = 0 by decide), if_neg (show ¬ (3 : Int) = 1 by decide)]
  rcases hx0 with e | e <;> rw [e] <;> simp <;> omega
theorem left_nonneg (xs : List Int) : 0 ≤ left xs ∧ left xs ≤ 2 * xs.length := by
  unfold left; have h0 := Lf.cnt_range xs 0; have h1 := Lf.cnt_range xs 1; omega
theorem note_len (l : List Int) (b : Int) : (note l b).length ≤ l.length + 1 := by unfold note; split <;> simp
/-- what Append answers, whatever fails -/
def WQ (H : Nat → Nat → Option ByteArray) (K B P : Nat) (D : Int) (s : ByteArray) (pl er : Int) (Y : Wx) : Prop :=
  (er = 130 ∧ Wc Y H K ∨ er = 0 ∧ ∃ b q : Nat, b < B ∧ q < P ∧ pl = (b : Int) * (P : Int) + q ∧ H b q = none ∧ Wc Y (setH H b q s) K) ∧ Y.C.did ≤ D + 1 ∧ (Y.bd.length : Int) ≤ D
theorem append_w {w : World} {A X} (h : Wtr w A X) (hT : Pg.Tab w) {H K} (hW : Wc X H K) (n : Nat) (hn : n < 18446744073709551616) (s : ByteArray) (hs : s.size ≤ X.C.Z) (D : Int) (hD : D ≤ 80000) (hd : X.C.did + 2 * left X.xs ≤ D) (hl : (X.bd.length : Int) + left X.xs ≤ D) (W0 : Int) :
    Calls Tryd.prog 18 #[.pointer (some ⟨A.a, 0, none⟩), Pg.tagV 1 n 0 1 W0, .string s] w fun e w' => ∃ pl er X' A', e = .returned (.tuple #[.int .i64 pl, .int .i64 er]) ∧ WQ H K X.C.B X.C.P D s pl er X' ∧ Geq X' X ∧ Wtr w' A' X' ∧ Nxt A A' X.C.B w w' := by
  refine append_any h hT (fun Y => Wc Y H K ∧ Y.C.did + 2 * left Y.xs ≤ D ∧ (Y.bd.length : Int) + left Y.xs ≤ D ∧ Geq Y X) (WQ H K X.C.B X.C.P D s) 1 n 0 1 W0 s ⟨hW, hd, hl, rfl, rfl, rfl⟩ ⟨?_, ?_, ?_, ?_, ?_⟩
  · rintro Y ⟨j1, j2, j3, j4⟩
    have := left_nonneg Y.xs
    exact ⟨by omega, fun i _ => j1.fin.may i, by rw [j4.2.2]; exact hs, by omega⟩
  · rintro Y ⟨j1, j2, j3, j4⟩ _ _ _
    have := left_nonneg Y.xs
    exact ⟨.inl ⟨rfl, j1⟩, by omega, by omega⟩
  · rintro Y b X1 p ⟨j1, j2, j3, j4⟩ ok _ _ _ ht he
    have hln := left_nonneg Y.xs
    obtain ⟨e1, e2, e3⟩ := ht.C
    cases hf : Y.C.fails (Y.C.did + 1) with
    | true =>
      exfalso
      obtain ⟨q, rfl, _, h1, _⟩ := j1.fails ok ht n hn s (by rw [j4.2.2]; exact hs) hf
      rw [h1] at he
      exact absurd he (by decide)
    | false =>
      obtain ⟨q, rfl, hq, hb, _, hx⟩ := j1.fin.wrote ok ht n hn s (by rw [j4.2.2]; exact hs) (j1.cuts _) hf
      rw [hx]
      refine ⟨.inr ⟨rfl, b, q, by rw [← j4.1]; exact hb, by rw [← j4.2.1]; exact hq, by rw [j4.2.1], j1.fresh ok ht, j1.put ok ht n hn s (by rw [j4.2.2]; exact hs)⟩, ?_, ?_⟩
      · show X1.C.did + 1 ≤ D + 1; rw [e1]; omega
      · show (X1.bd.length : Int) ≤ D; rw [e3]; omega
  · rintro Y b X1 p ⟨j1, j2, j3, j4⟩ ok _ _ _ ht he hne
    exfalso
    cases hf : Y.C.fails (Y.C.did + 1) with
    | true =>
      obtain ⟨q, rfl, _, h1, h2, _⟩ := j1.fails ok ht n hn s (by rw [j4.2.2]; exact hs) hf
      rw [h1] at hne
      exact hne h2
    | false =>
      obtain ⟨q, rfl, hq, hb, h0, hx⟩ := j1.fin.wrote ok ht n hn s (by rw [j4.2.2]; exact hs) (j1.cuts _) hf
      exact he h0
  · rintro Y b X1 p ⟨j1, j2, j3, j4⟩ ok _ _ _ ht he hne
    obtain ⟨e1, e2, e3⟩ := ht.C
    cases hf : Y.C.fails (Y.C.did + 1) with
    | true =>
      obtain ⟨q, rfl, _, h1, h2, h3⟩ := j1.fails ok ht n hn s (by rw [j4.2.2]; exact hs) hf
      rw [h1, h3]
      have hlf := left_failed ok ht
      have hnl := note_len X1.bd b
      rw [e3] at hnl
      refine ⟨j1.failed ok ht, ?_, ?_, ?_⟩
      · show X1.C.did + 1 + 1 + 2 * left (X1.xs.set b 3) ≤ D; rw [hlf, e1]; omega
      · show ((note X1.bd b).length : Int) + left (X1.xs.set b 3) ≤ D; rw [hlf, e3]; omega
      · refine geq_trans (?_ : Geq _ Y) j4
        exact ⟨by show X1.C.B = _; rw [e1], by show X1.C.P = _; rw [e1], by show X1.C.Z = _; rw [e1]⟩
    | false =>
      obtain ⟨q, rfl, hq, hb, h0, hx⟩ := j1.fin.wrote ok ht n hn s (by rw [j4.2.2]; exact hs) (j1.cuts _) hf
      exact absurd h0 he
end Go.Proofs.YtbcnocbdifbocaaDoor
