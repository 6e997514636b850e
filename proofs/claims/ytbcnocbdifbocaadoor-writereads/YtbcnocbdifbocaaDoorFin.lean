/-
  What a writer and its chip know of each other, where nothing cuts the power: pages are written, or fail. Pure.
-/
import Derived.Test.YtbcnocbdifbocaaDoorEra
namespace Go.Proofs.YtbcnocbdifbocaaDoor
open Go Go.RowKit
set_option maxRecDepth 100000

theorem usedB_of {C : Ch} {b p : Nat} (h : ∀ q, p ≤ q → q < C.P → C.pg b q = ⟨#[]⟩) : usedB C b p = false := by
  unfold usedB
  rw [List.any_eq_false]
  intro q hq
  simp only [decide_eq_true_eq, not_and, ne_eq, Decidable.not_not]
  exact fun h1 => h q h1 (List.mem_range.1 hq)
theorem pr_ok {C : Ch} {b p : Nat} {d s : ByteArray} (hoff : C.off = false) (hb : b < C.B) (hp : p < C.P) (hd : d.size = C.Z) (hs : s.size = 32) (hu : ∀ q, p ≤ q → q < C.P → C.pg b q = ⟨#[]⟩) (hc : C.cuts (C.did + 1) = none) (hde : C.dead b = false) (hf : C.fails (C.did + 1) = false) :
    progC C b p d s = (putPg { C with did := C.did + 1 } b p (kp C.Z (d ++ s)), 0) := by
  unfold progC
  rw [if_pos (refP_ok hoff hb hp), if_pos ⟨hd, hs⟩, Int.toNat_natCast, Int.toNat_natCast, if_neg (by rw [usedB_of hu]; decide), hc]
  simp only
  rw [hde, hf, if_neg (by decide)]
theorem pr_fail {C : Ch} {b p : Nat} {d s : ByteArray} (hoff : C.off = false) (hb : b < C.B) (hp : p < C.P) (hd : d.size = C.Z) (hs : s.size = 32) (hu : ∀ q, p ≤ q → q < C.P → C.pg b q = ⟨#[]⟩) (hc : C.cuts (C.did + 1) = none) (hf : C.fails (C.did + 1) = true) :
    progC C b p d s = (putPg { C with did := C.did + 1, dead := upd C.dead b true } b p (rep (C.Z + 32) 0), 53) := by
  unfold progC
  rw [if_pos (refP_ok hoff hb hp), if_pos ⟨hd, hs⟩, Int.toNat_natCast, Int.toNat_natCast, if_neg (by rw [usedB_of hu]; decide), hc]
  simp only
  rw [hf, Bool.or_true, if_pos rfl]
theorem pr_cut {C : Ch} {b p : Nat} {d s : ByteArray} {x : Int × Int} (hoff : C.off = false) (hb : b < C.B) (hp : p < C.P) (hd : d.size = C.Z) (hs : s.size = 32) (hu : ∀ q, p ≤ q → q < C.P → C.pg b q = ⟨#[]⟩) (hc : C.cuts (C.did + 1) = some x) :
    progC C b p d s = (putPg { C with did := C.did + 1, off := true } b p (kp C.Z (tornP C.Z (d ++ s) x.1 x.2)), 51) := by
  unfold progC
  rw [if_pos (refP_ok hoff hb hp), if_pos ⟨hd, hs⟩, Int.toNat_natCast, Int.toNat_natCast, if_neg (by rw [usedB_of hu]; decide), hc]
theorem pr_off {C : Ch} {b p : Int} {d s : ByteArray} (hoff : C.off = true) : progC C b p d s = (C, 51) := by
  unfold progC
  have h : refP C b p = 51 := by unfold refP refB; rw [if_pos hoff, if_neg (by decide)]
  rw [if_neg (by rw [h]; decide), h]
theorem allF_rep (n : Nat) : Pg.allF (rep n 255) = true := by
  unfold Pg.allF rep
  rw [List.all_eq_true]
  intro x hx
  have : x = 255 := List.eq_of_mem_replicate (by simpa using hx)
  rw [this]
  rfl
/-- a framed page is kept as it is -/
theorem kp_val {Z : Nat} {d s t : ByteArray} {K S I O W : Nat} (h : Pg.Val d s t K S I O W) : kp Z (d ++ s) = d ++ s := by
  unfold kp
  rw [if_neg]
  intro e
  have := allF_rep (Z + 32)
  rw [← e, Pg.allF_append, h.not, Bool.and_false] at this
  cases this
theorem putPg_pg (C : Ch) (b p : Nat) (v : ByteArray) (i j : Nat) : (putPg C b p v).pg i j = if i = b ∧ j = p then v else C.pg i j := by
  unfold putPg upd
  by_cases h1 : i = b <;> by_cases h2 : j = p <;> simp [h1, h2]
/-- a writer and its chip know of each other what is free -/
structure Fin (X : Wx) : Prop where
  off : X.C.off = false
  free : ∀ b, b < X.C.B → X.xs.getD b 0 = 0 → X.C.dead b = false ∧ ∀ p, p < X.C.P → X.C.pg b p = ⟨#[]⟩
  opn : ∀ b, b < X.C.B → X.xs.getD b 0 = 1 → X.C.dead b = false ∧ ∀ p : Nat, X.nx ≤ p → p < X.C.P → X.C.pg b p = ⟨#[]⟩
  cnt : ∀ i, 0 ≤ X.wn.getD i 0 ∧ X.wn.getD i 0 ≤ 60000
  geo : X.C.Z ≤ 256
theorem Fin.may {X : Wx} (h : Fin X) (i : Nat) : Pg.mayB ((1 : Nat) : Int) ((0 : Nat) : Int) ((1 : Nat) : Int) (X.wn.getD i 0) := by
  have := h.cnt i
  unfold Pg.mayB
  omega
/-- the block of which a page is taken: what is known of it -/
theorem Fin.tk {X : Wx} (h : Fin X) (ok : Lf.Ok X.C.B X.C.P X.xs X.o X.nx) {b X1 p} (ht : Tk X b X1 p) : b < X.C.B ∧ ∃ q : Nat, p = (q : Int) ∧ q < X.C.P ∧ X.C.dead b = false ∧ ∀ r : Nat, q ≤ r → r < X.C.P → X.C.pg b r = ⟨#[]⟩ := by
  have hk := ok.kb
  rcases ht with ⟨h1, _, rfl⟩ | ⟨_, h1, _, rfl⟩
  · obtain ⟨h2, h3⟩ := ok.open_at b h1
    have h4 := ok.nxr
    have h5 := ok.nxo (by omega)
    obtain ⟨q, hq⟩ := Int.eq_ofNat_of_zero_le h4.1
    obtain ⟨d1, d2⟩ := h.opn b h2 h3
    exact ⟨h2, q, hq, by omega, d1, fun r hr hrP => d2 r (by omega) hrP⟩
  · obtain ⟨d1, d2⟩ := h.free b h1.lt h1.free
    exact ⟨h1.lt, 0, rfl, by omega, d1, fun r _ hrP => d2 r hrP⟩
/-- the bytes of a page of data, under a block's count -/
theorem fr_val (X : Wx) (b n : Nat) (s : ByteArray) (hc : 0 ≤ X.wn.getD b 0 ∧ X.wn.getD b 0 ≤ 60000) (hZ : X.C.Z ≤ 256) (hn : n < 18446744073709551616) (hs : s.size ≤ X.C.Z) : Pg.Val (frD X s) (frS X b 1 n 0 1 s) s 1 n 0 1 (X.wn.getD b 0).toNat ∧ (frD X s).size = X.C.Z ∧ (frS X b 1 n 0 1 s).size = 32 :=
  ⟨Pg.Val.framed 1 n 0 1 (X.wn.getD b 0).toNat (by unfold Pg.mayB; omega) hn s X.C.Z hs (by omega), Pg.padB_size s X.C.Z hs, Pg.spareB_size ..⟩
/-- a page is written -/
def Wx.put (X : Wx) (b p n : Nat) (s : ByteArray) : Wx := { X with C := putPg { X.C with did := X.C.did + 1 } b p (frD X s ++ frS X b 1 n 0 1 s) }
theorem Fin.wrote {X : Wx} (h : Fin X) (ok : Lf.Ok X.C.B X.C.P X.xs X.o X.nx) {b : Nat} {X1 : Wx} {p : Int} (ht : Tk X b X1 p) (n : Nat) (hn : n < 18446744073709551616) (s : ByteArray) (hs : s.size ≤ X.C.Z) (hc : X.C.cuts (X.C.did + 1) = none) (hf : X.C.fails (X.C.did + 1) = false) :
    ∃ q : Nat, p = (q : Int) ∧ q < X.C.P ∧ b < X.C.B ∧ X1.prE b p 1 n 0 1 s = 0 ∧ X1.prX b p 1 n 0 1 s = X1.put b q n s := by
  obtain ⟨hb, q, rfl, hq, hde, hpg⟩ := h.tk ok ht
  obtain ⟨e1, e2, _⟩ := ht.C
  have hv := fr_val X1 b n s (by rw [e2]; exact h.cnt b) (by rw [e1]; exact h.geo) hn (by rw [e1]; exact hs)
  have hp := pr_ok (C := X1.C) (b := b) (p := q) (d := frD X1 s) (s := frS X1 b 1 n 0 1 s) (by rw [e1]; exact h.off) (by rw [e1]; exact hb) (by rw [e1]; exact hq) hv.2.1 hv.2.2 (by rw [e1]; exact hpg) (by rw [e1]; exact hc) (by rw [e1]; exact hde) (by rw [e1]; exact hf)
  rw [kp_val hv.1] at hp
  refine ⟨q, rfl, hq, hb, ?_, ?_⟩
  · unfold Wx.prE; rw [hp]
  · unfold Wx.prX Wx.put; rw [hp]
/-- what Append answers where nothing happens -/
def PlOk (X : Wx) (n : Nat) (s : ByteArray) (pl er : Int) (Y : Wx) : Prop :=
  (pl = 0 ∧ er = 130 ∧ Y = X ∧ X.o = -1 ∧ ∀ i, i < X.C.B → X.xs.getD i 0 ≠ 0) ∨ ∃ (b : Nat) (X1 : Wx) (q : Nat), Tk X b X1 q ∧ b < X.C.B ∧ q < X.C.P ∧ pl = b * X.C.P + q ∧ er = 0 ∧ Y = X1.put b q n s
theorem append_plain {w : World} {A X} (h : Wtr w A X) (hT : Pg.Tab w) (hF : Fin X) (n : Nat) (hn : n < 18446744073709551616) (s : ByteArray) (hs : s.size ≤ X.C.Z) (hd : X.C.did < 900000) (hl : X.bd.length ≤ 90000) (hc : X.C.cuts (X.C.did + 1) = none) (hf : X.C.fails (X.C.did + 1) = false) (W0 : Int) :
    Calls Tryd.prog 18 #[.pointer (some ⟨A.a, 0, none⟩), Pg.tagV 1 n 0 1 W0, .string s] w fun e w' => ∃ pl er X' A', e = .returned (.tuple #[.int .i64 pl, .int .i64 er]) ∧ PlOk X n s pl er X' ∧ Geq X' X ∧ Wtr w' A' X' ∧ Nxt A A' X.C.B w w' := by
  refine append_any h hT (fun Y => Y = X) (PlOk X n s) 1 n 0 1 W0 s rfl ⟨?_, ?_, ?_, ?_, ?_⟩
  · rintro Y rfl
    exact ⟨hd, fun i _ => hF.may i, hs, hl⟩
  · rintro Y rfl _ h1 h2
    exact .inl ⟨rfl, rfl, rfl, h1, h2⟩
  · rintro Y b X1 p rfl ok _ _ _ ht _
    obtain ⟨q, rfl, hq, hb, _, hx⟩ := hF.wrote ok ht n hn s hs hc hf
    exact .inr ⟨b, X1, q, ht, hb, hq, rfl, rfl, hx⟩
  · rintro Y b X1 p rfl ok _ _ _ ht he
    obtain ⟨q, rfl, hq, hb, h0, hx⟩ := hF.wrote ok ht n hn s hs hc hf
    exact absurd h0 he
  · rintro Y b X1 p rfl ok _ _ _ ht he
    obtain ⟨q, rfl, hq, hb, h0, hx⟩ := hF.wrote ok ht n hn s hs hc hf
    exact absurd h0 he
/-- a page that is there stays there when another is written -/
theorem Says.put {C C' : Ch} {b p b' p' : Nat} {t v : ByteArray} {K S I O W : Nat} (h : Says C b p t K S I O W) (e : C' = putPg C b' p' v) (hne : ¬ (b = b' ∧ p = p')) : Says C' b p t K S I O W := by
  obtain ⟨d, s, h1, h2, h3⟩ := h
  subst e
  exact ⟨d, s, by rw [putPg_pg, if_neg hne]; exact h1, h2, h3⟩
theorem put_says (X : Wx) (b q n : Nat) (s : ByteArray) (hc : 0 ≤ X.wn.getD b 0 ∧ X.wn.getD b 0 ≤ 60000) (hZ : X.C.Z ≤ 256) (hn : n < 18446744073709551616) (hs : s.size ≤ X.C.Z) : Says (X.put b q n s).C b q s 1 n 0 1 (X.wn.getD b 0).toNat := by
  have hv := fr_val X b n s hc hZ hn hs
  exact ⟨_, _, by show (putPg _ b q _).pg b q = _; rw [putPg_pg, if_pos ⟨rfl, rfl⟩], hv.2.1, hv.1⟩
theorem put_says_other (X : Wx) (b q n : Nat) (s : ByteArray) {b' q' : Nat} {t : ByteArray} {K S I O W : Nat} (h : Says X.C b' q' t K S I O W) (hne : ¬ (b' = b ∧ q' = q)) : Says (X.put b q n s).C b' q' t K S I O W := by
  obtain ⟨d, s', h1, h2, h3⟩ := h
  exact ⟨d, s', by show (putPg _ b q _).pg b' q' = _; rw [putPg_pg, if_neg hne]; exact h1, h2, h3⟩
/-- what taking a page makes of the blocks -/
theorem Tk.xs {X : Wx} {b X1 p} (ok : Lf.Ok X.C.B X.C.P X.xs X.o X.nx) (h : Tk X b X1 p) : b < X.C.B ∧ X1.xs.length = X.C.B ∧ X1.nx = p + 1 ∧ (∀ i, X1.xs.getD i 0 = if i = b then (if p + 1 = X.C.P then 2 else 1) else X.xs.getD i 0) ∧ X1.o = (if p + 1 = X.C.P then -1 else (b : Int)) ∧ 0 ≤ p ∧ p < X.C.P ∧ Lf.Ok X1.C.B X1.C.P X1.xs X1.o X1.nx := by
  have hl := ok.len
  have hk := ok.kb
  rcases h with ⟨h1, rfl, rfl⟩ | ⟨h1, h2, rfl, rfl⟩
  · obtain ⟨h2, h3⟩ := ok.open_at b h1
    have h5 := ok.nxo (by omega)
    have h4 := ok.nxr
    refine ⟨h2, ?_, rfl, ?_, rfl, h4.1, h5, ?_⟩
    · show (Lf.tkX X.C.P X.xs b X.nx).length = _
      unfold Lf.tkX; split <;> simp [hl]
    · intro i
      show (Lf.tkX X.C.P X.xs b X.nx).getD i 0 = _
      unfold Lf.tkX
      by_cases e : X.nx + 1 = X.C.P
      · rw [if_pos e, if_pos e, Lf.getD_set X.xs i b 2 (by omega)]
      · rw [if_neg e, if_neg e]
        by_cases e2 : i = b
        · rw [if_pos e2, e2, h3]
        · rw [if_neg e2]
    · show Lf.Ok X.C.B X.C.P (Lf.tkX X.C.P X.xs b X.nx) (Lf.tkO X.C.P b X.nx) (X.nx + 1)
      unfold Lf.tkX Lf.tkO
      by_cases e : X.nx + 1 = X.C.P
      · rw [if_pos e, if_pos e]; exact ok.last b h1 e
      · rw [if_neg e, if_neg e, ← h1]; exact ok.more (by omega)
  · have ok1 := Lf.Ok.opened (by rw [← h1]; exact ok : Lf.Ok X.C.B X.C.P X.xs (-1) X.nx) b h2.lt
    refine ⟨h2.lt, ?_, rfl, ?_, rfl, by omega, by omega, ?_⟩
    · show (Lf.tkX X.C.P (X.xs.set b 1) b 0).length = _
      unfold Lf.tkX; split <;> simp [hl]
    · intro i
      show (Lf.tkX X.C.P (X.xs.set b 1) b 0).getD i 0 = _
      unfold Lf.tkX
      by_cases e : (0 : Int) + 1 = X.C.P
      · rw [if_pos e, if_pos e, List.set_set, Lf.getD_set X.xs i b 2 (by have := h2.lt; omega)]
      · rw [if_neg e, if_neg e, Lf.getD_set X.xs i b 1 (by have := h2.lt; omega)]
    · show Lf.Ok X.C.B X.C.P (Lf.tkX X.C.P (X.xs.set b 1) b 0) (Lf.tkO X.C.P b 0) (0 + 1)
      unfold Lf.tkX Lf.tkO
      by_cases e : (0 : Int) + 1 = X.C.P
      · rw [if_pos e, if_pos e]; exact ok1.last b rfl e
      · rw [if_neg e, if_neg e]; exact ok1.more (by omega)
end Go.Proofs.YtbcnocbdifbocaaDoor
