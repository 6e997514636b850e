/-
  One action fails: the block is bad, noted and marked, and the page stands elsewhere. Condition of the walk: the table's cells hold what the text lays.
-/
import Derived.Test.YtbcnocbdifbocaaDoorRdi
namespace Go.Proofs.YtbcnocbdifbocaaDoor
open Go Go.RowKit
set_option maxRecDepth 100000

/-- a block is bad, marked, and worn out -/
structure Bd (X : Wx) (b0 : Nat) : Prop where
  lt : b0 < X.C.B
  is : X.xs.getD b0 0 = 3
  mark : X.C.mark b0 = true
  dead : X.C.dead b0 = true
theorem Bd.ne {X : Wx} {b0 : Nat} (h : Bd X b0) (ok : Lf.Ok X.C.B X.C.P X.xs X.o X.nx) {b X1 p} (ht : Tk X b X1 p) : b ≠ b0 := by
  rintro rfl
  have := h.is
  rcases ht with ⟨h1, _⟩ | ⟨_, h1, _⟩
  · rw [(ok.open_at b h1).2] at this; omega
  · rw [h1.free] at this; omega
theorem Bd.put {X : Wx} {b0 : Nat} (h : Bd X b0) (ok : Lf.Ok X.C.B X.C.P X.xs X.o X.nx) {b X1} {q : Nat} (ht : Tk X b X1 q) (n : Nat) (s : ByteArray) : Bd (X1.put b q n s) b0 := by
  obtain ⟨hb, _, _, hxs, _⟩ := ht.xs ok
  obtain ⟨e1, _, _⟩ := ht.C
  have hne := h.ne ok ht
  refine ⟨by show b0 < X1.C.B; rw [e1]; exact h.lt, ?_, by show X1.C.mark b0 = true; rw [e1]; exact h.mark, by show X1.C.dead b0 = true; rw [e1]; exact h.dead⟩
  show X1.xs.getD b0 0 = 3
  rw [hxs b0, if_neg (fun e => hne e.symm)]
  exact h.is
theorem failed_bd {X : Wx} (ok : Lf.Ok X.C.B X.C.P X.xs X.o X.nx) {b X1} {q : Nat} (ht : Tk X b X1 q) : Bd (X1.failed b q) b := by
  obtain ⟨hb, hl, _⟩ := ht.xs ok
  obtain ⟨e1, _, _⟩ := ht.C
  refine ⟨by show b < X1.C.B; rw [e1]; exact hb, ?_, ?_, ?_⟩
  · show (X1.xs.set b 3).getD b 0 = 3
    rw [Lf.getD_set X1.xs b b 3 (by omega), if_pos rfl]
  · show upd X1.C.mark b true b = true
    unfold upd; rw [if_pos rfl]
  · show upd X1.C.dead b true b = true
    unfold upd; rw [if_pos rfl]
/-- while nothing failed, and behind that -/
structure Gd (X : Wx) (n : Nat) : Prop where
  wc : ∃ H, Wc X H 0
  fails : X.C.fails = failsOf [(n : Int)]
  bd : X.bd = []
theorem Gd.no {X : Wx} {n : Nat} (h : Gd X n) {i : Int} (hi : i ≠ n) : X.C.fails i = false := by
  rw [h.fails]; unfold failsOf; simp [hi]
theorem Gd.yes {X : Wx} {n : Nat} (h : Gd X n) : X.C.fails (n : Int) = true := by
  rw [h.fails]; unfold failsOf; simp
theorem Gd.put {X : Wx} {n : Nat} (h : Gd X n) (ok : Lf.Ok X.C.B X.C.P X.xs X.o X.nx) {b X1} {q : Nat} (ht : Tk X b X1 q) (i : Nat) (hi : i < 18446744073709551616) (s : ByteArray) (hs : s.size ≤ X.C.Z) : Gd (X1.put b q i s) n := by
  obtain ⟨e1, _, e3⟩ := ht.C
  obtain ⟨H, hW⟩ := h.wc
  exact ⟨⟨_, hW.put ok ht i hi s hs⟩, by show X1.C.fails = _; rw [e1]; exact h.fails, by show X1.bd = []; rw [e3]; exact h.bd⟩
/-- what Append answers when it fails once -/
def BQ (X : Wx) (n : Nat) (pl er : Int) (Y : Wx) : Prop := er = 130 ∨ er = 0 ∧ ∃ (b0 : Nat) (b q : Nat), (0 ≤ X.o → X.o = b0) ∧ b ≠ b0 ∧ b < X.C.B ∧ q < X.C.P ∧ pl = (b : Int) * (X.C.P : Int) + q ∧ Bd Y b0 ∧ Y.bd = [(b0 : Int)] ∧ (∃ H, Wc Y H 0) ∧ Y.C.fails = failsOf [(n : Int)] ∧ Y.C.did = X.C.did + 3
theorem append_bad {w : World} {A X} (h : Wtr w A X) (hT : Pg.Tab w) {n : Nat} (hG : Gd X n) (hd : X.C.did + 1 = n) (hn : n ≤ 1000) (i : Nat) (hi : i < 18446744073709551616) (s : ByteArray) (hs : s.size ≤ X.C.Z) (W0 : Int) :
    Calls Tryd.prog 18 #[.pointer (some ⟨A.a, 0, none⟩), Pg.tagV 1 i 0 1 W0, .string s] w fun e w' => ∃ pl er X' A', e = .returned (.tuple #[.int .i64 pl, .int .i64 er]) ∧ BQ X n pl er X' ∧ Geq X' X ∧ Wtr w' A' X' ∧ Nxt A A' X.C.B w w' := by
  obtain ⟨H, hW⟩ := hG.wc
  have ok0 := h.lif.ok
  have hff : X.C.fails (X.C.did + 1) = true := by rw [hd]; exact hG.yes
  have hF : ∀ {b X1} {q : Nat}, Tk X b X1 q → (X1.failed b q).C.fails ((X1.failed b q).C.did + 1) = false ∧ Geq (X1.failed b q) X ∧ (X1.failed b q).bd = [(b : Int)] ∧ (X1.failed b q).C.did = X.C.did + 2 ∧ (X1.failed b q).C.fails = X.C.fails := by
    intro b X1 q ht
    obtain ⟨e1, _, e3⟩ := ht.C
    have hdd : (X1.failed b q).C.did = X.C.did + 2 := by show X1.C.did + 1 + 1 = _; rw [e1]; omega
    have hfs : (X1.failed b q).C.fails = X.C.fails := by show X1.C.fails = _; rw [e1]
    refine ⟨by rw [hfs, hdd]; exact hG.no (by omega), ⟨by show X1.C.B = _; rw [e1], by show X1.C.P = _; rw [e1], by show X1.C.Z = _; rw [e1]⟩, ?_, hdd, hfs⟩
    show note X1.bd b = _
    rw [e3, hG.bd]
    rfl
  refine append_any h hT (fun Y => Y = X ∨ ∃ b X1, ∃ q : Nat, Tk X b X1 q ∧ Y = X1.failed b q) (BQ X n) 1 i 0 1 W0 s (.inl rfl) ⟨?_, ?_, ?_, ?_, ?_⟩
  · rintro Y (rfl | ⟨b, X1, q, ht, rfl⟩)
    · exact ⟨by omega, fun j _ => hW.fin.may j, hs, by rw [hG.bd]; simp⟩
    · obtain ⟨_, f2, f3, f4, _⟩ := hF ht
      exact ⟨by rw [f4]; omega, fun j _ => (hW.failed ok0 ht).fin.may j, by rw [f2.2.2]; exact hs, by rw [f3]; simp⟩
  · rintro Y _ _ _ _
    exact .inl rfl
  · rintro Y b X1 p (rfl | ⟨b0, X0, q0, ht0, rfl⟩) ok _ _ _ ht he
    · obtain ⟨q, rfl, _, h1, _⟩ := hW.fails ok ht i hi s hs hff
      rw [h1] at he
      exact absurd he (by decide)
    · obtain ⟨f1, f2, f3, f4, f5⟩ := hF ht0
      have hW2 := hW.failed ok0 ht0
      have hB2 := failed_bd ok0 ht0
      obtain ⟨q, rfl, hq, hb, _, hx⟩ := hW2.fin.wrote ok ht i hi s (by rw [f2.2.2]; exact hs) (hW2.cuts _) f1
      obtain ⟨e1, _, e3⟩ := ht.C
      rw [hx]
      refine .inr ⟨rfl, b0, b, q, fun ho => ?_, hB2.ne ok ht, by rw [← f2.1]; exact hb, by rw [← f2.2.1]; exact hq, by rw [f2.2.1], hB2.put ok ht i s, by show X1.bd = _; rw [e3, f3], ⟨_, hW2.put ok ht i hi s (by rw [f2.2.2]; exact hs)⟩, by show X1.C.fails = _; rw [e1, f5]; exact hG.fails, by show X1.C.did + 1 = _; rw [e1, f4]; omega⟩
      rcases ht0 with ⟨h1, _⟩ | ⟨h1, _⟩
      · exact h1
      · omega
  · rintro Y b X1 p (rfl | ⟨b0, X0, q0, ht0, rfl⟩) ok _ _ _ ht he hne
    · exfalso
      obtain ⟨q, rfl, _, h1, h2, _⟩ := hW.fails ok ht i hi s hs hff
      rw [h1] at hne
      exact hne h2
    · exfalso
      obtain ⟨f1, f2, f3, f4, f5⟩ := hF ht0
      have hW2 := hW.failed ok0 ht0
      obtain ⟨q, rfl, hq, hb, h0, hx⟩ := hW2.fin.wrote ok ht i hi s (by rw [f2.2.2]; exact hs) (hW2.cuts _) f1
      exact he h0
  · rintro Y b X1 p (rfl | ⟨b0, X0, q0, ht0, rfl⟩) ok _ _ _ ht he hne
    · obtain ⟨q, rfl, _, h1, h2, h3⟩ := hW.fails ok ht i hi s hs hff
      rw [h1, h3]
      exact .inr ⟨b, X1, q, ht, rfl⟩
    · exfalso
      obtain ⟨f1, f2, f3, f4, f5⟩ := hF ht0
      have hW2 := hW.failed ok0 ht0
      obtain ⟨q, rfl, hq, hb, h0, hx⟩ := hW2.fin.wrote ok ht i hi s (by rw [f2.2.2]; exact hs) (hW2.cuts _) f1
      exact he h0
end Go.Proofs.YtbcnocbdifbocaaDoor
