/-
  What is marked, what a state holds for bad; a writer's own blocks: the walks of Marked, Bad, lookForMark (where none is marked or bad), write.New. No condition but these. An FTL is begun: the walk of begin. Condition: none is marked or bad. What the pages of a chip say; the walks of look and erasures. Condition: the chip has room; nothing was written on it (erasures). What the laws' awake comes to, in numbers. Pure. No condition.
-/
import Derived.Test.YtcmmhfjnhlaepabGreatDoorRD
import Derived.Test.YtcmmhfjnhlaepabGreatDoorRE
import Derived.Deep.Cut
import Derived.Deep.RegionWith
import Derived.Test.YtcmmhfjnhlaepabGreatDoorRB
import Derived.Test.YtcmmhfjnhlaepabGreatDoorRC
namespace Go.Proofs.YtcmmhfjnhlaepabGreatDoor.S8
open Go Go.RowKit Go.Maps Gp Pg We

theorem bad_any {w s} (h : StAt w s) {a : Int} (ha : K64 a) : Calls Tryz.prog 113 #[.pointer (some ⟨s.p, 0, none⟩), .int .i64 a] w fun e w' => e = .returned (.bool (mget s.bad a).isSome) ∧ Below w.heap.size w w' := by
  have c2 := h.c2
  have l1 := h.hB.lookU ha
  generalize (mget s.bad a).isSome = b at *
  clear h
  go_enter Tryz.func113, Tryz.ntmps113
  go_wp2
  go_ret
  exact ⟨rfl, (Below.refl _ w).alloc (Nat.le_refl _) _⟩
theorem hold_bad {B : Nat} {w0 w : World} {P t} (h : Hold B w0 P t w) {a : Int} (ha : K64 a) : Calls Tryz.prog 113 #[.pointer (some ⟨P, 0, none⟩), .int .i64 a] w fun e w' => e = .returned (.bool (mget t.bad a).isSome) ∧ Below w.heap.size w w' := by
  obtain ⟨s, rfl, h2, rfl, h4, h5, h6⟩ := h
  exact bad_any h2.at' ha
end Go.Proofs.YtcmmhfjnhlaepabGreatDoor.S8
namespace Go.Proofs.YtcmmhfjnhlaepabGreatDoor
open Go Go.RowKit

theorem marked_on {w : World} {L C} (h : Chip w L C) (hoff : C.off = false) (b : Nat) (hb : b < C.B) : Calls Tryz.prog 112 #[.pointer (some ⟨L.a, 0, none⟩), .int .i64 b] w fun e w' => e = .returned (.tuple #[.bool (C.mark b), .int .i64 0]) ∧ w' = w := by
  have HR := Hid.mk (refB_ok hoff hb ▸ refuse_any h (b : Int))
  obtain ⟨mc, mf, n, k, _, _, c0, c1, c2, c3, c4, c5, c6, c7, hf⟩ := h.cellA
  obtain ⟨b0, b1, b2, b3⟩ := h.cellB b hb
  have hb1 : (b : Int) < C.B := by omega
  clear h hf
  go_enter Tryz.func112, Tryz.ntmps112
  go_wp2_with (go_at_call 156; refine HR.out.mono ?_; rintro e w1 ⟨rfl, rfl⟩)
  go_ret2
  exact ⟨rfl, rfl⟩
set_option maxRecDepth 20000 in
theorem lookMark_none {w : World} {f la st : Nat} {L C} (h : Chip w L C) (hoff : C.off = false) (b : Nat) (hb : b < C.B) (hm : C.mark b = false) {B0 : Nat} {w0 : World} {t : S8.Ab} (hs : S8.Hold B0 w0 st t w) (hbad : t.bad = [])
    (c0 : w.cell? ⟨f, 0, none⟩ = some (.pointer (some ⟨L.a, 0, none⟩))) (c9 : w.cell? ⟨f, 9, none⟩ = some (.pointer (some ⟨st, 0, none⟩))) :
    Calls Tryz.prog 65 #[.pointer (some ⟨f, 0, none⟩), .int .i64 b, .pointer (some ⟨la, 0, none⟩)] w fun e w' => e = .returned (.int .i64 0) ∧ Below w.heap.size w w' := by
  have HM := Hid.mk (hm ▸ marked_on h hoff b hb)
  have hbd := S8.hold_bad hs (a := (b : Int)) (S8.k64 (by have := h.geo; omega) (by have := h.geo; omega))
  rw [hbad] at hbd
  have HB := Hid.mk (show Calls Tryz.prog 113 #[.pointer (some ⟨st, 0, none⟩), .int .i64 b] w fun e w' => e = .returned (.bool false) ∧ Below w.heap.size w w' from hbd)
  clear h hs hbd hbad hb hm hoff
  go_enter Tryz.func65, Tryz.ntmps65
  go_wp2_with (first
    | (go_at_call 112; refine HM.out.mono ?_; rintro e w1 ⟨rfl, rfl⟩)
    | (go_at_call 113; refine HB.out.mono ?_; rintro e w2 ⟨rfl, b2⟩))
  go_ret
  exact ⟨rfl, b2⟩
theorem wnew_more {w : World} {L : Ly} {C : Ch} {la lg : Nat} {xs : List Int} {o nx : Int} (hc : Chip w L C) (hl : Lf.Lif w la lg C.B C.P xs o nx) {l : List Int} {ad : Addr} (hr : Rds w (some ad) l) (hn : l.length = C.B) (cap lo : Nat) (h0 : 0 < lo)
  (hw : lo <= w.heap.size) (h1 : ∀ i, L.own C.B i -> lo <= i) (h2 : ∀ i, Lf.ownL la lg i -> lo <= i) (dis : ∀ i, L.own C.B i -> ¬ Lf.ownL la lg i) :
  Calls Tryz.prog 66 #[.pointer (some ⟨L.a, 0, none⟩), .pointer (some ⟨la, 0, none⟩), .slice (some ad) l.length cap] w fun e w' => ∃ A : Wl, e = .returned (.tuple #[.pointer (some ⟨A.a, 0, none⟩), .int .i64 0]) /\ Wtr w' A ⟨C, xs, o, nx, l, []⟩ /\ Below w.heap.size w w' /\ A.L = L /\ A.la = la /\ A.lg = lg /\ A.lo = lo /\ ∀ i, A.own C.B i -> L.own C.B i \/ Lf.ownL la lg i \/ w.heap.size <= i := by
 have hge := Hid.mk (geom_any hc)
 have hg := hc.geo
 have hfd := fldB
 have hcl := Hid.mk (fun (w' : World) (b : Below w.heap.size w w') => clone_any (w := w') (a := ad) (l := l) (fun i hi => by
  obtain ⟨g, o, ha, hg, hx⟩ := hr i hi
  exact ⟨g, o, ha, Nat.lt_of_lt_of_le hg b.size, (b.cell (p := ⟨g, o + i, none⟩) hg).trans hx⟩) (by omega) cap)
 have H := Hid.mk (And.intro hc (And.intro hl (And.intro hn (And.intro h0 (And.intro hw (And.intro h1 (And.intro h2 dis)))))))
 obtain ⟨n, hn2⟩ : ∃ n, n = C.B := ⟨_, rfl⟩
 rw [<- hn2] at hge
 rw [hn, <- hn2] at hcl |-
 clear hc hl hr hn hw h0 h1 h2 dis hg
 have HN := Hid.mk hn2
 clear hn2
 go_enter Tryz.func66, Tryz.ntmps66
 go_wp2_with (first
  | (go_at_call 8; refine hge.out.mono ?_; rintro e w1 ⟨rfl, b1⟩)
  | (go_at_call 81; refine (hcl.out _ b1).mono ?_; rintro e w2 ⟨v, rfl, hv, b2⟩; obtain ⟨va, vn, vc, rfl⟩ := hv.form3))
 go_ret2
 obtain ⟨hc, hl, hn, h0, hw, h1, h2, dis⟩ := H.out
 have b3 := below3 b1 b2
 have b4 := b3.alloc b3.size (.cells #[.pointer (some ⟨L.a, 0, none⟩), .pointer (some ⟨la, 0, none⟩), .slice va vn vc, .slice none 0 0] 144)
 have hvl := We.Ow.lt hv
 have q2 : ∀ i, i < w.heap.size -> (Value.slice va vn vc).ownBlock ≠ some i := fun i hi e => by
  have := hvl i e
  have := b1.size
  omega
 refine ⟨⟨lo, w2.heap.size, L, la, lg, .slice va vn vc, .slice none 0 0⟩, rfl, ⟨heap_alloc_new w2 _, hc.call b4, hl.call b4, ?_, hn, Ints.nil _ _, ?_, h0, ?_, ?_, ?_, ?_, ?_⟩, b4, rfl, rfl, rfl, rfl, ?_⟩
 ·exact (We.Ow.lower hv (Nat.le_trans hw b1.size)).alloc _
 ·rintro i (rfl | hi | hi | hi | hi)
  ·exact Nat.le_trans hw b3.size
  ·exact h1 i hi
  ·exact h2 i hi
  ·exact Nat.le_trans hw (Nat.le_trans b1.size (hvl i hi).1)
  ·cases hi
 ·intro i hi
  have := hc.lt hi
  exact ⟨by have := b3.size; show i ≠ w2.heap.size; omega, dis i hi, q2 i this, by show (none : Option Nat) ≠ some i; simp⟩
 ·intro i hi
  have := hl.lt i hi
  exact ⟨by have := b3.size; show i ≠ w2.heap.size; omega, q2 i this, by show (none : Option Nat) ≠ some i; simp⟩
 ·intro e
  have := (hvl _ e).2
  simp at this
 ·show (none : Option Nat) ≠ some _; simp
 ·intro i _
  show (none : Option Nat) ≠ some _; simp
 ·rintro i (rfl | hi | hi | hi | hi)
  ·exact .inr (.inr b3.size)
  ·exact .inl hi
  ·exact .inr (.inl hi)
  ·exact .inr (.inr (Nat.le_trans b1.size (hvl i hi).1))
  ·cases hi
end Go.Proofs.YtcmmhfjnhlaepabGreatDoor
namespace Go.Proofs.YtcmmhfjnhlaepabGreatDoor
open Go Go.RowKit

/-- an FTL under construction: its own cells, without a writer yet -/
def bgC (a B P Z : Nat) (k r sp : Int) (st gt gl n : Nat) (nx : Int) : Array Value := #[.pointer (some ⟨a, 0, none⟩), .int .i64 B, .int .i64 P, .int .i64 Z, .int .i64 k, .int .i64 (2 * k), .int .i64 r, .int .i64 sp, .pointer none, .pointer (some ⟨st, 0, none⟩), .slice (some ⟨gt, 0, none⟩) n n, .int .i64 0, .int .u64 nx, .slice (some ⟨gl, 0, none⟩) B B, .bool false]
/-- a row that tells of no page -/
def tlC (n : Nat) : Array Value := ((List.replicate n false).map Value.bool).toArray
/-- .. and its rows, all of them made since w -/
structure Bg (w : World) (f gl gt : Nat) (cs : Array Value) (lal : List Int) (n : Nat) (wx : World) : Prop where
  below : Below w.heap.size w wx
  lo : w.heap.size ≤ f ∧ w.heap.size ≤ gl ∧ w.heap.size ≤ gt
  ne : f ≠ gl ∧ f ≠ gt ∧ gl ≠ gt
  box : wx.heap[f]? = some (.cells cs 75 (0, 0))
  row : Row wx gl 72 .u64 lal
  tls : wx.heap[gt]? = some (.cells (tlC n) 4 (0, 0))
/-- .. while they are made, in whatever order -/
structure Ms (w : World) (g8 : Nat) (B P Z : Int) (lal : List Int) (n : Nat) (ot ol : Option Nat) (wx : World) : Prop where
  below : Below w.heap.size w wx
  geo : Rm.Bx3 wx g8 B P Z
  tls : ∀ gt, ot = some gt → w.heap.size ≤ gt ∧ wx.heap[gt]? = some (.cells (tlC n) 4 (0, 0))
  row : ∀ gl, ol = some gl → w.heap.size ≤ gl ∧ Row wx gl 72 .u64 lal
theorem Ms.call {w g8 B P Z lal n ot ol} {wx w2 : World} (h : Ms w g8 B P Z lal n ot ol wx) (b : Below wx.heap.size wx w2) : Ms w g8 B P Z lal n ot ol w2 :=
  ⟨below3 h.below b, h.geo.call b, fun gt e => ⟨(h.tls gt e).1, (b.block gt (Array.getElem?_eq_some_iff.1 (h.tls gt e).2).1).trans (h.tls gt e).2⟩, fun gl e => ⟨(h.row gl e).1, (h.row gl e).2.call b⟩⟩
theorem Ms.tl {w g8 B P Z lal n ol} {wx : World} (h : Ms w g8 B P Z lal n none ol wx) : Ms w g8 B P Z lal n (some wx.heap.size) ol (wx.alloc (.cells (tlC n) 4)) := by
  have k := h.call ((Below.refl _ wx).alloc (Nat.le_refl _) (.cells (tlC n) 4))
  refine ⟨k.below, k.geo, fun gt e => ?_, k.row⟩
  cases e
  exact ⟨h.below.size, heap_alloc_new wx _⟩
theorem Ms.la {w g8 B P Z lal n ot} {wx : World} (h : Ms w g8 B P Z lal n ot none wx) : Ms w g8 B P Z lal n ot (some wx.heap.size) (wx.alloc (.cells (cellsOf .u64 lal) 72)) := by
  have k := h.call ((Below.refl _ wx).alloc (Nat.le_refl _) (.cells (cellsOf .u64 lal) 72))
  refine ⟨k.below, k.geo, k.tls, fun gt e => ?_⟩
  cases e
  exact ⟨h.below.size, heap_alloc_new wx _⟩
theorem Ms.fin {w g8 B P Z lal n gt gl} {wx : World} (h : Ms w g8 B P Z lal n (some gt) (some gl) wx) (cs : Array Value) : Bg w wx.heap.size gl gt cs lal n (wx.alloc (.cells cs 75)) ∧ Rm.Bx3 (wx.alloc (.cells cs 75)) g8 B P Z := by
  have k := h.call ((Below.refl _ wx).alloc (Nat.le_refl _) (.cells cs 75))
  have h1 := h.tls gt rfl
  have h2 := h.row gl rfl
  have l1 := (Array.getElem?_eq_some_iff.1 h1.2).1
  have l2 := h2.2.lt
  refine ⟨⟨k.below, ⟨h.below.size, h2.1, h1.1⟩, ⟨by omega, by omega, fun e => ?_⟩, heap_alloc_new wx _, (k.row gl rfl).2, (k.tls gt rfl).2⟩, k.geo⟩
  subst e
  have := h1.2.symm.trans h2.2
  simp at this
theorem Ms.fin2 {w g8 B P Z lal n gt gl} {wx : World} (h : Ms w g8 B P Z lal n (some gt) (some gl) wx) (cs : Array Value) {f gl' gt' : Nat} (e1 : f = wx.heap.size) (e2 : gl' = gl) (e3 : gt' = gt) : Bg w f gl' gt' cs lal n (wx.alloc (.cells cs 75)) ∧ Rm.Bx3 (wx.alloc (.cells cs 75)) g8 B P Z := by
  subst e1 e2 e3
  exact h.fin cs
/-- what the blocks' pages tell, block by block: when each was written last -/
def laR (l : List Fd) (B P : Nat) : Nat → List Int
  | 0 => List.replicate B 0
  | k + 1 => (laR l B P k).set k (lkS l (k * P) ((laR l B P k).getD k 0) (List.range P))
/-- .. which are full -/
def xsR (l : List Fd) (B P : Nat) : Nat → List Int
  | 0 => List.replicate B 0
  | k + 1 => if lkU l (k * P) (List.range P) = true then (xsR l B P k).set k 2 else xsR l B P k
/-- .. how often each was erased -/
def wnR (t : S8.Ab) (l : List Fd) (B P : Nat) : Nat → List Int
  | 0 => List.replicate B 0
  | k + 1 => (wnR t l B P k).set k (max (S8.wo t (k : Int)) (lkW l (k * P) (List.range P)))
/-- .. when any was written last -/
def nxR (l : List Fd) (B P : Nat) : Nat → Int
  | 0 => 0
  | k + 1 => max (nxR l B P k) ((laR l B P (k + 1)).getD k 0)
theorem laR_len (l : List Fd) (B P : Nat) : ∀ k, (laR l B P k).length = B
  | 0 => by unfold laR; simp
  | k + 1 => by unfold laR; rw [List.length_set]; exact laR_len l B P k
theorem wnR_len (t : S8.Ab) (l : List Fd) (B P : Nat) : ∀ k, (wnR t l B P k).length = B
  | 0 => by unfold wnR; simp
  | k + 1 => by unfold wnR; rw [List.length_set]; exact wnR_len t l B P k
theorem laR_later (l : List Fd) (B P : Nat) : ∀ k i, k ≤ i → (laR l B P k).getD i 0 = 0
  | 0, i, _ => by unfold laR; simp [List.getD_eq_getElem?_getD, List.getElem?_replicate]; split <;> rfl
  | k + 1, i, h => by
    unfold laR
    rw [List.getD_eq_getElem?_getD, List.getElem?_set_ne (by omega), ← List.getD_eq_getElem?_getD]
    exact laR_later l B P k i (by omega)
theorem xsR_ne (l : List Fd) (B P : Nat) : ∀ k i, (xsR l B P k).getD i 0 ≠ 3
  | 0, i => by unfold xsR; simp [List.getD_eq_getElem?_getD, List.getElem?_replicate]; split <;> decide
  | k + 1, i => by
    unfold xsR
    split
    · by_cases e : i = k
      · subst e
        by_cases e2 : i < (xsR l B P i).length
        · rw [List.getD_eq_getElem?_getD, List.getElem?_set_self e2]; decide
        · rw [List.getD_eq_getElem?_getD, List.getElem?_eq_none (by rw [List.length_set]; omega)]; decide
      · rw [List.getD_eq_getElem?_getD, List.getElem?_set_ne (by omega), ← List.getD_eq_getElem?_getD]
        exact xsR_ne l B P k i
    · exact xsR_ne l B P k i
theorem lkS_bd (l : List Fd) (n : Nat) (M : Int) (h : ∀ i, 0 ≤ (l.getD i fdZ).S ∧ (l.getD i fdZ).S ≤ M) : ∀ (ks : List Nat) (z : Int), 0 ≤ z → z ≤ M → 0 ≤ lkS l n z ks ∧ lkS l n z ks ≤ M
  | [], z, h0, h1 => ⟨h0, h1⟩
  | k :: ks, z, h0, h1 => by
    have hk := h (n + k)
    have e : lkS l n z (k :: ks) = lkS l n (stp2 z (l.getD (n + k) fdZ)) ks := rfl
    rw [e]
    refine lkS_bd l n M h ks _ ?_ ?_ <;> (unfold stp2; split <;> omega)
theorem laR_bd (l : List Fd) (B P : Nat) (M : Int) (hM : 0 ≤ M) (h : ∀ i, 0 ≤ (l.getD i fdZ).S ∧ (l.getD i fdZ).S ≤ M) : ∀ k i, 0 ≤ (laR l B P k).getD i 0 ∧ (laR l B P k).getD i 0 ≤ M
  | 0, i => by rw [laR_later l B P 0 i (Nat.zero_le _)]; omega
  | k + 1, i => by
    unfold laR
    by_cases e : i = k
    · subst e
      by_cases e2 : i < (laR l B P i).length
      · rw [List.getD_eq_getElem?_getD, List.getElem?_set_self e2, Option.getD_some]
        exact lkS_bd l (i * P) M h _ _ (laR_bd l B P M hM h i i).1 (laR_bd l B P M hM h i i).2
      · rw [List.getD_eq_getElem?_getD, List.getElem?_eq_none (by rw [List.length_set]; omega), Option.getD_none]; omega
    · rw [List.getD_eq_getElem?_getD, List.getElem?_set_ne (by omega), ← List.getD_eq_getElem?_getD]
      exact laR_bd l B P M hM h k i
theorem nxR_bd (l : List Fd) (B P : Nat) (M : Int) (hM : 0 ≤ M) (h : ∀ i, 0 ≤ (l.getD i fdZ).S ∧ (l.getD i fdZ).S ≤ M) : ∀ k, 0 ≤ nxR l B P k ∧ nxR l B P k ≤ M
  | 0 => by unfold nxR; omega
  | k + 1 => by
    have h1 := nxR_bd l B P M hM h k
    have h2 := laR_bd l B P M hM h (k + 1) k
    unfold nxR
    omega
/-- what begin's rounds hold -/
structure Bl (w : World) (f gl gt la lg gw B P : Nat) (n : Nat) (cs : Array Value) (lal xs wns : List Int) (wx : World) : Prop where
  bg : Bg w f gl gt cs lal n wx
  lif : Lf.Lif wx la lg B P xs (-1) 0
  wrn : Row wx gw 3 .i64 wns
  sep : ∀ i, Lf.ownL la lg i → w.heap.size ≤ i ∧ i ≠ f ∧ i ≠ gl ∧ i ≠ gt ∧ i ≠ gw
  sep2 : w.heap.size ≤ gw ∧ gw ≠ f ∧ gw ≠ gl ∧ gw ≠ gt
theorem Bg.call {w f gl gt cs lal n} {wx w2 : World} (h : Bg w f gl gt cs lal n wx) (b : Below wx.heap.size wx w2) : Bg w f gl gt cs lal n w2 :=
  ⟨below3 h.below b, h.lo, h.ne, (b.block f (Array.getElem?_eq_some_iff.1 h.box).1).trans h.box, h.row.call b, (b.block gt (Array.getElem?_eq_some_iff.1 h.tls).1).trans h.tls⟩
theorem Bl.call {w f gl gt la lg gw B P n cs lal xs wns} {wx w2 : World} (h : Bl w f gl gt la lg gw B P n cs lal xs wns wx) (b : Below wx.heap.size wx w2) : Bl w f gl gt la lg gw B P n cs lal xs wns w2 :=
  ⟨h.bg.call b, h.lif.call b, h.wrn.call b, h.sep, h.sep2⟩
theorem Bl.look {w f gl gt la lg gw B P n cs lal xs wns lal' xs'} {wx w2 : World} (h : Bl w f gl gt la lg gw B P n cs lal xs wns wx) (r2 : Row w2 gl 72 .u64 lal') (l2 : Lf.Lif w2 la lg B P xs' (-1) 0) (k2 : Kp (fun i => i = gl ∨ Lf.ownL la lg i) wx w2) : Bl w f gl gt la lg gw B P n cs lal' xs' wns w2 := by
  have hf := (Array.getElem?_eq_some_iff.1 h.bg.box).1
  have ht := (Array.getElem?_eq_some_iff.1 h.bg.tls).1
  refine ⟨⟨Kp.below h.bg.below k2 h.bg.below.size (fun i hi => ?_), h.bg.lo, h.bg.ne, (k2.block f hf (fun x => ?_)).trans h.bg.box, r2, (k2.block gt ht (fun x => ?_)).trans h.bg.tls⟩, l2, (k2.block gw h.wrn.lt (fun x => ?_)).trans h.wrn, h.sep, h.sep2⟩
  · rcases hi with hi | hi
    · rw [hi]; exact h.bg.lo.2.1
    · exact (h.sep i hi).1
  · rcases x with x | x
    · exact h.bg.ne.1 x
    · exact (h.sep f x).2.1 rfl
  · rcases x with x | x
    · exact h.bg.ne.2.2 x.symm
    · exact (h.sep gt x).2.2.2.1 rfl
  · rcases x with x | x
    · exact h.sep2.2.2.1 x
    · exact (h.sep gw x).2.2.2.2 rfl
theorem Bl.worn {w f gl gt la lg gw B P n cs lal xs wns} {wx : World} (h : Bl w f gl gt la lg gw B P n cs lal xs wns wx) (j : Nat) (v : Int) : Bl w f gl gt la lg gw B P n cs lal xs (wns.set j v) (wx.setCell ⟨gw, j, none⟩ (.int .i64 v)) := by
  have k : Kp (fun i => i = gw) wx (wx.setCell ⟨gw, j, none⟩ (.int .i64 v)) := (Kp.refl (fun i => i = gw) wx).setCell (p := ⟨gw, j, none⟩) rfl _
  have hf := (Array.getElem?_eq_some_iff.1 h.bg.box).1
  have ht := (Array.getElem?_eq_some_iff.1 h.bg.tls).1
  refine ⟨⟨Kp.below h.bg.below k h.bg.below.size (fun i hi => by rw [hi]; exact h.sep2.1), h.bg.lo, h.bg.ne, (k.block f hf (fun x => h.sep2.2.1 x.symm)).trans h.bg.box, (k.block gl h.bg.row.lt (fun x => h.sep2.2.2.1 x.symm)).trans h.bg.row, (k.block gt ht (fun x => h.sep2.2.2.2 x.symm)).trans h.bg.tls⟩, h.lif.same (fun i hi => k.block i (h.lif.lt i hi) (fun x => (h.sep i hi).2.2.2.2 x)), h.wrn.stored j v, h.sep, h.sep2⟩
theorem Bl.cell {w f gl gt la lg gw B P n cs lal xs wns} {wx : World} (h : Bl w f gl gt la lg gw B P n cs lal xs wns wx) (j : Nat) (v : Value) : Bl w f gl gt la lg gw B P n (cs.setIfInBounds j v) lal xs wns (wx.setCell ⟨f, j, none⟩ v) := by
  have k : Kp (fun i => i = f) wx (wx.setCell ⟨f, j, none⟩ v) := (Kp.refl (fun i => i = f) wx).setCell (p := ⟨f, j, none⟩) rfl _
  have ht := (Array.getElem?_eq_some_iff.1 h.bg.tls).1
  refine ⟨⟨Kp.below h.bg.below k h.bg.below.size (fun i hi => by rw [hi]; exact h.bg.lo.1), h.bg.lo, h.bg.ne, heap_setCell_same wx f j _ 75 _ h.bg.box, (k.block gl h.bg.row.lt (fun x => h.bg.ne.1 x.symm)).trans h.bg.row, (k.block gt ht (fun x => h.bg.ne.2.1 x.symm)).trans h.bg.tls⟩, h.lif.same (fun i hi => k.block i (h.lif.lt i hi) (fun x => (h.sep i hi).2.1 x)), (k.block gw h.wrn.lt (fun x => h.sep2.2.1 x)).trans h.wrn, h.sep, h.sep2⟩
theorem Bl.drew {w f gl gt la lg gw B P n cs lal xs wns} {wx : World} (h : Bl w f gl gt la lg gw B P n cs lal xs wns wx) : Bl w f gl gt la lg gw B P n cs lal xs wns wx.drew := h.call (Below.refl _ wx).drew
/-- what the greatest is reckoned of -/
def NxF (f gl B b : Nat) (nx m : Int) (w' : World) : Prop := w'.cell? ⟨f, 12, none⟩ = some (.int .u64 nx) ∧ w'.cell? ⟨f, 13, none⟩ = some (.slice (some ⟨gl, 0, none⟩) B B) ∧ w'.cell? ⟨gl, b, none⟩ = some (.int .u64 m)
theorem Tryz.info72 : (Tryz.prog.info? 72).map (fun i => (i.zero, i.size, i.bytes)) = some (some (.int .u64 0), 1, 8) := by kernel_rfl
theorem madeU (n : Nat) : madeCells #[.int .u64 0] n = cellsOf .u64 (List.replicate n 0) := by
  unfold madeCells cellsOf
  apply Array.ext
  · simp
  · intro i h1 h2
    simp [Nat.mod_one]
theorem madeB (n : Nat) : madeCells #[.bool false] n = (tlC n) := by
  unfold madeCells tlC
  apply Array.ext
  · simp
  · intro i h1 h2
    simp [Nat.mod_one]
set_option maxRecDepth 20000 in
set_option maxHeartbeats 1000000 in
theorem begin_any {w0 w : World} {L C} {st : Nat} {t : S8.Ab} {aa : Option Addr} {l : List Fd} {ac : Nat} (h : Chip w L C) (hT : Pg.Tab w) (hoff : C.off = false) (hmk : ∀ b, b < C.B → C.mark b = false)
    (hs : S8.Sth w st t (fun i => i < w0.heap.size ∨ L.own C.B i)) (hbad : t.bad = []) (hb : Below w0.heap.size w0 w) (hlo : ∀ i, L.own C.B i → w0.heap.size ≤ i) (h0 : 0 < w0.heap.size)
    (hall : FdsF w aa l) (hlen : l.length = C.B * C.P) (hfd : ∀ i, 0 ≤ (l.getD i fdZ).W ∧ 0 ≤ (l.getD i fdZ).S ∧ (l.getD i fdZ).S ≤ 1000000) :
    Calls Tryz.prog 32 #[.pointer (some ⟨L.a, 0, none⟩), .slice aa l.length ac, .pointer (some ⟨st, 0, none⟩)] w fun e w' => ∃ f A gl gt, e = .returned (.tuple #[.pointer (some ⟨f, 0, none⟩), .int .i64 0]) ∧ Below w.heap.size w w' ∧ A.L = L ∧
      Ft w0 f ⟨Rm.roomN C.B C.P C.Z, 2 * Rm.roomN C.B C.P C.Z, Rm.resv C.B C.P C.Z (Rm.roomN C.B C.P C.Z), (C.B : Int).tdiv 8, st, .slice (some ⟨gt, 0, none⟩) (C.B * C.P) (C.B * C.P), 0, nxR l C.B C.P C.B + 1, .slice (some ⟨gl, 0, none⟩) C.B C.B, false⟩ A ⟨C, xsR l C.B C.P C.B, -1, 0, wnR t l C.B C.P C.B, []⟩ gl (laR l C.B C.P C.B) gt (List.replicate (C.B * C.P) false) t w' := by
  have hgeo := h.geo
  have HG := Hid.mk (geom_any h)
  have H := Hid.mk (And.intro h (And.intro hT (And.intro hoff (And.intro hmk (And.intro hs (And.intro hbad (And.intro hb (And.intro hlo (And.intro h0 (And.intro hall (And.intro hlen hfd)))))))))))
  have hg : Rm.okG C.B C.P C.Z := by unfold Rm.okG; omega
  have HR := Hid.mk (fun w => Rm.roomof_ok C.B C.P C.Z hg w)
  unfold Rm.roomV at HR
  obtain ⟨k, hk⟩ : ∃ k, Rm.roomN (C.B : Int) C.P C.Z = k := ⟨_, rfl⟩
  rw [hk] at HR
  obtain ⟨rs, hrs⟩ : ∃ rs, Rm.resv (C.B : Int) C.P C.Z (k : Int) = rs := ⟨_, rfl⟩
  rw [hrs] at HR
  obtain ⟨sp, hsp⟩ : ∃ sp, (C.B : Int).tdiv 8 = sp := ⟨_, rfl⟩
  rw [hsp] at HR
  clear h hT hoff hmk hs hbad hb hlo h0 hall hlen hfd
  generalize hBB : C.B = B at *
  generalize hPP : C.P = P at *
  generalize hZZ : C.Z = Z at *
  obtain ⟨n, hn⟩ : ∃ n : Nat, B * P = n := ⟨_, rfl⟩
  have hn1 : n ≤ 512 := by rw [← hn]; exact Nat.le_trans (Nat.mul_le_mul (show B ≤ 32 by omega) (show P ≤ 16 by omega)) (by decide)
  have hnI : IntKind.i64.wrap ((B : Int) * (P : Int)) = n := by
    have e : (B : Int) * (P : Int) = n := by rw [← hn]; simp
    rw [e, IntKind.wrap_i64]
    omega
  have hmk1 := run_make_row' (P := Tryz.prog) 71 4 (.bool false) 1 Tryz.underlying71 Tryz.info4 rfl .i64 .i64 n (by omega) (by omega)
  have hmk2 := run_make_row' (P := Tryz.prog) 73 72 (.int .u64 0) 8 Tryz.underlying73 Tryz.info72 rfl .i64 .i64 B (by omega) (by omega)
  rw [madeB] at hmk1
  rw [madeU] at hmk2
  go_enter Tryz.func32, Tryz.ntmps32
  go_upto_region 2 with (go_at_call 8; refine HG.out.mono ?_; rintro e w1 ⟨rfl, b1⟩)
  have hG1 := heap_alloc_new w1 (.cells #[.int .i64 B, .int .i64 P, .int .i64 Z] 23)
  have hb1 := b1.alloc b1.size (.cells #[.int .i64 B, .int .i64 P, .int .i64 Z] 23)
  have hz1 := size_alloc w1 (.cells #[.int .i64 B, .int .i64 P, .int .i64 Z] 23)
  have hg8 := b1.size
  generalize w1.heap.size = g8 at *
  generalize w1.alloc (.cells #[.int .i64 B, .int .i64 P, .int .i64 Z] 23) = W1 at *
  clear b1
  have c0 : W1.cell? ⟨g8, 0, none⟩ = some (.int .i64 B) := by rw [cell_of_row W1 _ _ _ _ _ hG1]; rfl
  have c1 : W1.cell? ⟨g8, 1, none⟩ = some (.int .i64 P) := by rw [cell_of_row W1 _ _ _ _ _ hG1]; rfl
  have c2 : W1.cell? ⟨g8, 2, none⟩ = some (.int .i64 Z) := by rw [cell_of_row W1 _ _ _ _ _ hG1]; rfl
  go_cut [9] from 17 to 33 (fun v9 wx => ∃ f gl gt, v9 = .pointer (some ⟨f, 0, none⟩) ∧ Bg w f gl gt (bgC L.a B P Z k rs sp st gt gl n 0) (List.replicate B 0) n wx ∧ Rm.Bx3 wx g8 B P Z)
  case first =>
    have hS : Rm.Bx3 W1.drew g8 B P Z := hG1
    have HM := Hid.mk (show Ms w g8 B P Z (List.replicate B 0) n none none W1.drew from ⟨hb1.drew, hG1, (fun gt e => by cases e), (fun gl e => by cases e)⟩)
    clear hG1 hb1 hz1 c0 c1 c2
    refine wp_region_held_drew (S := fun w' => Rm.Bx3 w' g8 B P Z) (by kernel_rfl) hS (fun hHeld => ?_)
    refine tkF 0 (fun _ q => Rm.Bx3.cells q) hHeld ?_
    refine tkF 1 (fun _ q => Rm.Bx3.cells q) hHeld ?_
    refine tkF 2 (fun _ q => Rm.Bx3.cells q) hHeld ?_
    refine tkF 4 (fun _ q => Rm.Bx3.cells q) hHeld ?_
    refine tkF 5 (fun _ q => Rm.Bx3.cells q) hHeld ?_
    refine tkF 6 (fun _ q => Rm.Bx3.cells q) hHeld ?_
    refine tkF 7 (fun _ q => Rm.Bx3.cells q) hHeld ?_
    refine tkF 8 (fun _ q => Rm.Bx3.cells q) hHeld ?_
    refine tkF 9 (fun _ q => Rm.Bx3.cells q) hHeld ?_
    refine tkF 11 (fun _ q => Rm.Bx3.cells q) hHeld ?_
    refine tkF 12 (fun _ q => Rm.Bx3.cells q) hHeld ?_
    clear hS hHeld
    refine wpAnyH_ready (rs := [3, 10, 13]) (by kernel_rfl) (by simp) ?_
    refine arH rfl (fun K hK => ?_) ?_
    · go_simp
      go_at_call 44
      refine (HR.out _).mono ?_
      rintro e w2 ⟨rfl, b2⟩
      have M0 := (HM.out).call b2
      refine hK.out _ _ M0.geo (fun _ => ?_)
      clear hK K
      try simp only [Act.put, zA, zB, zC]
      refine wpAnyH_ready (rs := [10, 13]) (by kernel_rfl) (by simp) ?_
      refine arH rfl (fun K hK => ?_) ?_
      · go_simp
        have M1 := (M0).tl
        refine hK.out _ _ M1.geo (fun _ => ?_)
        clear hK K
        try simp only [Act.put, zA, zB, zC]
        refine wpAnyH_ready (rs := [13]) (by kernel_rfl) (by simp) ?_
        refine arH rfl (fun K hK => ?_) AllReadyH.nil
        go_simp
        have M2 := (M1).la
        refine hK.out _ _ M2.geo (fun _ => ?_)
        clear hK K
        try simp only [Act.put, zA, zB, zC]
        refine tkF 14 (fun _ q => Rm.Bx3.cells q) (M2).geo ?_
        refine wpAnyH_ready (rs := [15]) (by kernel_rfl) (by simp) ?_
        refine arH rfl (fun K hK => ?_) AllReadyH.nil
        go_simp
        refine hK.out _ _ ((M2).fin _).2 (fun _ => ?_)
        clear hK K
        try simp only [Act.put, zA, zB, zC]
        refine wpAnyH_ready (rs := [16]) (by kernel_rfl) (by simp) ?_
        refine arH rfl (fun K hK => ?_) AllReadyH.nil
        go_simp
        refine hK.out _ _ ((M2).fin _).2 (fun _ => ?_)
        clear hK K
        try simp only [Act.put, zA, zB, zC]
        refine wpAnyH_done (by kernel_rfl) ?_ _
        go_wp2_with fail
        go_meet
        exact ⟨_, _, _, rfl, (M2).fin2 _ (by first | rfl | (simp only [size_alloc]; done) | (simp only [size_alloc]; rfl)) (by first | rfl | (simp only [size_alloc]; done) | (simp only [size_alloc]; rfl)) (by first | rfl | (simp only [size_alloc]; done) | (simp only [size_alloc]; rfl))⟩
      refine arH rfl (fun K hK => ?_) AllReadyH.nil
      go_simp
      have M1 := (M0).la
      refine hK.out _ _ M1.geo (fun _ => ?_)
      clear hK K
      try simp only [Act.put, zA, zB, zC]
      refine wpAnyH_ready (rs := [10]) (by kernel_rfl) (by simp) ?_
      refine arH rfl (fun K hK => ?_) AllReadyH.nil
      go_simp
      have M2 := (M1).tl
      refine hK.out _ _ M2.geo (fun _ => ?_)
      clear hK K
      try simp only [Act.put, zA, zB, zC]
      refine tkF 14 (fun _ q => Rm.Bx3.cells q) (M2).geo ?_
      refine wpAnyH_ready (rs := [15]) (by kernel_rfl) (by simp) ?_
      refine arH rfl (fun K hK => ?_) AllReadyH.nil
      go_simp
      refine hK.out _ _ ((M2).fin _).2 (fun _ => ?_)
      clear hK K
      try simp only [Act.put, zA, zB, zC]
      refine wpAnyH_ready (rs := [16]) (by kernel_rfl) (by simp) ?_
      refine arH rfl (fun K hK => ?_) AllReadyH.nil
      go_simp
      refine hK.out _ _ ((M2).fin _).2 (fun _ => ?_)
      clear hK K
      try simp only [Act.put, zA, zB, zC]
      refine wpAnyH_done (by kernel_rfl) ?_ _
      go_wp2_with fail
      go_meet
      exact ⟨_, _, _, rfl, (M2).fin2 _ (by first | rfl | (simp only [size_alloc]; done) | (simp only [size_alloc]; rfl)) (by first | rfl | (simp only [size_alloc]; done) | (simp only [size_alloc]; rfl)) (by first | rfl | (simp only [size_alloc]; done) | (simp only [size_alloc]; rfl))⟩
    refine arH rfl (fun K hK => ?_) ?_
    · go_simp
      have M0 := (HM.out).tl
      refine hK.out _ _ M0.geo (fun _ => ?_)
      clear hK K
      try simp only [Act.put, zA, zB, zC]
      refine wpAnyH_ready (rs := [3, 13]) (by kernel_rfl) (by simp) ?_
      refine arH rfl (fun K hK => ?_) ?_
      · go_simp
        go_at_call 44
        refine (HR.out _).mono ?_
        rintro e w2 ⟨rfl, b2⟩
        have M1 := (M0).call b2
        refine hK.out _ _ M1.geo (fun _ => ?_)
        clear hK K
        try simp only [Act.put, zA, zB, zC]
        refine wpAnyH_ready (rs := [13]) (by kernel_rfl) (by simp) ?_
        refine arH rfl (fun K hK => ?_) AllReadyH.nil
        go_simp
        have M2 := (M1).la
        refine hK.out _ _ M2.geo (fun _ => ?_)
        clear hK K
        try simp only [Act.put, zA, zB, zC]
        refine tkF 14 (fun _ q => Rm.Bx3.cells q) (M2).geo ?_
        refine wpAnyH_ready (rs := [15]) (by kernel_rfl) (by simp) ?_
        refine arH rfl (fun K hK => ?_) AllReadyH.nil
        go_simp
        refine hK.out _ _ ((M2).fin _).2 (fun _ => ?_)
        clear hK K
        try simp only [Act.put, zA, zB, zC]
        refine wpAnyH_ready (rs := [16]) (by kernel_rfl) (by simp) ?_
        refine arH rfl (fun K hK => ?_) AllReadyH.nil
        go_simp
        refine hK.out _ _ ((M2).fin _).2 (fun _ => ?_)
        clear hK K
        try simp only [Act.put, zA, zB, zC]
        refine wpAnyH_done (by kernel_rfl) ?_ _
        go_wp2_with fail
        go_meet
        exact ⟨_, _, _, rfl, (M2).fin2 _ (by first | rfl | (simp only [size_alloc]; done) | (simp only [size_alloc]; rfl)) (by first | rfl | (simp only [size_alloc]; done) | (simp only [size_alloc]; rfl)) (by first | rfl | (simp only [size_alloc]; done) | (simp only [size_alloc]; rfl))⟩
      refine arH rfl (fun K hK => ?_) AllReadyH.nil
      go_simp
      have M1 := (M0).la
      refine hK.out _ _ M1.geo (fun _ => ?_)
      clear hK K
      try simp only [Act.put, zA, zB, zC]
      refine wpAnyH_ready (rs := [3]) (by kernel_rfl) (by simp) ?_
      refine arH rfl (fun K hK => ?_) AllReadyH.nil
      go_simp
      go_at_call 44
      refine (HR.out _).mono ?_
      rintro e w2 ⟨rfl, b2⟩
      have M2 := (M1).call b2
      refine hK.out _ _ M2.geo (fun _ => ?_)
      clear hK K
      try simp only [Act.put, zA, zB, zC]
      refine tkF 14 (fun _ q => Rm.Bx3.cells q) (M2).geo ?_
      refine wpAnyH_ready (rs := [15]) (by kernel_rfl) (by simp) ?_
      refine arH rfl (fun K hK => ?_) AllReadyH.nil
      go_simp
      refine hK.out _ _ ((M2).fin _).2 (fun _ => ?_)
      clear hK K
      try simp only [Act.put, zA, zB, zC]
      refine wpAnyH_ready (rs := [16]) (by kernel_rfl) (by simp) ?_
      refine arH rfl (fun K hK => ?_) AllReadyH.nil
      go_simp
      refine hK.out _ _ ((M2).fin _).2 (fun _ => ?_)
      clear hK K
      try simp only [Act.put, zA, zB, zC]
      refine wpAnyH_done (by kernel_rfl) ?_ _
      go_wp2_with fail
      go_meet
      exact ⟨_, _, _, rfl, (M2).fin2 _ (by first | rfl | (simp only [size_alloc]; done) | (simp only [size_alloc]; rfl)) (by first | rfl | (simp only [size_alloc]; done) | (simp only [size_alloc]; rfl)) (by first | rfl | (simp only [size_alloc]; done) | (simp only [size_alloc]; rfl))⟩
    refine arH rfl (fun K hK => ?_) AllReadyH.nil
    go_simp
    have M0 := (HM.out).la
    refine hK.out _ _ M0.geo (fun _ => ?_)
    clear hK K
    try simp only [Act.put, zA, zB, zC]
    refine wpAnyH_ready (rs := [3, 10]) (by kernel_rfl) (by simp) ?_
    refine arH rfl (fun K hK => ?_) ?_
    · go_simp
      go_at_call 44
      refine (HR.out _).mono ?_
      rintro e w2 ⟨rfl, b2⟩
      have M1 := (M0).call b2
      refine hK.out _ _ M1.geo (fun _ => ?_)
      clear hK K
      try simp only [Act.put, zA, zB, zC]
      refine wpAnyH_ready (rs := [10]) (by kernel_rfl) (by simp) ?_
      refine arH rfl (fun K hK => ?_) AllReadyH.nil
      go_simp
      have M2 := (M1).tl
      refine hK.out _ _ M2.geo (fun _ => ?_)
      clear hK K
      try simp only [Act.put, zA, zB, zC]
      refine tkF 14 (fun _ q => Rm.Bx3.cells q) (M2).geo ?_
      refine wpAnyH_ready (rs := [15]) (by kernel_rfl) (by simp) ?_
      refine arH rfl (fun K hK => ?_) AllReadyH.nil
      go_simp
      refine hK.out _ _ ((M2).fin _).2 (fun _ => ?_)
      clear hK K
      try simp only [Act.put, zA, zB, zC]
      refine wpAnyH_ready (rs := [16]) (by kernel_rfl) (by simp) ?_
      refine arH rfl (fun K hK => ?_) AllReadyH.nil
      go_simp
      refine hK.out _ _ ((M2).fin _).2 (fun _ => ?_)
      clear hK K
      try simp only [Act.put, zA, zB, zC]
      refine wpAnyH_done (by kernel_rfl) ?_ _
      go_wp2_with fail
      go_meet
      exact ⟨_, _, _, rfl, (M2).fin2 _ (by first | rfl | (simp only [size_alloc]; done) | (simp only [size_alloc]; rfl)) (by first | rfl | (simp only [size_alloc]; done) | (simp only [size_alloc]; rfl)) (by first | rfl | (simp only [size_alloc]; done) | (simp only [size_alloc]; rfl))⟩
    refine arH rfl (fun K hK => ?_) AllReadyH.nil
    go_simp
    have M1 := (M0).tl
    refine hK.out _ _ M1.geo (fun _ => ?_)
    clear hK K
    try simp only [Act.put, zA, zB, zC]
    refine wpAnyH_ready (rs := [3]) (by kernel_rfl) (by simp) ?_
    refine arH rfl (fun K hK => ?_) AllReadyH.nil
    go_simp
    go_at_call 44
    refine (HR.out _).mono ?_
    rintro e w2 ⟨rfl, b2⟩
    have M2 := (M1).call b2
    refine hK.out _ _ M2.geo (fun _ => ?_)
    clear hK K
    try simp only [Act.put, zA, zB, zC]
    refine tkF 14 (fun _ q => Rm.Bx3.cells q) (M2).geo ?_
    refine wpAnyH_ready (rs := [15]) (by kernel_rfl) (by simp) ?_
    refine arH rfl (fun K hK => ?_) AllReadyH.nil
    go_simp
    refine hK.out _ _ ((M2).fin _).2 (fun _ => ?_)
    clear hK K
    try simp only [Act.put, zA, zB, zC]
    refine wpAnyH_ready (rs := [16]) (by kernel_rfl) (by simp) ?_
    refine arH rfl (fun K hK => ?_) AllReadyH.nil
    go_simp
    refine hK.out _ _ ((M2).fin _).2 (fun _ => ?_)
    clear hK K
    try simp only [Act.put, zA, zB, zC]
    refine wpAnyH_done (by kernel_rfl) ?_ _
    go_wp2_with fail
    go_meet
    exact ⟨_, _, _, rfl, (M2).fin2 _ (by first | rfl | (simp only [size_alloc]; done) | (simp only [size_alloc]; rfl)) (by first | rfl | (simp only [size_alloc]; done) | (simp only [size_alloc]; rfl)) (by first | rfl | (simp only [size_alloc]; done) | (simp only [size_alloc]; rfl))⟩
  case rest =>
    obtain ⟨f, gl, gt, rfl, hB, hG8⟩ := hcut
    obtain ⟨c0, c1, c2⟩ := hG8.cells
    have HB := Hid.mk (And.intro hB hG8)
    clear hB hG8 hG1 hb1 hz1
    go_upto_region 6 with (go_at_call 62; refine (Lf.new_any B P (by omega) (by omega) _).mono ?_; rintro e w3 ⟨la, lg, rfl, hl3, b3, lo3⟩)
    have hmk3 := run_make_row' (P := Tryz.prog) 30 3 (.int .i64 0) 8 Tryz.underlying30 Tryz.info3 rfl .i64 .i64 B (by omega) (by omega)
    rw [Lf.madeRow] at hmk3
    have c0' := (HB.out.2.call b3).cells.1
    have S0 : Hid (Bl w f gl gt la lg w3.heap.size B P n (bgC L.a B P Z k rs sp st gt gl n (nxR l B P 0)) (laR l B P 0) (xsR l B P 0) (wnR t l B P 0) (w3.alloc (.cells (cellsOf .i64 (List.replicate B 0)) 3))) := by
      have q := HB.out.1
      have q3 := q.call b3
      have bl := Pg.below_one w3 (.cells (cellsOf .i64 (List.replicate B 0)) 3)
      have hf := (Array.getElem?_eq_some_iff.1 q.box).1
      have ht := (Array.getElem?_eq_some_iff.1 q.tls).1
      have hgl := q.row.lt
      have hs3 := b3.size
      exact ⟨q3.call bl, hl3.call bl, Row.fresh w3 3 .i64 _, fun i hi => by
        have h1 := lo3 i hi
        have h2 := hl3.lt i hi
        have h3 := q.below.size
        exact ⟨by omega, by omega, by omega, by omega, by omega⟩, by have h3 := q.below.size; omega, by omega, by omega, by omega⟩
    clear hl3 b3 lo3 c0 c1 c2
    go_upto_region 8 with fail
    generalize w3.heap.size = gw at *
    generalize w3.alloc (.cells (cellsOf .i64 (List.replicate B 0)) 3) = W4 at *
    clear hmk1 hmk2 hmk3 c0' HB HR HG hnI
    clear c0 c1 c2
    go_loopw [13, 14, 49] (fun _ _ i wr => ∃ b : Nat, b ≤ B ∧ i = .int .i64 b ∧ Bl w f gl gt la lg gw B P n (bgC L.a B P Z k rs sp st gt gl n (nxR l B P b)) (laR l B P b) (xsR l B P b) (wnR t l B P b) wr) (fun _ _ i _ => B - (intOf i).toNat)
    case atStart => exact ⟨0, Nat.zero_le _, rfl, S0.out⟩
    case round =>
      clear S0
      obtain ⟨b, hbB, rfl, hbl⟩ := hrel
      by_cases hlt : b < B
      · have hltI : (b : Int) < (B : Int) := by omega
        obtain ⟨h, hT, hoff, hmk, hs, hbad, hb, hlo, h0, hall, hlen, hfd⟩ := H.out
        have hbw := hbl.bg.below
        have hWo := S8.hold_worn (hs.call hbw).hold (a := (b : Int)) (S8.k64 (by omega) (by omega))
        have HWo := Hid.mk (show Calls Tryz.prog 63 #[.pointer (some ⟨st, 0, none⟩), .int .i64 b] _ fun e w' => e = .returned (.int .i64 (S8.wo t (b : Int))) ∧ _ = w' from hWo)
        have hal := hall.below hbw
        have hpos : 0 < l.length := by rw [hlen]; exact Nat.mul_pos (by omega) (by omega)
        have haw : ∀ g o, aa = some ⟨g, o, none⟩ → g < w.heap.size := fun g o e => by
          obtain ⟨g', o', e', hg', _⟩ := hall 0 hpos
          rw [e] at e'
          have : g = g' := by
            have := e'
            simp at this
            exact this.1
          omega
        have hLk := lookInto_any (ac := ac) (by omega) (by omega) b hlt hbl.bg.box rfl rfl hbl.bg.row (laR_len l B P b) hbl.lif (xsR_ne l B P b b) hal hlen hbl.bg.ne.1.symm (fun x => (hbl.sep gl x).2.2.1 rfl) (fun x => (hbl.sep f x).2.1 rfl) (fun g o e => ⟨by have := haw g o e; have := hbl.bg.lo.2.1; omega, fun x => by have := haw g o e; have := (hbl.sep g x).1; omega⟩) (fun i hi => ⟨(hfd i).1, (hfd i).2.1⟩)
        have HLk := Hid.mk hLk
        have HMk := Hid.mk (fun (W : World) (nx : Int) (lal xs wns : List Int) (q : Bl w f gl gt la lg gw B P n (bgC L.a B P Z k rs sp st gt gl n nx) lal xs wns W) => lookMark_none (la := la) (h.call q.bg.below) hoff b (by omega) (hmk b (by omega)) (hs.call q.bg.below).hold hbad (by rw [cell_of_row W f 0 _ 75 _ q.bg.box]; rfl) (by rw [cell_of_row W f 9 _ 75 _ q.bg.box]; rfl))
        have HS := Hid.mk hbl
        have hwl : (wnR t l B P b).length = B := wnR_len t l B P b
        clear hbl h hT hoff hmk hs hbad hb hlo h0 hall hlen hfd hbw hWo hal haw hLk hpos
        go_upto_region 14 with (first
          | (go_at_call 63; refine HWo.out.mono ?_; rintro e w1 ⟨rfl, rfl⟩)
          | (go_at_call 64; refine HLk.out.mono ?_; rintro e w2 ⟨rfl, r2, l2, k2⟩; replace HS := Hid.mk (HS.out.look r2 l2 k2); have fz := HS.out.wrn.frozen b; have cz := HS.out.wrn.cell b (by rw [hwl]; exact hlt); clear r2 l2 k2)
          | (go_at_call 65; replace HS := Hid.mk (HS.out.worn b (max (S8.wo t (b : Int)) (lkW l (b * P) (List.range P)))); refine (HMk.out _ _ _ _ _ HS.out).mono ?_; rintro e w3 ⟨rfl, b3⟩; replace HS := Hid.mk (HS.out.call b3); clear b3))
        obtain ⟨m, hm⟩ : ∃ m, (laR l B P (b + 1)).getD b 0 = m := ⟨_, rfl⟩
        obtain ⟨nx, hnx⟩ : ∃ m, nxR l B P b = m := ⟨_, rfl⟩
        have hnx1 : nxR l B P (b + 1) = max nx m := by rw [← hm, ← hnx]; rfl
        have HS1 : Hid (Bl w f gl gt la lg gw B P n (bgC L.a B P Z k rs sp st gt gl n nx) (laR l B P (b + 1)) (xsR l B P (b + 1)) (wnR t l B P (b + 1)) w3) := by rw [← hnx]; exact HS
        have d12 : w3.cell? ⟨f, 12, none⟩ = some (.int .u64 nx) := by rw [cell_of_row w3 f 12 _ 75 _ HS1.out.bg.box]; rfl
        have d13 : w3.cell? ⟨f, 13, none⟩ = some (.slice (some ⟨gl, 0, none⟩) B B) := by rw [cell_of_row w3 f 13 _ 75 _ HS1.out.bg.box]; rfl
        have dg : w3.cell? ⟨gl, b, none⟩ = some (.int .u64 m) := by rw [HS1.out.bg.row.cell b (by rw [laR_len]; exact hlt), hm]
        have f12 : w3.frozen? ⟨f, 12, none⟩ = false := frozen_of_row w3 f 12 _ 75 HS1.out.bg.box
        have HS2 := Hid.mk (HS1.out.cell 12 (.int .u64 (max nx m))).drew
        have hS3 : NxF f gl B b nx m w3.drew := ⟨d12, d13, dg⟩
        have HE := Hid.mk (And.intro hnx1 (And.intro hm hnx))
        clear hnx1 hm hnx HS HS1 fz cz hwl dg d13 HMk HLk HWo
        obtain ⟨v, hv⟩ : ∃ v, max nx m = v := ⟨_, rfl⟩
        rw [hv] at HS2
        refine wp_region_held_drew (S := fun w' => w'.cell? ⟨f, 13, none⟩ = some (.slice (some ⟨gl, 0, none⟩) B B) ∧ w'.cell? ⟨gl, b, none⟩ = some (.int .u64 m)) (by kernel_rfl) hS3.2 (fun hHeld => ?_)
        refine tkF 0 (fun _ q => q) hHeld ?_
        refine tkF 1 (fun _ q => q) hHeld ?_
        refine tkF 2 (fun _ q => q) hHeld ?_
        refine tkF 3 (fun _ q => q) hHeld ?_
        refine tkF 5 (fun _ q => q) hHeld ?_
        refine tkF 6 (fun _ q => q) hHeld ?_
        refine tkF 7 (fun _ q => q) hHeld ?_
        refine tkF 8 (fun _ q => q) hHeld ?_
        refine tkF 9 (fun _ q => q) hHeld ?_
        refine tkF 10 (fun _ q => q) hHeld ?_
        refine tkF 11 (fun _ q => q) hHeld ?_
        refine wpAnyH_ready (rs := [4]) (by kernel_rfl) (by simp) ?_
        refine arH rfl (fun K hK => ?_) AllReadyH.nil
        go_simp
        refine hK.out _ _ hHeld (fun hHeld => ?_)
        clear hK K
        try simp only [Act.put, zA, zB, zC]
        refine tkF 12 (fun _ q => q) hHeld ?_
        refine tkF 13 (fun _ q => q) hHeld ?_
        refine tkF 14 (fun _ q => q) hHeld ?_
        refine wpAnyH_ready (rs := [15]) (by kernel_rfl) (by simp) ?_
        refine arH rfl (fun K hK => ?_) AllReadyH.nil
        go_simp
        have hS4 : (w3.setCell ⟨f, 12, none⟩ (.int .u64 v)).drew.cell? ⟨f, 13, none⟩ = some (.slice (some ⟨gl, 0, none⟩) B B) ∧ (w3.setCell ⟨f, 12, none⟩ (.int .u64 v)).drew.cell? ⟨gl, b, none⟩ = some (.int .u64 m) :=
          ⟨by rw [cell_of_row _ f 13 _ 75 _ HS2.out.bg.box]; rfl, by rw [HS2.out.bg.row.cell b (by rw [laR_len]; exact hlt), HE.out.2.1]⟩
        refine hK.out _ _ hS4 (fun _ => ?_)
        clear hK K hHeld
        try simp only [Act.put, zA, zB, zC]
        refine wpAnyH_done (by kernel_rfl) ?_ _
        go_wp2_with fail
        exact ⟨⟨b + 1, by omega, by go_num, by rw [HE.out.1, hv]; exact HS2.out⟩, by simp [intOf]; omega⟩
      · obtain rfl : b = B := by omega
        have HS := Hid.mk hbl
        have hnB := nxR_bd l b P 1000000 (by omega) (fun i => (H.out.2.2.2.2.2.2.2.2.2.2.2 i).2) b
        obtain ⟨nx, hnx⟩ : ∃ m, nxR l b P b = m := ⟨_, rfl⟩
        rw [hnx] at hnB HS
        have hw : IntKind.u64.wrap (nx + 1) = nx + 1 := by rw [IntKind.wrap_u64]; omega
        have d12 : wr.cell? ⟨f, 12, none⟩ = some (.int .u64 nx) := by rw [cell_of_row wr f 12 _ 75 _ HS.out.bg.box]; rfl
        have f12 : wr.frozen? ⟨f, 12, none⟩ = false := frozen_of_row wr f 12 _ 75 HS.out.bg.box
        replace HS := Hid.mk (HS.out.cell 12 (.int .u64 (nx + 1)))
        clear hbl
        go_upto_region 17 with fail
        generalize wr.setCell ⟨f, 12, none⟩ (.int .u64 (nx + 1)) = W5 at *
        obtain ⟨h, hT, hoff, hmk, hs, hbad, hb, hlo, h0, hall, hlen, hfd⟩ := H.out
        have hl5 : Lf.Lif W5 la lg C.B C.P (xsR l b P b) (-1) 0 := by rw [hBB, hPP]; exact HS.out.lif
        have hbw := HS.out.bg.below
        have hsep := HS.out.sep
        have hwl : (wnR t l b P b).length = b := wnR_len t l b P b
        have hN := wnew_more (h.call hbw) hl5 (l := wnR t l b P b) (ad := ⟨gw, 0, none⟩) (fun i hi => ⟨gw, 0, rfl, HS.out.wrn.lt, by rw [Nat.zero_add]; exact HS.out.wrn.cell i hi⟩) (by rw [hwl, hBB]) b w0.heap.size h0 (Nat.le_trans hb.size hbw.size) (by rw [hBB]; exact hlo) (fun i hi => Nat.le_trans hb.size (hsep i hi).1) (fun i hi x => by have := (hsep i x).1; have := h.lt hi; omega)
        rw [hwl] at hN
        have HN := Hid.mk hN
        clear h hT hoff hmk hs hbad hb hlo h0 hall hlen hfd hl5 hbw hsep hN hwl d12 f12 hlt
        go_wp2_with (go_at_call 66; refine HN.out.mono ?_; rintro e w6 ⟨A, rfl, hw6, b6, eL, ea, eg, el, eo⟩; have HS6 := HS.out.call b6; have c8 : w6.cell? ⟨f, 8, none⟩ = some (.pointer none) := by { rw [cell_of_row w6 f 8 _ 75 _ HS6.bg.box]; rfl }; have f8 : w6.frozen? ⟨f, 8, none⟩ = false := frozen_of_row w6 f 8 _ 75 HS6.bg.box; replace HS6 := Hid.mk (And.intro (HS6.cell 8 (.pointer (some ⟨A.a, 0, none⟩))) HS6); have HW6 := Hid.mk (And.intro hw6 (And.intro b6 (And.intro eL (And.intro el eo)))); clear hw6 b6 eL ea eg el eo)
        go_ret2
        obtain ⟨h, hT, hoff, hmk, hs, hbad, hb, hlo, h0, hall, hlen, hfd⟩ := H.out
        obtain ⟨hw6, b6, eL, el, eo⟩ := HW6.out
        obtain ⟨q7, q6⟩ := HS6.out
        have hlw : ∀ i, L.own C.B i → i < w.heap.size := fun i hi => h.lt hi
        have f5 := (Array.getElem?_eq_some_iff.1 HS.out.bg.box).1
        have g5 := HS.out.bg.row.lt
        have t5 := (Array.getElem?_eq_some_iff.1 HS.out.bg.tls).1
        have w5 := HS.out.bg.below.size
        have w0w := hb.size
        clear H HW6 HS6 HN HS hfd hall hmk
        subst hsp hrs hk hn
        obtain ⟨qlo1, qlo2, qlo3⟩ := q7.bg.lo
        obtain ⟨qn1, qn2, qn3⟩ := q7.bg.ne
        rw [hBB] at hlw eo
        have of : ∀ i, A.own C.B i → i ≠ f ∧ i ≠ gl ∧ i ≠ gt := fun i hi => by
          rw [hBB] at hi
          rcases eo i hi with x | x | x
          · have := hlw i x; omega
          · have := q7.sep i x; omega
          · omega
        have k7 : Kp (fun i => i = f) w6 (w6.setCell ⟨f, 8, none⟩ (.pointer (some ⟨A.a, 0, none⟩))) := (Kp.refl (fun i => i = f) w6).setCell (p := ⟨f, 8, none⟩) rfl _
        refine ⟨f, A, gl, gt, rfl, q7.bg.below, eL, ⟨⟨?_, hw6.off k7 (fun i hi => ⟨fun x => (of i x).1 hi, by rw [hi]; exact ⟨_, _, _, q6.bg.box⟩⟩)⟩, ⟨by rw [hBB], q7.bg.row, by rw [laR_len]; exact hBB.symm, fun e => qn1 e.symm, fun x => (of gl x).2.1 rfl⟩, ⟨by rw [hBB, hPP], q7.bg.tls, by rw [List.length_replicate, hBB, hPP], fun e => qn2 e.symm, fun x => (of gt x).2.2 rfl⟩, ?_, hT.call q7.bg.below, fun x => (of f x).1 rfl, qn3, below3 hb q7.bg.below, ⟨Nat.le_of_eq el.symm, by omega, by omega, by omega⟩, h0⟩⟩
        · rw [q7.bg.box]
          unfold Fc.cells
          rw [eL, hBB, hPP, hZZ, hnx]
          rfl
        · refine S8.Sth.call ?_ q7.bg.below
          refine hs.more (fun i hi => ?_)
          rcases hi with x | x | x | x | x
          · exact .inl (.inl x)
          · exact .inr (by omega)
          · exact .inr (by omega)
          · exact .inr (by omega)
          · rw [hBB] at x
            rcases eo i x with y | y | y
            · exact .inl (.inr y)
            · exact .inr (q7.sep i y).1
            · exact .inr (by omega)
end Go.Proofs.YtcmmhfjnhlaepabGreatDoor
namespace Go.Proofs.YtcmmhfjnhlaepabGreatDoor
open Go Go.RowKit

/-- a page on which nothing is written -/
def blF (i : Nat) : Fd := ⟨i, 0, 0, 0, 0, 0, 0, ⟨#[]⟩⟩
theorem lk_blank {C : Ch} {i : Nat} (h : C.pg (i / C.P) (i % C.P) = ⟨#[]⟩) (hz : C.Z ≤ 256) : LkIs C i (blF i) := by
  have hs : seen C (i / C.P) (i % C.P) = rep (C.Z + 32) 255 := by unfold seen; rw [if_pos h]
  have hd := rep_size (C.Z + 32) 255
  have ha := allF_rep (C.Z + 32)
  have hsp := extract_split (rep (C.Z + 32) 255) C.Z 32 hd
  rw [hsp, Pg.allF_append, Bool.and_eq_true] at ha
  refine ⟨rfl, _, _, hs.trans hsp, by rw [ByteArray.size_extract, hd]; omega, by rw [ByteArray.size_extract, hd]; omega, fun w _ => ?_⟩
  exact Pg.look_erased _ _ (by rw [ByteArray.size_extract, hd]; omega) (by rw [ByteArray.size_extract, hd]; omega) ha.1 ha.2 w
theorem lk_says {C : Ch} {i : Nat} {t : ByteArray} {K S I O W : Nat} (h : Says C (i / C.P) (i % C.P) t K S I O W) : LkIs C i ⟨i, 1, K, S, I, O, W, t⟩ := by
  obtain ⟨d, s, h1, h2, h3⟩ := h
  have hss := h3.size
  have hne : C.pg (i / C.P) (i % C.P) ≠ ⟨#[]⟩ := by
    intro e
    have := congrArg ByteArray.size (h1.symm.trans e)
    rw [ByteArray.size_append, hss] at this
    have h0 : (⟨#[]⟩ : ByteArray).size = 0 := rfl
    omega
  have hseen : seen C (i / C.P) (i % C.P) = d ++ s := by unfold seen; rw [if_neg hne, h1]
  exact ⟨rfl, d, s, hseen, h2, hss, fun w hT => Pg.look_v h3 w hT⟩
set_option maxRecDepth 20000 in
theorem look_ok {w : World} {L C} (h : Chip w L C) (hT : Pg.Tab w) (hoff : C.off = false) (hr : 4 ≤ Rm.roomN (C.B : Int) C.P C.Z) (F : Nat → Fd) (hF : ∀ i, i < C.B * C.P → LkIs C i (F i)) : Calls Tryz.prog 31 #[.pointer (some ⟨L.a, 0, none⟩)] w fun e w' =>
    ∃ v, e = .returned (.tuple #[v, .int .i64 0]) ∧ We.Ow w' w.heap.size 99 8 v ((fal F (C.B * C.P)).map Fd.row) ∧ Below w.heap.size w w' := by
  have hgeo := h.geo
  have HG := Hid.mk (geom_any h)
  have hg : Rm.okG C.B C.P C.Z := by unfold Rm.okG; omega
  have HR := Hid.mk (fun w => Rm.rcheck_ok C.B C.P C.Z hg w)
  rw [decide_eq_true hr] at HR
  have HA := Hid.mk (fun w' (b : Below w.heap.size w w') => all_any (h.call b) (hT.call b) hoff F hF)
  clear h hT hF hoff hr hg
  go_enter Tryz.func31, Tryz.ntmps31
  go_wp2_with (first
    | (go_at_call 8; refine HG.out.mono ?_; rintro e w1 ⟨rfl, b1⟩)
    | (go_at_call 20; refine (HR.out _).mono ?_; rintro e w2 ⟨rfl, b2⟩)
    | (go_at_call 61; refine (HA.out _ (below3 b1 b2)).mono ?_; rintro e w3 ⟨v, rfl, o3, b3⟩))
  go_ret2
  exact ⟨v, rfl, o3.lower (below3 b1 b2).size, below3 (below3 b1 b2) b3⟩
/-- nothing was written -/
theorem fal_none {F : Nat → Fd} {n : Nat} (h : ∀ i, i < n → F i = blF i) : ∀ f ∈ fal F n, f.c = 0 := by
  intro f hf
  unfold fal at hf
  obtain ⟨i, hi, rfl⟩ := List.mem_map.1 hf
  rw [h i (List.mem_range.1 hi)]
  rfl
theorem nwW_blank {l : List Fd} (h : ∀ f ∈ l, f.c = 0) : nwW l = none := by
  unfold nwW
  generalize (cntC l).2 = G
  have gen : ∀ r : List Fd, (∀ f ∈ r, f.c = 0) → r.foldl (stN G) none = none := by
    intro r
    induction r with
    | nil => intro _; rfl
    | cons f r ih =>
      intro hr
      have hc : isC f = false := decide_eq_false (fun x => by have := hr f (by simp); omega)
      rw [List.foldl_cons]
      have : stN G none f = none := by
        unfold stN
        rw [if_neg (fun x => by rw [hc] at x; exact absurd x.1 (by decide))]
      rw [this]
      exact ih (fun g hg => hr g (by simp [hg]))
  exact gen l h
set_option maxRecDepth 20000 in
theorem erasures_blank {w : World} (v : Value) (l : List Fd) (h : We.Ow w 0 99 8 v (l.map Fd.row)) (hl : ∀ f ∈ l, f.ok) (hlen : l.length ≤ 1000) (h0 : ∀ f ∈ l, f.c = 0) (n : Int) :
    Calls Tryz.prog 33 #[v, .int .i64 n] w fun e w' => ∃ P, e = .returned (.pointer (some ⟨P, 0, none⟩)) ∧ S8.Hold w.heap.size w P S8.noAb w' := by
  have HN := Hid.mk (S8.hold_new (Below.refl w.heap.size w) (Nat.le_refl _))
  have HR := Hid.mk (fun w' (b : Below w.heap.size w w') => rebuild_blank v l w' (We.Ow.lower (We.Ow.call h b) (Nat.zero_le _)) hl hlen (nwW_blank h0))
  clear h hl hlen h0
  go_enter Tryz.func33, Tryz.ntmps33
  go_wp2_with (first
    | (go_at_call 67; refine HN.out.mono ?_; rintro e w1 ⟨rfl, h1⟩)
    | (go_at_call 40; refine (HR.out _ h1.below).mono ?_; rintro e w2 ⟨rfl, b2⟩))
  go_ret
  exact ⟨_, rfl, h1.call b2⟩
end Go.Proofs.YtcmmhfjnhlaepabGreatDoor
namespace Go.Proofs.YtcmmhfjnhlaepabGreatDoor
open Go Go.RowKit

theorem room_16 : Rm.roomN ((16 : Nat) : Int) ((8 : Nat) : Int) ((64 : Nat) : Int) = 19 := by kernel_rfl
theorem resv_16 : Rm.resv ((16 : Nat) : Int) ((8 : Nat) : Int) ((64 : Nat) : Int) ((19 : Nat) : Int) = 58 := by kernel_rfl
/-- what is told of the sixteen blocks -/
def wn16 : List Int := List.replicate 16 1
def sn16 : List Gp.R6 := S8.sn wn16 S8.noAb 16
def stAfter : S8.Ab → List Gp.R6 → S8.Ab
  | t, [] => t
  | t, r :: l => stAfter (S8.apR t r).1 l
def playsB : S8.Ab → List Gp.R6 → Bool
  | _, [] => true
  | t, r :: l => decide ((S8.apR t r).2 = 0) && playsB (S8.apR t r).1 l
theorem plays_of : ∀ (l : List Gp.R6) (t : S8.Ab), playsB t l = true → S8.plays t l (stAfter t l)
  | [], _, _ => rfl
  | r :: l, t, h => by
    unfold playsB at h
    rw [Bool.and_eq_true, decide_eq_true_iff] at h
    exact ⟨h.1, plays_of l _ h.2⟩
def st1 : S8.Ab := stAfter S8.noAb sn16
theorem plays1 : S8.plays S8.noAb sn16 st1 := plays_of _ _ (by kernel_rfl)
theorem dump1 : S8.dumpA st1 = sn16 := by kernel_rfl
theorem may1 : sn16.all (fun r => Gp.R6.may r) = true := by kernel_rfl
def ckps : List ByteArray := Gp.packGo 64 (sn16.map Gp.R6.put) [] ⟨#[]⟩
theorem ckps_len : ckps.length = 2 := by kernel_rfl
/-- .. behind the two changes -/
def st2 : S8.Ab := stAfter st1 [rc1, rc2 2]
theorem plays2 : S8.plays st1 [rc1, rc2 2] st2 := plays_of _ _ (by kernel_rfl)
theorem may2 : ∀ x ∈ [rc1, rc2 2], Gp.R6.may x = true := by
  intro x hx
  have h : [rc1, rc2 2].all (fun r => Gp.R6.may r) = true := by kernel_rfl
  exact List.all_eq_true.1 h x hx
theorem one_of {α} {l : List α} {d : α} (h : l.length = 1) : l = [l.getD 0 d] := by
  cases l with
  | nil => simp at h
  | cons a r =>
    cases r with
    | nil => rfl
    | cons b r => simp at h
def tx2 : ByteArray := (Gp.packGo 64 ([rc1, rc2 2].map Gp.R6.put) [] ⟨#[]⟩).getD 0 ⟨#[]⟩
theorem pack2 : Gp.packGo 64 ([rc1, rc2 2].map Gp.R6.put) [] ⟨#[]⟩ = [tx2] := one_of (by kernel_rfl)
theorem since1 : S8.sn wn16 st1 16 = [] := by kernel_rfl
theorem since2 : S8.sn wn16 st2 16 = [] := by kernel_rfl
theorem get2 : S8.getA st2 1 2 = some 2 := by kernel_rfl
def tA : S8.Ab := (S8.apA st1 4 1 0 0 0 9).1
theorem apA1 : S8.apA st1 4 1 0 0 0 9 = (tA, 0) := by kernel_rfl
def tB : S8.Ab := (S8.apA tA 1 1 2 0 0 0).1
theorem apB1 : S8.apA tA 1 1 2 0 0 0 = (tB, 0) := by kernel_rfl
def tC : S8.Ab := (S8.layA tB 1 2 513).1
theorem layC : S8.layA tB 1 2 513 = (tC, 0) := by kernel_rfl
theorem spB : ∃ x, S8.gA tB.sp 1 = some x ∧ 2 < x.q := ⟨_, rfl, by decide⟩
theorem pagesC : S8.pagesN tC.sp = 1 := by kernel_rfl
theorem bad2 : st2.bad = [] := by kernel_rfl
/-- what the pages say, and of what kind they are -/
def T4 (i : Nat) : ByteArray := if i < 2 then ckps.getD i ⟨#[]⟩ else if i = 2 then ⟨#[120]⟩ else tx2
def Q4 (i : Nat) : Tg := if i < 2 then (3, 1, i, 2) else if i = 2 then (1, 2, 0, 1) else if i = 3 then (2, 3, 0, 1) else (1, 1, 0, 1)
theorem spC : tC.sp = [⟨1, 9, false, [(2, 513)]⟩] := by kernel_rfl
theorem live_C (m : S8.Pl) (h : S8.RefsIs m (S8.cntA tC.sp)) (hu : S8.Up m) : m.length = 1 := by
  have : m = [(513, 1)] := S8.up_ext hu (by simp [S8.Up]) (fun a => by
    rw [h.get, S8.mget_cons, spC]
    by_cases e : (513 : Int) = a
    · subst e; rfl
    · have : S8.cntA [⟨1, 9, false, [(2, 513)]⟩] a = 0 := by simp [S8.cntA, S8.cntP, e]
      rw [this, if_neg e]; rfl)
  rw [this]; rfl
/-- a chip as it was bought: nothing is written on it -/
structure NewC (C : Ch) : Prop where
  B : C.B = 16
  P : C.P = 8
  Z : C.Z = 64
  off : C.off = false
  dead : ∀ b, C.dead b = false
  unm : ∀ b, C.mark b = false
  pg : ∀ b p, C.pg b p = ⟨#[]⟩
  worn : ∀ i, C.worn i = 0
  did : C.did = 0
  cuts : ∀ i, C.cuts i = none
  fails : ∀ i, C.fails i = false
theorem newC_16 : NewC (begC 16 8 64 [] [] []) :=
  ⟨rfl, rfl, rfl, rfl, fun b => by simp [begC, newC], fun b => by simp [begC, newC], fun _ _ => rfl, fun _ => rfl, rfl, fun i => by simp [begC, cutsOf], fun i => by simp [begC, failsOf]⟩
/-- pages that say nothing tell nothing -/
theorem getD_c {l : List Fd} (h : ∀ f ∈ l, f.c = 0) (i : Nat) : (l.getD i fdZ).c = 0 := by
  rw [List.getD_eq_getElem?_getD]
  by_cases e : i < l.length
  · rw [List.getElem?_eq_getElem e]; exact h _ (List.getElem_mem e)
  · rw [List.getElem?_eq_none (by omega)]; rfl
theorem lkW_none {l : List Fd} (h : ∀ f ∈ l, f.c = 0) (n : Nat) (ks : List Nat) : lkW l n ks = 0 := by
  unfold lkW
  induction ks with
  | nil => rfl
  | cons k ks ih =>
    rw [List.foldl_cons]
    have : stp1 0 (l.getD (n + k) fdZ) = 0 := by unfold stp1; rw [getD_c h, if_neg (by decide)]
    rw [this]; exact ih
theorem lkS_none {l : List Fd} (h : ∀ f ∈ l, f.c = 0) (n : Nat) (z : Int) (ks : List Nat) : lkS l n z ks = z := by
  unfold lkS
  induction ks with
  | nil => rfl
  | cons k ks ih =>
    rw [List.foldl_cons]
    have : stp2 z (l.getD (n + k) fdZ) = z := by unfold stp2; rw [getD_c h, if_neg (by decide)]
    rw [this]; exact ih
theorem lkU_none {l : List Fd} (h : ∀ f ∈ l, f.c = 0) (n : Nat) (ks : List Nat) : lkU l n ks = false := by
  unfold lkU
  induction ks with
  | nil => rfl
  | cons k ks ih =>
    rw [List.foldl_cons]
    have : stp3 false (l.getD (n + k) fdZ) = false := by unfold stp3; rw [getD_c h]; rfl
    rw [this]; exact ih
theorem rep0 (B i : Nat) : (List.replicate B (0 : Int)).getD i 0 = 0 := by
  by_cases h : i < B <;> simp [List.getD_eq_getElem?_getD, h]
theorem xsR_none {l : List Fd} (h : ∀ f ∈ l, f.c = 0) (B P : Nat) : ∀ k i, (xsR l B P k).getD i 0 = 0
  | 0, i => by unfold xsR; exact rep0 B i
  | k + 1, i => by
    unfold xsR
    rw [lkU_none h, if_neg (by decide)]
    exact xsR_none h B P k i
theorem wnR_none {l : List Fd} (h : ∀ f ∈ l, f.c = 0) (B P : Nat) : ∀ k i, (wnR S8.noAb l B P k).getD i 0 = 0
  | 0, i => by unfold wnR; exact rep0 B i
  | k + 1, i => by
    unfold wnR
    rw [lkW_none h]
    by_cases e : i = k
    · subst e
      by_cases e2 : i < (wnR S8.noAb l B P i).length
      · rw [List.getD_eq_getElem?_getD, List.getElem?_set_self e2]; rfl
      · rw [List.getD_eq_getElem?_getD, List.getElem?_eq_none (by rw [List.length_set]; omega)]; rfl
    · rw [List.getD_eq_getElem?_getD, List.getElem?_set_ne (by omega), ← List.getD_eq_getElem?_getD]
      exact wnR_none h B P k i
theorem laR_none {l : List Fd} (h : ∀ f ∈ l, f.c = 0) (B P : Nat) : ∀ k i, (laR l B P k).getD i 0 = 0
  | 0, i => laR_later l B P 0 i (Nat.zero_le _)
  | k + 1, i => by
    unfold laR
    rw [lkS_none h]
    by_cases e : i = k
    · subst e
      by_cases e2 : i < (laR l B P i).length
      · rw [List.getD_eq_getElem?_getD, List.getElem?_set_self e2, Option.getD_some]; exact laR_none h B P i i
      · rw [List.getD_eq_getElem?_getD, List.getElem?_eq_none (by rw [List.length_set]; omega)]; rfl
    · rw [List.getD_eq_getElem?_getD, List.getElem?_set_ne (by omega), ← List.getD_eq_getElem?_getD]
      exact laR_none h B P k i
theorem nxR_none {l : List Fd} (h : ∀ f ∈ l, f.c = 0) (B P : Nat) : ∀ k, nxR l B P k = 0
  | 0 => rfl
  | k + 1 => by
    unfold nxR
    rw [nxR_none h B P k, laR_none h]
    rfl
/-- .. and an FTL that was begun on it, ahead of the first erasure -/
theorem fresh0 {C : Ch} (h : NewC C) {l : List Fd} (hl : ∀ f ∈ l, f.c = 0) : Fresh 0 ⟨C, xsR l C.B C.P C.B, -1, 0, wnR S8.noAb l C.B C.P C.B, []⟩ :=
  ⟨h.off, h.dead, fun b p _ _ => h.pg b p, fun i _ => wnR_none hl _ _ _ i, fun i => by
    show 0 ≤ C.worn i ∧ C.worn i ≤ _
    rw [h.worn, if_neg (by omega)]; omega, fun i _ => xsR_none hl _ _ _ i, rfl, rfl, h.did, ⟨h.cuts, h.fails⟩, by show C.Z ≤ 256; rw [h.Z]; decide, fun b _ => h.unm b⟩
end Go.Proofs.YtcmmhfjnhlaepabGreatDoor
