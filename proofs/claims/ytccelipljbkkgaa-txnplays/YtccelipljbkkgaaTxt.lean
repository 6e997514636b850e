/-
  A transaction in memory, and what a call may turn of it; isNone, closed, beyond. No condition. A transaction: Lay, the two functions that are handed over, mayBe, Changes, Spaces, Get. No condition. A transaction: a change is tried on a copy. No condition.
-/
import Derived.Test.YtccelipljbkkgaaCop
import Derived.Test.YtccelipljbkkgaaRecs
import Derived.Test.YtccelipljbkkgaaAlk
import Derived.Deep.RegionHeld3
import Derived.Deep.AppendLies
namespace Go.Proofs.Ytccelipljbkkgaa
open Go Go.RowKit Go.Maps

/-- a change: a record and a text -/
structure Cg where
  r : R6
  s : ByteArray
def cgR (c : Cg) : List Value := [.int .i64 c.r.1, .int .i64 c.r.2.1, .int .i64 c.r.2.2.1, .int .i64 c.r.2.2.2.1, .int .i64 c.r.2.2.2.2.1, .int .i64 c.r.2.2.2.2.2, .string c.s]
/-- a transaction said plainly -/
structure TX where
  a : Ab
  pl : Int
  ks : Int
  rr : Int
  rp : Int
  sz : Int
  fi : Int
  cs : List Cg
def txC (p : Nat) (v : Value) (X : TX) : Array Value := #[.pointer (some ⟨p, 0, none⟩), .int .i64 X.pl, .int .i64 X.ks, .int .i64 X.rr, .int .i64 X.rp, .int .i64 X.sz, .int .i64 X.fi, v]
structure TxH (B g : Nat) (v : Value) (X : TX) (s : St) (w : World) : Prop where
  box : w.heap[g]? = some (.cells (txC s.p v X) 76 (0, 0))
  st : Whole w s
  eq : ab s = X.a
  hi : ∀ i ∈ foot s, B ≤ i
  ow : Ow w B 49 7 v (X.cs.map cgR)
  hg : B ≤ g
theorem TxH.lt {B g v X s w} (h : TxH B g v X s w) : g < w.heap.size := (Array.getElem?_eq_some_iff.1 h.box).1
theorem TxH.call {B g v X s w w'} (h : TxH B g v X s w) (b : Below w.heap.size w w') : TxH B g v X s w' := ⟨(b.block g h.lt).trans h.box, h.st.call b, h.eq, h.hi, h.ow.call b, h.hg⟩
theorem TxH.alloc {B g v X s w} (h : TxH B g v X s w) (o : Obj) : TxH B g v X s (w.alloc o) := h.call ((Below.refl _ w).alloc (Nat.le_refl _) o)
theorem TxH.cells {B g v X s w} (h : TxH B g v X s w) : w.cell? ⟨g, 0, none⟩ = some (.pointer (some ⟨s.p, 0, none⟩)) ∧ w.cell? ⟨g, 1, none⟩ = some (.int .i64 X.pl) ∧ w.cell? ⟨g, 2, none⟩ = some (.int .i64 X.ks) ∧ w.cell? ⟨g, 5, none⟩ = some (.int .i64 X.sz) ∧ w.cell? ⟨g, 6, none⟩ = some (.int .i64 X.fi) ∧ w.cell? ⟨g, 7, none⟩ = some v := by
  refine ⟨?_, ?_, ?_, ?_, ?_, ?_⟩ <;> rw [cell_of_row w g _ _ 76 _ h.box] <;> rfl
theorem TxH.fz {B g v X s w} (h : TxH B g v X s w) (j : Nat) : w.frozen? ⟨g, j, none⟩ = false := frozen_of_row w g j _ 76 h.box
theorem TxH.inv {B g v X s w} (h : TxH B g v X s w) : InvA X.a := h.eq ▸ h.st.inv
/-- only the transaction at g and its list of changes have turned -/
structure Tch (w w' : World) (g : Nat) (v v' : Value) : Prop where
  os : w'.os = w.os
  tape : w'.tape = w.tape
  output : w'.output = w.output
  size : w.heap.size ≤ w'.heap.size
  block : ∀ i, i < w.heap.size → i ≠ g → v.ownBlock ≠ some i → w'.heap[i]? = w.heap[i]?
  own : v'.ownBlock = v.ownBlock ∨ ∃ b, v'.ownBlock = some b ∧ w.heap.size ≤ b
theorem Tch.refl (w : World) (g : Nat) (v : Value) : Tch w w g v v := ⟨rfl, rfl, rfl, Nat.le_refl _, fun _ _ _ _ => rfl, .inl rfl⟩
theorem Tch.ofBelow {w w' : World} (b : Below w.heap.size w w') (g : Nat) (v : Value) : Tch w w' g v v := ⟨b.os, b.tape, b.output, b.size, fun i hi _ _ => b.block i hi, .inl rfl⟩
theorem Tch.trans {a b c : World} {g : Nat} {v v1 v2 : Value} (h : Tch a b g v v1) (k : Tch b c g v1 v2) : Tch a c g v v2 := by
  refine ⟨k.os.trans h.os, k.tape.trans h.tape, k.output.trans h.output, Nat.le_trans h.size k.size, fun i hi hg hv => ?_, ?_⟩
  · refine (k.block i (Nat.lt_of_lt_of_le hi h.size) hg (fun e => ?_)).trans (h.block i hi hg hv)
    rcases h.own with q | ⟨b', q, hb⟩
    · exact hv (q ▸ e)
    · rw [q] at e; cases e; omega
  · rcases k.own with q | ⟨b', q, hb⟩
    · rcases h.own with q' | ⟨b', q', hb⟩
      · exact .inl (q.trans q')
      · exact .inr ⟨b', q.trans q', hb⟩
    · exact .inr ⟨b', q, Nat.le_trans h.size hb⟩
theorem Tch.below {B : Nat} {w w' : World} {g : Nat} {v v' : Value} (h : Tch w w' g v v') (hB : B ≤ w.heap.size) (hg : B ≤ g) (hv : ∀ b, v.ownBlock = some b → B ≤ b) : Below B w w' :=
  ⟨h.os, h.tape, h.output, h.size, fun i hi => h.block i (by omega) (by omega) (fun e => by have := hv i e; omega)⟩
/-- how many places, as the answer counts them -/
def liveA (t : Ab) : Nat := nL (lvA t.sp) (lvA t.sp).length
theorem whole_live {w s} (h : Whole w s) : s.refs.length = liveA (ab s) := (nL_refs h.refs h.at'.hR.up).symm
/-- why pages of a space may not be changed -/
def clA (t : Ab) (id : Int) : Int := match gA t.sp id with | none => 80 | some x => if x.sl = true then 170 else 0
theorem isNone_no {w : World} {g p : Nat} (c0 : w.cell? ⟨g, 0, none⟩ = some (.pointer (some ⟨p, 0, none⟩))) : Calls Try.prog 36 #[.pointer (some ⟨g, 0, none⟩)] w fun e w' => e = .returned (.bool false) ∧ w = w' := by
  go_enter Try.func36, Try.ntmps36
  go_wp2
  go_ret
  exact ⟨rfl, rfl⟩
theorem isNone_nil (w : World) : Calls Try.prog 36 #[.pointer none] w fun e w' => e = .returned (.bool true) ∧ w = w' := by
  go_enter Try.func36, Try.ntmps36
  go_wp2
  go_ret
  exact ⟨rfl, rfl⟩
/-- Space, whatever is asked -/
theorem space_any {w s} (h : Whole w s) {id : Int} (hi : K64 id) :
    Calls Try.prog 40 #[.pointer (some ⟨s.p, 0, none⟩), .int .i64 id] w fun e w' => e = .returned (.tuple #[svO (gA (ab s).sp id), .bool (gA (ab s).sp id).isSome]) ∧ Below w.heap.size w w' := by
  cases hg : gsp s.sp id with
  | none =>
    rw [ab_gspN hg]
    exact space_none h.at' hi hg
  | some x =>
    rw [ab_gsp hg]
    have hx := (gsp_some hg).2
    subst hx
    exact space_some h.at' hi (gsp_id hg)
set_option maxRecDepth 20000 in
theorem closed_any {B g v X s w} (h : TxH B g v X s w) {id : Int} (hi : K64 id) : Calls Try.prog 37 #[.pointer (some ⟨g, 0, none⟩), .int .i64 id] w fun e w' => e = .returned (.int .i64 (clA X.a id)) ∧ Below w.heap.size w w' := by
  have q := space_any h.st hi
  rw [h.eq] at q
  obtain ⟨c0, -, -, -, -, -⟩ := h.cells
  have Q := Hid.mk q
  clear q h
  unfold clA
  cases hg : gA X.a.sp id with
  | none =>
    rw [hg] at Q
    go_enter Try.func37, Try.ntmps37
    go_wp2_with (first | (go_at_call 40; refine Q.out.mono ?_; rintro e w1 ⟨rfl, b1⟩; simp only [svO, sv, svC, Option.isSome_none]))
    go_ret
    exact ⟨rfl, b1.alloc b1.size _⟩
  | some x =>
    rw [hg] at Q
    obtain ⟨xi, xq, xs, xp⟩ := x
    cases xs
    · go_enter Try.func37, Try.ntmps37
      go_wp2_with (first | (go_at_call 40; refine Q.out.mono ?_; rintro e w1 ⟨rfl, b1⟩; simp only [svO, sv, svC, Option.isSome_some]))
      go_ret
      exact ⟨rfl, b1.alloc b1.size _⟩
    · go_enter Try.func37, Try.ntmps37
      go_wp2_with (first | (go_at_call 40; refine Q.out.mono ?_; rintro e w1 ⟨rfl, b1⟩; simp only [svO, sv, svC, Option.isSome_some]))
      go_ret
      exact ⟨rfl, b1.alloc b1.size _⟩
set_option maxRecDepth 20000 in
theorem beyond_any {w s} (h : Whole w s) (hz : ∀ a, 512 ≤ a → cntA (ab s).sp a = 0) : Calls Try.prog 32 #[.pointer (some ⟨s.p, 0, none⟩)] w fun e w' => e = .returned (.int .i64 512) ∧ w = w' := by
  have q : ∀ k : Nat, k < 8 → Calls Try.prog 65 #[.pointer (some ⟨s.p, 0, none⟩), .int .i64 (512 + k : Int)] w fun e w' => e = .returned (.int .i64 0) ∧ w = w' := fun k hk => by
    have := refs_any h.at' (a := (512 + k : Int)) (k64 (by omega) (by omega))
    rw [h.refs.val, hz _ (by omega)] at this
    exact this
  have Q := Hid.mk q
  clear q h hz
  go_enter Try.func32, Try.ntmps32
  go_upto_region 3 with fail
  go_loopw [3, 4] (fun f i wr => f = .int .i64 512 ∧ w = wr ∧ ∃ k : Nat, k ≤ 8 ∧ i = .int .i64 (512 + k : Int)) (fun _ i _ => 520 - (intOf i).toNat)
  case atStart => exact ⟨rfl, rfl, 0, by omega, rfl⟩
  case round =>
    obtain ⟨rfl, rfl, k, hk, rfl⟩ := hrel
    by_cases hk8 : k < 8
    · go_wp2_with (first | (go_at_call 65; refine (Q.out k hk8).mono ?_; rintro e w1 ⟨rfl, rfl⟩))
      exact ⟨⟨by first | rfl | trivial, by first | rfl | trivial, k + 1, by omega, by go_num⟩, by simp [intOf]; omega⟩
    · have hk2 : k = 8 := by omega
      subst hk2
      go_wp2_with fail
      go_ret
      exact ⟨rfl, rfl⟩
/-- a page laid at any place -/
def layA (t : Ab) (S P A : Int) : Ab × Int :=
  match gA t.sp S with
  | none => (t, 80)
  | some x => if P < 0 ∨ x.q ≤ P then (t, 81) else ({ t with sp := sA t.sp { x with ps := mput x.ps P A } }, 0)
theorem putA_lay {t : Ab} {S P A : Int} (hP : 0 ≤ P) : putA t S P A = layA t S P A := by
  unfold putA layA
  cases gA t.sp S with
  | none => rfl
  | some x =>
    show (if x.q ≤ P then _ else _) = if P < 0 ∨ x.q ≤ P then _ else _
    by_cases h : x.q ≤ P
    · rw [if_pos h, if_pos (.inr h)]
    · rw [if_neg h, if_neg (by omega)]
theorem boxed0 {w w1 : World} (o : Obj) (b : Below (w.alloc o).heap.size (w.alloc o) w1) : Below w.heap.size w w1 := ((Below.refl _ w).alloc (Nat.le_refl _) o).trans (b.mono (by rw [size_alloc]; omega))
set_option maxRecDepth 20000 in
theorem lay_any {w s} (h : Whole w s) {x : Asp} {S P A : Int} (hg : gA (ab s).sp S = some x) (hP : 0 ≤ P) (hq : P < x.q) (hA : 0 ≤ A ∧ A ≤ 2000) :
    Calls Try.prog 41 #[.pointer (some ⟨s.p, 0, none⟩), .int .i64 S, .int .i64 P, .int .i64 A] w (Done w s (layA (ab s) S P A)) := by
  have hx := gA_some hg
  have hS := h.inv.ids x hx.1
  have hQ := h.inv.qs x hx.1
  rw [hx.2] at hS
  have hm : mayB 1 S P 0 0 0 = true := by rw [mayB_iff]; unfold mayR; omega
  have hck := fun W => checkB_any 1 S P 0 0 0 W
  rw [hm] at hck
  have hput : ∀ W, Below w.heap.size w W → Calls Try.prog 22 #[.pointer (some ⟨s.p, 0, none⟩), .int .i64 S, .int .i64 P, .int .i64 A] W (Done W s (layA (ab s) S P A)) := fun W b => by
    rw [← putA_lay hP]
    exact put_ab (h.call b) hS (by omega) hA
  have hfl := fun W (b : Below w.heap.size w W) => fill_any (h.call b).at'
  have hA0 : decide (A < 0) = false := by simp; omega
  unfold rv at hck
  have HC := Hid.mk (And.intro hck (And.intro hput hfl))
  clear hck hput hfl h hx hS hQ hm hg hq hA
  go_enter Try.func41, Try.ntmps41
  go_upto_region 3 with (first | (go_at_call 20; refine (HC.out.1 _).mono ?_; rintro e w1 ⟨rfl, b1⟩))
  go_wp2_with (first
    | (go_at_call 21; refine (HC.out.2.2 _ (by assumption)).mono ?_; rintro e w2 ⟨rfl, rfl⟩)
    | (go_at_call 22; refine (HC.out.2.1 _ (by assumption)).mono ?_; intro e w2 hd; obtain ⟨rfl, hd2⟩ := hd))
  go_ret
  exact Done.call b1 ⟨rfl, hd2⟩
set_option maxRecDepth 20000 in
/-- what a page that is put comes to, by the function that is handed over -/
theorem put1_any {w s} (h : Whole w s) {x : Asp} {S P A : Int} {g1 g2 g3 : Nat} (hS : K64 S) (hg : gA (ab s).sp S = some x) (hA : 0 ≤ A ∧ A ≤ 2000)
    (c1 : w.cell? ⟨g1, 0, none⟩ = some (.int .i64 S)) (c2 : w.cell? ⟨g2, 0, none⟩ = some (.int .i64 P)) (c3 : w.cell? ⟨g3, 0, none⟩ = some (.int .i64 A)) (l1 : g1 < w.heap.size) (l2 : g2 < w.heap.size) (l3 : g3 < w.heap.size) :
    Calls Try.prog 39 #[.pointer (some ⟨s.p, 0, none⟩), .pointer (some ⟨g1, 0, none⟩), .pointer (some ⟨g2, 0, none⟩), .pointer (some ⟨g3, 0, none⟩)] w (Done w s (layA (ab s) S P A)) := by
  have q := space_any h hS
  rw [hg] at q
  have hl : 0 ≤ P → P < x.q → ∀ W, Below w.heap.size w W → Calls Try.prog 41 #[.pointer (some ⟨s.p, 0, none⟩), .int .i64 S, .int .i64 P, .int .i64 A] W (Done W s (layA (ab s) S P A)) := fun h1 h2 W b => lay_any (h.call b) hg h1 h2 hA
  have he : P < 0 ∨ x.q ≤ P → layA (ab s) S P A = (ab s, 81) := fun h1 => by unfold layA; rw [hg]; exact if_pos h1
  have H := Hid.mk (And.intro h (And.intro q (And.intro hl he)))
  clear h q hl he hg hA
  obtain ⟨xi, xq, xs, xp⟩ := x
  simp only [svO, sv, svC, Option.isSome_some] at H
  by_cases hp0 : P < 0
  · have hd : decide (P < 0) = true := by simpa using hp0
    go_enter Try.func39, Try.ntmps39
    go_wp2_with (first | (go_at_call 40; refine H.out.2.1.mono ?_; rintro e w1 ⟨rfl, b1⟩; have e1 := b1.cell (p := ⟨g1, 0, none⟩) l1; have e2 := b1.cell (p := ⟨g2, 0, none⟩) l2; have e3 := b1.cell (p := ⟨g3, 0, none⟩) l3; rw [c1] at e1; rw [c2] at e2; rw [c3] at e3; have m1 := Nat.lt_of_lt_of_le l1 b1.size; have m2 := Nat.lt_of_lt_of_le l2 b1.size; have m3 := Nat.lt_of_lt_of_le l3 b1.size))
    go_ret
    rw [H.out.2.2.2 (.inl hp0)]
    exact Done.call (b1.alloc b1.size _) (Done.same (H.out.1.call (b1.alloc b1.size _)) 81)
  · have hd : decide (P < 0) = false := by simpa using hp0
    by_cases hq : xq ≤ P
    · have hd2 : decide (xq ≤ P) = true := by simpa using hq
      go_enter Try.func39, Try.ntmps39
      go_wp2_with (first | (go_at_call 40; refine H.out.2.1.mono ?_; rintro e w1 ⟨rfl, b1⟩; have e1 := b1.cell (p := ⟨g1, 0, none⟩) l1; have e2 := b1.cell (p := ⟨g2, 0, none⟩) l2; have e3 := b1.cell (p := ⟨g3, 0, none⟩) l3; rw [c1] at e1; rw [c2] at e2; rw [c3] at e3; have m1 := Nat.lt_of_lt_of_le l1 b1.size; have m2 := Nat.lt_of_lt_of_le l2 b1.size; have m3 := Nat.lt_of_lt_of_le l3 b1.size))
      go_ret
      rw [H.out.2.2.2 (.inr hq)]
      exact Done.call (b1.alloc b1.size _) (Done.same (H.out.1.call (b1.alloc b1.size _)) 81)
    · have hd2 : decide (xq ≤ P) = false := by simpa using hq
      have hq2 : P < xq := by omega
      have hp2 : 0 ≤ P := by omega
      have L := Hid.mk (H.out.2.2.1 hp2 hq2)
      clear hq hp0 hq2 hp2
      go_enter Try.func39, Try.ntmps39
      go_wp2_with (first
        | (go_at_call 40; refine H.out.2.1.mono ?_; rintro e w1 ⟨rfl, b1⟩; have e1 := b1.cell (p := ⟨g1, 0, none⟩) l1; have e2 := b1.cell (p := ⟨g2, 0, none⟩) l2; have e3 := b1.cell (p := ⟨g3, 0, none⟩) l3; rw [c1] at e1; rw [c2] at e2; rw [c3] at e3; have m1 := Nat.lt_of_lt_of_le l1 b1.size; have m2 := Nat.lt_of_lt_of_le l2 b1.size; have m3 := Nat.lt_of_lt_of_le l3 b1.size)
        | (go_at_call 41; refine (L.out _ (b1.alloc b1.size _)).mono ?_; intro e w2 hd3; obtain ⟨rfl, hd4⟩ := hd3))
      go_ret
      exact Done.call (b1.alloc b1.size _) ⟨rfl, hd4⟩
/-- what a record comes to, by the function that is handed over -/
theorem do1_any {w s} (h : Whole w s) {K S P A T N : Int} {g1 : Nat} (hr : Row w g1 35 .i64 [K, S, P, A, T, N]) :
    Calls Try.prog 43 #[.pointer (some ⟨s.p, 0, none⟩), .pointer (some ⟨g1, 0, none⟩)] w (Done w s (apA (ab s) K S P A T N)) := by
  have q := apply_any h K S P A T N
  obtain ⟨c0, c1, c2, c3, c4, c5⟩ := hr.six
  unfold rv at q
  have Q := Hid.mk q
  clear q h hr
  go_enter Try.func43, Try.ntmps43
  go_wp2_with (first | (go_at_call 7; refine Q.out.mono ?_; intro e w2 hd; obtain ⟨rfl, hd4⟩ := hd))
  go_ret
  exact ⟨rfl, hd4⟩
def kindB (K : Int) : Bool := K == 2 || K == 4 || K == 5 || K == 6 || K == 7
set_option maxRecDepth 20000 in
theorem mayBe_any (K S P A T N : Int) (w : World) : Calls Try.prog 42 #[rv K S P A T N] w fun e w' => e = .returned (.bool (kindB K && mayB K S P A T N)) ∧ Below w.heap.size w w' := by
  have hck := fun W => checkB_any K S P A T N W
  unfold rv at *
  have HC := Hid.mk hck
  clear hck
  generalize mayB K S P A T N = b at *
  by_cases h2 : K = 2
  · subst h2
    go_enter Try.func42, Try.ntmps42
    go_wp2_with (first | (go_at_call 20; refine (HC.out _).mono ?_; rintro e w1 ⟨rfl, b1⟩))
    go_ret
    exact ⟨by simp [kindB], boxed0 _ b1⟩
  by_cases h4 : K = 4
  · subst h4
    go_enter Try.func42, Try.ntmps42
    go_wp2_with (first | (go_at_call 20; refine (HC.out _).mono ?_; rintro e w1 ⟨rfl, b1⟩))
    go_ret
    exact ⟨by simp [kindB], boxed0 _ b1⟩
  by_cases h5 : K = 5
  · subst h5
    go_enter Try.func42, Try.ntmps42
    go_wp2_with (first | (go_at_call 20; refine (HC.out _).mono ?_; rintro e w1 ⟨rfl, b1⟩))
    go_ret
    exact ⟨by simp [kindB], boxed0 _ b1⟩
  by_cases h6 : K = 6
  · subst h6
    go_enter Try.func42, Try.ntmps42
    go_wp2_with (first | (go_at_call 20; refine (HC.out _).mono ?_; rintro e w1 ⟨rfl, b1⟩))
    go_ret
    exact ⟨by simp [kindB], boxed0 _ b1⟩
  by_cases h7 : K = 7
  · subst h7
    go_enter Try.func42, Try.ntmps42
    go_wp2_with (first | (go_at_call 20; refine (HC.out _).mono ?_; rintro e w1 ⟨rfl, b1⟩))
    go_ret
    exact ⟨by simp [kindB], boxed0 _ b1⟩
  have k2 : (K == 2) = false := by simpa using h2
  have k4 : (K == 4) = false := by simpa using h4
  have k5 : (K == 5) = false := by simpa using h5
  have k6 : (K == 6) = false := by simpa using h6
  have k7 : (K == 7) = false := by simpa using h7
  have kb : kindB K = false := by unfold kindB; rw [k2, k4, k5, k6, k7]; rfl
  rw [kb]
  clear kb
  go_enter Try.func42, Try.ntmps42
  go_wp2_with fail
  go_ret
  exact ⟨rfl, (Below.refl _ w).alloc (Nat.le_refl _) _⟩
/-- a change that is tried; R: what it comes to on a copy -/
def tryA (X : TX) (c : Cg) (R : Ab × Int) : TX × Int :=
  if 8 ≤ X.cs.length then (X, 171)
  else if R.2 ≠ 0 then (X, R.2)
  else if X.pl < (liveA R.1 : Int) ∨ X.ks < (pagesN R.1.sp : Int) then (X, 172)
  else ({ X with a := R.1, cs := X.cs ++ [c] }, 0)
/-- what a change of a transaction answers and leaves -/
def TxD (B g : Nat) (v : Value) (r : TX × Int) (w : World) (e : Ending) (w' : World) : Prop := e = .returned (.int .i64 r.2) ∧ ∃ v' s', TxH B g v' r.1 s' w' ∧ Tch w w' g v v'
theorem TxD.same {B g v X s w w'} (h : TxH B g v X s w) (b : Below w.heap.size w w') (c : Int) : TxD B g v (X, c) w (.returned (.int .i64 c)) w' := ⟨rfl, v, s, h.call b, Tch.ofBelow b g v⟩
theorem Whole.alloc {w s} (h : Whole w s) (o : Obj) : Whole (w.alloc o) s := h.call ((Below.refl _ w).alloc (Nat.le_refl _) o)
/-- a change in a block of its own -/
def BxC (w : World) (gc : Nat) (r0 r1 r2 r3 r4 r5 : Int) (str : ByteArray) : Prop := w.heap[gc]? = some (.cells #[.int .i64 r0, .int .i64 r1, .int .i64 r2, .int .i64 r3, .int .i64 r4, .int .i64 r5, .string str] 49 (0, 0))
/-- a transaction whose copy is made, and whose change lies at gc -/
structure TxL (B g gc : Nat) (v : Value) (X : TX) (s s3 : St) (p3 : Nat) (w w6 : World) (r0 r1 r2 r3 r4 r5 : Int) (str : ByteArray) : Prop where
  t : TxH B g v X s w6
  hB : B ≤ w.heap.size
  st : Whole w6 s3
  hp : s3.p = p3
  hi : ∀ i ∈ foot s3, w.heap.size < i
  bx : BxC w6 gc r0 r1 r2 r3 r4 r5 str
  bel : Below w.heap.size w w6
  vlt : ∀ b, v.ownBlock = some b → b < w.heap.size
  glt : g < w.heap.size
/-- the copy has taken the state's place -/
structure TxM (B g gc : Nat) (v : Value) (X : TX) (s3 : St) (p3 : Nat) (w w7 : World) (r0 r1 r2 r3 r4 r5 : Int) (str : ByteArray) : Prop where
  box : w7.heap[g]? = some (.cells (txC p3 v X) 76 (0, 0))
  hB0 : B ≤ w.heap.size
  st : Whole w7 s3
  hp : s3.p = p3
  hi : ∀ i ∈ foot s3, w.heap.size < i
  bx : BxC w7 gc r0 r1 r2 r3 r4 r5 str
  ow : Ow w7 B 49 7 v (X.cs.map cgR)
  hg : B ≤ g
  size : w.heap.size ≤ w7.heap.size
  os : w7.os = w.os
  tape : w7.tape = w.tape
  output : w7.output = w.output
  block : ∀ i, i < w.heap.size → i ≠ g → w7.heap[i]? = w.heap[i]?
  vlt : ∀ b, v.ownBlock = some b → b < w.heap.size
  glt : g < w.heap.size
theorem snoc_len {α β : Type} (f : α → β) (l : List α) (y : β) : (l.map f ++ [y]).length = l.length + 1 := by simp
theorem Ow.ne {w : World} {B e sz v rows} (h : Ow w B e sz v rows) {g : Nat} {cs : Array Value} {t : TypeId} {f : Nat × Nat} (hg : w.heap[g]? = some (.cells cs t f)) (ht : t ≠ e) : v.ownBlock ≠ some g := by
  intro q
  rcases h.own.2 with ⟨p, _⟩ | ⟨g', cap, cur, rfl, q1, q2, q3⟩
  · rw [p] at q; cases q
  · cases q
    rw [q2] at hg
    cases hg
    exact ht rfl
theorem TxL.set0 {B g gc v X s s3 p3 w w6 r0 r1 r2 r3 r4 r5 str} (h : TxL B g gc v X s s3 p3 w w6 r0 r1 r2 r3 r4 r5 str) : TxM B g gc v X s3 p3 w (w6.setCell ⟨g, 0, none⟩ (.pointer (some ⟨p3, 0, none⟩))) r0 r1 r2 r3 r4 r5 str := by
  have e : ∀ i, i ≠ g → (w6.setCell ⟨g, 0, none⟩ (.pointer (some ⟨p3, 0, none⟩))).heap[i]? = w6.heap[i]? := fun i hi => heap_setCell_other w6 ⟨g, 0, none⟩ i _ hi
  have hne : g ≠ gc := fun q => by
    have h1 := h.t.box
    have h2 := h.bx
    unfold BxC at h2
    rw [← q, h1] at h2
    simp at h2
  refine ⟨?_, h.hB, h.st.frame (fun i hi => e i (fun q => ?_)), h.hp, h.hi, (e gc hne.symm).trans h.bx, h.t.ow.same (fun b hb => e b (fun q => h.t.ow.ne h.t.box (by decide) (q ▸ hb))), h.t.hg, by simpa [World.setCell] using h.bel.size, h.bel.os, h.bel.tape, h.bel.output, fun i hi hg => (e i hg).trans (h.bel.block i hi), h.vlt, h.glt⟩
  · exact heap_setCell_same w6 g 0 _ 76 _ h.t.box
  · have h1 := h.hi i hi
    have h2 := h.glt
    omega
theorem TxM.hB {B g gc v X s3 p3 w w7 r0 r1 r2 r3 r4 r5 str} (h : TxM B g gc v X s3 p3 w w7 r0 r1 r2 r3 r4 r5 str) : B ≤ w7.drew.heap.size := Nat.le_trans h.hB0 h.size
theorem TxM.cells {B g gc v X s3 p3 w w7 r0 r1 r2 r3 r4 r5 str} (h : TxM B g gc v X s3 p3 w w7 r0 r1 r2 r3 r4 r5 str) : w7.cell? ⟨g, 7, none⟩ = some v ∧ w7.frozen? ⟨g, 7, none⟩ = false ∧ g < w7.heap.size ∧
    w7.cell? ⟨gc, 0, none⟩ = some (.int .i64 r0) ∧ w7.cell? ⟨gc, 1, none⟩ = some (.int .i64 r1) ∧ w7.cell? ⟨gc, 2, none⟩ = some (.int .i64 r2) ∧ w7.cell? ⟨gc, 3, none⟩ = some (.int .i64 r3) ∧ w7.cell? ⟨gc, 4, none⟩ = some (.int .i64 r4) ∧ w7.cell? ⟨gc, 5, none⟩ = some (.int .i64 r5) ∧ w7.cell? ⟨gc, 6, none⟩ = some (.string str) ∧ gc < w7.heap.size := by
  refine ⟨?_, frozen_of_row w7 g 7 _ 76 h.box, (Array.getElem?_eq_some_iff.1 h.box).1, ?_, ?_, ?_, ?_, ?_, ?_, ?_, (Array.getElem?_eq_some_iff.1 h.bx).1⟩
  · rw [cell_of_row w7 g _ _ 76 _ h.box]; rfl
  all_goals (rw [cell_of_row w7 gc _ _ 49 _ h.bx]; rfl)
theorem TxM.gbox {B g gc v X s3 p3 w w7 r0 r1 r2 r3 r4 r5 str w4} (h : TxM B g gc v X s3 p3 w w7 r0 r1 r2 r3 r4 r5 str) (q : w7.grownBy w4 v.ownBlock) : w4.heap[g]? = some (.cells (txC p3 v X) 76 (0, 0)) :=
  (q.block g (Array.getElem?_eq_some_iff.1 h.box).1 (fun e => h.ow.ne h.box (by decide) e.symm)).trans h.box
theorem TxM.far {B g gc v X s3 p3 w w7 r0 r1 r2 r3 r4 r5 str w4} (h : TxM B g gc v X s3 p3 w w7 r0 r1 r2 r3 r4 r5 str) (q : w7.grownBy w4 v.ownBlock) : w4.cell? ⟨g, 7, none⟩ = some v ∧ w4.frozen? ⟨g, 7, none⟩ = false ∧ g < w4.heap.size := by
  have hb := h.gbox q
  refine ⟨?_, frozen_of_row w4 g 7 _ 76 hb, (Array.getElem?_eq_some_iff.1 hb).1⟩
  rw [cell_of_row w4 g _ _ 76 _ hb]; rfl
set_option maxRecDepth 20000 in
theorem TxM.fin {B g gc v X s3 p3 w w7 r0 r1 r2 r3 r4 r5 str w4 v4} {t : Ab} (h : TxM B g gc v X s3 p3 w w7 r0 r1 r2 r3 r4 r5 str) (ht : ab s3 = t) (q : w7.grownBy w4 v.ownBlock)
    (o4 : Ow w4 B 49 7 v4 (X.cs.map cgR ++ [[.int .i64 r0, .int .i64 r1, .int .i64 r2, .int .i64 r3, .int .i64 r4, .int .i64 r5, .string str]])) (p4 : v4.ownBlock = v.ownBlock ∨ ∃ b, v4.ownBlock = some b ∧ w7.heap.size ≤ b) :
    TxD B g v ({ X with a := t, cs := X.cs ++ [⟨(r0, r1, r2, r3, r4, r5), str⟩] }, 0) w (.returned (.int .i64 0)) (w4.setCell ⟨g, 7, none⟩ v4) := by
  have hb := h.gbox q
  have e : ∀ i, i ≠ g → (w4.setCell ⟨g, 7, none⟩ v4).heap[i]? = w4.heap[i]? := fun i hi => heap_setCell_other w4 ⟨g, 7, none⟩ i _ hi
  have es : (w4.setCell ⟨g, 7, none⟩ v4).heap.size = w4.heap.size := by simp [World.setCell]
  refine ⟨rfl, v4, s3, ⟨?_, h.st.frame (fun i hi => ?_), ht, fun i hi => ?_, ?_, h.hg⟩, ?_⟩
  · rw [h.hp]
    exact heap_setCell_same w4 g 7 _ 76 v4 hb
  · have h1 := h.hi i hi
    have h2 := h.glt
    refine (e i (by omega)).trans (q.block i (h.st.at'.foot_lt i hi) (fun k => ?_))
    have := h.vlt i k.symm
    omega
  · have h1 := h.hi i hi
    have h2 := h.hB0
    omega
  · rw [List.map_append]
    exact o4.same (fun b hb2 => e b (fun k => o4.ne hb (by decide) (k ▸ hb2)))
  · refine ⟨q.os.trans h.os, q.tape.trans h.tape, q.output.trans h.output, by rw [es]; exact Nat.le_trans h.size q.size, fun i hi hg hv => ?_, p4.imp id (fun ⟨b, k1, k2⟩ => ⟨b, k1, Nat.le_trans h.size k2⟩)⟩
    exact (e i hg).trans ((q.block i (Nat.lt_of_lt_of_le hi h.size) (fun k => hv k.symm)).trans (h.block i hi hg))
set_option maxRecDepth 20000 in
theorem ei49 : EI 23 49 7 64 := ⟨Try.underlying23, ⟨_, _, rfl, rfl, rfl, rfl, rfl⟩, by decide, by decide⟩
theorem cg_one (r0 r1 r2 r3 r4 r5 : Int) (str : ByteArray) : ∀ u ∈ (#[Value.int .i64 r0, .int .i64 r1, .int .i64 r2, .int .i64 r3, .int .i64 r4, .int .i64 r5, .string str] : Array Value).toList, u.oneCell' = true := by
  intro u hu
  simp only [List.mem_cons, List.not_mem_nil, or_false] at hu
  rcases hu with rfl | rfl | rfl | rfl | rfl | rfl | rfl <;> rfl
theorem gdr {w w' : World} {r : Option Nat} (g : w.drew.grownBy w' r) : w.grownBy w' r := ⟨g.os, g.tape, g.output, g.size, g.block⟩
section
variable {ops : Array Oper} {o : Oper} {a : Act} {K : Act → World → Prop} {Q : Exit → Act → World → Prop} {E' : Prop}
/-- append of one that is written out, at a step of a drawn region -/
theorem step_app {t e sz bytes : Nat} (E : EI t e sz bytes) {w : World} {B : Nat} {v : Value} {rows : Rws} (hgd : o.guard = none) (s x : Operand) (ho : o.op = .call { callee := .builtin .append, args := #[s, x], argTypes := #[t, t] })
    (h : Ow w B e sz v rows) (hB : B ≤ w.heap.size) (cs : Array Value) (hs : a.eval s = v) (hx : a.eval x = .slice (some ⟨w.heap.size, 0, none⟩) 1 1) (hc : cs.size = sz) (h1 : ∀ u ∈ cs.toList, u.oneCell' = true) (hn : rows.length < 1000000)
    (hK : ∀ v' w', Ow w' B e sz v' (rows ++ [cs.toList]) → w.grownBy w' v.ownBlock → (v'.ownBlock = v.ownBlock ∨ ∃ g, v'.ownBlock = some g ∧ w.heap.size ≤ g) → K (a.put o.dst v') w') :
    if Region.wanted o (yielded ops a.tmps) = true then Oper.wp Try.prog o a (w.alloc (.cells cs e)) K Q else E' := by
  obtain ⟨i, z, q1, q2, q3, q4, q5⟩ := E.info
  have hl : cs.toList.length = 1 * sz := by rw [Array.length_toList, hc, Nat.one_mul]
  have hby : (rows.length + 1) * bytes ≤ 140737488355328 := by
    have := Nat.mul_le_mul_left (rows.length + 1) E.top
    omega
  refine step_append_lies _ hgd s x t ho B e i z sz bytes E.under q1 q2 q3 q4 q5 E.pos v rows.length rows.flatten hs (h.own.alloc _) ⟨w.heap.size, 0, none⟩ 1 1 cs.toList hx hl (lit_cells w cs e) h1 (by omega) (by simp [maxLen]; omega) hby (by rw [size_alloc]; omega) _ rfl (fun g cap w' p1 p2 p4 _ => ?_)
  have gr : w.grownBy w' v.ownBlock := by
    have g1 := World.grownBy_alloc w (.cells cs e) v.ownBlock
    exact ⟨p2.os.trans g1.os, p2.tape.trans g1.tape, p2.output.trans g1.output, Nat.le_trans g1.size p2.size, fun k hk hne => (p2.block k (Nat.lt_of_lt_of_le hk g1.size) hne).trans (g1.block k hk hne)⟩
  refine hK _ w' (h.more (by rw [hl, Nat.one_mul]) h1 p1) gr ?_
  rcases p4 with p4 | p4
  · exact .inl p4.symm
  · exact .inr ⟨g, rfl, by rw [p4, size_alloc]; omega⟩
end
def TxT (B g : Nat) (v : Value) (X : TX) (s : St) (w : World) : Prop := TxH B g v X s w ∧ B ≤ w.heap.size
set_option maxRecDepth 20000 in
set_option maxHeartbeats 4000000 in
theorem try39_any {B g v X s w} (h : TxH B g v X s w) (hB : B ≤ w.heap.size) (c : Cg) {R : Ab × Int} (p1 p2 p3 : Nat)
    (hdo : ∀ W s2, Below w.heap.size w W → Whole W s2 → ab s2 = X.a → (∀ i ∈ foot s2, w.heap.size ≤ i) → Calls Try.prog 39 #[.pointer (some ⟨s2.p, 0, none⟩), .pointer (some ⟨p1, 0, none⟩), .pointer (some ⟨p2, 0, none⟩), .pointer (some ⟨p3, 0, none⟩)] W (Done W s2 R)) :
    Calls Try.prog 38 #[.pointer (some ⟨g, 0, none⟩), .agg #[.int .i64 c.r.1, .int .i64 c.r.2.1, .int .i64 c.r.2.2.1, .int .i64 c.r.2.2.2.1, .int .i64 c.r.2.2.2.2.1, .int .i64 c.r.2.2.2.2.2, .string c.s], .func (.func 39) #[] #[.pointer (some ⟨p1, 0, none⟩), .pointer (some ⟨p2, 0, none⟩), .pointer (some ⟨p3, 0, none⟩)]] w (TxD B g v (tryA X c R) w) := by
  obtain ⟨⟨r0, r1, r2, r3, r4, r5⟩, str⟩ := c
  obtain ⟨va, vc, rfl⟩ := h.ow.form
  rw [List.length_map] at h ⊢
  obtain ⟨c0, c1, c2, c5, c6, c7⟩ := h.cells
  have hlt := h.lt
  have hcp := copy_any (h.st.alloc (.cells #[.int .i64 r0, .int .i64 r1, .int .i64 r2, .int .i64 r3, .int .i64 r4, .int .i64 r5, .string str] 49))
  have hbx : BxC (w.alloc (.cells #[.int .i64 r0, .int .i64 r1, .int .i64 r2, .int .i64 r3, .int .i64 r4, .int .i64 r5, .string str] 49)) w.heap.size r0 r1 r2 r3 r4 r5 str := heap_alloc_new _ _
  have hb1 := (Below.refl _ w).alloc (Nat.le_refl _) (.cells #[.int .i64 r0, .int .i64 r1, .int .i64 r2, .int .i64 r3, .int .i64 r4, .int .i64 r5, .string str] 49)
  by_cases h8 : 8 ≤ X.cs.length
  · have e8 : tryA X ⟨(r0, r1, r2, r3, r4, r5), str⟩ R = (X, 171) := by unfold tryA; rw [if_pos h8]
    rw [e8]
    have H := Hid.mk h
    clear h hcp hdo e8 hbx hb1
    generalize X.cs.length = n at *
    go_enter Try.func38, Try.ntmps38
    go_wp2_with fail
    go_ret
    exact TxD.same H.out ((Below.refl _ w).alloc (Nat.le_refl _) _) 171
  · have H : Hid (TxT B g (.slice va X.cs.length vc) X s w) := ⟨h, hB⟩
    generalize hRes : tryA X ⟨(r0, r1, r2, r3, r4, r5), str⟩ R = Res at *
    unfold tryA at hRes
    rw [if_neg h8] at hRes
    replace hRes := Hid.mk hRes
    replace hdo := Hid.mk hdo
    replace hcp := Hid.mk hcp
    replace hb1 := Hid.mk hb1
    have hbx := Hid.mk hbx
    generalize hL : (X.cs.length : Nat) = n at *
    replace hL := Hid.mk hL
    clear h hB
    have hn8 : n < 8 := by omega
    clear h8
    go_enter Try.func38, Try.ntmps38
    go_upto_region 4 with (first | (go_at_call 31; refine hcp.out.mono ?_; rintro e w2 ⟨s2, rfl, W2, e2, f2, b2⟩))
    have B2 := hb1.out.trans (b2.mono (by rw [size_alloc]; omega))
    have x2 : BxC w2 w.heap.size r0 r1 r2 r3 r4 r5 str := (b2.block _ (by rw [size_alloc]; omega)).trans hbx.out
    have F2 : ∀ i ∈ foot s2, w.heap.size < i := fun i hi => by have := f2 i hi; rw [size_alloc] at this; omega
    have hd2 := hdo.out w2 s2 B2 W2 (e2.trans H.out.1.eq) (fun i hi => Nat.le_of_lt (F2 i hi))
    replace hd2 := Hid.mk hd2
    have K2 := Hid.mk (And.intro B2 (And.intro x2 F2))
    clear hcp hdo hbx hb1 b2 f2 B2 x2 F2 W2 e2 c0 c1 c2 c5 c6 c7
    go_upto_region 5 with (first | (go_at_call 39; refine hd2.out.mono ?_; rintro e w3 ⟨rfl, s3, W3, e3, ch3⟩))
    have B3 : Below w.heap.size w w3 := ch3.below K2.out.1 K2.out.1.size (fun i hi => Nat.le_of_lt (K2.out.2.2 i hi))
    have F3 : ∀ i ∈ foot s3, w.heap.size < i := fun i hi => by
      rcases ch3.own i hi with q | q
      · exact K2.out.2.2 i q
      · have := Array.getElem?_eq_some_iff.1 K2.out.2.1
        exact Nat.lt_of_lt_of_le this.1 q
    have x3 : BxC w3 w.heap.size r0 r1 r2 r3 r4 r5 str := (ch3.block _ (Array.getElem?_eq_some_iff.1 K2.out.2.1).1 (fun q => Nat.lt_irrefl _ (K2.out.2.2 _ q))).trans K2.out.2.1
    have H3 := H.out.1.call B3
    obtain ⟨c0, c1, c2, c5, c6, c7⟩ := H3.cells
    have hl3 := H3.lt
    have hLive : ∀ W, Below w3.heap.size w3 W → Calls Try.prog 67 #[.pointer (some ⟨s2.p, 0, none⟩)] W fun e w' => e = .returned (.int .i64 (liveA R.1 : Int)) ∧ W = w' := fun W b => by
      have q := live_any (W3.call b).at'
      rw [whole_live W3, e3, ch3.home] at q
      exact q
    have hKeys : ∀ W, Below w3.heap.size w3 W → Calls Try.prog 17 #[.pointer (some ⟨s2.p, 0, none⟩)] W fun e w' => e = .returned (.int .i64 (pagesN R.1.sp : Int)) ∧ Below W.heap.size W w' := fun W b => by
      have q := keys_any (W3.call b)
      rw [e3, ch3.home] at q
      exact q
    have K3 := Hid.mk (And.intro B3 (And.intro x3 (And.intro F3 (And.intro W3 (And.intro e3 ch3.home)))))
    clear hd2 K2 ch3 B3 F3 x3 H3 W3 e3
    by_cases hR : R.2 = 0
    · rw [if_neg (fun q => q hR)] at hRes
      have hR' := Hid.mk hR
      rw [hR]
      clear hR
      by_cases hl : X.pl < (liveA R.1 : Int)
      · rw [if_pos (.inl hl)] at hRes
        have hld : decide (X.pl < (liveA R.1 : Int)) = true := by simpa using hl
        generalize (liveA R.1 : Int) = lv at *
        have HL : Hid (∀ m, Calls Try.prog 67 #[.pointer (some ⟨s2.p, 0, none⟩)] (w3.drewN m) fun e w' => e = .returned (.int .i64 lv) ∧ w' = w3.drewN m) := fun m => (hLive _ (below_drewN (Below.refl _ w3))).mono (fun _ _ q => ⟨q.1, q.2.symm⟩)
        clear hLive hKeys hl
        go_upto_region 7 with fail
        go_quiet (first | (go_at_call 67; exact Calls.quiet_of_same (HL.out _)))
        go_wp2_with fail
        go_ret
        rw [← hRes.out]
        exact TxD.same H.out.1 (below_drewN K3.out.1) 172
      · have hld : decide (X.pl < (liveA R.1 : Int)) = false := by simpa using hl
        have kS : Hid (∀ w', Below w3.heap.size w3 w' → Below w3.heap.size w3 w' ∧ w'.cell? ⟨g, 1, none⟩ = some (.int .i64 X.pl) ∧ w'.cell? ⟨g, 2, none⟩ = some (.int .i64 X.ks)) := fun w' q => ⟨q, (q.cell (p := ⟨g, 1, none⟩) hl3).trans c1, (q.cell (p := ⟨g, 2, none⟩) hl3).trans c2⟩
        have HL := Hid.mk (And.intro hLive hKeys)
        have hld2 : Hid (¬ X.pl < (liveA R.1 : Int)) := hl
        clear hLive hKeys hl
        generalize (liveA R.1 : Int) = lv at *
        generalize (pagesN R.1.sp : Int) = kn at *
        go_upto_region 7 with fail
        clear c0 c1 c2 c5 c6 c7
        go_region_held3 (fun w' => Below w3.heap.size w3 w' ∧ w'.cell? ⟨g, 1, none⟩ = some (.int .i64 X.pl) ∧ w'.cell? ⟨g, 2, none⟩ = some (.int .i64 X.ks))
          (first | assumption | exact kS.out _ (Below.refl _ w3) | exact kS.out _ (Below.refl _ w3).drew | exact kS.out _ (below3 (And.left (by assumption)) (by assumption)) | fail)
          (first | (go_at_call 67; refine (HL.out.1 _ (And.left (by assumption))).mono ?_; rintro e w5 ⟨rfl, rfl⟩) | (go_at_call 17; refine (HL.out.2 _ (And.left (by assumption))).mono ?_; rintro e w6 ⟨rfl, b6⟩))
        have b6' : Below w3.heap.size w3 w6 := below3 (Below.refl _ w3).drew b6
        have B6 : Below w.heap.size w w6 := below3 K3.out.1 b6'
        by_cases hk : X.ks < kn
        · have hkd : decide (X.ks < kn) = true := by simpa using hk
          rw [if_pos (.inr hk)] at hRes
          clear b6' b6
          replace B6 := Hid.mk B6
          go_wp2_with fail
          go_ret
          rw [← hRes.out]
          exact TxD.same H.out.1 B6.out 172
        · have hkd : decide (X.ks < kn) = false := by simpa using hk
          rw [if_neg (fun q => q.elim (Int.not_lt.2 hld2.out) hk)] at hRes
          have T6 := H.out.1.call B6
          have S6 := K3.out.2.2.2.1.call b6'
          have x6 : BxC w6 w.heap.size r0 r1 r2 r3 r4 r5 str := (b6'.block _ (Array.getElem?_eq_some_iff.1 K3.out.2.1).1).trans K3.out.2.1
          have L6 : TxL B g w.heap.size (.slice va n vc) X s s3 s2.p w w6 r0 r1 r2 r3 r4 r5 str := ⟨T6, H.out.2, S6, K3.out.2.2.2.2.2, K3.out.2.2.1, x6, B6, fun b hb => (H.out.1.ow.lt b hb).2, H.out.1.lt⟩
          obtain ⟨c0, c1, c2, c5, c6, c7⟩ := T6.cells
          have fz0 := T6.fz 0
          have hl6 := T6.lt
          have EE := Hid.mk K3.out.2.2.2.2.1
          clear b6' b6 B6 T6 S6 x6 K3 hld2 HL kS
          replace L6 := Hid.mk L6
          go_upto_region 10 with fail
          have M := L6.out.set0
          clear L6 c0 c1 c2 c5 c6 c7 fz0 hl6
          generalize w6.setCell ⟨g, 0, none⟩ (.pointer (some ⟨s2.p, 0, none⟩)) = w7 at *
          obtain ⟨c7, fz7, hl7, q0, q1, q2, q3, q4, q5, q6, lgc⟩ := M.cells
          have ow7 := M.ow
          have hn' : ((X.cs.map cgR : Rws)).length < 1000000 := by rw [List.length_map, hL.out]; omega
          have kg : Hid (∀ w', w7.grownBy w' (Value.slice va n vc).ownBlock → w'.cell? ⟨g, 7, none⟩ = some (.slice va n vc) ∧ w'.frozen? ⟨g, 7, none⟩ = false ∧ g < w'.heap.size) := fun w' q => M.far q
          replace M := Hid.mk M
          replace ow7 := Hid.mk ow7
          go_region_law (refine step_app (w := w7.drew) ei49 (by rfl) _ _ (by rfl) ow7.out.drew M.out.hB #[.int .i64 r0, .int .i64 r1, .int .i64 r2, .int .i64 r3, .int .i64 r4, .int .i64 r5, .string str] (by rfl) (by rfl) (by rfl) (cg_one _ _ _ _ _ _ _) hn' ?_; intro v4 w4 o4 g4 p4; obtain ⟨va4, vc4, e4⟩ := o4.form; rw [snoc_len] at e4; subst e4; obtain ⟨y7, yf, yl⟩ := kg.out w4 (gdr g4))
          all_goals
            go_wp2_with fail
            go_ret
            rw [← hRes.out]
            exact M.out.fin EE.out (gdr g4) o4 p4
    · rw [if_pos hR] at hRes
      have hRb : (R.2 != 0) = true := by simpa using hR
      clear hR hLive hKeys
      generalize R.2 = E at *
      go_wp2_with fail
      go_ret
      rw [← hRes.out]
      exact TxD.same H.out.1 K3.out.1 E
set_option maxRecDepth 20000 in
set_option maxHeartbeats 4000000 in
theorem try43_any {B g v X s w} (h : TxH B g v X s w) (hB : B ≤ w.heap.size) (c : Cg) {R : Ab × Int} (p1 : Nat)
    (hdo : ∀ W s2, Below w.heap.size w W → Whole W s2 → ab s2 = X.a → (∀ i ∈ foot s2, w.heap.size ≤ i) → Calls Try.prog 43 #[.pointer (some ⟨s2.p, 0, none⟩), .pointer (some ⟨p1, 0, none⟩)] W (Done W s2 R)) :
    Calls Try.prog 38 #[.pointer (some ⟨g, 0, none⟩), .agg #[.int .i64 c.r.1, .int .i64 c.r.2.1, .int .i64 c.r.2.2.1, .int .i64 c.r.2.2.2.1, .int .i64 c.r.2.2.2.2.1, .int .i64 c.r.2.2.2.2.2, .string c.s], .func (.func 43) #[] #[.pointer (some ⟨p1, 0, none⟩)]] w (TxD B g v (tryA X c R) w) := by
  obtain ⟨⟨r0, r1, r2, r3, r4, r5⟩, str⟩ := c
  obtain ⟨va, vc, rfl⟩ := h.ow.form
  rw [List.length_map] at h ⊢
  obtain ⟨c0, c1, c2, c5, c6, c7⟩ := h.cells
  have hlt := h.lt
  have hcp := copy_any (h.st.alloc (.cells #[.int .i64 r0, .int .i64 r1, .int .i64 r2, .int .i64 r3, .int .i64 r4, .int .i64 r5, .string str] 49))
  have hbx : BxC (w.alloc (.cells #[.int .i64 r0, .int .i64 r1, .int .i64 r2, .int .i64 r3, .int .i64 r4, .int .i64 r5, .string str] 49)) w.heap.size r0 r1 r2 r3 r4 r5 str := heap_alloc_new _ _
  have hb1 := (Below.refl _ w).alloc (Nat.le_refl _) (.cells #[.int .i64 r0, .int .i64 r1, .int .i64 r2, .int .i64 r3, .int .i64 r4, .int .i64 r5, .string str] 49)
  by_cases h8 : 8 ≤ X.cs.length
  · have e8 : tryA X ⟨(r0, r1, r2, r3, r4, r5), str⟩ R = (X, 171) := by unfold tryA; rw [if_pos h8]
    rw [e8]
    have H := Hid.mk h
    clear h hcp hdo e8 hbx hb1
    generalize X.cs.length = n at *
    go_enter Try.func38, Try.ntmps38
    go_wp2_with fail
    go_ret
    exact TxD.same H.out ((Below.refl _ w).alloc (Nat.le_refl _) _) 171
  · have H : Hid (TxT B g (.slice va X.cs.length vc) X s w) := ⟨h, hB⟩
    generalize hRes : tryA X ⟨(r0, r1, r2, r3, r4, r5), str⟩ R = Res at *
    unfold tryA at hRes
    rw [if_neg h8] at hRes
    replace hRes := Hid.mk hRes
    replace hdo := Hid.mk hdo
    replace hcp := Hid.mk hcp
    replace hb1 := Hid.mk hb1
    have hbx := Hid.mk hbx
    generalize hL : (X.cs.length : Nat) = n at *
    replace hL := Hid.mk hL
    clear h hB
    have hn8 : n < 8 := by omega
    clear h8
    go_enter Try.func38, Try.ntmps38
    go_upto_region 4 with (first | (go_at_call 31; refine hcp.out.mono ?_; rintro e w2 ⟨s2, rfl, W2, e2, f2, b2⟩))
    have B2 := hb1.out.trans (b2.mono (by rw [size_alloc]; omega))
    have x2 : BxC w2 w.heap.size r0 r1 r2 r3 r4 r5 str := (b2.block _ (by rw [size_alloc]; omega)).trans hbx.out
    have F2 : ∀ i ∈ foot s2, w.heap.size < i := fun i hi => by have := f2 i hi; rw [size_alloc] at this; omega
    have hd2 := hdo.out w2 s2 B2 W2 (e2.trans H.out.1.eq) (fun i hi => Nat.le_of_lt (F2 i hi))
    replace hd2 := Hid.mk hd2
    have K2 := Hid.mk (And.intro B2 (And.intro x2 F2))
    clear hcp hdo hbx hb1 b2 f2 B2 x2 F2 W2 e2 c0 c1 c2 c5 c6 c7
    go_upto_region 5 with (first | (go_at_call 43; refine hd2.out.mono ?_; rintro e w3 ⟨rfl, s3, W3, e3, ch3⟩))
    have B3 : Below w.heap.size w w3 := ch3.below K2.out.1 K2.out.1.size (fun i hi => Nat.le_of_lt (K2.out.2.2 i hi))
    have F3 : ∀ i ∈ foot s3, w.heap.size < i := fun i hi => by
      rcases ch3.own i hi with q | q
      · exact K2.out.2.2 i q
      · have := Array.getElem?_eq_some_iff.1 K2.out.2.1
        exact Nat.lt_of_lt_of_le this.1 q
    have x3 : BxC w3 w.heap.size r0 r1 r2 r3 r4 r5 str := (ch3.block _ (Array.getElem?_eq_some_iff.1 K2.out.2.1).1 (fun q => Nat.lt_irrefl _ (K2.out.2.2 _ q))).trans K2.out.2.1
    have H3 := H.out.1.call B3
    obtain ⟨c0, c1, c2, c5, c6, c7⟩ := H3.cells
    have hl3 := H3.lt
    have hLive : ∀ W, Below w3.heap.size w3 W → Calls Try.prog 67 #[.pointer (some ⟨s2.p, 0, none⟩)] W fun e w' => e = .returned (.int .i64 (liveA R.1 : Int)) ∧ W = w' := fun W b => by
      have q := live_any (W3.call b).at'
      rw [whole_live W3, e3, ch3.home] at q
      exact q
    have hKeys : ∀ W, Below w3.heap.size w3 W → Calls Try.prog 17 #[.pointer (some ⟨s2.p, 0, none⟩)] W fun e w' => e = .returned (.int .i64 (pagesN R.1.sp : Int)) ∧ Below W.heap.size W w' := fun W b => by
      have q := keys_any (W3.call b)
      rw [e3, ch3.home] at q
      exact q
    have K3 := Hid.mk (And.intro B3 (And.intro x3 (And.intro F3 (And.intro W3 (And.intro e3 ch3.home)))))
    clear hd2 K2 ch3 B3 F3 x3 H3 W3 e3
    by_cases hR : R.2 = 0
    · rw [if_neg (fun q => q hR)] at hRes
      have hR' := Hid.mk hR
      rw [hR]
      clear hR
      by_cases hl : X.pl < (liveA R.1 : Int)
      · rw [if_pos (.inl hl)] at hRes
        have hld : decide (X.pl < (liveA R.1 : Int)) = true := by simpa using hl
        generalize (liveA R.1 : Int) = lv at *
        have HL : Hid (∀ m, Calls Try.prog 67 #[.pointer (some ⟨s2.p, 0, none⟩)] (w3.drewN m) fun e w' => e = .returned (.int .i64 lv) ∧ w' = w3.drewN m) := fun m => (hLive _ (below_drewN (Below.refl _ w3))).mono (fun _ _ q => ⟨q.1, q.2.symm⟩)
        clear hLive hKeys hl
        go_upto_region 7 with fail
        go_quiet (first | (go_at_call 67; exact Calls.quiet_of_same (HL.out _)))
        go_wp2_with fail
        go_ret
        rw [← hRes.out]
        exact TxD.same H.out.1 (below_drewN K3.out.1) 172
      · have hld : decide (X.pl < (liveA R.1 : Int)) = false := by simpa using hl
        have kS : Hid (∀ w', Below w3.heap.size w3 w' → Below w3.heap.size w3 w' ∧ w'.cell? ⟨g, 1, none⟩ = some (.int .i64 X.pl) ∧ w'.cell? ⟨g, 2, none⟩ = some (.int .i64 X.ks)) := fun w' q => ⟨q, (q.cell (p := ⟨g, 1, none⟩) hl3).trans c1, (q.cell (p := ⟨g, 2, none⟩) hl3).trans c2⟩
        have HL := Hid.mk (And.intro hLive hKeys)
        have hld2 : Hid (¬ X.pl < (liveA R.1 : Int)) := hl
        clear hLive hKeys hl
        generalize (liveA R.1 : Int) = lv at *
        generalize (pagesN R.1.sp : Int) = kn at *
        go_upto_region 7 with fail
        clear c0 c1 c2 c5 c6 c7
        go_region_held3 (fun w' => Below w3.heap.size w3 w' ∧ w'.cell? ⟨g, 1, none⟩ = some (.int .i64 X.pl) ∧ w'.cell? ⟨g, 2, none⟩ = some (.int .i64 X.ks))
          (first | assumption | exact kS.out _ (Below.refl _ w3) | exact kS.out _ (Below.refl _ w3).drew | exact kS.out _ (below3 (And.left (by assumption)) (by assumption)) | fail)
          (first | (go_at_call 67; refine (HL.out.1 _ (And.left (by assumption))).mono ?_; rintro e w5 ⟨rfl, rfl⟩) | (go_at_call 17; refine (HL.out.2 _ (And.left (by assumption))).mono ?_; rintro e w6 ⟨rfl, b6⟩))
        have b6' : Below w3.heap.size w3 w6 := below3 (Below.refl _ w3).drew b6
        have B6 : Below w.heap.size w w6 := below3 K3.out.1 b6'
        by_cases hk : X.ks < kn
        · have hkd : decide (X.ks < kn) = true := by simpa using hk
          rw [if_pos (.inr hk)] at hRes
          clear b6' b6
          replace B6 := Hid.mk B6
          go_wp2_with fail
          go_ret
          rw [← hRes.out]
          exact TxD.same H.out.1 B6.out 172
        · have hkd : decide (X.ks < kn) = false := by simpa using hk
          rw [if_neg (fun q => q.elim (Int.not_lt.2 hld2.out) hk)] at hRes
          have T6 := H.out.1.call B6
          have S6 := K3.out.2.2.2.1.call b6'
          have x6 : BxC w6 w.heap.size r0 r1 r2 r3 r4 r5 str := (b6'.block _ (Array.getElem?_eq_some_iff.1 K3.out.2.1).1).trans K3.out.2.1
          have L6 : TxL B g w.heap.size (.slice va n vc) X s s3 s2.p w w6 r0 r1 r2 r3 r4 r5 str := ⟨T6, H.out.2, S6, K3.out.2.2.2.2.2, K3.out.2.2.1, x6, B6, fun b hb => (H.out.1.ow.lt b hb).2, H.out.1.lt⟩
          obtain ⟨c0, c1, c2, c5, c6, c7⟩ := T6.cells
          have fz0 := T6.fz 0
          have hl6 := T6.lt
          have EE := Hid.mk K3.out.2.2.2.2.1
          clear b6' b6 B6 T6 S6 x6 K3 hld2 HL kS
          replace L6 := Hid.mk L6
          go_upto_region 10 with fail
          have M := L6.out.set0
          clear L6 c0 c1 c2 c5 c6 c7 fz0 hl6
          generalize w6.setCell ⟨g, 0, none⟩ (.pointer (some ⟨s2.p, 0, none⟩)) = w7 at *
          obtain ⟨c7, fz7, hl7, q0, q1, q2, q3, q4, q5, q6, lgc⟩ := M.cells
          have ow7 := M.ow
          have hn' : ((X.cs.map cgR : Rws)).length < 1000000 := by rw [List.length_map, hL.out]; omega
          have kg : Hid (∀ w', w7.grownBy w' (Value.slice va n vc).ownBlock → w'.cell? ⟨g, 7, none⟩ = some (.slice va n vc) ∧ w'.frozen? ⟨g, 7, none⟩ = false ∧ g < w'.heap.size) := fun w' q => M.far q
          replace M := Hid.mk M
          replace ow7 := Hid.mk ow7
          go_region_law (refine step_app (w := w7.drew) ei49 (by rfl) _ _ (by rfl) ow7.out.drew M.out.hB #[.int .i64 r0, .int .i64 r1, .int .i64 r2, .int .i64 r3, .int .i64 r4, .int .i64 r5, .string str] (by rfl) (by rfl) (by rfl) (cg_one _ _ _ _ _ _ _) hn' ?_; intro v4 w4 o4 g4 p4; obtain ⟨va4, vc4, e4⟩ := o4.form; rw [snoc_len] at e4; subst e4; obtain ⟨y7, yf, yl⟩ := kg.out w4 (gdr g4))
          all_goals
            go_wp2_with fail
            go_ret
            rw [← hRes.out]
            exact M.out.fin EE.out (gdr g4) o4 p4
    · rw [if_pos hR] at hRes
      have hRb : (R.2 != 0) = true := by simpa using hR
      clear hR hLive hKeys
      generalize R.2 = E at *
      go_wp2_with fail
      go_ret
      rw [← hRes.out]
      exact TxD.same H.out.1 K3.out.1 E
end Go.Proofs.Ytccelipljbkkgaa
