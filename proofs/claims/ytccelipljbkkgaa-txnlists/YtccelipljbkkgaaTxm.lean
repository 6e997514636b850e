/-
  A transaction in memory, and what a call may turn of it; isNone, closed, beyond. No condition.
-/
import Derived.Test.YtccelipljbkkgaaCop
import Derived.Test.YtccelipljbkkgaaRecs
import Derived.Test.YtccelipljbkkgaaAlk
namespace Go.Proofs.Ytccelipljbkkgaa
open Go Go.RowKit Go.Maps

/-- a change: a record and a text -/
structure Cg where
  r : R6
  s : ByteArray
def cgR (c : Cg) : List Value := [.int .i64 c.r.1, .int .i64 c.r.2.1, .int .i64 c.r.2.2.1, .int .i64 c.r.2.2.2.1, .int .i64 c.r.2.2.2.2.1, .int .i64 c.r.2.2.2.2.2, .string c.s]
/-- a transaction said plainly -/
structure TX where
  a : Ab
  pl : Int
  ks : Int
  rr : Int
  rp : Int
  sz : Int
  fi : Int
  cs : List Cg
def txC (p : Nat) (v : Value) (X : TX) : Array Value := #[.pointer (some ⟨p, 0, none⟩), .int .i64 X.pl, .int .i64 X.ks, .int .i64 X.rr, .int .i64 X.rp, .int .i64 X.sz, .int .i64 X.fi, v]
structure TxH (B g : Nat) (v : Value) (X : TX) (s : St) (w : World) : Prop where
  box : w.heap[g]? = some (.cells (txC s.p v X) 76 (0, 0))
  st : Whole w s
  eq : ab s = X.a
  hi : ∀ i ∈ foot s, B ≤ i
  ow : Ow w B 49 7 v (X.cs.map cgR)
  hg : B ≤ g
theorem TxH.lt {B g v X s w} (h : TxH B g v X s w) : g < w.heap.size := (Array.getElem?_eq_some_iff.1 h.box).1
theorem TxH.call {B g v X s w w'} (h : TxH B g v X s w) (b : Below w.heap.size w w') : TxH B g v X s w' := ⟨(b.block g h.lt).trans h.box, h.st.call b, h.eq, h.hi, h.ow.call b, h.hg⟩
theorem TxH.alloc {B g v X s w} (h : TxH B g v X s w) (o : Obj) : TxH B g v X s (w.alloc o) := h.call ((Below.refl _ w).alloc (Nat.le_refl _) o)
theorem TxH.cells {B g v X s w} (h : TxH B g v X s w) : w.cell? ⟨g, 0, none⟩ = some (.pointer (some ⟨s.p, 0, none⟩)) ∧ w.cell? ⟨g, 1, none⟩ = some (.int .i64 X.pl) ∧ w.cell? ⟨g, 2, none⟩ = some (.int .i64 X.ks) ∧ w.cell? ⟨g, 5, none⟩ = some (.int .i64 X.sz) ∧ w.cell? ⟨g, 6, none⟩ = some (.int .i64 X.fi) ∧ w.cell? ⟨g, 7, none⟩ = some v := by
  refine ⟨?_, ?_, ?_, ?_, ?_, ?_⟩ <;> rw [cell_of_row w g _ _ 76 _ h.box] <;> rfl
theorem TxH.fz {B g v X s w} (h : TxH B g v X s w) (j : Nat) : w.frozen? ⟨g, j, none⟩ = false := frozen_of_row w g j _ 76 h.box
theorem TxH.inv {B g v X s w} (h : TxH B g v X s w) : InvA X.a := h.eq ▸ h.st.inv
/-- only the transaction at g and its list of changes have turned -/
structure Tch (w w' : World) (g : Nat) (v v' : Value) : Prop where
  os : w'.os = w.os
  tape : w'.tape = w.tape
  output : w'.output = w.output
  size : w.heap.size ≤ w'.heap.size
  block : ∀ i, i < w.heap.size → i ≠ g → v.ownBlock ≠ some i → w'.heap[i]? = w.heap[i]?
  own : v'.ownBlock = v.ownBlock ∨ ∃ b, v'.ownBlock = some b ∧ w.heap.size ≤ b
theorem Tch.refl (w : World) (g : Nat) (v : Value) : Tch w w g v v := ⟨rfl, rfl, rfl, Nat.le_refl _, fun _ _ _ _ => rfl, .inl rfl⟩
theorem Tch.ofBelow {w w' : World} (b : Below w.heap.size w w') (g : Nat) (v : Value) : Tch w w' g v v := ⟨b.os, b.tape, b.output, b.size, fun i hi _ _ => b.block i hi, .inl rfl⟩
theorem Tch.trans {a b c : World} {g : Nat} {v v1 v2 : Value} (h : Tch a b g v v1) (k : Tch b c g v1 v2) : Tch a c g v v2 := by
  refine ⟨k.os.trans h.os, k.tape.trans h.tape, k.output.trans h.output, Nat.le_trans h.size k.size, fun i hi hg hv => ?_, ?_⟩
  · refine (k.block i (Nat.lt_of_lt_of_le hi h.size) hg (fun e => ?_)).trans (h.block i hi hg hv)
    rcases h.own with q | ⟨b', q, hb⟩
    · exact hv (q ▸ e)
    · rw [q] at e; cases e; omega
  · rcases k.own with q | ⟨b', q, hb⟩
    · rcases h.own with q' | ⟨b', q', hb⟩
      · exact .inl (q.trans q')
      · exact .inr ⟨b', q.trans q', hb⟩
    · exact .inr ⟨b', q, Nat.le_trans h.size hb⟩
theorem Tch.below {B : Nat} {w w' : World} {g : Nat} {v v' : Value} (h : Tch w w' g v v') (hB : B ≤ w.heap.size) (hg : B ≤ g) (hv : ∀ b, v.ownBlock = some b → B ≤ b) : Below B w w' :=
  ⟨h.os, h.tape, h.output, h.size, fun i hi => h.block i (by omega) (by omega) (fun e => by have := hv i e; omega)⟩
/-- how many places, as the answer counts them -/
def liveA (t : Ab) : Nat := nL (lvA t.sp) (lvA t.sp).length
theorem whole_live {w s} (h : Whole w s) : s.refs.length = liveA (ab s) := (nL_refs h.refs h.at'.hR.up).symm
/-- why pages of a space may not be changed -/
def clA (t : Ab) (id : Int) : Int := match gA t.sp id with | none => 80 | some x => if x.sl = true then 170 else 0
theorem isNone_no {w : World} {g p : Nat} (c0 : w.cell? ⟨g, 0, none⟩ = some (.pointer (some ⟨p, 0, none⟩))) : Calls Try.prog 36 #[.pointer (some ⟨g, 0, none⟩)] w fun e w' => e = .returned (.bool false) ∧ w = w' := by
  go_enter Try.func36, Try.ntmps36
  go_wp2
  go_ret
  exact ⟨rfl, rfl⟩
theorem isNone_nil (w : World) : Calls Try.prog 36 #[.pointer none] w fun e w' => e = .returned (.bool true) ∧ w = w' := by
  go_enter Try.func36, Try.ntmps36
  go_wp2
  go_ret
  exact ⟨rfl, rfl⟩
/-- Space, whatever is asked -/
theorem space_any {w s} (h : Whole w s) {id : Int} (hi : K64 id) :
    Calls Try.prog 40 #[.pointer (some ⟨s.p, 0, none⟩), .int .i64 id] w fun e w' => e = .returned (.tuple #[svO (gA (ab s).sp id), .bool (gA (ab s).sp id).isSome]) ∧ Below w.heap.size w w' := by
  cases hg : gsp s.sp id with
  | none =>
    rw [ab_gspN hg]
    exact space_none h.at' hi hg
  | some x =>
    rw [ab_gsp hg]
    have hx := (gsp_some hg).2
    subst hx
    exact space_some h.at' hi (gsp_id hg)
set_option maxRecDepth 20000 in
theorem closed_any {B g v X s w} (h : TxH B g v X s w) {id : Int} (hi : K64 id) : Calls Try.prog 37 #[.pointer (some ⟨g, 0, none⟩), .int .i64 id] w fun e w' => e = .returned (.int .i64 (clA X.a id)) ∧ Below w.heap.size w w' := by
  have q := space_any h.st hi
  rw [h.eq] at q
  obtain ⟨c0, -, -, -, -, -⟩ := h.cells
  have Q := Hid.mk q
  clear q h
  unfold clA
  cases hg : gA X.a.sp id with
  | none =>
    rw [hg] at Q
    go_enter Try.func37, Try.ntmps37
    go_wp2_with (first | (go_at_call 40; refine Q.out.mono ?_; rintro e w1 ⟨rfl, b1⟩; simp only [svO, sv, svC, Option.isSome_none]))
    go_ret
    exact ⟨rfl, b1.alloc b1.size _⟩
  | some x =>
    rw [hg] at Q
    obtain ⟨xi, xq, xs, xp⟩ := x
    cases xs
    · go_enter Try.func37, Try.ntmps37
      go_wp2_with (first | (go_at_call 40; refine Q.out.mono ?_; rintro e w1 ⟨rfl, b1⟩; simp only [svO, sv, svC, Option.isSome_some]))
      go_ret
      exact ⟨rfl, b1.alloc b1.size _⟩
    · go_enter Try.func37, Try.ntmps37
      go_wp2_with (first | (go_at_call 40; refine Q.out.mono ?_; rintro e w1 ⟨rfl, b1⟩; simp only [svO, sv, svC, Option.isSome_some]))
      go_ret
      exact ⟨rfl, b1.alloc b1.size _⟩
set_option maxRecDepth 20000 in
theorem beyond_any {w s} (h : Whole w s) (hz : ∀ a, 512 ≤ a → cntA (ab s).sp a = 0) : Calls Try.prog 32 #[.pointer (some ⟨s.p, 0, none⟩)] w fun e w' => e = .returned (.int .i64 512) ∧ w = w' := by
  have q : ∀ k : Nat, k < 8 → Calls Try.prog 65 #[.pointer (some ⟨s.p, 0, none⟩), .int .i64 (512 + k : Int)] w fun e w' => e = .returned (.int .i64 0) ∧ w = w' := fun k hk => by
    have := refs_any h.at' (a := (512 + k : Int)) (k64 (by omega) (by omega))
    rw [h.refs.val, hz _ (by omega)] at this
    exact this
  have Q := Hid.mk q
  clear q h hz
  go_enter Try.func32, Try.ntmps32
  go_upto_region 3 with fail
  go_loopw [3, 4] (fun f i wr => f = .int .i64 512 ∧ w = wr ∧ ∃ k : Nat, k ≤ 8 ∧ i = .int .i64 (512 + k : Int)) (fun _ i _ => 520 - (intOf i).toNat)
  case atStart => exact ⟨rfl, rfl, 0, by omega, rfl⟩
  case round =>
    obtain ⟨rfl, rfl, k, hk, rfl⟩ := hrel
    by_cases hk8 : k < 8
    · go_wp2_with (first | (go_at_call 65; refine (Q.out k hk8).mono ?_; rintro e w1 ⟨rfl, rfl⟩))
      exact ⟨⟨by first | rfl | trivial, by first | rfl | trivial, k + 1, by omega, by go_num⟩, by simp [intOf]; omega⟩
    · have hk2 : k = 8 := by omega
      subst hk2
      go_wp2_with fail
      go_ret
      exact ⟨rfl, rfl⟩
end Go.Proofs.Ytccelipljbkkgaa
