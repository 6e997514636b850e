/-
  Faults laid anew: the walk of Arm. No condition.
-/
import Derived.Test.YtbcnocbdifbocaaDoorActC
namespace Go.Proofs.YtbcnocbdifbocaaDoor
open Go Go.RowKit

def topV (L : Ly) (C : Ch) (v4 v5 : Value) : Array Value :=
  #[.int .i64 C.B, .int .i64 C.P, .int .i64 C.Z, .slice (some ⟨L.bs, 0, none⟩) C.B C.B, v4, v5, .int .i64 C.did, .bool C.off]
/-- a chip, whatever its maps are -/
structure Chip0 (w : World) (L : Ly) (C : Ch) (v4 v5 : Value) : Prop where
  geo : 8 ≤ C.B ∧ C.B ≤ 32 ∧ 4 ≤ C.P ∧ C.P ≤ 16 ∧ 64 ≤ C.Z ∧ C.Z ≤ 256
  top : w.heap[L.a]? = some (.cells (topV L C v4 v5) 79 (0, 0))
  row : w.rowIs L.bs 94 (C.B * 4) (blkF L C)
  pgs : ∀ b, b < C.B → w.rowIs (L.pb b) 9 C.P (fun p => .string (C.pg b p))
  inj : ∀ b, b < C.B → ∀ d, d < C.B → L.pb b = L.pb d → b = d
  pa : ∀ b, b < C.B → L.pb b ≠ L.a
  pbs : ∀ b, b < C.B → L.pb b ≠ L.bs
  ab : L.bs ≠ L.a
  len : ∀ b p, (C.pg b p).size = 0 ∨ (C.pg b p).size = C.Z + 32
  didr : 0 ≤ C.did ∧ C.did < 1000000
theorem Chip.to0 {w : World} {L C} (h : Chip w L C) : ∃ mc mf n k, Chip0 w L C (.map (some mc)) (.map (some mf)) ∧ MapIs w mc n (cutF C.cuts) ∧ MapIs w mf k (failF C.fails) := by
  obtain ⟨mc, mf, n, k, ht, h1, h2⟩ := h.top
  exact ⟨mc, mf, n, k, { h with top := ht }, h1, h2⟩
theorem Chip0.chip {w : World} {L C} {mc mf n k : Nat} (h : Chip0 w L C (.map (some mc)) (.map (some mf))) (h1 : MapIs w mc n (cutF C.cuts)) (h2 : MapIs w mf k (failF C.fails)) (hf : ∀ i x, C.cuts i = some x → 0 ≤ x.2 ∧ x.2 < 256) : Chip w L C :=
  { h with top := ⟨mc, mf, n, k, h.top, h1, h2⟩, fill := hf }
theorem Chip0.lt {w : World} {L C v4 v5} (h : Chip0 w L C v4 v5) {i : Nat} (hi : L.own C.B i) : i < w.heap.size := by
  rcases hi with rfl | rfl | ⟨b, hb, rfl⟩
  · exact (Array.getElem?_eq_some_iff.1 h.top).1
  · exact h.row.lt
  · exact (h.pgs b hb).lt
theorem Chip0.cells {w : World} {L C v4 v5} (h : Chip0 w L C v4 v5) {i : Nat} (hi : L.own C.B i) : ∃ c t, w.heap[i]? = some (.cells c t (0, 0)) := by
  rcases hi with rfl | rfl | ⟨b, hb, rfl⟩
  · exact ⟨_, _, h.top⟩
  · obtain ⟨c, hc, _⟩ := h.row
    exact ⟨c, _, hc⟩
  · obtain ⟨c, hc, _⟩ := h.pgs b hb
    exact ⟨c, _, hc⟩
theorem Chip0.same {w w' : World} {L C v4 v5} (h : Chip0 w L C v4 v5) (e : ∀ i, L.own C.B i → w'.heap[i]? = w.heap[i]?) : Chip0 w' L C v4 v5 :=
  { h with
    top := (e L.a (Or.inl rfl)).trans h.top
    row := h.row.of_block (e _ (Or.inr (Or.inl rfl)))
    pgs := fun b hb => (h.pgs b hb).of_block (e _ (Or.inr (Or.inr ⟨b, hb, rfl⟩))) }
theorem Chip0.call {w w' : World} {L C v4 v5} (h : Chip0 w L C v4 v5) (b : Below w.heap.size w w') : Chip0 w' L C v4 v5 := h.same (fun i hi => b.block i (h.lt hi))
theorem Chip0.alloc {w : World} {L C v4 v5} (h : Chip0 w L C v4 v5) (o : Obj) : Chip0 (w.alloc o) L C v4 v5 := h.same (fun i hi => Below.heap_alloc w o i (h.lt hi))
theorem Chip0.drew {w : World} {L C v4 v5} (h : Chip0 w L C v4 v5) : Chip0 w.drew L C v4 v5 := h.same (fun _ _ => rfl)
theorem Chip0.turned {w w' : World} {L C v4 v5} {m n : Nat} {F} (h : Chip0 w L C v4 v5) (hm : MapIs w m n F) (ht : w.mapTurned w' m) : Chip0 w' L C v4 v5 :=
  h.same (fun i hi => by
    obtain ⟨c, t, hc⟩ := h.cells hi
    exact ht.grown.block i (h.lt hi) (fun e => hm.notCells hc (by cases e; rfl)))
theorem Chip0.cellA {w : World} {L C v4 v5} (h : Chip0 w L C v4 v5) : w.cell? ⟨L.a, 0, none⟩ = some (.int .i64 C.B) ∧ w.cell? ⟨L.a, 1, none⟩ = some (.int .i64 C.P) ∧ w.cell? ⟨L.a, 2, none⟩ = some (.int .i64 C.Z) ∧
    w.cell? ⟨L.a, 3, none⟩ = some (.slice (some ⟨L.bs, 0, none⟩) C.B C.B) ∧ w.cell? ⟨L.a, 4, none⟩ = some v4 ∧ w.cell? ⟨L.a, 5, none⟩ = some v5 ∧ w.cell? ⟨L.a, 6, none⟩ = some (.int .i64 C.did) ∧ w.cell? ⟨L.a, 7, none⟩ = some (.bool C.off) ∧ ∀ j, w.frozen? ⟨L.a, j, none⟩ = false := by
  have ht := h.top
  refine ⟨?_, ?_, ?_, ?_, ?_, ?_, ?_, ?_, fun j => frozen_of_row w L.a j _ 79 ht⟩ <;> (rw [cell_of_row w L.a _ _ 79 _ ht]; rfl)
theorem Chip0.setTop {w : World} {L C v4 v5} (h : Chip0 w L C v4 v5) (j : Nat) (v : Value) (C' : Ch) (u4 u5 : Value) (e1 : C'.B = C.B) (e2 : C'.P = C.P) (e3 : C'.Z = C.Z) (e4 : C'.pg = C.pg) (e5 : C'.worn = C.worn) (e6 : C'.dead = C.dead) (e7 : C'.mark = C.mark)
    (hd : 0 ≤ C'.did ∧ C'.did < 1000000) (hc : (topV L C v4 v5).setIfInBounds j v = topV L C' u4 u5) : Chip0 (w.setCell ⟨L.a, j, none⟩ v) L C' u4 u5 := by
  have hbk : blkF L C' = blkF L C := by funext i; simp only [blkF, e2, e5, e6, e7]
  refine { geo := by rw [e1, e2, e3]; exact h.geo, top := ?_, row := ?_, pgs := ?_, inj := by rw [e1]; exact h.inj, pa := by rw [e1]; exact h.pa, pbs := by rw [e1]; exact h.pbs, ab := h.ab, len := by rw [e3, e4]; exact h.len, didr := hd }
  · have := heap_setCell_same w L.a j _ 79 v h.top
    rw [hc] at this
    exact this
  · rw [e1, hbk]; exact h.row.setOther h.ab v
  · rw [e1]; intro b hb; rw [e2, e4]; exact (h.pgs b hb).setOther (h.pa b hb) v
theorem Chip0.setDid {w : World} {L C v4 v5} (h : Chip0 w L C v4 v5) (d : Int) (hd : 0 ≤ d ∧ d < 1000000) : Chip0 (w.setCell ⟨L.a, 6, none⟩ (.int .i64 d)) L { C with did := d } v4 v5 :=
  h.setTop 6 _ { C with did := d } v4 v5 rfl rfl rfl rfl rfl rfl rfl hd rfl
theorem Chip0.set4 {w : World} {L C v4 v5} (h : Chip0 w L C v4 v5) (v : Value) : Chip0 (w.setCell ⟨L.a, 4, none⟩ v) L C v v5 :=
  h.setTop 4 v C v v5 rfl rfl rfl rfl rfl rfl rfl h.didr rfl
theorem Chip0.set5 {w : World} {L C v4 v5} (h : Chip0 w L C v4 v5) (v : Value) : Chip0 (w.setCell ⟨L.a, 5, none⟩ v) L C v4 v :=
  h.setTop 5 v C v4 v rfl rfl rfl rfl rfl rfl rfl h.didr rfl
/-- from this address on lie these cuts, and these numbers, in a block that is none of S -/
def CutsAt (w : World) (S : Nat → Prop) (a : Option Addr) (cl : List (Int × Int × Int)) : Prop := ∀ i, i < cl.length → ∃ g o, a = some ⟨g, o, none⟩ ∧ g < w.heap.size ∧ ¬ S g ∧
    w.cell? ⟨g, o + i * 3, none⟩ = some (.int .i64 (cl.getD i (0, 0, 0)).1) ∧ w.cell? ⟨g, o + i * 3 + 1, none⟩ = some (.int .i64 (cl.getD i (0, 0, 0)).2.1) ∧ w.cell? ⟨g, o + i * 3 + 2, none⟩ = some (.int .u8 (cl.getD i (0, 0, 0)).2.2)
def IntsAt (w : World) (S : Nat → Prop) (a : Option Addr) (l : List Int) : Prop := ∀ i, i < l.length → ∃ g o, a = some ⟨g, o, none⟩ ∧ g < w.heap.size ∧ ¬ S g ∧ w.cell? ⟨g, o + i, none⟩ = some (.int .i64 (l.getD i 0))
theorem CutsAt.kept {w w' : World} {S a cl} (h : CutsAt w S a cl) (e : Kp S w w') : CutsAt w' S a cl := by
  intro i hi
  obtain ⟨g, o, ha, hg, hs, hc⟩ := h i hi
  have e2 : ∀ j, w'.cell? ⟨g, j, none⟩ = w.cell? ⟨g, j, none⟩ := fun j => World.cell?_of_block (w := w) (a := ⟨g, j, none⟩) (e.block g hg hs)
  exact ⟨g, o, ha, Nat.lt_of_lt_of_le hg e.size, hs, by rw [e2, e2, e2]; exact hc⟩
theorem IntsAt.kept {w w' : World} {S a l} (h : IntsAt w S a l) (e : Kp S w w') : IntsAt w' S a l := by
  intro i hi
  obtain ⟨g, o, ha, hg, hs, hc⟩ := h i hi
  exact ⟨g, o, ha, Nat.lt_of_lt_of_le hg e.size, hs, by rw [World.cell?_of_block (w := w) (a := ⟨g, o + i, none⟩) (e.block g hg hs)]; exact hc⟩
def cutsOf (cl : List (Int × Int × Int)) (i : Int) : Option (Int × Int) := (cl.find? fun x => decide (x.1 = i)).map (·.2)
def failsOf (l : List Int) (i : Int) : Bool := decide (i ∈ l)
theorem cutsOf_take {cl : List (Int × Int × Int)} {k : Nat} (hk : k < cl.length) : cutF (cutsOf (cl.take (k + 1))) =
    if (cutF (cutsOf (cl.take k)) (cl.getD k (0, 0, 0)).1).isSome = true then cutF (cutsOf (cl.take k)) else fun j => if j = (cl.getD k (0, 0, 0)).1 then some (cutV (cl.getD k (0, 0, 0)).1 (cl.getD k (0, 0, 0)).2.1 (cl.getD k (0, 0, 0)).2.2) else cutF (cutsOf (cl.take k)) j := by
  have e1 : cl.take (k + 1) = cl.take k ++ [cl.getD k (0, 0, 0)] := by
    rw [List.take_add_one, List.getElem?_eq_getElem hk]
    simp [List.getD_eq_getElem?_getD, hk]
  generalize cl.getD k (0, 0, 0) = x at *
  rw [e1]
  generalize cl.take k = l at *
  have e2 : ∀ j, cutsOf (l ++ [x]) j = match cutsOf l j with | some y => some y | none => if x.1 = j then some x.2 else none := by
    intro j
    unfold cutsOf
    rw [List.find?_append]
    cases List.find? (fun x => decide (x.1 = j)) l with
    | some y => rfl
    | none => by_cases hx : x.1 = j <;> simp [hx]
  split
  · rename_i hs
    funext j
    unfold cutF
    rw [e2]
    cases hj : cutsOf l j with
    | some y => rfl
    | none =>
      by_cases hx : x.1 = j
      · subst hx
        simp [cutF, hj] at hs
      · simp [hx]
  · rename_i hs
    funext j
    unfold cutF
    rw [e2]
    by_cases hx : j = x.1
    · subst hx
      simp only [if_pos]
      cases hj : cutsOf l x.1 with
      | some y => simp [cutF, hj] at hs
      | none => rfl
    · rw [if_neg hx]
      have hx2 : ¬ x.1 = j := fun e => hx e.symm
      cases hj : cutsOf l j <;> simp [hx2]
theorem failsOf_take {l : List Int} {k : Nat} (hk : k < l.length) : failF (failsOf (l.take (k + 1))) = fun j => if j = l.getD k 0 then some (.agg #[]) else failF (failsOf (l.take k)) j := by
  have e1 : l.take (k + 1) = l.take k ++ [l.getD k 0] := by
    rw [List.take_add_one, List.getElem?_eq_getElem hk]
    simp [List.getD_eq_getElem?_getD, hk]
  rw [e1]
  generalize l.getD k 0 = x at *
  funext j
  unfold failF failsOf
  by_cases hj : j = x
  · simp [hj]
  · rw [if_neg hj]
    have : (j ∈ List.take k l ++ [x]) ↔ j ∈ List.take k l := by simp [hj]
    simp only [this]
theorem cutsOf_mem {cl : List (Int × Int × Int)} {i : Int} {x : Int × Int} (h : cutsOf cl i = some x) : (i, x) ∈ cl := by
  unfold cutsOf at h
  cases hf : cl.find? fun x => decide (x.1 = i) with
  | none => rw [hf] at h; cases h
  | some y =>
    rw [hf] at h
    have h1 := List.find?_some hf
    have h2 := List.mem_of_find?_eq_some hf
    rw [decide_eq_true_eq] at h1
    have h3 : y.2 = x := by simpa using h
    rw [← h1, ← h3]
    exact h2
theorem MapIs.mono {w : World} {b n n' F} (h : MapIs w b n F) (hn : n ≤ n') : MapIs w b n' F := by
  obtain ⟨D, h1, h2⟩ := h
  exact ⟨D, h1.mono hn, h2⟩
/-- while cuts are laid: k of them -/
structure ArmI (w0 : World) (L : Ly) (C : Ch) (v5 : Value) (M : Nat) (cl : List (Int × Int × Int)) (G : Nat) (bx : Array Value) (k : Nat) (w : World) : Prop where
  chip : Chip0 w L C (.map (some M)) v5
  map : MapIs w M k (cutF (cutsOf (cl.take k)))
  kept : Kp (L.own C.B) w0 w
  box : w.heap[G]? = some (.cells bx 32 (0, 0))
  boxn : ¬ L.own C.B G
  new : w0.heap.size ≤ M
theorem ArmI.below {w0 : World} {L C v5 M cl G bx k} {w w' : World} (h : ArmI w0 L C v5 M cl G bx k w) (b : Below w.heap.size w w') : ArmI w0 L C v5 M cl G bx k w' :=
  ⟨h.chip.call b, h.map.of_block (b.block _ h.map.lt), h.kept.call b, (b.block _ (Array.getElem?_eq_some_iff.1 h.box).1).trans h.box, h.boxn, h.new⟩
theorem ArmI.alloc {w0 : World} {L C v5 M cl G bx k} {w : World} (h : ArmI w0 L C v5 M cl G bx k w) (o : Obj) : ArmI w0 L C v5 M cl G bx k (w.alloc o) := h.below ((Below.refl _ w).alloc (Nat.le_refl _) o)
theorem ArmI.drew {w0 : World} {L C v5 M cl G bx k} {w : World} (h : ArmI w0 L C v5 M cl G bx k w) : ArmI w0 L C v5 M cl G bx k w.drew := h.below (Below.refl _ w).drew
theorem ArmI.known {w0 : World} {L C v5 M cl G bx k} {w : World} (h : ArmI w0 L C v5 M cl G bx k w) (hk : k < cl.length) {y : Int × Int} (hy : cutsOf (cl.take k) (cl.getD k (0, 0, 0)).1 = some y) : ArmI w0 L C v5 M cl G bx (k + 1) w :=
  { h with map := by rw [cutsOf_take hk, if_pos (by unfold cutF; rw [hy]; rfl)]; exact h.map.mono (Nat.le_succ _) }
theorem ArmI.fresh {w0 : World} {L C v5 M cl G bx k} {w : World} (h : ArmI w0 L C v5 M cl G bx k w) (hk : k < cl.length) (hn : cutsOf (cl.take k) (cl.getD k (0, 0, 0)).1 = none) (hw : (Lit.int .i64 (cl.getD k (0, 0, 0)).1).wf = true) (hk2 : k ≤ 1000) :
    ∃ w', (Instr.mapUpdate 76 (.map (some M)) (.int .i64 (cl.getD k (0, 0, 0)).1) (cutV (cl.getD k (0, 0, 0)).1 (cl.getD k (0, 0, 0)).2.1 (cl.getD k (0, 0, 0)).2.2)).run Tryd.prog w = .ok () w' ∧ ArmI w0 L C v5 M cl G bx (k + 1) w' := by
  obtain ⟨w', hr, hm, ht⟩ := h.map.store Tryd.underlying76 (by unfold maxLen; omega) (cutV (cl.getD k (0, 0, 0)).1 (cl.getD k (0, 0, 0)).2.1 (cl.getD k (0, 0, 0)).2.2) hw
  have hg := ht.grown
  refine ⟨w', hr, ⟨h.chip.turned h.map ht, ?_, ?_, ?_, h.boxn, h.new⟩⟩
  · rw [cutsOf_take hk, if_neg (by unfold cutF; rw [hn]; simp)]
    exact hm
  · refine ⟨hg.os.trans h.kept.os, hg.tape.trans h.kept.tape, hg.output.trans h.kept.output, Nat.le_trans h.kept.size hg.size, fun i hi hn => ?_⟩
    exact (hg.block i (Nat.lt_of_lt_of_le hi h.kept.size) (fun e => by cases e; have := h.new; omega)).trans (h.kept.block i hi hn)
  · exact (hg.block G (Array.getElem?_eq_some_iff.1 h.box).1 (fun e => h.map.notCells h.box (by cases e; rfl))).trans h.box
theorem ArmI.look {w0 : World} {L C v5 M cl G bx k} {w : World} (h : ArmI w0 L C v5 M cl G bx k w) {i : Int} (hi : (Lit.int .i64 i).wf = true) :
    (Instr.lookup 76 (.map (some M)) (.int .i64 i) true).run Tryd.prog w = .ok (.tuple #[(cutF (cutsOf (cl.take k)) i).getD cut0, .bool (cutF (cutsOf (cl.take k)) i).isSome]) w := h.map.look Tryd.underlying76 (zero57 _) hi
/-- while failures are laid: k of them -/
structure ArmJ (w0 : World) (L : Ly) (C : Ch) (M M2 : Nat) (cl : List (Int × Int × Int)) (n : Nat) (fl : List Int) (k : Nat) (w : World) : Prop where
  chip : Chip0 w L C (.map (some M)) (.map (some M2))
  map : MapIs w M n (cutF (cutsOf cl))
  mapF : MapIs w M2 k (failF (failsOf (fl.take k)))
  kept : Kp (L.own C.B) w0 w
  new : w0.heap.size ≤ M2
  ne : M ≠ M2
theorem ArmJ.fresh {w0 : World} {L C M M2 cl n fl k} {w : World} (h : ArmJ w0 L C M M2 cl n fl k w) (hk : k < fl.length) (hw : (Lit.int .i64 (fl.getD k 0)).wf = true) (hk2 : k ≤ 1000) :
    ∃ w', (Instr.mapUpdate 77 (.map (some M2)) (.int .i64 (fl.getD k 0)) (.agg #[])).run Tryd.prog w = .ok () w' ∧ ArmJ w0 L C M M2 cl n fl (k + 1) w' := by
  obtain ⟨w', hr, hm, ht⟩ := h.mapF.store Tryd.underlying77 (by unfold maxLen; omega) (.agg #[]) hw
  have hg := ht.grown
  refine ⟨w', hr, ⟨h.chip.turned h.mapF ht, ?_, ?_, ?_, h.new, h.ne⟩⟩
  · exact h.map.of_block (hg.block M h.map.lt (fun e => h.ne (by cases e; rfl)))
  · rw [failsOf_take hk]
    exact hm
  · refine ⟨hg.os.trans h.kept.os, hg.tape.trans h.kept.tape, hg.output.trans h.kept.output, Nat.le_trans h.kept.size hg.size, fun i hi hn => ?_⟩
    exact (hg.block i (Nat.lt_of_lt_of_le hi h.kept.size) (fun e => by cases e; have := h.new; omega)).trans (h.kept.block i hi hn)
theorem ArmJ.fin {w0 : World} {L C M M2 cl n fl k} {w : World} (h : ArmJ w0 L C M M2 cl n fl k w) (hk : fl.take k = fl) (hf : ∀ x ∈ cl, 0 ≤ x.2.2 ∧ x.2.2 < 256) : Chip w L { C with cuts := cutsOf cl, fails := failsOf fl } ∧ Kp (L.own C.B) w0 w := by
  have h2 := h.mapF
  rw [hk] at h2
  have h0 : Chip0 w L { C with cuts := cutsOf cl, fails := failsOf fl } (.map (some M)) (.map (some M2)) := ⟨h.chip.geo, h.chip.top, h.chip.row, h.chip.pgs, h.chip.inj, h.chip.pa, h.chip.pbs, h.chip.ab, h.chip.len, h.chip.didr⟩
  exact ⟨h0.chip h.map h2 (fun i x hx => hf _ (cutsOf_mem hx)), h.kept⟩
set_option maxHeartbeats 2000000 in
theorem arm_any {w : World} {L C v4 v5} (h : Chip0 w L C v4 v5) (ca fa : Option Addr) (cl : List (Int × Int × Int)) (fl : List Int) (cc fc : Nat) (bv : Value) (hc : CutsAt w (L.own C.B) ca cl) (hf : IntsAt w (L.own C.B) fa fl) (hcl : cl.length ≤ 1000) (hfl : fl.length ≤ 1000)
    (hwc : ∀ x ∈ cl, (Lit.int .i64 x.1).wf = true ∧ 0 ≤ x.2.2 ∧ x.2.2 < 256) (hwf : ∀ x ∈ fl, (Lit.int .i64 x).wf = true) :
    Calls Tryd.prog 49 #[.pointer (some ⟨L.a, 0, none⟩), .agg #[.slice ca cl.length cc, .slice fa fl.length fc, bv]] w fun e w' => e = .returned (.tuple #[]) ∧ Chip w' L { C with did := 0, cuts := cutsOf cl, fails := failsOf fl } ∧ Kp (L.own C.B) w w' := by
  obtain ⟨c0, c1, c2, c3, c4, c5, c6, c7, hfr⟩ := h.cellA
  have f4 := hfr 4
  have f6 := hfr 6
  have la : L.a < w.heap.size := h.lt (Or.inl rfl)
  have hmm := @run_makeMap Tryd.prog
  have HH := Hid.mk h
  obtain ⟨n, hn⟩ : ∃ n, cl.length = n := ⟨_, rfl⟩
  obtain ⟨m, hm⟩ : ∃ m, fl.length = m := ⟨_, rfl⟩
  rw [hn, hm]
  have HN := Hid.mk (And.intro hn hm)
  have HC := Hid.mk (And.intro hc hf)
  have HW := Hid.mk (And.intro hwc hwf)
  have hn1 : n ≤ 1000 := by omega
  have hm1 : m ≤ 1000 := by omega
  clear h hfr hn hm hc hf hwc hwf hcl hfl
  go_enter Tryd.func49, Tryd.ntmps49
  go_upto_region 5 with fail
  obtain ⟨C0, hC0⟩ : ∃ C0 : Ch, C0 = { C with did := 0 } := ⟨_, rfl⟩
  have eB : C0.B = C.B := by rw [hC0]
  have hA0 : ArmI w L C0 v5 (w.heap.size + 1) cl w.heap.size #[.slice ca n cc, .slice fa m fc, bv] 0 ((((w.setCell ⟨L.a, 6, none⟩ (.int .i64 0)).setCell ⟨L.a, 4, none⟩ (.map (some (w.heap.size + 1)))).alloc (.cells #[.slice ca n cc, .slice fa m fc, bv] 32)).alloc (.map #[] 0)) := by
    have hz : ((w.setCell ⟨L.a, 6, none⟩ (.int .i64 0)).setCell ⟨L.a, 4, none⟩ (.map (some (w.heap.size + 1)))).heap.size = w.heap.size := by simp [World.setCell]
    have hkk : Kp (L.own C0.B) w ((w.setCell ⟨L.a, 6, none⟩ (.int .i64 0)).setCell ⟨L.a, 4, none⟩ (.map (some (w.heap.size + 1)))) := ((Kp.refl _ w).setCell (p := ⟨L.a, 6, none⟩) (Or.inl rfl) _).setCell (p := ⟨L.a, 4, none⟩) (Or.inl rfl) _
    have hch : Chip0 ((w.setCell ⟨L.a, 6, none⟩ (.int .i64 0)).setCell ⟨L.a, 4, none⟩ (.map (some (w.heap.size + 1)))) L C0 (.map (some (w.heap.size + 1))) v5 := by
      rw [hC0]
      exact (HH.out.setDid 0 (by omega)).set4 _
    generalize (w.setCell ⟨L.a, 6, none⟩ (.int .i64 0)).setCell ⟨L.a, 4, none⟩ (.map (some (w.heap.size + 1))) = X at *
    have hmd := MapIs.made (X.alloc (.cells #[.slice ca n cc, .slice fa m fc, bv] 32))
    rw [size_alloc, hz] at hmd
    have hbx := heap_alloc_new X (.cells #[.slice ca n cc, .slice fa m fc, bv] 32)
    rw [hz] at hbx
    exact ⟨(hch.alloc _).alloc _, hmd, (hkk.alloc _).alloc _, (Below.heap_alloc _ _ _ (by rw [size_alloc]; omega)).trans hbx, fun ho => by have := hch.lt ho; omega, by omega⟩
  generalize (((w.setCell ⟨L.a, 6, none⟩ (.int .i64 0)).setCell ⟨L.a, 4, none⟩ (.map (some (w.heap.size + 1)))).alloc (.cells #[.slice ca n cc, .slice fa m fc, bv] 32)).alloc (.map #[] 0) = W0 at *
  generalize w.heap.size + 1 = M at *
  generalize w.heap.size = G at *
  have HA0 := Hid.mk hA0
  have HE := Hid.mk (And.intro eB hC0)
  clear hA0 c0 c1 c2 c3 c4 c5 c6 c7 f4 f6 la hmm eB hC0
  go_loopw [22] (fun i wr => ∃ k : Nat, k ≤ n ∧ i = .int .i64 k ∧ ArmI w L C0 v5 M cl G #[.slice ca n cc, .slice fa m fc, bv] k wr) (fun i _ => n - (intOf i).toNat)
  case atStart => exact ⟨0, Nat.zero_le _, rfl, HA0.out⟩
  case round =>
    obtain ⟨k, hk, rfl, hA⟩ := hrel
    clear HA0 W0
    by_cases hkn : k < n
    · have hkc : k < cl.length := by rw [HN.out.1]; exact hkn
      have hkn1 : (k : Int) < n := by omega
      have hcc := HC.out.1
      rw [← HE.out.1] at hcc
      obtain ⟨g, o, rfl, hg, hgs, d0, d1, d2⟩ := (hcc.kept hA.kept) k hkc
      have hwx := HW.out.1 (cl.getD k (0, 0, 0)) (by rw [List.getD_eq_getElem?_getD, List.getElem?_eq_getElem hkc]; exact List.getElem_mem hkc)
      have H1 := Hid.mk (And.intro hkc hwx)
      have HA := Hid.mk hA
      obtain ⟨x0, hx0⟩ : ∃ x, (cl.getD k (0, 0, 0)).1 = x := ⟨_, rfl⟩
      obtain ⟨x1, hx1⟩ : ∃ x, (cl.getD k (0, 0, 0)).2.1 = x := ⟨_, rfl⟩
      obtain ⟨x2, hx2⟩ : ∃ x, (cl.getD k (0, 0, 0)).2.2 = x := ⟨_, rfl⟩
      rw [hx0] at d0
      rw [hx1] at d1
      rw [hx2] at d2
      have HX := Hid.mk (And.intro hx0 (And.intro hx1 hx2))
      clear hwx hkc hcc hA hx0 hx1 hx2
      go_upto_region 7 with fail
      have HAW := Hid.mk (HA.out.alloc (.cells #[.int .i64 x0, .int .i64 x1, .int .u8 x2] 64))
      have hcv := heap_alloc_new wr (.cells #[.int .i64 x0, .int .i64 x1, .int .u8 x2] 64)
      have lv : wr.heap.size < (wr.alloc (.cells #[.int .i64 x0, .int .i64 x1, .int .u8 x2] 64)).heap.size := by rw [size_alloc]; omega
      generalize wr.alloc (.cells #[.int .i64 x0, .int .i64 x1, .int .u8 x2] 64) = W at *
      generalize wr.heap.size = V at *
      clear HA d0 d1 d2 hg hgs
      obtain ⟨_, _, _, _, c4, _⟩ := HAW.out.chip.cellA
      have la : L.a < W.heap.size := HAW.out.chip.lt (Or.inl rfl)
      have v0 : W.cell? ⟨V, 0, none⟩ = some (.int .i64 x0) := cell_of_row _ _ 0 _ 64 _ hcv
      have v1 : W.cell? ⟨V, 1, none⟩ = some (.int .i64 x1) := cell_of_row _ _ 1 _ 64 _ hcv
      have v2 : W.cell? ⟨V, 2, none⟩ = some (.int .u8 x2) := cell_of_row _ _ 2 _ 64 _ hcv
      have hwx : (Lit.int .i64 x0).wf = true := by rw [← HX.out.1]; exact H1.out.2.1
      have hl1 := HAW.out.drew.look hwx
      have hl2 := fun o => (HAW.out.alloc o).drew.look hwx
      have HCV := Hid.mk hcv
      clear hcv hwx
      cases hy : cutsOf (cl.take k) x0 with
      | none =>
        have ey : cutF (cutsOf (cl.take k)) x0 = none := by unfold cutF; rw [hy]; rfl
        rw [ey] at hl1
        simp only [ey] at hl2
        simp only [Option.getD_none, Option.isSome_none, cut0] at hl1 hl2
        obtain ⟨W4, hr, hA4⟩ := ((HAW.out.alloc (.cells #[.int .i64 0, .int .i64 0, .int .u8 0] 64)).drew.drew).fresh H1.out.1 (by rw [HX.out.1]; exact hy) H1.out.2.1 (by omega)
        rw [HX.out.1, HX.out.2.1, HX.out.2.2] at hr
        unfold cutV at hr
        have HA4 := Hid.mk hA4
        clear hA4
        go_region
        go_upto_region 9 with fail
        clear hl1 hl2
        go_region
        go_wp2_with fail
        exact ⟨⟨k + 1, by omega, by go_num, HA4.out⟩, by simp [intOf]; omega⟩
      | some y =>
        obtain ⟨y1, y2⟩ := y
        have ey : cutF (cutsOf (cl.take k)) x0 = some (.agg #[.int .i64 x0, .int .i64 y1, .int .u8 y2]) := by unfold cutF; rw [hy]; rfl
        rw [ey] at hl1
        simp only [ey] at hl2
        simp only [Option.getD_some, Option.isSome_some] at hl1 hl2
        go_region
        go_wp2_with fail
        refine ⟨⟨k + 1, by omega, by go_num, ((HAW.out.alloc _).drew).known H1.out.1 (by rw [HX.out.1]; exact hy)⟩, by simp [intOf]; omega⟩
    · have hkn1 : ¬ (k : Int) < n := by omega
      have hk2 : k = n := by omega
      rw [hk2] at hA
      have HA := Hid.mk hA
      obtain ⟨_, _, _, _, c4, c5, _, _, hfr⟩ := hA.chip.cellA
      have f5 := hfr 5
      have la : L.a < wr.heap.size := hA.chip.lt (Or.inl rfl)
      have lg : G < wr.heap.size := (Array.getElem?_eq_some_iff.1 hA.box).1
      have g1 : wr.cell? ⟨G, 1, none⟩ = some (.slice fa m fc) := cell_of_row _ _ 1 _ 32 _ hA.box
      have hmm := @run_makeMap Tryd.prog
      clear hfr hA
      go_upto_region 13 with fail
      have hJ0 : ArmJ w L C0 M wr.heap.size cl n fl 0 ((wr.setCell ⟨L.a, 5, none⟩ (.map (some wr.heap.size))).alloc (.map #[] 0)) := by
        have hz : (wr.setCell ⟨L.a, 5, none⟩ (.map (some wr.heap.size))).heap.size = wr.heap.size := by simp [World.setCell]
        have hmd := MapIs.made (wr.setCell ⟨L.a, 5, none⟩ (.map (some wr.heap.size)))
        rw [hz] at hmd
        have hm1 := HA.out.map
        rw [show cl.take n = cl by rw [← HN.out.1, List.take_length]] at hm1
        have hml := hm1.lt
        exact ⟨(HA.out.chip.set5 _).alloc _, hm1.of_block ((Below.heap_alloc _ _ _ (by rw [hz]; exact hml)).trans (Below.heap_setCell wr ⟨L.a, 5, none⟩ _ M (hm1.notCells HA.out.chip.top))), hmd, (HA.out.kept.setCell (p := ⟨L.a, 5, none⟩) (Or.inl rfl) _).alloc _, HA.out.kept.size, by omega⟩
      generalize (wr.setCell ⟨L.a, 5, none⟩ (.map (some wr.heap.size))).alloc (.map #[] 0) = W0 at *
      generalize wr.heap.size = M2 at *
      have HJ0 := Hid.mk hJ0
      clear hJ0 HA c4 c5 f5 la lg g1 hmm
      go_loopw [53] (fun i wr => ∃ k : Nat, k ≤ m ∧ i = .int .i64 k ∧ ArmJ w L C0 M M2 cl n fl k wr) (fun i _ => m - (intOf i).toNat)
      case atStart => exact ⟨0, Nat.zero_le _, rfl, HJ0.out⟩
      case round =>
        obtain ⟨j, hj, rfl, hJ⟩ := hrel
        clear HJ0
        by_cases hjm : j < m
        · have hjc : j < fl.length := by rw [HN.out.2]; exact hjm
          have hjn1 : (j : Int) < m := by omega
          have hcc := HC.out.2
          rw [← HE.out.1] at hcc
          obtain ⟨g, o, rfl, hg, hgs, d0⟩ := (hcc.kept hJ.kept) j hjc
          have hwx := HW.out.2 (fl.getD j 0) (by rw [List.getD_eq_getElem?_getD, List.getElem?_eq_getElem hjc]; exact List.getElem_mem hjc)
          obtain ⟨_, _, _, _, c4, c5, _⟩ := hJ.chip.cellA
          obtain ⟨W4, hr, hJ4⟩ := hJ.fresh hjc hwx (by omega)
          generalize fl.getD j 0 = x at *
          have HJ4 := Hid.mk hJ4
          clear hwx hjc hcc hJ hJ4 hg hgs
          go_wp2_with fail
          exact ⟨⟨j + 1, by omega, by go_num, HJ4.out⟩, by simp [intOf]; omega⟩
        · have hjn1 : ¬ (j : Int) < m := by omega
          have hj2 : j = m := by omega
          rw [hj2] at hJ
          have HJ := Hid.mk hJ
          clear hJ
          go_wp2_with fail
          go_end0
          have h9 := HJ.out.fin (by rw [← HN.out.2, List.take_length]) (fun x hx => (HW.out.1 x hx).2)
          have e9 := HE.out.2
          clear HE HJ
          subst e9
          exact ⟨rfl, h9⟩
end Go.Proofs.YtbcnocbdifbocaaDoor
