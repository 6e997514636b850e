/-
  Faults laid anew: the walk of Arm. No condition. A new chip: the walk of New. No condition. What is told of all blocks, a geometry; and all of it without a chip: the walks of Worn, Dead, Geometry, and of every function at nil. No condition. A chip that may be, out of whatever numbers: the walk of the law's Geometry; what an erasure does where nothing happens. No condition.
-/
import Derived.Test.YtbhggcleijjofaaDoorActC
import Derived.Test.YtbhggcleijjofaaDoorNow
namespace Go.Proofs.YtbhggcleijjofaaDoor
open Go Go.RowKit

def topV (L : Ly) (C : Ch) (v4 v5 : Value) : Array Value :=
  #[.int .i64 C.B, .int .i64 C.P, .int .i64 C.Z, .slice (some ⟨L.bs, 0, none⟩) C.B C.B, v4, v5, .int .i64 C.did, .bool C.off]
/-- a chip, whatever its maps are -/
structure Chip0 (w : World) (L : Ly) (C : Ch) (v4 v5 : Value) : Prop where
  geo : 8 ≤ C.B ∧ C.B ≤ 32 ∧ 4 ≤ C.P ∧ C.P ≤ 16 ∧ 64 ≤ C.Z ∧ C.Z ≤ 256
  top : w.heap[L.a]? = some (.cells (topV L C v4 v5) 80 (0, 0))
  row : w.rowIs L.bs 106 (C.B * 4) (blkF L C)
  pgs : ∀ b, b < C.B → w.rowIs (L.pb b) 9 C.P (fun p => .string (C.pg b p))
  inj : ∀ b, b < C.B → ∀ d, d < C.B → L.pb b = L.pb d → b = d
  pa : ∀ b, b < C.B → L.pb b ≠ L.a
  pbs : ∀ b, b < C.B → L.pb b ≠ L.bs
  ab : L.bs ≠ L.a
  len : ∀ b p, (C.pg b p).size = 0 ∨ (C.pg b p).size = C.Z + 32
  didr : 0 ≤ C.did ∧ C.did < 1000000
theorem Chip.to0 {w : World} {L C} (h : Chip w L C) : ∃ mc mf n k, Chip0 w L C (.map (some mc)) (.map (some mf)) ∧ MapIs w mc n (cutF C.cuts) ∧ MapIs w mf k (failF C.fails) := by
  obtain ⟨mc, mf, n, k, ht, h1, h2⟩ := h.top
  exact ⟨mc, mf, n, k, { h with top := ht }, h1, h2⟩
theorem Chip0.chip {w : World} {L C} {mc mf n k : Nat} (h : Chip0 w L C (.map (some mc)) (.map (some mf))) (h1 : MapIs w mc n (cutF C.cuts)) (h2 : MapIs w mf k (failF C.fails)) (hf : ∀ i x, C.cuts i = some x → 0 ≤ x.2 ∧ x.2 < 256) : Chip w L C :=
  { h with top := ⟨mc, mf, n, k, h.top, h1, h2⟩, fill := hf }
theorem Chip0.lt {w : World} {L C v4 v5} (h : Chip0 w L C v4 v5) {i : Nat} (hi : L.own C.B i) : i < w.heap.size := by
  rcases hi with rfl | rfl | ⟨b, hb, rfl⟩
  · exact (Array.getElem?_eq_some_iff.1 h.top).1
  · exact h.row.lt
  · exact (h.pgs b hb).lt
theorem Chip0.cells {w : World} {L C v4 v5} (h : Chip0 w L C v4 v5) {i : Nat} (hi : L.own C.B i) : ∃ c t, w.heap[i]? = some (.cells c t (0, 0)) := by
  rcases hi with rfl | rfl | ⟨b, hb, rfl⟩
  · exact ⟨_, _, h.top⟩
  · obtain ⟨c, hc, _⟩ := h.row
    exact ⟨c, _, hc⟩
  · obtain ⟨c, hc, _⟩ := h.pgs b hb
    exact ⟨c, _, hc⟩
theorem Chip0.same {w w' : World} {L C v4 v5} (h : Chip0 w L C v4 v5) (e : ∀ i, L.own C.B i → w'.heap[i]? = w.heap[i]?) : Chip0 w' L C v4 v5 :=
  { h with
    top := (e L.a (Or.inl rfl)).trans h.top
    row := h.row.of_block (e _ (Or.inr (Or.inl rfl)))
    pgs := fun b hb => (h.pgs b hb).of_block (e _ (Or.inr (Or.inr ⟨b, hb, rfl⟩))) }
theorem Chip0.call {w w' : World} {L C v4 v5} (h : Chip0 w L C v4 v5) (b : Below w.heap.size w w') : Chip0 w' L C v4 v5 := h.same (fun i hi => b.block i (h.lt hi))
theorem Chip0.alloc {w : World} {L C v4 v5} (h : Chip0 w L C v4 v5) (o : Obj) : Chip0 (w.alloc o) L C v4 v5 := h.same (fun i hi => Below.heap_alloc w o i (h.lt hi))
theorem Chip0.drew {w : World} {L C v4 v5} (h : Chip0 w L C v4 v5) : Chip0 w.drew L C v4 v5 := h.same (fun _ _ => rfl)
theorem Chip0.turned {w w' : World} {L C v4 v5} {m n : Nat} {F} (h : Chip0 w L C v4 v5) (hm : MapIs w m n F) (ht : w.mapTurned w' m) : Chip0 w' L C v4 v5 :=
  h.same (fun i hi => by
    obtain ⟨c, t, hc⟩ := h.cells hi
    exact ht.grown.block i (h.lt hi) (fun e => hm.notCells hc (by cases e; rfl)))
theorem Chip0.cellA {w : World} {L C v4 v5} (h : Chip0 w L C v4 v5) : w.cell? ⟨L.a, 0, none⟩ = some (.int .i64 C.B) ∧ w.cell? ⟨L.a, 1, none⟩ = some (.int .i64 C.P) ∧ w.cell? ⟨L.a, 2, none⟩ = some (.int .i64 C.Z) ∧
    w.cell? ⟨L.a, 3, none⟩ = some (.slice (some ⟨L.bs, 0, none⟩) C.B C.B) ∧ w.cell? ⟨L.a, 4, none⟩ = some v4 ∧ w.cell? ⟨L.a, 5, none⟩ = some v5 ∧ w.cell? ⟨L.a, 6, none⟩ = some (.int .i64 C.did) ∧ w.cell? ⟨L.a, 7, none⟩ = some (.bool C.off) ∧ ∀ j, w.frozen? ⟨L.a, j, none⟩ = false := by
  have ht := h.top
  refine ⟨?_, ?_, ?_, ?_, ?_, ?_, ?_, ?_, fun j => frozen_of_row w L.a j _ 80 ht⟩ <;> (rw [cell_of_row w L.a _ _ 80 _ ht]; rfl)
theorem Chip0.setTop {w : World} {L C v4 v5} (h : Chip0 w L C v4 v5) (j : Nat) (v : Value) (C' : Ch) (u4 u5 : Value) (e1 : C'.B = C.B) (e2 : C'.P = C.P) (e3 : C'.Z = C.Z) (e4 : C'.pg = C.pg) (e5 : C'.worn = C.worn) (e6 : C'.dead = C.dead) (e7 : C'.mark = C.mark)
    (hd : 0 ≤ C'.did ∧ C'.did < 1000000) (hc : (topV L C v4 v5).setIfInBounds j v = topV L C' u4 u5) : Chip0 (w.setCell ⟨L.a, j, none⟩ v) L C' u4 u5 := by
  have hbk : blkF L C' = blkF L C := by funext i; simp only [blkF, e2, e5, e6, e7]
  refine { geo := by rw [e1, e2, e3]; exact h.geo, top := ?_, row := ?_, pgs := ?_, inj := by rw [e1]; exact h.inj, pa := by rw [e1]; exact h.pa, pbs := by rw [e1]; exact h.pbs, ab := h.ab, len := by rw [e3, e4]; exact h.len, didr := hd }
  · have := heap_setCell_same w L.a j _ 80 v h.top
    rw [hc] at this
    exact this
  · rw [e1, hbk]; exact h.row.setOther h.ab v
  · rw [e1]; intro b hb; rw [e2, e4]; exact (h.pgs b hb).setOther (h.pa b hb) v
theorem Chip0.setDid {w : World} {L C v4 v5} (h : Chip0 w L C v4 v5) (d : Int) (hd : 0 ≤ d ∧ d < 1000000) : Chip0 (w.setCell ⟨L.a, 6, none⟩ (.int .i64 d)) L { C with did := d } v4 v5 :=
  h.setTop 6 _ { C with did := d } v4 v5 rfl rfl rfl rfl rfl rfl rfl hd rfl
theorem Chip0.set4 {w : World} {L C v4 v5} (h : Chip0 w L C v4 v5) (v : Value) : Chip0 (w.setCell ⟨L.a, 4, none⟩ v) L C v v5 :=
  h.setTop 4 v C v v5 rfl rfl rfl rfl rfl rfl rfl h.didr rfl
theorem Chip0.set5 {w : World} {L C v4 v5} (h : Chip0 w L C v4 v5) (v : Value) : Chip0 (w.setCell ⟨L.a, 5, none⟩ v) L C v4 v :=
  h.setTop 5 v C v4 v rfl rfl rfl rfl rfl rfl rfl h.didr rfl
/-- from this address on lie these cuts, and these numbers, in a block that is none of S -/
def CutsAt (w : World) (S : Nat → Prop) (a : Option Addr) (cl : List (Int × Int × Int)) : Prop := ∀ i, i < cl.length → ∃ g o, a = some ⟨g, o, none⟩ ∧ g < w.heap.size ∧ ¬ S g ∧
    w.cell? ⟨g, o + i * 3, none⟩ = some (.int .i64 (cl.getD i (0, 0, 0)).1) ∧ w.cell? ⟨g, o + i * 3 + 1, none⟩ = some (.int .i64 (cl.getD i (0, 0, 0)).2.1) ∧ w.cell? ⟨g, o + i * 3 + 2, none⟩ = some (.int .u8 (cl.getD i (0, 0, 0)).2.2)
def IntsAt (w : World) (S : Nat → Prop) (a : Option Addr) (l : List Int) : Prop := ∀ i, i < l.length → ∃ g o, a = some ⟨g, o, none⟩ ∧ g < w.heap.size ∧ ¬ S g ∧ w.cell? ⟨g, o + i, none⟩ = some (.int .i64 (l.getD i 0))
theorem CutsAt.kept {w w' : World} {S a cl} (h : CutsAt w S a cl) (e : Kp S w w') : CutsAt w' S a cl := by
  intro i hi
  obtain ⟨g, o, ha, hg, hs, hc⟩ := h i hi
  have e2 : ∀ j, w'.cell? ⟨g, j, none⟩ = w.cell? ⟨g, j, none⟩ := fun j => World.cell?_of_block (w := w) (a := ⟨g, j, none⟩) (e.block g hg hs)
  exact ⟨g, o, ha, Nat.lt_of_lt_of_le hg e.size, hs, by rw [e2, e2, e2]; exact hc⟩
theorem IntsAt.kept {w w' : World} {S a l} (h : IntsAt w S a l) (e : Kp S w w') : IntsAt w' S a l := by
  intro i hi
  obtain ⟨g, o, ha, hg, hs, hc⟩ := h i hi
  exact ⟨g, o, ha, Nat.lt_of_lt_of_le hg e.size, hs, by rw [World.cell?_of_block (w := w) (a := ⟨g, o + i, none⟩) (e.block g hg hs)]; exact hc⟩
def cutsOf (cl : List (Int × Int × Int)) (i : Int) : Option (Int × Int) := (cl.find? fun x => decide (x.1 = i)).map (·.2)
def failsOf (l : List Int) (i : Int) : Bool := decide (i ∈ l)
theorem cutsOf_take {cl : List (Int × Int × Int)} {k : Nat} (hk : k < cl.length) : cutF (cutsOf (cl.take (k + 1))) =
    if (cutF (cutsOf (cl.take k)) (cl.getD k (0, 0, 0)).1).isSome = true then cutF (cutsOf (cl.take k)) else fun j => if j = (cl.getD k (0, 0, 0)).1 then some (cutV (cl.getD k (0, 0, 0)).1 (cl.getD k (0, 0, 0)).2.1 (cl.getD k (0, 0, 0)).2.2) else cutF (cutsOf (cl.take k)) j := by
  have e1 : cl.take (k + 1) = cl.take k ++ [cl.getD k (0, 0, 0)] := by
    rw [List.take_add_one, List.getElem?_eq_getElem hk]
    simp [List.getD_eq_getElem?_getD, hk]
  generalize cl.getD k (0, 0, 0) = x at *
  rw [e1]
  generalize cl.take k = l at *
  have e2 : ∀ j, cutsOf (l ++ [x]) j = match cutsOf l j with | some y => some y | none => if x.1 = j then some x.2 else none := by
    intro j
    unfold cutsOf
    rw [List.find?_append]
    cases List.find? (fun x => decide (x.1 = j)) l with
    | some y => rfl
    | none => by_cases hx : x.1 = j <;> simp [hx]
  split
  · rename_i hs
    funext j
    unfold cutF
    rw [e2]
    cases hj : cutsOf l j with
    | some y => rfl
    | none =>
      by_cases hx : x.1 = j
      · subst hx
        simp [cutF, hj] at hs
      · simp [hx]
  · rename_i hs
    funext j
    unfold cutF
    rw [e2]
    by_cases hx : j = x.1
    · subst hx
      simp only [if_pos]
      cases hj : cutsOf l x.1 with
      | some y => simp [cutF, hj] at hs
      | none => rfl
    · rw [if_neg hx]
      have hx2 : ¬ x.1 = j := fun e => hx e.symm
      cases hj : cutsOf l j <;> simp [hx2]
theorem failsOf_take {l : List Int} {k : Nat} (hk : k < l.length) : failF (failsOf (l.take (k + 1))) = fun j => if j = l.getD k 0 then some (.agg #[]) else failF (failsOf (l.take k)) j := by
  have e1 : l.take (k + 1) = l.take k ++ [l.getD k 0] := by
    rw [List.take_add_one, List.getElem?_eq_getElem hk]
    simp [List.getD_eq_getElem?_getD, hk]
  rw [e1]
  generalize l.getD k 0 = x at *
  funext j
  unfold failF failsOf
  by_cases hj : j = x
  · simp [hj]
  · rw [if_neg hj]
    have : (j ∈ List.take k l ++ [x]) ↔ j ∈ List.take k l := by simp [hj]
    simp only [this]
theorem cutsOf_mem {cl : List (Int × Int × Int)} {i : Int} {x : Int × Int} (h : cutsOf cl i = some x) : (i, x) ∈ cl := by
  unfold cutsOf at h
  cases hf : cl.find? fun x => decide (x.1 = i) with
  | none => rw [hf] at h; cases h
  | some y =>
    rw [hf] at h
    have h1 := List.find?_some hf
    have h2 := List.mem_of_find?_eq_some hf
    rw [decide_eq_true_eq] at h1
    have h3 : y.2 = x := by simpa using h
    rw [← h1, ← h3]
    exact h2
theorem MapIs.mono {w : World} {b n n' F} (h : MapIs w b n F) (hn : n ≤ n') : MapIs w b n' F := by
  obtain ⟨D, h1, h2⟩ := h
  exact ⟨D, h1.mono hn, h2⟩
/-- while cuts are laid: k of them -/
structure ArmI (w0 : World) (L : Ly) (C : Ch) (v5 : Value) (M : Nat) (cl : List (Int × Int × Int)) (G : Nat) (bx : Array Value) (k : Nat) (w : World) : Prop where
  chip : Chip0 w L C (.map (some M)) v5
  map : MapIs w M k (cutF (cutsOf (cl.take k)))
  kept : Kp (L.own C.B) w0 w
  box : w.heap[G]? = some (.cells bx 33 (0, 0))
  boxn : ¬ L.own C.B G
  new : w0.heap.size ≤ M
theorem ArmI.below {w0 : World} {L C v5 M cl G bx k} {w w' : World} (h : ArmI w0 L C v5 M cl G bx k w) (b : Below w.heap.size w w') : ArmI w0 L C v5 M cl G bx k w' :=
  ⟨h.chip.call b, h.map.of_block (b.block _ h.map.lt), h.kept.call b, (b.block _ (Array.getElem?_eq_some_iff.1 h.box).1).trans h.box, h.boxn, h.new⟩
theorem ArmI.alloc {w0 : World} {L C v5 M cl G bx k} {w : World} (h : ArmI w0 L C v5 M cl G bx k w) (o : Obj) : ArmI w0 L C v5 M cl G bx k (w.alloc o) := h.below ((Below.refl _ w).alloc (Nat.le_refl _) o)
theorem ArmI.drew {w0 : World} {L C v5 M cl G bx k} {w : World} (h : ArmI w0 L C v5 M cl G bx k w) : ArmI w0 L C v5 M cl G bx k w.drew := h.below (Below.refl _ w).drew
theorem ArmI.known {w0 : World} {L C v5 M cl G bx k} {w : World} (h : ArmI w0 L C v5 M cl G bx k w) (hk : k < cl.length) {y : Int × Int} (hy : cutsOf (cl.take k) (cl.getD k (0, 0, 0)).1 = some y) : ArmI w0 L C v5 M cl G bx (k + 1) w :=
  { h with map := by rw [cutsOf_take hk, if_pos (by unfold cutF; rw [hy]; rfl)]; exact h.map.mono (Nat.le_succ _) }
theorem ArmI.fresh {w0 : World} {L C v5 M cl G bx k} {w : World} (h : ArmI w0 L C v5 M cl G bx k w) (hk : k < cl.length) (hn : cutsOf (cl.take k) (cl.getD k (0, 0, 0)).1 = none) (hw : (Lit.int .i64 (cl.getD k (0, 0, 0)).1).wf = true) (hk2 : k ≤ 1000) :
    ∃ w', (Instr.mapUpdate 77 (.map (some M)) (.int .i64 (cl.getD k (0, 0, 0)).1) (cutV (cl.getD k (0, 0, 0)).1 (cl.getD k (0, 0, 0)).2.1 (cl.getD k (0, 0, 0)).2.2)).run Tryd.prog w = .ok () w' ∧ ArmI w0 L C v5 M cl G bx (k + 1) w' := by
  obtain ⟨w', hr, hm, ht⟩ := h.map.store Tryd.underlying77 (by unfold maxLen; omega) (cutV (cl.getD k (0, 0, 0)).1 (cl.getD k (0, 0, 0)).2.1 (cl.getD k (0, 0, 0)).2.2) hw
  have hg := ht.grown
  refine ⟨w', hr, ⟨h.chip.turned h.map ht, ?_, ?_, ?_, h.boxn, h.new⟩⟩
  · rw [cutsOf_take hk, if_neg (by unfold cutF; rw [hn]; simp)]
    exact hm
  · refine ⟨hg.os.trans h.kept.os, hg.tape.trans h.kept.tape, hg.output.trans h.kept.output, Nat.le_trans h.kept.size hg.size, fun i hi hn => ?_⟩
    exact (hg.block i (Nat.lt_of_lt_of_le hi h.kept.size) (fun e => by cases e; have := h.new; omega)).trans (h.kept.block i hi hn)
  · exact (hg.block G (Array.getElem?_eq_some_iff.1 h.box).1 (fun e => h.map.notCells h.box (by cases e; rfl))).trans h.box
theorem ArmI.look {w0 : World} {L C v5 M cl G bx k} {w : World} (h : ArmI w0 L C v5 M cl G bx k w) {i : Int} (hi : (Lit.int .i64 i).wf = true) :
    (Instr.lookup 77 (.map (some M)) (.int .i64 i) true).run Tryd.prog w = .ok (.tuple #[(cutF (cutsOf (cl.take k)) i).getD cut0, .bool (cutF (cutsOf (cl.take k)) i).isSome]) w := h.map.look Tryd.underlying77 (zero57 _) hi
/-- while failures are laid: k of them -/
structure ArmJ (w0 : World) (L : Ly) (C : Ch) (M M2 : Nat) (cl : List (Int × Int × Int)) (n : Nat) (fl : List Int) (k : Nat) (w : World) : Prop where
  chip : Chip0 w L C (.map (some M)) (.map (some M2))
  map : MapIs w M n (cutF (cutsOf cl))
  mapF : MapIs w M2 k (failF (failsOf (fl.take k)))
  kept : Kp (L.own C.B) w0 w
  new : w0.heap.size ≤ M2
  ne : M ≠ M2
theorem ArmJ.fresh {w0 : World} {L C M M2 cl n fl k} {w : World} (h : ArmJ w0 L C M M2 cl n fl k w) (hk : k < fl.length) (hw : (Lit.int .i64 (fl.getD k 0)).wf = true) (hk2 : k ≤ 1000) :
    ∃ w', (Instr.mapUpdate 78 (.map (some M2)) (.int .i64 (fl.getD k 0)) (.agg #[])).run Tryd.prog w = .ok () w' ∧ ArmJ w0 L C M M2 cl n fl (k + 1) w' := by
  obtain ⟨w', hr, hm, ht⟩ := h.mapF.store Tryd.underlying78 (by unfold maxLen; omega) (.agg #[]) hw
  have hg := ht.grown
  refine ⟨w', hr, ⟨h.chip.turned h.mapF ht, ?_, ?_, ?_, h.new, h.ne⟩⟩
  · exact h.map.of_block (hg.block M h.map.lt (fun e => h.ne (by cases e; rfl)))
  · rw [failsOf_take hk]
    exact hm
  · refine ⟨hg.os.trans h.kept.os, hg.tape.trans h.kept.tape, hg.output.trans h.kept.output, Nat.le_trans h.kept.size hg.size, fun i hi hn => ?_⟩
    exact (hg.block i (Nat.lt_of_lt_of_le hi h.kept.size) (fun e => by cases e; have := h.new; omega)).trans (h.kept.block i hi hn)
theorem ArmJ.fin {w0 : World} {L C M M2 cl n fl k} {w : World} (h : ArmJ w0 L C M M2 cl n fl k w) (hk : fl.take k = fl) (hf : ∀ x ∈ cl, 0 ≤ x.2.2 ∧ x.2.2 < 256) : Chip w L { C with cuts := cutsOf cl, fails := failsOf fl } ∧ Kp (L.own C.B) w0 w := by
  have h2 := h.mapF
  rw [hk] at h2
  have h0 : Chip0 w L { C with cuts := cutsOf cl, fails := failsOf fl } (.map (some M)) (.map (some M2)) := ⟨h.chip.geo, h.chip.top, h.chip.row, h.chip.pgs, h.chip.inj, h.chip.pa, h.chip.pbs, h.chip.ab, h.chip.len, h.chip.didr⟩
  exact ⟨h0.chip h.map h2 (fun i x hx => hf _ (cutsOf_mem hx)), h.kept⟩
set_option maxHeartbeats 2000000 in
theorem arm_any {w : World} {L C v4 v5} (h : Chip0 w L C v4 v5) (ca fa : Option Addr) (cl : List (Int × Int × Int)) (fl : List Int) (cc fc : Nat) (bv : Value) (hc : CutsAt w (L.own C.B) ca cl) (hf : IntsAt w (L.own C.B) fa fl) (hcl : cl.length ≤ 1000) (hfl : fl.length ≤ 1000)
    (hwc : ∀ x ∈ cl, (Lit.int .i64 x.1).wf = true ∧ 0 ≤ x.2.2 ∧ x.2.2 < 256) (hwf : ∀ x ∈ fl, (Lit.int .i64 x).wf = true) :
    Calls Tryd.prog 16 #[.pointer (some ⟨L.a, 0, none⟩), .agg #[.slice ca cl.length cc, .slice fa fl.length fc, bv]] w fun e w' => e = .returned (.tuple #[]) ∧ Chip w' L { C with did := 0, cuts := cutsOf cl, fails := failsOf fl } ∧ Kp (L.own C.B) w w' := by
  obtain ⟨c0, c1, c2, c3, c4, c5, c6, c7, hfr⟩ := h.cellA
  have f4 := hfr 4
  have f6 := hfr 6
  have la : L.a < w.heap.size := h.lt (Or.inl rfl)
  have hmm := @run_makeMap Tryd.prog
  have HH := Hid.mk h
  obtain ⟨n, hn⟩ : ∃ n, cl.length = n := ⟨_, rfl⟩
  obtain ⟨m, hm⟩ : ∃ m, fl.length = m := ⟨_, rfl⟩
  rw [hn, hm]
  have HN := Hid.mk (And.intro hn hm)
  have HC := Hid.mk (And.intro hc hf)
  have HW := Hid.mk (And.intro hwc hwf)
  have hn1 : n ≤ 1000 := by omega
  have hm1 : m ≤ 1000 := by omega
  clear h hfr hn hm hc hf hwc hwf hcl hfl
  go_enter Tryd.func16, Tryd.ntmps16
  go_upto_region 5 with fail
  obtain ⟨C0, hC0⟩ : ∃ C0 : Ch, C0 = { C with did := 0 } := ⟨_, rfl⟩
  have eB : C0.B = C.B := by rw [hC0]
  have hA0 : ArmI w L C0 v5 (w.heap.size + 1) cl w.heap.size #[.slice ca n cc, .slice fa m fc, bv] 0 ((((w.setCell ⟨L.a, 6, none⟩ (.int .i64 0)).setCell ⟨L.a, 4, none⟩ (.map (some (w.heap.size + 1)))).alloc (.cells #[.slice ca n cc, .slice fa m fc, bv] 33)).alloc (.map #[] 0)) := by
    have hz : ((w.setCell ⟨L.a, 6, none⟩ (.int .i64 0)).setCell ⟨L.a, 4, none⟩ (.map (some (w.heap.size + 1)))).heap.size = w.heap.size := by simp [World.setCell]
    have hkk : Kp (L.own C0.B) w ((w.setCell ⟨L.a, 6, none⟩ (.int .i64 0)).setCell ⟨L.a, 4, none⟩ (.map (some (w.heap.size + 1)))) := ((Kp.refl _ w).setCell (p := ⟨L.a, 6, none⟩) (Or.inl rfl) _).setCell (p := ⟨L.a, 4, none⟩) (Or.inl rfl) _
    have hch : Chip0 ((w.setCell ⟨L.a, 6, none⟩ (.int .i64 0)).setCell ⟨L.a, 4, none⟩ (.map (some (w.heap.size + 1)))) L C0 (.map (some (w.heap.size + 1))) v5 := by
      rw [hC0]
      exact (HH.out.setDid 0 (by omega)).set4 _
    generalize (w.setCell ⟨L.a, 6, none⟩ (.int .i64 0)).setCell ⟨L.a, 4, none⟩ (.map (some (w.heap.size + 1))) = X at *
    have hmd := MapIs.made (X.alloc (.cells #[.slice ca n cc, .slice fa m fc, bv] 33))
    rw [size_alloc, hz] at hmd
    have hbx := heap_alloc_new X (.cells #[.slice ca n cc, .slice fa m fc, bv] 33)
    rw [hz] at hbx
    exact ⟨(hch.alloc _).alloc _, hmd, (hkk.alloc _).alloc _, (Below.heap_alloc _ _ _ (by rw [size_alloc]; omega)).trans hbx, fun ho => by have := hch.lt ho; omega, by omega⟩
  generalize (((w.setCell ⟨L.a, 6, none⟩ (.int .i64 0)).setCell ⟨L.a, 4, none⟩ (.map (some (w.heap.size + 1)))).alloc (.cells #[.slice ca n cc, .slice fa m fc, bv] 33)).alloc (.map #[] 0) = W0 at *
  generalize w.heap.size + 1 = M at *
  generalize w.heap.size = G at *
  have HA0 := Hid.mk hA0
  have HE := Hid.mk (And.intro eB hC0)
  clear hA0 c0 c1 c2 c3 c4 c5 c6 c7 f4 f6 la hmm eB hC0
  go_loopw [22] (fun i wr => ∃ k : Nat, k ≤ n ∧ i = .int .i64 k ∧ ArmI w L C0 v5 M cl G #[.slice ca n cc, .slice fa m fc, bv] k wr) (fun i _ => n - (intOf i).toNat)
  case atStart => exact ⟨0, Nat.zero_le _, rfl, HA0.out⟩
  case round =>
    obtain ⟨k, hk, rfl, hA⟩ := hrel
    clear HA0 W0
    by_cases hkn : k < n
    · have hkc : k < cl.length := by rw [HN.out.1]; exact hkn
      have hkn1 : (k : Int) < n := by omega
      have hcc := HC.out.1
      rw [← HE.out.1] at hcc
      obtain ⟨g, o, rfl, hg, hgs, d0, d1, d2⟩ := (hcc.kept hA.kept) k hkc
      have hwx := HW.out.1 (cl.getD k (0, 0, 0)) (by rw [List.getD_eq_getElem?_getD, List.getElem?_eq_getElem hkc]; exact List.getElem_mem hkc)
      have H1 := Hid.mk (And.intro hkc hwx)
      have HA := Hid.mk hA
      obtain ⟨x0, hx0⟩ : ∃ x, (cl.getD k (0, 0, 0)).1 = x := ⟨_, rfl⟩
      obtain ⟨x1, hx1⟩ : ∃ x, (cl.getD k (0, 0, 0)).2.1 = x := ⟨_, rfl⟩
      obtain ⟨x2, hx2⟩ : ∃ x, (cl.getD k (0, 0, 0)).2.2 = x := ⟨_, rfl⟩
      rw [hx0] at d0
      rw [hx1] at d1
      rw [hx2] at d2
      have HX := Hid.mk (And.intro hx0 (And.intro hx1 hx2))
      clear hwx hkc hcc hA hx0 hx1 hx2
      go_upto_region 7 with fail
      have HAW := Hid.mk (HA.out.alloc (.cells #[.int .i64 x0, .int .i64 x1, .int .u8 x2] 61))
      have hcv := heap_alloc_new wr (.cells #[.int .i64 x0, .int .i64 x1, .int .u8 x2] 61)
      have lv : wr.heap.size < (wr.alloc (.cells #[.int .i64 x0, .int .i64 x1, .int .u8 x2] 61)).heap.size := by rw [size_alloc]; omega
      generalize wr.alloc (.cells #[.int .i64 x0, .int .i64 x1, .int .u8 x2] 61) = W at *
      generalize wr.heap.size = V at *
      clear HA d0 d1 d2 hg hgs
      obtain ⟨_, _, _, _, c4, _⟩ := HAW.out.chip.cellA
      have la : L.a < W.heap.size := HAW.out.chip.lt (Or.inl rfl)
      have v0 : W.cell? ⟨V, 0, none⟩ = some (.int .i64 x0) := cell_of_row _ _ 0 _ 61 _ hcv
      have v1 : W.cell? ⟨V, 1, none⟩ = some (.int .i64 x1) := cell_of_row _ _ 1 _ 61 _ hcv
      have v2 : W.cell? ⟨V, 2, none⟩ = some (.int .u8 x2) := cell_of_row _ _ 2 _ 61 _ hcv
      have hwx : (Lit.int .i64 x0).wf = true := by rw [← HX.out.1]; exact H1.out.2.1
      have hl1 := HAW.out.drew.look hwx
      have hl2 := fun o => (HAW.out.alloc o).drew.look hwx
      have HCV := Hid.mk hcv
      clear hcv hwx
      cases hy : cutsOf (cl.take k) x0 with
      | none =>
        have ey : cutF (cutsOf (cl.take k)) x0 = none := by unfold cutF; rw [hy]; rfl
        rw [ey] at hl1
        simp only [ey] at hl2
        simp only [Option.getD_none, Option.isSome_none, cut0] at hl1 hl2
        obtain ⟨W4, hr, hA4⟩ := ((HAW.out.alloc (.cells #[.int .i64 0, .int .i64 0, .int .u8 0] 61)).drew.drew).fresh H1.out.1 (by rw [HX.out.1]; exact hy) H1.out.2.1 (by omega)
        rw [HX.out.1, HX.out.2.1, HX.out.2.2] at hr
        unfold cutV at hr
        have HA4 := Hid.mk hA4
        clear hA4
        go_region
        go_upto_region 9 with fail
        clear hl1 hl2
        go_region
        go_wp2_with fail
        exact ⟨⟨k + 1, by omega, by go_num, HA4.out⟩, by simp [intOf]; omega⟩
      | some y =>
        obtain ⟨y1, y2⟩ := y
        have ey : cutF (cutsOf (cl.take k)) x0 = some (.agg #[.int .i64 x0, .int .i64 y1, .int .u8 y2]) := by unfold cutF; rw [hy]; rfl
        rw [ey] at hl1
        simp only [ey] at hl2
        simp only [Option.getD_some, Option.isSome_some] at hl1 hl2
        go_region
        go_wp2_with fail
        refine ⟨⟨k + 1, by omega, by go_num, ((HAW.out.alloc _).drew).known H1.out.1 (by rw [HX.out.1]; exact hy)⟩, by simp [intOf]; omega⟩
    · have hkn1 : ¬ (k : Int) < n := by omega
      have hk2 : k = n := by omega
      rw [hk2] at hA
      have HA := Hid.mk hA
      obtain ⟨_, _, _, _, c4, c5, _, _, hfr⟩ := hA.chip.cellA
      have f5 := hfr 5
      have la : L.a < wr.heap.size := hA.chip.lt (Or.inl rfl)
      have lg : G < wr.heap.size := (Array.getElem?_eq_some_iff.1 hA.box).1
      have g1 : wr.cell? ⟨G, 1, none⟩ = some (.slice fa m fc) := cell_of_row _ _ 1 _ 33 _ hA.box
      have hmm := @run_makeMap Tryd.prog
      clear hfr hA
      go_upto_region 13 with fail
      have hJ0 : ArmJ w L C0 M wr.heap.size cl n fl 0 ((wr.setCell ⟨L.a, 5, none⟩ (.map (some wr.heap.size))).alloc (.map #[] 0)) := by
        have hz : (wr.setCell ⟨L.a, 5, none⟩ (.map (some wr.heap.size))).heap.size = wr.heap.size := by simp [World.setCell]
        have hmd := MapIs.made (wr.setCell ⟨L.a, 5, none⟩ (.map (some wr.heap.size)))
        rw [hz] at hmd
        have hm1 := HA.out.map
        rw [show cl.take n = cl by rw [← HN.out.1, List.take_length]] at hm1
        have hml := hm1.lt
        exact ⟨(HA.out.chip.set5 _).alloc _, hm1.of_block ((Below.heap_alloc _ _ _ (by rw [hz]; exact hml)).trans (Below.heap_setCell wr ⟨L.a, 5, none⟩ _ M (hm1.notCells HA.out.chip.top))), hmd, (HA.out.kept.setCell (p := ⟨L.a, 5, none⟩) (Or.inl rfl) _).alloc _, HA.out.kept.size, by omega⟩
      generalize (wr.setCell ⟨L.a, 5, none⟩ (.map (some wr.heap.size))).alloc (.map #[] 0) = W0 at *
      generalize wr.heap.size = M2 at *
      have HJ0 := Hid.mk hJ0
      clear hJ0 HA c4 c5 f5 la lg g1 hmm
      go_loopw [53] (fun i wr => ∃ k : Nat, k ≤ m ∧ i = .int .i64 k ∧ ArmJ w L C0 M M2 cl n fl k wr) (fun i _ => m - (intOf i).toNat)
      case atStart => exact ⟨0, Nat.zero_le _, rfl, HJ0.out⟩
      case round =>
        obtain ⟨j, hj, rfl, hJ⟩ := hrel
        clear HJ0
        by_cases hjm : j < m
        · have hjc : j < fl.length := by rw [HN.out.2]; exact hjm
          have hjn1 : (j : Int) < m := by omega
          have hcc := HC.out.2
          rw [← HE.out.1] at hcc
          obtain ⟨g, o, rfl, hg, hgs, d0⟩ := (hcc.kept hJ.kept) j hjc
          have hwx := HW.out.2 (fl.getD j 0) (by rw [List.getD_eq_getElem?_getD, List.getElem?_eq_getElem hjc]; exact List.getElem_mem hjc)
          obtain ⟨_, _, _, _, c4, c5, _⟩ := hJ.chip.cellA
          obtain ⟨W4, hr, hJ4⟩ := hJ.fresh hjc hwx (by omega)
          generalize fl.getD j 0 = x at *
          have HJ4 := Hid.mk hJ4
          clear hwx hjc hcc hJ hJ4 hg hgs
          go_wp2_with fail
          exact ⟨⟨j + 1, by omega, by go_num, HJ4.out⟩, by simp [intOf]; omega⟩
        · have hjn1 : ¬ (j : Int) < m := by omega
          have hj2 : j = m := by omega
          rw [hj2] at hJ
          have HJ := Hid.mk hJ
          clear hJ
          go_wp2_with fail
          go_end0
          have h9 := HJ.out.fin (by rw [← HN.out.2, List.take_length]) (fun x hx => (HW.out.1 x hx).2)
          have e9 := HE.out.2
          clear HE HJ
          subst e9
          exact ⟨rfl, h9⟩
def blk0 : Value := .agg #[.slice none 0 0, .int .i64 0, .bool false, .bool false]
def blkZ : Array Value := #[.slice none 0 0, .int .i64 0, .bool false, .bool false]
theorem Tryd.info106 : (Tryd.prog.info? 106).map (fun i => (i.zero, i.size, i.bytes)) = some (some blk0, 4, 40) := by kernel_rfl
theorem Tryd.info9 : (Tryd.prog.info? 9).map (fun i => (i.zero, i.size, i.bytes)) = some (some (.string ⟨#[]⟩), 1, 16) := by kernel_rfl
theorem run_make_blocks (n : Nat) (hn : n ≤ 1000) (w : World) : (Instr.makeSlice 76 (.int .i64 n) (.int .i64 n)).run Tryd.prog w = .ok (.slice (some ⟨w.heap.size, 0, none⟩) n n) (w.alloc (.cells (madeCells blkZ (n * 4)) 106)) := by
  obtain ⟨i, hi, hzz⟩ := Option.map_eq_some_iff.1 Tryd.info106
  simp only [Prod.mk.injEq] at hzz
  obtain ⟨hz, hs, hb⟩ := hzz
  have hr := run_make (P := Tryd.prog) w 76 106 i blk0 Tryd.underlying76 hi hz .i64 .i64 n n (by omega) (Int.le_refl _) (by rw [hb]; omega) (by omega)
  rw [hs, Int.toNat_natCast] at hr
  exact hr
/-- the row of blocks of which k have their pages -/
def newF (L : Ly) (P k : Nat) (i : Nat) : Value := if i % 4 = 0 then (if i / 4 < k then .slice (some ⟨L.pb (i / 4), 0, none⟩) P P else .slice none 0 0) else if i % 4 = 1 then .int .i64 0 else .bool false
theorem newF_made (L : Ly) (P n : Nat) (w : World) : (w.alloc (.cells (madeCells blkZ (n * 4)) 106)).rowIs w.heap.size 106 (n * 4) (newF L P 0) := by
  have h := World.rowIs_alloc w (madeCells blkZ (n * 4)) 106 (newF L P 0) (fun i hi => ?_)
  · rw [size_madeCells] at h
    exact h
  · rw [size_madeCells] at hi
    have h4 : i % 4 = 0 ∨ i % 4 = 1 ∨ i % 4 = 2 ∨ i % 4 = 3 := by omega
    unfold madeCells newF
    rw [Array.getElem?_map, Array.getElem?_range, if_pos hi]
    rcases h4 with h | h | h | h <;> simp [blkZ, h]
/-- while blocks are made: k have their pages -/
structure NewI (w0 : World) (B P Z : Nat) (bx : Array Value) (L : Ly) (k : Nat) (w : World) : Prop where
  top : w.heap[L.a]? = some (.cells #[.int .i64 B, .int .i64 P, .int .i64 Z, .slice (some ⟨L.bs, 0, none⟩) B B, .map none, .map none, .int .i64 0, .bool false] 80 (0, 0))
  row : w.rowIs L.bs 106 (B * 4) (newF L P k)
  pgs : ∀ b, b < k → w.rowIs (L.pb b) 9 P (fun _ => .string ⟨#[]⟩)
  inj : ∀ b, b < k → ∀ d, d < k → L.pb b = L.pb d → b = d
  pa : ∀ b, b < k → L.pb b ≠ L.a
  pbs : ∀ b, b < k → L.pb b ≠ L.bs
  ab : L.bs ≠ L.a
  newA : w0.heap.size + 1 < L.a
  newB : w0.heap.size + 1 < L.bs
  newP : ∀ b, b < k → w0.heap.size + 1 < L.pb b
  below : Below w0.heap.size w0 w
  gbox : w.heap[w0.heap.size]? = some (.cells #[.int .i64 B, .int .i64 P, .int .i64 Z] 29 (0, 0))
  fbox : w.heap[w0.heap.size + 1]? = some (.cells bx 33 (0, 0))
theorem NewI.step {w0 : World} {B P Z bx L k} {w : World} (h : NewI w0 B P Z bx L k w) :
    NewI w0 B P Z bx ⟨L.a, L.bs, upd L.pb k w.heap.size⟩ (k + 1) ((w.setCell ⟨L.bs, k * 4, none⟩ (.slice (some ⟨w.heap.size, 0, none⟩) P P)).alloc (.cells (madeCells #[.string ⟨#[]⟩] P) 9)) := by
  have hz : (w.setCell ⟨L.bs, k * 4, none⟩ (.slice (some ⟨w.heap.size, 0, none⟩) P P)).heap.size = w.heap.size := by simp [World.setCell]
  have hmade := World.rowIs_made (w.setCell ⟨L.bs, k * 4, none⟩ (.slice (some ⟨w.heap.size, 0, none⟩) P P)) (.string ⟨#[]⟩) P 9
  rw [hz] at hmade
  have hlA : L.a < w.heap.size := (Array.getElem?_eq_some_iff.1 h.top).1
  have hlB : L.bs < w.heap.size := h.row.lt
  have hlP : ∀ b, b < k → L.pb b < w.heap.size := fun b hb => (h.pgs b hb).lt
  have e1 : ∀ i, i < w.heap.size → i ≠ L.bs → ((w.setCell ⟨L.bs, k * 4, none⟩ (.slice (some ⟨w.heap.size, 0, none⟩) P P)).alloc (.cells (madeCells #[.string ⟨#[]⟩] P) 9)).heap[i]? = w.heap[i]? := fun i hi hn =>
    (Below.heap_alloc _ _ i (by rw [hz]; exact hi)).trans (Below.heap_setCell w ⟨L.bs, k * 4, none⟩ _ i hn)
  have hu : ∀ b, b < k + 1 → (b < k ∧ upd L.pb k w.heap.size b = L.pb b) ∨ (b = k ∧ upd L.pb k w.heap.size b = w.heap.size) := by
    intro b hb
    unfold upd
    by_cases e : b = k
    · exact Or.inr ⟨e, by rw [if_pos e]⟩
    · exact Or.inl ⟨by omega, by rw [if_neg e]⟩
  refine ⟨(e1 _ hlA (fun e => h.ab e.symm)).trans h.top, ?_, ?_, ?_, ?_, ?_, h.ab, h.newA, h.newB, ?_, ?_, ?_, ?_⟩
  · refine (((h.row.set (k * 4) _).alloc _)).congr (fun i _ => ?_)
    unfold newF upd
    by_cases e : i = k * 4
    · subst e
      rw [if_pos rfl, if_pos (by omega), if_pos (by omega)]
      simp only
      rw [if_pos (by omega)]
    · rw [if_neg e]
      by_cases e0 : i % 4 = 0
      · rw [if_pos e0, if_pos e0]
        simp only
        by_cases e2 : i / 4 < k
        · rw [if_pos e2, if_pos (by omega), if_neg (by omega)]
        · rw [if_neg e2, if_neg (by omega)]
      · rw [if_neg e0, if_neg e0]
  · intro b hb
    rcases hu b hb with ⟨h1, h2⟩ | ⟨h1, h2⟩
    · simp only [h2]
      exact (h.pgs b h1).of_block (e1 _ (hlP b h1) (h.pbs b h1))
    · simp only [h2]
      exact hmade
  · intro b hb d hd he
    simp only at he
    rcases hu b hb with ⟨h1, h2⟩ | ⟨h1, h2⟩ <;> rcases hu d hd with ⟨h3, h4⟩ | ⟨h3, h4⟩ <;> rw [h2, h4] at he
    · exact h.inj b h1 d h3 he
    · have := hlP b h1; omega
    · have := hlP d h3; omega
    · omega
  · intro b hb
    simp only
    rcases hu b hb with ⟨h1, h2⟩ | ⟨h1, h2⟩ <;> rw [h2]
    · exact h.pa b h1
    · omega
  · intro b hb
    simp only
    rcases hu b hb with ⟨h1, h2⟩ | ⟨h1, h2⟩ <;> rw [h2]
    · exact h.pbs b h1
    · omega
  · intro b hb
    simp only
    rcases hu b hb with ⟨h1, h2⟩ | ⟨h1, h2⟩ <;> rw [h2]
    · exact h.newP b h1
    · have := h.newA; omega
  · refine (h.below.setCell (p := ⟨L.bs, k * 4, none⟩) (by have := h.newB; show _ ≤ L.bs; omega) _).alloc (by rw [hz]; exact h.below.size) _
  · exact (e1 _ (by have := h.newA; omega) (by have := h.newB; omega)).trans h.gbox
  · exact (e1 _ (by have := h.newA; omega) (by have := h.newB; omega)).trans h.fbox
theorem NewI.drew {w0 : World} {B P Z bx L k} {w : World} (h : NewI w0 B P Z bx L k w) : NewI w0 B P Z bx L k w.drew := ⟨h.top, h.row, h.pgs, h.inj, h.pa, h.pbs, h.ab, h.newA, h.newB, h.newP, h.below.drew, h.gbox, h.fbox⟩
/-- a chip at its beginning, of which some blocks are bad -/
def newC (B P Z : Nat) (l : List Int) : Ch := { B := B, P := P, Z := Z, pg := fun _ _ => ⟨#[]⟩, worn := fun _ => 0, dead := fun b => decide ((b : Int) ∈ l), mark := fun b => decide ((b : Int) ∈ l), cuts := fun _ => none, fails := fun _ => false, did := 0, off := false }
/-- .. in memory, with what else is held -/
structure NewJ (w0 : World) (B P Z : Nat) (bx : Array Value) (L : Ly) (l : List Int) (w : World) : Prop where
  chip : Chip0 w L (newC B P Z l) (.map none) (.map none)
  new : ∀ i, L.own B i → w0.heap.size + 1 < i
  below : Below w0.heap.size w0 w
  fbox : w.heap[w0.heap.size + 1]? = some (.cells bx 33 (0, 0))
theorem NewI.done {w0 : World} {B P Z bx L} {w : World} (h : NewI w0 B P Z bx L B w) (hg : 8 ≤ B ∧ B ≤ 32 ∧ 4 ≤ P ∧ P ≤ 16 ∧ 64 ≤ Z ∧ Z ≤ 256) : NewJ w0 B P Z bx L [] w := by
  refine ⟨⟨hg, h.top, h.row.congr (fun i hi => ?_), h.pgs, h.inj, h.pa, h.pbs, h.ab, fun _ _ => Or.inl rfl, by show (0 : Int) ≤ 0 ∧ (0 : Int) < 1000000; omega⟩, ?_, h.below, h.fbox⟩
  · unfold newF blkF newC
    rw [if_pos (by omega : i / 4 < B)]
    simp
  · intro i hi
    rcases hi with rfl | rfl | ⟨b, hb, rfl⟩
    · exact h.newA
    · exact h.newB
    · exact h.newP b hb
theorem Chip0.setBlk {w : World} {L C v4 v5} (h : Chip0 w L C v4 v5) (b j : Nat) (v : Value) (C' : Ch) (e1 : C'.B = C.B) (e2 : C'.P = C.P) (e3 : C'.Z = C.Z) (e4 : C'.pg = C.pg) (e10 : C'.did = C.did) (e11 : C'.off = C.off)
    (hc : ∀ i, (if i = b * 4 + j then v else blkF L C i) = blkF L C' i) : Chip0 (w.setCell ⟨L.bs, b * 4 + j, none⟩ v) L C' v4 v5 := by
  have htc : topV L C' v4 v5 = topV L C v4 v5 := by simp only [topV, e1, e2, e3, e10, e11]
  refine { geo := by rw [e1, e2, e3]; exact h.geo, top := ?_, row := ?_, pgs := ?_, inj := by rw [e1]; exact h.inj, pa := by rw [e1]; exact h.pa, pbs := by rw [e1]; exact h.pbs, ab := h.ab, len := by rw [e3, e4]; exact h.len, didr := by rw [e10]; exact h.didr }
  · rw [htc]; exact (Below.heap_setCell w _ v L.a (fun e => h.ab e.symm)).trans h.top
  · rw [e1]; exact (h.row.set (b * 4 + j) v).congr (fun i _ => hc i)
  · rw [e1]; intro d hd; rw [e2, e4]; exact (h.pgs d hd).setOther (h.pbs d hd) v
theorem blk_dead (L : Ly) (C : Ch) (b : Nat) (v : Bool) (i : Nat) : (if i = b * 4 + 2 then .bool v else blkF L C i) = blkF L { C with dead := upd C.dead b v } i := by
  unfold blkF upd
  by_cases e : i = b * 4 + 2
  · subst e
    rw [if_pos rfl, if_neg (by omega), if_neg (by omega), if_pos (by omega)]
    simp only
    rw [if_pos (by omega)]
  · rw [if_neg e]
    simp only
    by_cases e1 : i % 4 = 2
    · rw [if_neg (by omega : ¬ i % 4 = 0), if_neg (by omega : ¬ i % 4 = 1), if_pos e1, if_neg (by omega : ¬ i % 4 = 0), if_neg (by omega : ¬ i % 4 = 1), if_pos e1, if_neg (by omega)]
    · simp only [if_neg e1]
theorem blk_mark (L : Ly) (C : Ch) (b : Nat) (v : Bool) (i : Nat) : (if i = b * 4 + 3 then .bool v else blkF L C i) = blkF L { C with mark := upd C.mark b v } i := by
  unfold blkF upd
  by_cases e : i = b * 4 + 3
  · subst e
    rw [if_pos rfl, if_neg (by omega), if_neg (by omega), if_neg (by omega)]
    simp only
    rw [if_pos (by omega)]
  · rw [if_neg e]
    simp only
    by_cases e1 : i % 4 = 3
    · rw [if_neg (by omega : ¬ i % 4 = 0), if_neg (by omega : ¬ i % 4 = 1), if_neg (by omega : ¬ i % 4 = 2), if_neg (by omega : ¬ i % 4 = 0), if_neg (by omega : ¬ i % 4 = 1), if_neg (by omega : ¬ i % 4 = 2), if_neg (by omega)]
    · by_cases e2 : i % 4 = 0
      · rw [if_pos e2, if_pos e2]
      · by_cases e3 : i % 4 = 1
        · rw [if_neg e2, if_pos e3, if_neg e2, if_pos e3]
        · rw [if_neg e2, if_neg e3, if_pos (by omega), if_neg e2, if_neg e3, if_pos (by omega)]

theorem newC_bad (B P Z : Nat) (l : List Int) (b : Nat) : newC B P Z (l ++ [(b : Int)]) = { newC B P Z l with dead := upd (newC B P Z l).dead b true, mark := upd (newC B P Z l).mark b true } := by
  have e : (fun d : Nat => decide ((d : Int) ∈ l ++ [(b : Int)])) = upd (fun d : Nat => decide ((d : Int) ∈ l)) b true := by
    funext d
    unfold upd
    by_cases h : d = b
    · simp [h]
    · rw [if_neg h]
      have : ¬ (d : Int) = b := by omega
      simp [this]
  unfold newC
  simp only [e]
theorem NewJ.drew {w0 : World} {B P Z bx L l} {w : World} (h : NewJ w0 B P Z bx L l w) : NewJ w0 B P Z bx L l w.drew := ⟨h.chip.drew, h.new, h.below.drew, h.fbox⟩
theorem NewJ.badA {w0 : World} {B P Z bx L l} {w : World} (h : NewJ w0 B P Z bx L l w) (b : Nat) : NewJ w0 B P Z bx L (l ++ [(b : Int)]) ((w.setCell ⟨L.bs, b * 4 + 3, none⟩ (.bool true)).setCell ⟨L.bs, b * 4 + 2, none⟩ (.bool true)) := by
  have hn := h.new L.bs (Or.inr (Or.inl rfl))
  have h1 := h.chip.setBlk b 3 (.bool true) { newC B P Z l with mark := upd (newC B P Z l).mark b true } rfl rfl rfl rfl rfl rfl (blk_mark L _ b true)
  have h2 := h1.setBlk b 2 (.bool true) { newC B P Z l with dead := upd (newC B P Z l).dead b true, mark := upd (newC B P Z l).mark b true } rfl rfl rfl rfl rfl rfl (blk_dead L _ b true)
  refine ⟨by rw [newC_bad]; exact h2, h.new, (h.below.setCell (p := ⟨L.bs, b * 4 + 3, none⟩) (by show _ ≤ L.bs; omega) _).setCell (p := ⟨L.bs, b * 4 + 2, none⟩) (by show _ ≤ L.bs; omega) _, ?_⟩
  exact (Below.heap_setCell _ ⟨L.bs, b * 4 + 2, none⟩ _ _ (by show _ ≠ L.bs; omega)).trans ((Below.heap_setCell w ⟨L.bs, b * 4 + 3, none⟩ _ _ (by show _ ≠ L.bs; omega)).trans h.fbox)
theorem NewJ.badB {w0 : World} {B P Z bx L l} {w : World} (h : NewJ w0 B P Z bx L l w) (b : Nat) : NewJ w0 B P Z bx L (l ++ [(b : Int)]) ((w.setCell ⟨L.bs, b * 4 + 2, none⟩ (.bool true)).setCell ⟨L.bs, b * 4 + 3, none⟩ (.bool true)) := by
  have hn := h.new L.bs (Or.inr (Or.inl rfl))
  have h1 := h.chip.setBlk b 2 (.bool true) { newC B P Z l with dead := upd (newC B P Z l).dead b true } rfl rfl rfl rfl rfl rfl (blk_dead L _ b true)
  have h2 := h1.setBlk b 3 (.bool true) { newC B P Z l with dead := upd (newC B P Z l).dead b true, mark := upd (newC B P Z l).mark b true } rfl rfl rfl rfl rfl rfl (blk_mark L _ b true)
  refine ⟨by rw [newC_bad]; exact h2, h.new, (h.below.setCell (p := ⟨L.bs, b * 4 + 2, none⟩) (by show _ ≤ L.bs; omega) _).setCell (p := ⟨L.bs, b * 4 + 3, none⟩) (by show _ ≤ L.bs; omega) _, ?_⟩
  exact (Below.heap_setCell _ ⟨L.bs, b * 4 + 3, none⟩ _ _ (by show _ ≠ L.bs; omega)).trans ((Below.heap_setCell w ⟨L.bs, b * 4 + 2, none⟩ _ _ (by show _ ≠ L.bs; omega)).trans h.fbox)
theorem has0_any {w : World} {L C v4 v5} (h : Chip0 w L C v4 v5) (b : Int) : Calls Tryd.prog 37 #[.pointer (some ⟨L.a, 0, none⟩), .int .i64 b] w fun e w' => e = .returned (.bool (decide (0 ≤ b ∧ b < C.B))) ∧ w' = w := by
  obtain ⟨c0, c1, c2, c3, _⟩ := h.cellA
  clear h
  by_cases h0 : 0 ≤ b
  · by_cases h2 : b < C.B
    · rw [show decide (0 ≤ b ∧ b < C.B) = true by simp [h0, h2]]
      go_enter Tryd.func37, Tryd.ntmps37
      go_wp2
      go_ret
      exact ⟨rfl, rfl⟩
    · rw [show decide (0 ≤ b ∧ b < C.B) = false by simp [h2]]
      go_enter Tryd.func37, Tryd.ntmps37
      go_wp2
      go_ret
      exact ⟨rfl, rfl⟩
  · rw [show decide (0 ≤ b ∧ b < C.B) = false by simp [h0]]
    go_enter Tryd.func37, Tryd.ntmps37
    go_wp2
    go_ret
    exact ⟨rfl, rfl⟩
theorem NewJ.skip {w0 : World} {B P Z bx L l} {w : World} (h : NewJ w0 B P Z bx L l w) {x : Int} (hx : ¬ (0 ≤ x ∧ x < B)) : NewJ w0 B P Z bx L (l ++ [x]) w := by
  refine ⟨⟨h.chip.geo, h.chip.top, h.chip.row.congr (fun i hi => ?_), h.chip.pgs, h.chip.inj, h.chip.pa, h.chip.pbs, h.chip.ab, h.chip.len, h.chip.didr⟩, h.new, h.below, h.fbox⟩
  have hi2 : i < B * 4 := hi
  have : ¬ ((i / 4 : Nat) : Int) = x := by omega
  unfold blkF newC
  simp only [List.mem_append, List.mem_singleton, this, or_false]
theorem CutsAt.other {w : World} {S T : Nat → Prop} {a cl} (h : CutsAt w S a cl) (hn : ∀ i, i < cl.length → a.isSome = true → ∃ g o, a = some ⟨g, o, none⟩ ∧ ¬ T g) : CutsAt w T a cl := by
  intro i hi
  obtain ⟨g, o, ha, hg, _, hc⟩ := h i hi
  obtain ⟨g', o', ha', ht⟩ := hn i hi (by rw [ha]; rfl)
  rw [ha] at ha'
  cases ha'
  exact ⟨g, o, ha, hg, ht, hc⟩
theorem IntsAt.other {w : World} {S T : Nat → Prop} {a l} (h : IntsAt w S a l) (hn : ∀ i, i < l.length → a.isSome = true → ∃ g o, a = some ⟨g, o, none⟩ ∧ ¬ T g) : IntsAt w T a l := by
  intro i hi
  obtain ⟨g, o, ha, hg, _, hc⟩ := h i hi
  obtain ⟨g', o', ha', ht⟩ := hn i hi (by rw [ha]; rfl)
  rw [ha] at ha'
  cases ha'
  exact ⟨g, o, ha, hg, ht, hc⟩
/-- a chip at its beginning, with these faults -/
def begC (B P Z : Nat) (cl : List (Int × Int × Int)) (fl bl : List Int) : Ch := { newC B P Z bl with cuts := cutsOf cl, fails := failsOf fl }
set_option maxHeartbeats 2000000 in
theorem new_any (B P Z : Nat) (hg : 8 ≤ B ∧ B ≤ 32 ∧ 4 ≤ P ∧ P ≤ 16 ∧ 64 ≤ Z ∧ Z ≤ 256) (ca fa ba : Option Addr) (cl : List (Int × Int × Int)) (fl bl : List Int) (cc fc bc : Nat) (w : World)
    (hc : CutsAt w (fun _ => False) ca cl) (hf : IntsAt w (fun _ => False) fa fl) (hb : IntsAt w (fun _ => False) ba bl) (hcl : cl.length ≤ 1000) (hfl : fl.length ≤ 1000) (hbl : bl.length ≤ 1000)
    (hwc : ∀ x ∈ cl, (Lit.int .i64 x.1).wf = true ∧ 0 ≤ x.2.2 ∧ x.2.2 < 256) (hwf : ∀ x ∈ fl, (Lit.int .i64 x).wf = true) :
    Calls Tryd.prog 20 #[.agg #[.int .i64 B, .int .i64 P, .int .i64 Z], .agg #[.slice ca cl.length cc, .slice fa fl.length fc, .slice ba bl.length bc]] w fun e w' =>
      ∃ L : Ly, e = .returned (.tuple #[.pointer (some ⟨L.a, 0, none⟩), .int .i64 0]) ∧ Chip w' L (begC B P Z cl fl bl) ∧ Below w.heap.size w w' ∧ ∀ i, L.own B i → w.heap.size < i := by
  have hok : okG (B : Int) P Z = true := by
    unfold okG inR
    simp
    omega
  have hmk := run_make_blocks B (by omega)
  have hmp := run_make_row' (P := Tryd.prog) 37 9 (.string ⟨#[]⟩) 16 Tryd.underlying37 Tryd.info9 rfl .i64 .i64 P (by omega) (by omega)
  have HA := Hid.mk (And.intro hc (And.intro hf hb))
  have HL := Hid.mk (And.intro hcl (And.intro hfl hbl))
  have HW := Hid.mk (And.intro hwc hwf)
  have HG := Hid.mk hg
  have hB32 : B ≤ 32 := hg.2.1
  clear hc hf hb hwc hwf hg
  generalize hn1 : cl.length = n1 at *
  generalize hn2 : fl.length = n2 at *
  generalize hn3 : bl.length = n3 at *
  have HN := Hid.mk (And.intro hn1 (And.intro hn2 hn3))
  clear hn1 hn2 hn3
  go_enter Tryd.func20, Tryd.ntmps20
  go_upto_region 3 with (go_at_call 36; refine (check_any _ _ _ _).mono ?_; rintro e w1 ⟨rfl, b1⟩; rw [hok])
  have hgb : w1.heap[w.heap.size]? = some (.cells #[.int .i64 B, .int .i64 P, .int .i64 Z] 29 (0, 0)) :=
    (b1.block _ (by rw [size_alloc, size_alloc]; omega)).trans ((Below.heap_alloc _ _ _ (by rw [size_alloc]; omega)).trans (heap_alloc_new w _))
  have hfb : w1.heap[w.heap.size + 1]? = some (.cells #[.slice ca n1 cc, .slice fa n2 fc, .slice ba n3 bc] 33 (0, 0)) := by
    have h1 := heap_alloc_new (w.alloc (.cells #[.int .i64 B, .int .i64 P, .int .i64 Z] 29)) (.cells #[.slice ca n1 cc, .slice fa n2 fc, .slice ba n3 bc] 33)
    rw [size_alloc] at h1
    exact (b1.block _ (by rw [size_alloc, size_alloc]; omega)).trans h1
  have hbw : Below w.heap.size w w1 := below3 (below_two w _ _) b1
  have hs1 : w.heap.size + 1 < w1.heap.size := (Array.getElem?_eq_some_iff.1 hfb).1
  clear b1
  have g0 : w1.cell? ⟨w.heap.size, 0, none⟩ = some (.int .i64 B) := cell_of_row _ _ 0 _ 29 _ hgb
  have g1 : w1.cell? ⟨w.heap.size, 1, none⟩ = some (.int .i64 P) := cell_of_row _ _ 1 _ 29 _ hgb
  have g2 : w1.cell? ⟨w.heap.size, 2, none⟩ = some (.int .i64 Z) := cell_of_row _ _ 2 _ 29 _ hgb
  have lg : w.heap.size < w1.heap.size := by omega
  have HB := Hid.mk (And.intro hgb (And.intro hfb (And.intro hbw hs1)))
  clear hgb hfb hbw
  go_region
  go_upto_region 5 with fail
  have hI0 : NewI w B P Z #[.slice ca n1 cc, .slice fa n2 fc, .slice ba n3 bc] ⟨w1.heap.size + 1, w1.heap.size, fun _ => 0⟩ 0 (((w1.alloc (.cells (madeCells blkZ (B * 4)) 106)).alloc (.cells #[.int .i64 B, .int .i64 P, .int .i64 Z, .slice (some ⟨w1.heap.size, 0, none⟩) B B, .map none, .map none, .int .i64 0, .bool false] 80)).drew) := by
    have hz := size_alloc w1 (.cells (madeCells blkZ (B * 4)) 106)
    have ht := heap_alloc_new (w1.alloc (.cells (madeCells blkZ (B * 4)) 106)) (.cells #[.int .i64 B, .int .i64 P, .int .i64 Z, .slice (some ⟨w1.heap.size, 0, none⟩) B B, .map none, .map none, .int .i64 0, .bool false] 80)
    rw [hz] at ht
    have hr := newF_made ⟨w1.heap.size + 1, w1.heap.size, fun _ => 0⟩ P B w1
    have hrl := hr.lt
    have ho : ∀ i, i < w1.heap.size → (((w1.alloc (.cells (madeCells blkZ (B * 4)) 106)).alloc (.cells #[.int .i64 B, .int .i64 P, .int .i64 Z, .slice (some ⟨w1.heap.size, 0, none⟩) B B, .map none, .map none, .int .i64 0, .bool false] 80)).drew).heap[i]? = w1.heap[i]? := fun i hi =>
      (Below.heap_alloc _ _ i (by rw [hz]; omega)).trans (Below.heap_alloc w1 _ i hi)
    refine NewI.drew ⟨ht, hr.alloc _, fun b hb => absurd hb (by omega), fun b hb => absurd hb (by omega), fun b hb => absurd hb (by omega), fun b hb => absurd hb (by omega), by show w1.heap.size ≠ w1.heap.size + 1; omega, by show _ < w1.heap.size + 1; omega, hs1, fun b hb => absurd hb (by omega), ?_, (ho _ (by omega)).trans HB.out.1, (ho _ hs1).trans HB.out.2.1⟩
    exact below3 HB.out.2.2.1 (below_two w1 _ _)
  generalize ((w1.alloc (.cells (madeCells blkZ (B * 4)) 106)).alloc (.cells #[.int .i64 B, .int .i64 P, .int .i64 Z, .slice (some ⟨w1.heap.size, 0, none⟩) B B, .map none, .map none, .int .i64 0, .bool false] 80)).drew = W0 at *
  have hba : ¬ w1.heap.size + 1 = w1.heap.size := by omega
  generalize w1.heap.size + 1 = a at *
  generalize w1.heap.size = bs at *
  have HI0 := Hid.mk hI0
  clear hI0 g0 g1 g2 lg HB hs1 hmk
  go_loopw [24] (fun i wr => ∃ k : Nat, ∃ pb : Nat → Nat, k ≤ B ∧ i = .int .i64 k ∧ NewI w B P Z #[.slice ca n1 cc, .slice fa n2 fc, .slice ba n3 bc] ⟨a, bs, pb⟩ k wr) (fun i _ => B - (intOf i).toNat)
  case atStart => exact ⟨0, _, Nat.zero_le _, rfl, HI0.out⟩
  case round =>
    obtain ⟨k, pb, hk, rfl, hI⟩ := hrel
    clear HI0 W0
    by_cases hkn : k < B
    · have hkn1 : (k : Int) < B := by omega
      have a3 : wr.cell? ⟨a, 3, none⟩ = some (.slice (some ⟨bs, 0, none⟩) B B) := cell_of_row _ _ 3 _ 80 _ hI.top
      have g1 : wr.cell? ⟨w.heap.size, 1, none⟩ = some (.int .i64 P) := cell_of_row _ _ 1 _ 29 _ hI.gbox
      have bc0 := hI.row.cell (i := k * 4) (by omega)
      have bf0 := hI.row.frozen (k * 4)
      have la : a < wr.heap.size := (Array.getElem?_eq_some_iff.1 hI.top).1
      have lb : bs < wr.heap.size := hI.row.lt
      have lg : w.heap.size < wr.heap.size := (Array.getElem?_eq_some_iff.1 hI.gbox).1
      have HI := Hid.mk hI
      generalize newF ⟨a, bs, pb⟩ P k (k * 4) = V at bc0
      clear hI
      go_upto_region 7 with fail
      go_region
      go_wp2_with fail
      exact ⟨⟨k + 1, _, by omega, by go_num, HI.out.step.drew⟩, by simp [intOf]; omega⟩
    · have hkn1 : ¬ (k : Int) < B := by omega
      have hk2 : k = B := by omega
      rw [hk2] at hI
      have hJ := hI.done HG.out
      have a3 : wr.cell? ⟨a, 3, none⟩ = some (.slice (some ⟨bs, 0, none⟩) B B) := cell_of_row _ _ 3 _ 80 _ hI.top
      have q0 : wr.cell? ⟨w.heap.size + 1, 0, none⟩ = some (.slice ca n1 cc) := cell_of_row _ _ 0 _ 33 _ hI.fbox
      have q1 : wr.cell? ⟨w.heap.size + 1, 1, none⟩ = some (.slice fa n2 fc) := cell_of_row _ _ 1 _ 33 _ hI.fbox
      have q2 : wr.cell? ⟨w.heap.size + 1, 2, none⟩ = some (.slice ba n3 bc) := cell_of_row _ _ 2 _ 33 _ hI.fbox
      have HJ0 := Hid.mk hJ
      clear hI hJ
      go_upto_region 10 with fail
      clear a3 q0 q1 q2
      go_loopw [41] (fun i wr => ∃ k : Nat, k ≤ n3 ∧ i = .int .i64 k ∧ NewJ w B P Z #[.slice ca n1 cc, .slice fa n2 fc, .slice ba n3 bc] ⟨a, bs, pb⟩ (bl.take k) wr) (fun i _ => n3 - (intOf i).toNat)
      case atStart => exact ⟨0, Nat.zero_le _, rfl, HJ0.out⟩
      case round =>
        obtain ⟨j, hj, rfl, hJ⟩ := hrel
        clear HJ0
        by_cases hjm : j < n3
        · have hjc : j < bl.length := by rw [HN.out.2.2]; exact hjm
          have hjn1 : (j : Int) < n3 := by omega
          obtain ⟨g, o, rfl, hg, hgs, d0⟩ := (HA.out.2.2.kept (S := fun _ => False) (Kp.ofBelow hJ.below)) j hjc
          have e1 : bl.take (j + 1) = bl.take j ++ [bl.getD j 0] := by
            rw [List.take_add_one, List.getElem?_eq_getElem hjc]
            simp [List.getD_eq_getElem?_getD, hjc]
          generalize bl.getD j 0 = x at *
          have HJ := Hid.mk hJ
          have HE1 := Hid.mk e1
          clear e1 hJ hg hgs
          by_cases hx : 0 ≤ x ∧ x < B
          · obtain ⟨b, rfl⟩ := Int.eq_ofNat_of_zero_le hx.1
            have hb : b < B := by omega
            have hb1 : (b : Int) < B := hx.2
            have hdc : decide (0 ≤ (b : Int) ∧ (b : Int) < (newC B P Z (bl.take j)).B) = true := by simp [newC, hb]
            obtain ⟨_, _, _, c3, _⟩ := HJ.out.chip.cellA
            simp only [newC] at c3
            have b2 := HJ.out.chip.row.cell (i := b * 4 + 2) (by show _ < B * 4; omega)
            have b3 := HJ.out.chip.row.cell (i := b * 4 + 3) (by show _ < B * 4; omega)
            have f2 := HJ.out.chip.row.frozen (b * 4 + 2)
            have f3 := HJ.out.chip.row.frozen (b * 4 + 3)
            simp only at b2 b3 f2 f3
            generalize blkF ⟨a, bs, pb⟩ (newC B P Z (bl.take j)) (b * 4 + 2) = V2 at b2
            generalize blkF ⟨a, bs, pb⟩ (newC B P Z (bl.take j)) (b * 4 + 3) = V3 at b3
            clear hx
            go_upto_region 13 with (go_at_call 37; refine (has0_any HJ.out.chip _).mono ?_; rintro e w' ⟨rfl, hw'⟩; rw [hw', hdc]; clear hw')
            go_region
            go_wp2_with fail
            refine ⟨⟨j + 1, by omega, by go_num, ?_⟩, by simp [intOf]; omega⟩
            rw [HE1.out]
            exact (HJ.out.badA b).drew
          · have hdc : decide (0 ≤ x ∧ x < (newC B P Z (bl.take j)).B) = false := decide_eq_false hx
            have HX := Hid.mk hx
            clear hx
            go_wp2_with (go_at_call 37; refine (has0_any HJ.out.chip _).mono ?_; rintro e w' ⟨rfl, hw'⟩; rw [hw', hdc]; clear hw')
            refine ⟨⟨j + 1, by omega, by go_num, ?_⟩, by simp [intOf]; omega⟩
            rw [HE1.out]
            exact HJ.out.skip HX.out
        · have hjn1 : ¬ (j : Int) < n3 := by omega
          have hj2 : j = n3 := by omega
          have et : bl.take n3 = bl := by rw [← HN.out.2.2, List.take_length]
          rw [hj2, et] at hJ
          clear et
          have q0 : wr.cell? ⟨w.heap.size + 1, 0, none⟩ = some (.slice ca n1 cc) := cell_of_row _ _ 0 _ 33 _ hJ.fbox
          have q1 : wr.cell? ⟨w.heap.size + 1, 1, none⟩ = some (.slice fa n2 fc) := cell_of_row _ _ 1 _ 33 _ hJ.fbox
          have q2 : wr.cell? ⟨w.heap.size + 1, 2, none⟩ = some (.slice ba n3 bc) := cell_of_row _ _ 2 _ 33 _ hJ.fbox
          have hnw : ∀ i, (Ly.mk a bs pb).own B i → w.heap.size ≤ i := fun i hi => by have := hJ.new i hi; omega
          have harm := arm_any hJ.chip ca fa cl fl cc fc (.slice ba n3 bc) ((HA.out.1.kept (S := fun _ => False) (Kp.ofBelow hJ.below)).other (by
              intro i hi hx
              obtain ⟨g, o, ha, hg, _⟩ := HA.out.1 i hi
              exact ⟨g, o, ha, fun ho => by have := hnw g ho; omega⟩)) ((HA.out.2.1.kept (S := fun _ => False) (Kp.ofBelow hJ.below)).other (by
              intro i hi hx
              obtain ⟨g, o, ha, hg, _⟩ := HA.out.2.1 i hi
              exact ⟨g, o, ha, fun ho => by have := hnw g ho; omega⟩)) (by rw [HN.out.1]; exact HL.out.1) (by rw [HN.out.2.1]; exact HL.out.2.1) HW.out.1 HW.out.2
          rw [HN.out.1, HN.out.2.1] at harm
          have HJ := Hid.mk (And.intro hJ hnw)
          have HM := Hid.mk harm
          clear hJ hnw harm
          go_wp2_with (go_at_call 16; refine HM.out.mono ?_; rintro e w' ⟨rfl, h9, k9⟩)
          go_ret2
          refine ⟨⟨a, bs, pb⟩, rfl, h9, k9.below HJ.out.1.below HJ.out.1.below.size HJ.out.2, fun i hi => by have := HJ.out.1.new i hi; omega⟩
theorem results_cell1 {fn : Func} {p : Tmp} {ty : TypeId} (h : fn.results = #[.cell p ty]) (tmps : Array Value) (P : Program) (w : World) :
    (results fn tmps).run P w = ((asAddr (tmps.getD p undef)).run P w).andThen fun a w₁ => (loadVar ty a).run P w₁ := by
  simp only [results, h]
  simp [Sem.run_bind]
theorem Tryd.info3 : (Tryd.prog.info? 3).map (fun i => (i.zero, i.size, i.bytes)) = some (some (.int .i64 0), 1, 8) := by kernel_rfl
theorem Tryd.info4 : (Tryd.prog.info? 4).map (fun i => (i.zero, i.size, i.bytes)) = some (some (.bool false), 1, 1) := by kernel_rfl
theorem geom_any {w : World} {L C} (h : Chip w L C) : Calls Tryd.prog 9 #[.pointer (some ⟨L.a, 0, none⟩)] w fun e w' => e = .returned (.agg #[.int .i64 C.B, .int .i64 C.P, .int .i64 C.Z]) ∧ Below w.heap.size w w' := by
  obtain ⟨mc, mf, n, k, _, _, c0, c1, c2, c3, c4, c5, c6, c7, _⟩ := h.cellA
  have la : L.a < w.heap.size := h.lt (Or.inl rfl)
  clear h
  go_enter Tryd.func9, Tryd.ntmps9
  go_wp2_with fail
  exact bodyPost_ret (v := .agg #[.int .i64 C.B, .int .i64 C.P, .int .i64 C.Z]) (by rw [results_cell1 rfl]; go_simp) rfl ⟨rfl, (Below.refl w.heap.size w).alloc (Nat.le_refl _) _⟩
/- no chip -/
theorem power_nil (w : World) : Calls Tryd.prog 17 #[.pointer none] w fun e w' => e = .returned (.tuple #[]) ∧ w' = w := by
  go_enter Tryd.func17, Tryd.ntmps17
  go_wp2
  go_end0
  exact ⟨rfl, rfl⟩
theorem arm_nil (v : Value) (a b c : Value) (hv : v = .agg #[a, b, c]) (w : World) : Calls Tryd.prog 16 #[.pointer none, v] w fun e w' => e = .returned (.tuple #[]) ∧ Below w.heap.size w w' := by
  subst hv
  go_enter Tryd.func16, Tryd.ntmps16
  go_wp2
  exact bodyPost_ret (results_none rfl _ _ _) rfl ⟨rfl, (Below.refl w.heap.size w).alloc (Nat.le_refl _) _⟩
theorem refuse_nil (b : Int) (w : World) : Calls Tryd.prog 71 #[.pointer none, .int .i64 b] w fun e w' => e = .returned (.int .i64 1) ∧ w' = w := by
  go_enter Tryd.func71, Tryd.ntmps71
  go_wp2
  go_ret
  exact ⟨rfl, rfl⟩
theorem refusep_nil (b p : Int) (w : World) : Calls Tryd.prog 49 #[.pointer none, .int .i64 b, .int .i64 p] w fun e w' => e = .returned (.int .i64 1) ∧ w' = w := by
  go_enter Tryd.func49, Tryd.ntmps49
  go_wp2_with (go_at_call 71; refine (refuse_nil _ _).mono ?_; rintro e w' ⟨rfl, rfl⟩)
  go_ret
  exact ⟨rfl, rfl⟩
theorem read_nil (b p : Int) (w : World) : Calls Tryd.prog 29 #[.pointer none, .int .i64 b, .int .i64 p] w fun e w' => e = .returned (.tuple #[.string ⟨#[]⟩, .string ⟨#[]⟩, .int .i64 1]) ∧ w' = w := by
  go_enter Tryd.func29, Tryd.ntmps29
  go_wp2_with (go_at_call 49; refine (refusep_nil _ _ _).mono ?_; rintro e w' ⟨rfl, rfl⟩)
  go_ret3
  exact ⟨rfl, rfl⟩
theorem prog_nil (b p : Int) (x y : ByteArray) (w : World) : Calls Tryd.prog 68 #[.pointer none, .int .i64 b, .int .i64 p, .string x, .string y] w fun e w' => e = .returned (.int .i64 1) ∧ w' = w := by
  go_enter Tryd.func68, Tryd.ntmps68
  go_wp2_with (go_at_call 49; refine (refusep_nil _ _ _).mono ?_; rintro e w' ⟨rfl, rfl⟩)
  go_ret
  exact ⟨rfl, rfl⟩
theorem mark_nil (b : Int) (w : World) : Calls Tryd.prog 84 #[.pointer none, .int .i64 b] w fun e w' => e = .returned (.int .i64 1) ∧ w' = w := by
  go_enter Tryd.func84, Tryd.ntmps84
  go_wp2_with (go_at_call 71; refine (refuse_nil _ _).mono ?_; rintro e w' ⟨rfl, rfl⟩)
  go_ret
  exact ⟨rfl, rfl⟩
theorem geom_nil (w : World) : Calls Tryd.prog 9 #[.pointer none] w fun e w' => e = .returned (.agg #[.int .i64 0, .int .i64 0, .int .i64 0]) ∧ Below w.heap.size w w' := by
  go_enter Tryd.func9, Tryd.ntmps9
  go_wp2_with fail
  exact bodyPost_ret (v := .agg #[.int .i64 0, .int .i64 0, .int .i64 0]) (by rw [results_cell1 rfl]; go_simp) rfl ⟨rfl, (Below.refl w.heap.size w).alloc (Nat.le_refl _) _⟩
theorem new_refused (B P Z : Int) (h : okG B P Z = false) (v a b c : Value) (hv : v = .agg #[a, b, c]) (w : World) : Calls Tryd.prog 20 #[.agg #[.int .i64 B, .int .i64 P, .int .i64 Z], v] w fun e w' => e = .returned (.tuple #[.pointer none, .int .i64 1]) ∧ Below w.heap.size w w' := by
  subst hv
  go_enter Tryd.func20, Tryd.ntmps20
  go_wp2_with (go_at_call 36; refine (check_any _ _ _ _).mono ?_; rintro e w1 ⟨rfl, b1⟩; rw [h])
  go_ret2
  exact ⟨rfl, below3 (below_two w _ _) b1⟩
theorem wrap_small (x : Nat) (hx : x ≤ 1000000) : IntKind.i64.wrap (x : Int) = x := by rw [IntKind.wrap_i64]; omega
theorem low (n : Int) (m : Nat) (hm : m ≤ 1000000) : ∃ k : Nat, bits .and .i64 n (m : Int) = (k : Int) ∧ k ≤ m := by
  unfold bits
  simp only []
  have h : (BitVec.ofInt IntKind.i64.bits n &&& BitVec.ofInt IntKind.i64.bits (m : Int)).toNat ≤ m := by
    rw [BitVec.toNat_and]
    refine Nat.le_trans Nat.and_le_right ?_
    rw [BitVec.toNat_ofInt]
    show ((m : Int) % ((2 ^ 64 : Nat) : Int)).toNat ≤ m
    omega
  exact ⟨_, wrap_small _ (by omega), h⟩
theorem geo_any (B P Z : Int) (w : World) : Calls Tryd.prog 19 #[.agg #[.int .i64 B, .int .i64 P, .int .i64 Z]] w fun e w' => ∃ b p z : Nat, e = .returned (.agg #[.int .i64 b, .int .i64 p, .int .i64 z]) ∧ (8 ≤ b ∧ b ≤ 15 ∧ 4 ≤ p ∧ p ≤ 11 ∧ 64 ≤ z ∧ z ≤ 127) ∧ Below w.heap.size w w' := by
  obtain ⟨b, hb, hb7⟩ := low B 7 (by omega)
  obtain ⟨p, hp, hp7⟩ := low P 7 (by omega)
  obtain ⟨z, hz, hz7⟩ := low Z 63 (by omega)
  replace hb : bits .and .i64 B 7 = (b : Int) := hb
  replace hp : bits .and .i64 P 7 = (p : Int) := hp
  replace hz : bits .and .i64 Z 63 = (z : Int) := hz
  go_enter Tryd.func19, Tryd.ntmps19
  go_wp2_with fail
  exact bodyPost_ret (v := .agg #[.int .i64 (8 + b), .int .i64 (4 + p), .int .i64 (64 + z)]) (by rw [results_cell1 rfl]; go_simp) rfl ⟨8 + b, 4 + p, 64 + z, by simp, by omega, below_two w _ _⟩
/-- a block is erased, and nothing happens to it -/
theorem erase_plain {C : Ch} {b : Nat} (h0 : refB C b = 0) (hc : C.cuts (C.did + 1) = none) (hd : C.dead b = false) (hf : C.fails (C.did + 1) = false) :
    eraseC C b = ({ C with did := C.did + 1, worn := upd C.worn b (C.worn b + 1), pg := upd C.pg b (fun p => if p < C.P then ⟨#[]⟩ else C.pg b p) }, 0) := by
  unfold eraseC
  rw [if_pos h0, hc, Int.toNat_natCast]
  simp only
  rw [hd, hf, if_neg (by decide)]
theorem refB_ok {C : Ch} {b : Nat} (ho : C.off = false) (hb : b < C.B) : refB C b = 0 := by
  unfold refB
  rw [ho, if_neg (by decide), if_pos (by omega)]
theorem refP_ok {C : Ch} {b p : Nat} (ho : C.off = false) (hb : b < C.B) (hp : p < C.P) : refP C b p = 0 := by
  unfold refP
  rw [refB_ok ho hb, if_pos rfl, if_pos (by omega)]
theorem upd_range {f : Nat → Int} {b : Nat} {v : Int} {lo hi : Int} (h : ∀ n, lo ≤ f n ∧ f n ≤ hi) (hv : lo ≤ v ∧ v ≤ hi) : ∀ n, lo ≤ upd f b v n ∧ upd f b v n ≤ hi := by
  intro n
  unfold upd
  split
  · exact hv
  · exact h n
/-- one cut that a call lays -/
theorem one_cut (w : World) (x : Int) : CutsAt (w.alloc (.cells #[.int .i64 x, .int .i64 0, .int .u8 0] 61)) (fun _ => False) (some ⟨w.heap.size, 0, none⟩) [(x, 0, 0)] := by
  intro i hi
  have hi0 : i = 0 := by simpa using hi
  subst hi0
  have hb := heap_alloc_new w (.cells #[.int .i64 x, .int .i64 0, .int .u8 0] 61)
  exact ⟨w.heap.size, 0, rfl, by rw [size_alloc]; omega, fun h => h, cell_of_row _ _ 0 _ 61 _ hb, cell_of_row _ _ 1 _ 61 _ hb, cell_of_row _ _ 2 _ 61 _ hb⟩
theorem one_int (w : World) (x : Int) : IntsAt (w.alloc (.cells #[.int .i64 x] 3)) (fun _ => False) (some ⟨w.heap.size, 0, none⟩) [x] := by
  intro i hi
  have hi0 : i = 0 := by simpa using hi
  subst hi0
  have hb := heap_alloc_new w (.cells #[.int .i64 x] 3)
  exact ⟨w.heap.size, 0, rfl, by rw [size_alloc]; omega, fun h => h, cell_of_row _ _ 0 _ 3 _ hb⟩
end Go.Proofs.YtbhggcleijjofaaDoor
