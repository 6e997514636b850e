/-
  The plain device in memory: what stands, what is open; its small functions. No condition.
-/
import Derived.Test.YtacgemibaojbaaaFit
namespace Go.Proofs.Ytacgemibaojbaaa
open Go Go.RowKit Go.Maps
open Go.WideElems (Fit rd rg rd_stay rd_val rg_of)

/-- texts of other puts do not matter -/
theorem Mp.relab {L L' : Int → ByteArray} {w : World} {b : Nat} {m : Pl} (h : Mp (elL L) w b m) (hm : ∀ p ∈ m, L' p.2 = L p.2) : Mp (elL L') w b m := by
  obtain ⟨es, c, hb, F, hs, hD⟩ := h
  have hD2 : m.map kv = (es.toList.map (rg Try.prog 3 (elL L))).foldr DataW.insert [] := by
    unfold dm at hD
    simpa only [DataW.map.injEq] using hD
  have key : ∀ x ∈ es.toList, ∀ y, rd Try.prog 3 (elL L) x = some y → rd Try.prog 3 (elL L') x = some y := by
    intro x hx y hy
    have hmem : y ∈ m.map kv := by
      rw [hD2]
      exact mem_sorted.2 (List.mem_map.2 ⟨x, hx, rg_of hy⟩)
    obtain ⟨p, hp, rfl⟩ := List.mem_map.1 hmem
    obtain ⟨z', hz', e⟩ := rd_val hy
    refine rd_stay (fun z hz => ?_) hy
    rw [hz'] at hz
    cases hz
    have hp2 := hm p hp
    rcases elL_inv hz' with ⟨ev, ez⟩ | ⟨q, hq, ev, ez⟩
    · rw [ev, ez]; exact elL_zero L'
    · rw [ez] at e
      have e2 : p.2 = q := dI_inj e
      rw [ev, ez, ← e2, ← hp2]
      exact elL_mk (by omega)
  have F' : Fit Try.prog 3 (elL L') es c := ⟨F.size, F.stamped, fun x hx => by
    obtain ⟨y, hy⟩ := F.reads x hx
    exact ⟨y, key x hx y hy⟩⟩
  refine ⟨es, c, hb, F', hs, ?_⟩
  rw [hD, show es.toList.map (rg Try.prog 3 (elL L)) = es.toList.map (rg Try.prog 3 (elL L')) from List.map_congr_left (fun x hx => by
    obtain ⟨y, hy⟩ := F.reads x hx
    rw [rg_of hy, rg_of (key x hx y hy)])]
theorem SpsAt.relab {L L' : Int → ByteArray} {n w b l f} (h : SpsAt L w b l f) (hi : InvM n l) (hL : ∀ p, p ≤ n → L' p = L p) : SpsAt L' w b l f :=
  ⟨h.mp, fun x hx => (h.pg x hx).relab (fun p hp => hL _ (hi.pos x hx p hp).2), h.ne⟩
/-- the plain device said plainly -/
structure MX where
  st : List Asp
  op : Option (List Asp)
  did : Int
  puts : Int
  L : Int → ByteArray
  pl : Int
  ks : Int
  rr : Int
  rp : Int
  sz : Int
def mxC (X : MX) (bS : Nat) (bO : Option Nat) : Array Value := #[.int .i64 X.pl, .int .i64 X.ks, .int .i64 X.rr, .int .i64 X.rp, .int .i64 X.sz, .map (some bS), .map bO, .int .i64 X.did, .int .i64 X.puts]
/-- what is open lies in block bO -/
def OpAt (L : Int → ByteArray) (w : World) : Option Nat → Option (List Asp) → (Int → Nat) → Prop
  | none, none, _ => True
  | some b, some l, f => SpsAt L w b l f
  | _, _, _ => False
structure MxI (X : MX) : Prop where
  st : InvM X.puts X.st
  op : ∀ l, X.op = some l → InvM X.puts l
  p0 : 0 ≤ X.puts
  p1 : X.puts ≤ 1900
  d0 : 0 ≤ X.did
  d1 : X.did ≤ 8
structure MxH (g : Nat) (X : MX) (bS : Nat) (bO : Option Nat) (fS fO : Int → Nat) (w : World) : Prop where
  box : w.heap[g]? = some (.cells (mxC X bS bO) 72 (0, 0))
  st : SpsAt X.L w bS X.st fS
  op : OpAt X.L w bO X.op fO
  inv : MxI X
theorem MxH.lt {g X bS bO fS fO w} (h : MxH g X bS bO fS fO w) : g < w.heap.size := (Array.getElem?_eq_some_iff.1 h.box).1
theorem OpAt.same {L} {w w' : World} {b l f} (h : OpAt L w b l f) (e : ∀ i, i < w.heap.size → (∃ R m, Mp R w i m) → w'.heap[i]? = w.heap[i]?) : OpAt L w' b l f := by
  cases b <;> cases l <;> first | exact h | skip
  exact SpsAt.same h (fun i hi hii => e i hi (by
    rcases hii with rfl | ⟨x, hx, rfl⟩
    · exact ⟨_, _, h.mp⟩
    · exact ⟨_, _, h.pg x hx⟩))
theorem SpsAt.same' {L} {w w' : World} {b l f} (h : SpsAt L w b l f) (e : ∀ i, i < w.heap.size → (∃ R m, Mp R w i m) → w'.heap[i]? = w.heap[i]?) : SpsAt L w' b l f :=
  h.same (fun i hi hii => e i hi (by
    rcases hii with rfl | ⟨x, hx, rfl⟩
    · exact ⟨_, _, h.mp⟩
    · exact ⟨_, _, h.pg x hx⟩))
theorem MxH.call {g X bS bO fS fO w w'} (h : MxH g X bS bO fS fO w) (b : Below w.heap.size w w') : MxH g X bS bO fS fO w' :=
  ⟨(b.block g h.lt).trans h.box, h.st.call b, h.op.same (fun i hi _ => b.block i hi), h.inv⟩
theorem MxH.alloc {g X bS bO fS fO w} (h : MxH g X bS bO fS fO w) (o : Obj) : MxH g X bS bO fS fO (w.alloc o) := h.call (below_box w o)
theorem MxH.cells {g X bS bO fS fO w} (h : MxH g X bS bO fS fO w) : w.cell? ⟨g, 0, none⟩ = some (.int .i64 X.pl) ∧ w.cell? ⟨g, 1, none⟩ = some (.int .i64 X.ks) ∧ w.cell? ⟨g, 2, none⟩ = some (.int .i64 X.rr) ∧ w.cell? ⟨g, 3, none⟩ = some (.int .i64 X.rp) ∧ w.cell? ⟨g, 4, none⟩ = some (.int .i64 X.sz) ∧ w.cell? ⟨g, 5, none⟩ = some (.map (some bS)) ∧ w.cell? ⟨g, 6, none⟩ = some (.map bO) ∧ w.cell? ⟨g, 7, none⟩ = some (.int .i64 X.did) ∧ w.cell? ⟨g, 8, none⟩ = some (.int .i64 X.puts) := by
  refine ⟨?_, ?_, ?_, ?_, ?_, ?_, ?_, ?_, ?_⟩ <;> rw [cell_of_row w g _ _ 72 _ h.box] <;> rfl
theorem MxH.fz {g X bS bO fS fO w} (h : MxH g X bS bO fS fO w) (j : Nat) : w.frozen? ⟨g, j, none⟩ = false := frozen_of_row w g j _ 72 h.box
/-- a store into the device's own struct leaves all maps -/
theorem MxH.nomap {g X bS bO fS fO w} (h : MxH g X bS bO fS fO w) (k : Nat) (v : Value) : ∀ i, i < w.heap.size → (∃ R m, Mp R w i m) → (w.setCell ⟨g, k, none⟩ v).heap[i]? = w.heap[i]? := by
  rintro i _ ⟨R, m, hm⟩
  exact heap_setCell_other w ⟨g, k, none⟩ i v (fun e => not_map' hm h.box e.symm)
/-- only the device's own struct is turned -/
def MxD (g : Nat) (r : MX × Int) (w : World) (e : Ending) (w' : World) : Prop :=
  e = .returned (.int .i64 r.2) ∧ (∃ bS bO fS fO, MxH g r.1 bS bO fS fO w') ∧ w.grownBy w' (some g)
theorem MxD.same {g X bS bO fS fO w w'} (h : MxH g X bS bO fS fO w) (b : Below w.heap.size w w') (c : Int) : MxD g (X, c) w (.returned (.int .i64 c)) w' := ⟨rfl, ⟨_, _, _, _, h.call b⟩, grown_of_below b _⟩
theorem MxD.pre {g r a w e c} (h : Below a.heap.size a w) (k : MxD g r w e c) : MxD g r a e c := ⟨k.1, k.2.1, grown_trans (grown_of_below h _) k.2.2⟩
theorem grown_set {w : World} {g k : Nat} (v : Value) : w.grownBy (w.setCell ⟨g, k, none⟩ v) (some g) :=
  ⟨rfl, rfl, rfl, by simp [World.setCell], fun i hi hn => heap_setCell_other w ⟨g, k, none⟩ i v (by simpa using hn)⟩
theorem eql70 (w : World) (r : Option Nat) : (binOp .eql 70 (.map r) (.map none)).run Try.prog w = .ok (.bool r.isNone) w := run_eql_map_nil w _ _ _ r Try.underlying70
theorem neq70 (w : World) (r : Option Nat) : (binOp .neq 70 (.map r) (.map none)).run Try.prog w = .ok (.bool r.isSome) w := by
  have := run_neq_map_nil w 70 _ _ r Try.underlying70
  simpa using this
set_option maxRecDepth 20000 in
theorem isNone_no {g X bS bO fS fO w} (h : MxH g X bS bO fS fO w) : Calls Try.prog 22 #[.pointer (some ⟨g, 0, none⟩)] w fun e w' => e = .returned (.bool false) ∧ w = w' := by
  obtain ⟨-, -, -, -, -, c5, -, -, -⟩ := h.cells
  have q := eql70
  clear h
  go_enter Try.func22, Try.ntmps22
  go_wp2
  go_ret
  exact ⟨rfl, rfl⟩
set_option maxRecDepth 20000 in
theorem isNone_nil (w : World) : Calls Try.prog 22 #[.pointer none] w fun e w' => e = .returned (.bool true) ∧ w = w' := by
  go_enter Try.func22, Try.ntmps22
  go_wp2
  go_ret
  exact ⟨rfl, rfl⟩
/-- why nothing can be done with the transaction -/
def refX (X : MX) : Int := if X.op.isNone then 180 else 0
theorem OpAt.none_iff {L w b l f} (h : OpAt L w b l f) : b.isNone = l.isNone := by
  cases b <;> cases l <;> first | rfl | exact h.elim
set_option maxRecDepth 20000 in
theorem refuses_any {g X bS bO fS fO w} (h : MxH g X bS bO fS fO w) : Calls Try.prog 23 #[.pointer (some ⟨g, 0, none⟩)] w fun e w' => e = .returned (.int .i64 (refX X)) ∧ w = w' := by
  obtain ⟨-, -, -, -, -, c5, c6, -, -⟩ := h.cells
  have q := eql70
  have hn := isNone_no h
  have hl := h.lt
  have he := h.op.none_iff
  unfold refX
  rw [← he]
  have HN := Hid.mk hn
  clear h hn he
  cases bO with
  | none =>
    go_enter Try.func23, Try.ntmps23
    go_wp2_with (first | (go_at_call 22; refine HN.out.mono ?_; rintro e w1 ⟨rfl, rfl⟩))
    go_ret
    exact ⟨rfl, rfl⟩
  | some b =>
    go_enter Try.func23, Try.ntmps23
    go_wp2_with (first | (go_at_call 22; refine HN.out.mono ?_; rintro e w1 ⟨rfl, rfl⟩))
    go_ret
    exact ⟨rfl, rfl⟩
set_option maxRecDepth 20000 in
theorem refuses_nil (w : World) : Calls Try.prog 23 #[.pointer none] w fun e w' => e = .returned (.int .i64 1) ∧ w = w' := by
  have HN := Hid.mk (isNone_nil w)
  go_enter Try.func23, Try.ntmps23
  go_wp2_with (first | (go_at_call 22; refine HN.out.mono ?_; rintro e w1 ⟨rfl, rfl⟩))
  go_ret
  exact ⟨rfl, rfl⟩
/-- what is there: in the transaction, if one is open -/
def nowL (X : MX) : List Asp := X.op.getD X.st
theorem MxH.now {g X bS bO fS fO w} (h : MxH g X bS bO fS fO w) : ∃ f, SpsAt X.L w (bO.getD bS) (nowL X) f := by
  have ho := h.op
  unfold nowL
  cases hb : bO with
  | none =>
    rw [hb] at ho
    cases hx : X.op with
    | none => exact ⟨fS, h.st⟩
    | some l => rw [hx] at ho; exact ho.elim
  | some b =>
    rw [hb] at ho
    cases hx : X.op with
    | none => rw [hx] at ho; exact ho.elim
    | some l => rw [hx] at ho; exact ⟨fO, ho⟩
theorem MxI.now {X : MX} (h : MxI X) : InvM X.puts (nowL X) := by
  unfold nowL
  cases hx : X.op with
  | none => exact h.st
  | some l => exact h.op l hx
set_option maxRecDepth 20000 in
theorem now_any {g X bS bO fS fO w} (h : MxH g X bS bO fS fO w) : Calls Try.prog 38 #[.pointer (some ⟨g, 0, none⟩)] w fun e w' => e = .returned (.map (some (bO.getD bS))) ∧ w = w' := by
  obtain ⟨-, -, -, -, -, c5, c6, -, -⟩ := h.cells
  have q := neq70
  have hl := h.lt
  clear h
  cases bO with
  | none =>
    go_enter Try.func38, Try.ntmps38
    go_wp2
    go_ret
    exact ⟨rfl, rfl⟩
  | some b =>
    go_enter Try.func38, Try.ntmps38
    go_wp2
    go_ret
    exact ⟨rfl, rfl⟩
end Go.Proofs.Ytacgemibaojbaaa
