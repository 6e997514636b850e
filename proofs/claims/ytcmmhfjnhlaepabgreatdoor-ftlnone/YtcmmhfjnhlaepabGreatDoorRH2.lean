/-
  Maps of this program: keys are numbers, elements are coded as numbers; what look-ups, stores and deletes answer and leave, said over a plain list of pairs. No condition. A state in memory: its four maps, its spaces, their maps; what a store into one of them leaves of the others. No condition. What a call may turn of the world: a state's own blocks, and new ones; the walks of New, leave and fill. No condition. The walks of put, trim, add and seal: what each leaves of a state. No condition. A loop over a map, said over the plain list of what is still to come; a store at a key that is there, in the loop. No condition. Lists of pairs by their first, and how many pages stand at a place: plain facts. No condition. A space more, a space less: the walks of add and drop. No condition.
-/
import Derived.Test.YtcmmhfjnhlaepabGreatDoorRK8
import Derived.WalkKit
import Derived.Laws.Rows
import Derived.Deep.WholeRow
import Derived.Laws.IdiomStrings
import Derived.BigQuiet
import Derived.Deep.OwnRows
import Derived.Laws.AppendOwn
import Derived.OwnWalk
import Derived.ArgAppend
import Derived.Laws.IdiomCopy
import Derived.Lib.SmallJoins
import Derived.Deep.RegionHeld3
import Derived.Deep.Cut
import Derived.Deep.RegionWith
import Derived.Laws.ResultCell
import Derived.Laws.NewBlocks
import Derived.Laws.Closers25
import Derived.WalkSpells
import Derived.Deep.RegionLaw
import Derived.Test.YtcmmhfjnhlaepabGreatDoorChecked
import Derived.Maps.RangeWalk
import Derived.Maps.Ext
namespace Go.Proofs.YtcmmhfjnhlaepabGreatDoor.S8
open Go Go.RowKit Go.Maps Gp Pg We
abbrev Pl := List (Int × Int)
abbrev Rdr := Value -> Option (DataW Unit × List MemPlace)
def dI (x : Int) : DataW Unit := .lit (.int .i64 x)
def elI : Rdr
 | .int .i64 a => some (dI a, [])
 | _ => none
def elP : Rdr
 | .pointer none => some (.nil, [])
 | .pointer (some ⟨b, 0, none⟩) => some (dI (b : Int), [])
 | _ => none
def elU : Rdr
 | .agg cs => if cs.size = 0 then some (dI 0, []) else none
 | _ => none
theorem elI_inv {v : Value} {z} (h : elI v = some z) : ∃ a, v = .int .i64 a /\ z = (dI a, []) := by
 unfold elI at h
 split at h
 ·cases h; exact ⟨_, rfl, rfl⟩
 ·cases h
theorem elP_inv {v : Value} {z} (h : elP v = some z) : (v = .pointer none /\ z = (.nil, [])) \/ ∃ b : Nat, v = .pointer (some ⟨b, 0, none⟩) /\ z = (dI (b : Int), []) := by
 unfold elP at h
 split at h
 ·cases h; exact .inl ⟨rfl, rfl⟩
 ·cases h; exact .inr ⟨_, rfl, rfl⟩
 ·cases h
theorem elU_inv {v : Value} {z} (h : elU v = some z) : v = .agg #[] /\ z = (dI 0, []) := by
 unfold elU at h
 cases v <;> simp at h
 obtain ⟨h1, rfl⟩ := h
 exact ⟨by rw [h1], rfl⟩
/-! lists of pairs, by their first -/
def mget (m : Pl) (k : Int) : Option Int := (m.find? fun p => decide (p.1 = k)).map (·.2)
def mdel (m : Pl) (k : Int) : Pl := m.filter fun p => !decide (p.1 = k)
def mins (x : Int × Int) : Pl -> Pl
 | [] => [x]
 | y :: r => if x.1 < y.1 then x :: y :: r else y :: mins x r
def mput (m : Pl) (k v : Int) : Pl := mins (k, v) (mdel m k)
def kv (p : Int × Int) : Lit × DataW Unit := (.int .i64 p.1, dI p.2)
def dm (m : Pl) : DataW Unit := .map (m.map kv)
theorem kv_same (p : Int × Int) (k : Int) : (kv p).1.sameKey (.int .i64 k) = decide (p.1 = k) := by simp [kv, Lit.sameKey]
theorem dm_del (m : Pl) (k : Int) : (dm m).del (.int .i64 k) = dm (mdel m k) := by
 unfold dm DataW.del mdel
 simp only [List.filter_map, DataW.map.injEq]
 congr 2
 funext p
 simp only [Function.comp, kv_same]
theorem kv_ins (x : Int × Int) : ∀ m : Pl, DataW.insert (kv x) (m.map kv) = (mins x m).map kv
 | [] => rfl
 | y :: r => by
  unfold mins
  rw [List.map_cons]
  unfold DataW.insert
  by_cases h : x.1 < y.1
  ·rw [if_pos h, if_pos (by simp [kv, Lit.before, h])]; rfl
  ·rw [if_neg h, if_neg (by simp [kv, Lit.before]; omega), kv_ins x r]; rfl
theorem dm_put (m : Pl) (k v : Int) : (dm m).put (.int .i64 k) (dI v) = dm (mput m k v) := by
 have h := dm_del m k
 unfold dm DataW.del at h
 unfold dm DataW.put mput
 simp only [DataW.map.injEq] at h |-
 rw [h]
 exact kv_ins (k, v) _
theorem find_kv (m : Pl) (k : Int) : (m.map kv).find? (fun p => p.1.sameKey (.int .i64 k)) = (m.find? fun p => decide (p.1 = k)).map kv := by
 rw [List.find?_map]
 congr 2
 funext p
 simp only [Function.comp, kv_same]
theorem dm_at (m : Pl) (k : Int) (z : DataW Unit) : (dm m).atKey (.int .i64 k) z = match mget m k with | some v => dI v | none => z := by
 unfold dm DataW.atKey mget
 simp only [find_kv]
 cases m.find? (fun p => decide (p.1 = k)) <;> rfl
theorem dm_has (m : Pl) (k : Int) : Maps.has (dm m) (.int .i64 k) = (mget m k).isSome := by
 unfold dm mget
 rw [Maps.has_eq, List.any_map]
 induction m with
 | nil => rfl
 | cons p r ih =>
  rw [List.any_cons, List.find?_cons, ih]
  simp only [Function.comp, kv_same]
  cases decide (p.1 = k) <;> simp
theorem dm_size (m : Pl) : Maps.size (dm m) = m.length := by simp [dm, Maps.size]
theorem law3 : Keyed Tryz.prog 3 := int_keyed Tryz.underlying3
abbrev K64 (k : Int) : Prop := (Lit.int .i64 k).wf = true
theorem k64 {k : Int} (h1 : -9223372036854775808 <= k) (h2 : k <= 9223372036854775807) : K64 k := WalkArith.wf_i64 (by omega)
theorem key3 {k : Int} (h : K64 k) : keyOf Tryz.prog 3 (.int .i64 k) = some (.int .i64 k) := keyOf_int_mk Tryz.underlying3 h
def Mp (R : Rdr) (w : World) (b : Nat) (m : Pl) : Prop := w.ownsMap Tryz.prog 3 R b m.length (dm m)
theorem Mp.of {R w b n m} (h : w.ownsMap Tryz.prog 3 R b n (dm m)) : Mp R w b m := by
 obtain ⟨es, c, hb, F, hs, hD⟩ := h
 refine ⟨es, c, hb, F, ?_, hD⟩
 have := congrArg Maps.size hD
 rw [dm_size] at this
 simp [Maps.size, length_sorted] at this
 omega
theorem Mp.lt {R w b m} (h : Mp R w b m) : b < w.heap.size := World.ownsMap.lt h
theorem Mp.same {R} {w w' : World} {b m} (h : Mp R w b m) (e : w'.heap[b]? = w.heap[b]?) : Mp R w' b m := by
 obtain ⟨es, c, hb, r⟩ := h
 exact ⟨es, c, e.trans hb, r⟩
theorem Mp.drew {R w b m} (h : Mp R w b m) : Mp R w.drew b m := h
theorem Mp.alloc {R} {w : World} {b m} (h : Mp R w b m) (o : Obj) : Mp R (w.alloc o) b m := World.ownsMap.alloc h o
theorem Mp.call {R} {w w' : World} {b m} (h : Mp R w b m) (q : Below w.heap.size w w') : Mp R w' b m := h.same (q.block b h.lt)
theorem Mp.other {R} {w : World} {b m} (h : Mp R w b m) {a : Addr} (ha : a.block ≠ b) (x : Value) : Mp R (w.setCell a x) b m := World.ownsMap.setCell h (fun e => ha e.symm) x
theorem Mp.kept {R} {w w' : World} {b g m} (h : Mp R w b m) (q : w.mapTurned w' g) (hne : b ≠ g) : Mp R w' b m := h.same (q.grown.block b h.lt (by simpa using hne))
theorem Mp.made (w : World) (R : Rdr) : Mp R (w.alloc (.map #[] 0)) w.heap.size [] := World.ownsMap_made w Tryz.prog 3 R
theorem Mp.obj {R w b m} (h : Mp R w b m) : ∃ es c, w.heap[b]? = some (.map es c) := by
 obtain ⟨es, c, hb, _⟩ := h
 exact ⟨es, c, hb⟩
def Up (m : Pl) : Prop := m.Pairwise fun p q => p.1 < q.1
theorem Mp.up {R w b m} (h : Mp R w b m) : Up m := by
 obtain ⟨es, e, hp, _⟩ := World.ownsMap.canon h law3
 unfold dm at e
 simp only [DataW.map.injEq] at e
 subst e
 rw [List.pairwise_map] at hp
 exact hp.imp (fun h => by simpa [kv, Lit.before] using h)
theorem zero3 (w : World) : (zeroValue 3).run Tryz.prog w = .ok (.int .i64 0) w := by kernel_rfl
theorem zero70 (w : World) : (zeroValue 127).run Tryz.prog w = .ok (.pointer none) w := by kernel_rfl
theorem zero65 (w : World) : (zeroValue 89).run Tryz.prog w = .ok (.agg #[]) w := by kernel_rfl
theorem Mp.look {w : World} {b m} (h : Mp elI w b m) {k : Int} (hk : K64 k) : (Instr.lookup 129 (.map (some b)) (.int .i64 k) false).run Tryz.prog w = .ok (.int .i64 ((mget m k).getD 0)) w := by
 obtain ⟨v, ps, hrun, hv⟩ := World.ownsMap.lookup h law3 Tryz.underlying129 (zero3 w) (zd := dI 0) (zp := []) rfl (key3 hk)
 rw [hrun]
 obtain ⟨a, rfl, e⟩ := elI_inv hv
 rw [dm_at] at e
 cases hg : mget m k <;> (rw [hg] at e; simp [dI] at e; simp [e])
theorem Mp.lookOk {w : World} {b m} (h : Mp elI w b m) {k : Int} (hk : K64 k) : (Instr.lookup 129 (.map (some b)) (.int .i64 k) true).run Tryz.prog w = .ok (.tuple #[.int .i64 ((mget m k).getD 0), .bool (mget m k).isSome]) w := by
 obtain ⟨v, ps, hrun, hv⟩ := World.ownsMap.look_ok h law3 Tryz.underlying129 (zero3 w) (zd := dI 0) (zp := []) rfl (key3 hk)
 rw [hrun, dm_has]
 obtain ⟨a, rfl, e⟩ := elI_inv hv
 rw [dm_at] at e
 cases hg : mget m k <;> (rw [hg] at e; simp [dI] at e; simp [e])
def pv (x : Option Int) : Value := match x with | some b => .pointer (some ⟨b.toNat, 0, none⟩) | none => .pointer none
theorem Mp.lookP {w : World} {b m} (h : Mp elP w b m) {k : Int} (hk : K64 k) : (Instr.lookup 128 (.map (some b)) (.int .i64 k) false).run Tryz.prog w = .ok (pv (mget m k)) w := by
 obtain ⟨v, ps, hrun, hv⟩ := World.ownsMap.lookup h law3 Tryz.underlying128 (zero70 w) (zd := .nil) (zp := []) rfl (key3 hk)
 rw [hrun]
 rw [dm_at] at hv
 rcases elP_inv hv with ⟨rfl, e⟩ | ⟨a, rfl, e⟩
 all_goals cases hg : mget m k <;> (rw [hg] at e; simp [dI] at e; try simp [pv, e])
theorem Mp.lookU {w : World} {b m} (h : Mp elU w b m) {k : Int} (hk : K64 k) : (Instr.lookup 67 (.map (some b)) (.int .i64 k) true).run Tryz.prog w = .ok (.tuple #[.agg #[], .bool (mget m k).isSome]) w := by
 obtain ⟨v, ps, hrun, hv⟩ := World.ownsMap.look_ok h law3 Tryz.underlying67 (zero65 w) (zd := dI 0) (zp := []) rfl (key3 hk)
 rw [hrun, dm_has]
 obtain ⟨rfl, e⟩ := elU_inv hv
 rfl
theorem Mp.store {R} {w : World} {b m} (h : Mp R w b m) {t e : TypeId} (ht : Tryz.prog.underlying t = some (.map 3 e)) (hn : m.length < 1000000) {k v : Int} (hk : K64 k) {val : Value} (hv : R val = some (dI v, [])) :
  ∃ w', (Instr.mapUpdate t (.map (some b)) (.int .i64 k) val).run Tryz.prog w = .ok () w' /\ Mp R w' b (mput m k v) /\ w.mapTurned w' b := by
 obtain ⟨w', hrun, h1, h2⟩ := World.ownsMap.store h law3 ht (Nat.lt_trans hn (by decide)) (key3 hk) hv
 rw [dm_put] at h1
 exact ⟨w', hrun, Mp.of h1, h2⟩
theorem Mp.drop {R} {w : World} {b m} (h : Mp R w b m) {t e : TypeId} (ht : Tryz.prog.underlying t = some (.map 3 e)) {k : Int} (hk : K64 k) (ty : TypeId) :
  ∃ w', (Builtin.delete_ #[t, 3] ty #[.map (some b), .int .i64 k]).run Tryz.prog w = .ok (.tuple #[]) w' /\ Mp R w' b (mdel m k) /\ w.mapTurned w' b := by
 obtain ⟨w', hrun, h1, h2⟩ := World.ownsMap.drop h law3 ht (key3 hk) ty
 rw [dm_del] at h1
 exact ⟨w', hrun, Mp.of h1, h2⟩
theorem Mp.len {R} {w : World} {b m} (h : Mp R w b m) {t e : TypeId} (ht : Tryz.prog.underlying t = some (.map 3 e)) (ty : TypeId) : (Builtin.len_ #[t] ty #[.map (some b)]).run Tryz.prog w = .ok (.int .i64 (m.length : Int)) w := by
 rw [World.ownsMap.len h ht ty, dm_size]
/-! at the operation, for the walk -/
section
variable (w : World) {ops : Array Oper} {rest : List Oper} {o : Oper} {a : Act} {Q : Exit -> Act -> World -> Prop}
theorem wp_put {R : Rdr} {b : Nat} {m : Pl} (hg : o.guard = none) (mo x v : Operand) (t e : TypeId) (hop : o.op = Op.mapUpdate t mo x v) (ht : Tryz.prog.underlying t = some (.map 3 e)) (h : Mp R w b m) (hn : m.length < 1000000)
  (k c : Int) (val : Value) (hm : a.eval mo = .map (some b)) (hx : a.eval x = .int .i64 k) (hv : a.eval v = val) (hk : K64 k) (hval : R val = some (dI c, []))
  (hK : ∀ w', Mp R w' b (mput m k c) -> w.mapTurned w' b -> wpList Tryz.prog ops Q rest (a.put o.dst undef) w') : wpList Tryz.prog ops Q (o :: rest) a w := by
 refine wpList_plain hg fun K' hK' => ?_
 obtain ⟨w', hrun, r1, r2⟩ := h.store ht hn hk hval
 unfold Oper.wp
 simp [execOp, hop, hm, hx, hv, hrun, Result.andThen]
 exact hK' _ _ (hK w' r1 r2)
theorem wp_del {R : Rdr} {b : Nat} {m : Pl} (hg : o.guard = none) (mo x : Operand) (t e : TypeId) (hop : o.op = Op.call { callee := Callee.builtin Builtin.delete, args := #[mo, x], argTypes := #[t, 3] }) (ht : Tryz.prog.underlying t = some (.map 3 e)) (h : Mp R w b m)
  (k : Int) (hm : a.eval mo = .map (some b)) (hx : a.eval x = .int .i64 k) (hk : K64 k)
  (hK : ∀ w', Mp R w' b (mdel m k) -> w.mapTurned w' b -> wpList Tryz.prog ops Q rest (a.put o.dst (.tuple #[])) w') : wpList Tryz.prog ops Q (o :: rest) a w := by
 refine wpList_plain hg fun K' hK' => ?_
 obtain ⟨w', hrun, r1, r2⟩ := h.drop ht hk o.type
 unfold Oper.wp
 simp [execOp, hop, resolve, invoke, builtin, hm, hx, hrun, Result.andThen]
 exact hK' _ _ (hK w' r1 r2)
end
end Go.Proofs.YtcmmhfjnhlaepabGreatDoor.S8
namespace Go.Proofs.YtcmmhfjnhlaepabGreatDoor.S8
open Go Go.RowKit Go.Maps Gp Pg We
structure Sp where
 id : Int
 q : Int
 sl : Bool
 ps : Pl
 sb : Nat
 pb : Nat
structure St where
 p : Nat
 bS : Nat
 bR : Nat
 bB : Nat
 bW : Nat
 sp : List Sp
 refs : Pl
 bad : Pl
 worn : Pl
def spm (l : List Sp) : Pl := l.map fun x => (x.id, (x.sb : Int))
def gsp (l : List Sp) (id : Int) : Option Sp := l.find? fun x => decide (x.id = id)
def ssp (l : List Sp) (x : Sp) : List Sp := l.map fun y => if y.id = x.id then x else y
def dsp (l : List Sp) (id : Int) : List Sp := l.filter fun x => !decide (x.id = id)
def isp (x : Sp) : List Sp -> List Sp
 | [] => [x]
 | y :: r => if x.id < y.id then x :: y :: r else y :: isp x r
theorem spm_get (l : List Sp) (id : Int) : mget (spm l) id = (gsp l id).map fun x => (x.sb : Int) := by
 unfold mget spm gsp
 rw [List.find?_map]
 simp only [Option.map_map]
 rfl
theorem spm_del (l : List Sp) (id : Int) : mdel (spm l) id = spm (dsp l id) := by
 unfold mdel spm dsp
 rw [List.filter_map]
 rfl
theorem spm_ins (x : Sp) : ∀ l : List Sp, mins (x.id, (x.sb : Int)) (spm l) = spm (isp x l)
 | [] => rfl
 | y :: r => by
  unfold isp
  show mins _ ((y.id, (y.sb : Int)) :: spm r) = _
  unfold mins
  by_cases h : x.id < y.id
  ·simp only [h, if_true]; rfl
  ·simp only [h, if_false]; rw [spm_ins x r]; rfl
theorem gsp_none {l : List Sp} {id : Int} (h : gsp l id = none) : ∀ x ∈ l, x.id ≠ id := by
 intro x hx e
 have := List.find?_eq_none.1 h x hx
 simp [e] at this
theorem gsp_some {l : List Sp} {id : Int} {x : Sp} (h : gsp l id = some x) : x ∈ l /\ x.id = id :=
 ⟨List.mem_of_find?_eq_some h, by simpa using List.find?_some h⟩
theorem dsp_none {l : List Sp} {id : Int} (h : gsp l id = none) : dsp l id = l :=
 List.filter_eq_self.2 (fun x hx => by simp [gsp_none h x hx])
theorem spm_add (x : Sp) (l : List Sp) (h : gsp l x.id = none) : mput (spm l) x.id x.sb = spm (isp x l) := by
 unfold mput
 rw [spm_del, dsp_none h, spm_ins]
theorem spm_ssp (l : List Sp) (x y : Sp) (h : gsp l x.id = some y) (hs : x.sb = y.sb) (hu : Up (spm l)) : spm (ssp l x) = spm l := by
 obtain ⟨hy, hid⟩ := gsp_some h
 unfold spm ssp
 rw [List.map_map]
 apply List.map_congr_left
 intro z hz
 simp only [Function.comp]
 by_cases e : z.id = x.id
 ·simp only [e, if_true]
  have : z = y := by
   unfold Up spm at hu
   rw [List.pairwise_map] at hu
   have hne : ∀ a ∈ l, ∀ b ∈ l, a.id = b.id -> a = b := by
    intro a ha b hb hab
    obtain ⟨i, hi, rfl⟩ := List.getElem_of_mem ha
    obtain ⟨j, hj, rfl⟩ := List.getElem_of_mem hb
    rcases Nat.lt_trichotomy i j with h1 | h1 | h1
    ·have := List.pairwise_iff_getElem.1 hu i j hi hj h1
     simp only at this; omega
    ·subst h1; rfl
    ·have := List.pairwise_iff_getElem.1 hu j i hj hi h1
     simp only at this; omega
   exact hne z hz y hy (by rw [e, hid])
  rw [this, hs]
 ·simp [e]
def SpAt (w : World) (x : Sp) : Prop := w.heap[x.sb]? = some (.cells #[.int .i64 x.q, .bool x.sl, .map (some x.pb)] 133 (0, 0)) /\ Mp elI w x.pb x.ps
def maps (s : St) : List Nat := s.bS :: s.bR :: s.bB :: s.bW :: s.sp.map (·.pb)
def foot (s : St) : List Nat := s.p :: (s.sp.map (·.sb) ++ maps s)
structure StAt (w : World) (s : St) : Prop where
 hp : w.heap[s.p]? = some (.cells #[.map (some s.bS), .map (some s.bR), .map (some s.bB), .map (some s.bW)] 131 (0, 0))
 hS : Mp elP w s.bS (spm s.sp)
 hR : Mp elI w s.bR s.refs
 hB : Mp elU w s.bB s.bad
 hW : Mp elI w s.bW s.worn
 hsp : ∀ x ∈ s.sp, SpAt w x
 nd : (maps s).Nodup
 nds : (s.sp.map (·.sb)).Nodup
theorem SpAt.same {w w' : World} {x : Sp} (h : SpAt w x) (e1 : w'.heap[x.sb]? = w.heap[x.sb]?) (e2 : w'.heap[x.pb]? = w.heap[x.pb]?) : SpAt w' x := ⟨e1.trans h.1, h.2.same e2⟩
theorem SpAt.lt {w : World} {x : Sp} (h : SpAt w x) : x.sb < w.heap.size := (Array.getElem?_eq_some_iff.1 h.1).1
theorem SpAt.q {w : World} {x : Sp} (h : SpAt w x) : w.cell? ⟨x.sb, 0, none⟩ = some (.int .i64 x.q) := by rw [cell_of_row w x.sb 0 _ 133 _ h.1]; rfl
theorem SpAt.sl {w : World} {x : Sp} (h : SpAt w x) : w.cell? ⟨x.sb, 1, none⟩ = some (.bool x.sl) := by rw [cell_of_row w x.sb 1 _ 133 _ h.1]; rfl
theorem SpAt.pb {w : World} {x : Sp} (h : SpAt w x) : w.cell? ⟨x.sb, 2, none⟩ = some (.map (some x.pb)) := by rw [cell_of_row w x.sb 2 _ 133 _ h.1]; rfl
theorem SpAt.fz {w : World} {x : Sp} (h : SpAt w x) (j : Nat) : w.frozen? ⟨x.sb, j, none⟩ = false := frozen_of_row w x.sb j _ 133 h.1
theorem StAt.lt {w s} (h : StAt w s) : s.p < w.heap.size := (Array.getElem?_eq_some_iff.1 h.hp).1
theorem StAt.c0 {w s} (h : StAt w s) : w.cell? ⟨s.p, 0, none⟩ = some (.map (some s.bS)) := by rw [cell_of_row w s.p 0 _ 131 _ h.hp]; rfl
theorem StAt.c1 {w s} (h : StAt w s) : w.cell? ⟨s.p, 1, none⟩ = some (.map (some s.bR)) := by rw [cell_of_row w s.p 1 _ 131 _ h.hp]; rfl
theorem StAt.c2 {w s} (h : StAt w s) : w.cell? ⟨s.p, 2, none⟩ = some (.map (some s.bB)) := by rw [cell_of_row w s.p 2 _ 131 _ h.hp]; rfl
theorem StAt.c3 {w s} (h : StAt w s) : w.cell? ⟨s.p, 3, none⟩ = some (.map (some s.bW)) := by rw [cell_of_row w s.p 3 _ 131 _ h.hp]; rfl
theorem StAt.foot_lt {w s} (h : StAt w s) : ∀ i ∈ foot s, i < w.heap.size := by
 intro i hi
 simp only [foot, maps, List.mem_cons, List.mem_append, List.mem_map] at hi
 rcases hi with rfl | ⟨x, hx, rfl⟩ | rfl | rfl | rfl | rfl | ⟨x, hx, rfl⟩
 ·exact h.lt
 ·exact (h.hsp x hx).lt
 ·exact h.hS.lt
 ·exact h.hR.lt
 ·exact h.hB.lt
 ·exact h.hW.lt
 ·exact (h.hsp x hx).2.lt
theorem StAt.frame {w w' : World} {s} (h : StAt w s) (e : ∀ i ∈ foot s, w'.heap[i]? = w.heap[i]?) : StAt w' s := by
 have m1 : ∀ i ∈ maps s, w'.heap[i]? = w.heap[i]? := fun i hi => e i (by simp [foot, hi])
 refine ⟨(e _ (by simp [foot])).trans h.hp, h.hS.same (m1 _ (by simp [maps])), h.hR.same (m1 _ (by simp [maps])), h.hB.same (m1 _ (by simp [maps])), h.hW.same (m1 _ (by simp [maps])), fun x hx => ?_, h.nd, h.nds⟩
 refine (h.hsp x hx).same (e _ ?_) (m1 _ ?_)
 ·simp only [foot, List.mem_cons, List.mem_append, List.mem_map]; exact .inr (.inl ⟨x, hx, rfl⟩)
 ·simp only [maps, List.mem_cons, List.mem_map]; exact .inr (.inr (.inr (.inr ⟨x, hx, rfl⟩)))
theorem StAt.call {w w' : World} {s} (h : StAt w s) (q : Below w.heap.size w w') : StAt w' s := h.frame fun i hi => q.block i (h.foot_lt i hi)
theorem StAt.alloc {w : World} {s} (h : StAt w s) (o : Obj) : StAt (w.alloc o) s := h.frame fun i hi => Below.heap_alloc w o i (h.foot_lt i hi)
theorem StAt.drew {w : World} {s} (h : StAt w s) : StAt w.drew s := ⟨h.hp, h.hS, h.hR, h.hB, h.hW, h.hsp, h.nd, h.nds⟩
theorem not_map {w : World} {R : Rdr} {b : Nat} {m : Pl} {g : Nat} {cs : Array Value} {t : TypeId} {f : Nat × Nat} (h : Mp R w b m) (hg : w.heap[g]? = some (Obj.cells cs t f)) : g ≠ b := by
 obtain ⟨es, c, hb⟩ := h.obj
 intro e
 rw [e, hb] at hg
 cases hg
theorem turned_cells {w w' : World} {R : Rdr} {b : Nat} {m : Pl} {g : Nat} {cs : Array Value} {t : TypeId} {f : Nat × Nat} (h : Mp R w b m) (q : w.mapTurned w' b) (hg : w.heap[g]? = some (Obj.cells cs t f)) : w'.heap[g]? = some (Obj.cells cs t f) :=
 (q.grown.block g (Array.getElem?_eq_some_iff.1 hg).1 (by simpa using not_map h hg)).trans hg
theorem SpAt.turned {w w' : World} {R b m} {x : Sp} (hx : SpAt w x) (h : Mp R w b m) (q : w.mapTurned w' b) (hne : x.pb ≠ b) : SpAt w' x := ⟨turned_cells h q hx.1, hx.2.kept q hne⟩
theorem StAt.ap {w s} (h : StAt w s) : s.bS ≠ s.bR /\ s.bS ≠ s.bB /\ s.bS ≠ s.bW /\ s.bR ≠ s.bB /\ s.bR ≠ s.bW /\ s.bB ≠ s.bW /\ (∀ x ∈ s.sp, x.pb ≠ s.bS /\ x.pb ≠ s.bR /\ x.pb ≠ s.bB /\ x.pb ≠ s.bW) /\ (s.sp.map (·.pb)).Nodup := by
 have hn := h.nd
 simp only [maps, List.nodup_cons, List.mem_cons, List.mem_map, not_or, not_exists, not_and] at hn
 obtain ⟨⟨a1, a2, a3, a4⟩, ⟨b1, b2, b3⟩, ⟨c1, c2⟩, d1, e1⟩ := hn
 exact ⟨a1, a2, a3, b1, b2, c1, fun x hx => ⟨a4 x hx, b3 x hx, c2 x hx, d1 x hx⟩, e1⟩
theorem StAt.refsT {w w' : World} {s m} (h : StAt w s) (hm : Mp elI w' s.bR m) (q : w.mapTurned w' s.bR) : StAt w' { s with refs := m } := by
 obtain ⟨a1, a2, a3, a4, a5, a6, a7, a8⟩ := h.ap
 exact ⟨turned_cells h.hR q h.hp, h.hS.kept q a1, hm, h.hB.kept q a4.symm, h.hW.kept q a5.symm, fun x hx => (h.hsp x hx).turned h.hR q (a7 x hx).2.1, h.nd, h.nds⟩
theorem StAt.badT {w w' : World} {s m} (h : StAt w s) (hm : Mp elU w' s.bB m) (q : w.mapTurned w' s.bB) : StAt w' { s with bad := m } := by
 obtain ⟨a1, a2, a3, a4, a5, a6, a7, a8⟩ := h.ap
 exact ⟨turned_cells h.hB q h.hp, h.hS.kept q a2, h.hR.kept q a4, hm, h.hW.kept q a6.symm, fun x hx => (h.hsp x hx).turned h.hB q (a7 x hx).2.2.1, h.nd, h.nds⟩
theorem StAt.wornT {w w' : World} {s m} (h : StAt w s) (hm : Mp elI w' s.bW m) (q : w.mapTurned w' s.bW) : StAt w' { s with worn := m } := by
 obtain ⟨a1, a2, a3, a4, a5, a6, a7, a8⟩ := h.ap
 exact ⟨turned_cells h.hW q h.hp, h.hS.kept q a3, h.hR.kept q a5, h.hB.kept q a6, hm, fun x hx => (h.hsp x hx).turned h.hW q (a7 x hx).2.2.2, h.nd, h.nds⟩
theorem ssp_pb (l : List Sp) (x y : Sp) (hid : x.id = y.id) (hpb : x.pb = y.pb) (hsb : x.sb = y.sb) (hone : ∀ z ∈ l, z.id = y.id -> z = y) : (ssp l x).map (·.pb) = l.map (·.pb) /\ (ssp l x).map (·.sb) = l.map (·.sb) := by
 unfold ssp
 constructor
 all_goals
  rw [List.map_map]
  apply List.map_congr_left
  intro z hz
  simp only [Function.comp]
  by_cases e : z.id = x.id
  ·rw [if_pos e, hone z hz (e.trans hid)]; assumption
  ·rw [if_neg e]
theorem up_one {l : List Sp} (hu : Up (spm l)) {x y : Sp} (hx : x ∈ l) (hy : y ∈ l) (e : x.id = y.id) : x = y := by
 unfold Up spm at hu
 rw [List.pairwise_map] at hu
 obtain ⟨i, hi, rfl⟩ := List.getElem_of_mem hx
 obtain ⟨j, hj, rfl⟩ := List.getElem_of_mem hy
 rcases Nat.lt_trichotomy i j with h1 | h1 | h1
 ·have := List.pairwise_iff_getElem.1 hu i j hi hj h1
  simp only at this; omega
 ·subst h1; rfl
 ·have := List.pairwise_iff_getElem.1 hu j i hj hi h1
  simp only at this; omega
theorem nodup_inj {α : Type} {l : List α} {f : α -> Nat} (h : (l.map f).Nodup) {x y : α} (hx : x ∈ l) (hy : y ∈ l) (e : f x = f y) : x = y := by
 obtain ⟨i, hi, rfl⟩ := List.getElem_of_mem hx
 obtain ⟨j, hj, rfl⟩ := List.getElem_of_mem hy
 have := (List.getElem_inj (xs := l.map f) (h₀ := by simpa using hi) (h₁ := by simpa using hj) h).1 (by simpa using e)
 subst this; rfl
theorem StAt.spaceT {w w' : World} {s} {x x' : Sp} (h : StAt w s) (hg : gsp s.sp x.id = some x) (hid : x'.id = x.id) (hsb : x'.sb = x.sb) (hpb : x'.pb = x.pb) (hx' : SpAt w' x') (e : ∀ i ∈ foot s, i ≠ x.sb -> i ≠ x.pb -> w'.heap[i]? = w.heap[i]?) : StAt w' { s with sp := ssp s.sp x' } := by
 obtain ⟨hx, _⟩ := gsp_some hg
 obtain ⟨a1, a2, a3, a4, a5, a6, a7, a8⟩ := h.ap
 have hu := h.hS.up
 have one : ∀ z ∈ s.sp, z.id = x.id -> z = x := fun z hz ez => up_one hu hz hx ez
 obtain ⟨q1, q2⟩ := ssp_pb s.sp x' x hid hpb hsb one
 have hX := h.hsp x hx
 have n1 : ∀ {R b m}, Mp R w b m -> b ≠ x.sb := fun hm => (not_map hm hX.1).symm
 have ne : x.sb ≠ s.p := by
  intro e2
  have h1 := h.hp
  rw [<- e2, hX.1] at h1
  simp at h1
 have np : s.p ≠ x.pb := not_map hX.2 h.hp
 refine ⟨(e _ (by simp [foot]) ne.symm np).trans h.hp, ?_, h.hR.same (e _ (by simp [foot, maps]) (n1 h.hR) (a7 x hx).2.1.symm), h.hB.same (e _ (by simp [foot, maps]) (n1 h.hB) (a7 x hx).2.2.1.symm), h.hW.same (e _ (by simp [foot, maps]) (n1 h.hW) (a7 x hx).2.2.2.symm), ?_, ?_, ?_⟩
 ·show Mp elP w' s.bS (spm (ssp s.sp x'))
  rw [spm_ssp s.sp x' x (by rw [hid]; exact hg) hsb hu]
  exact h.hS.same (e _ (by simp [foot, maps]) (n1 h.hS) (a7 x hx).1.symm)
 ·intro z hz
  obtain ⟨y, hy, rfl⟩ := List.mem_map.1 hz
  by_cases ey : y.id = x'.id
  ·rw [if_pos ey]; exact hx'
  ·rw [if_neg ey]
   have hyx : y ≠ x := fun e2 => ey (by rw [e2, hid])
   refine (h.hsp y hy).same (e _ ?_ ?_ ?_) (e _ ?_ ?_ ?_)
   ·simp only [foot, List.mem_cons, List.mem_append, List.mem_map]; exact .inr (.inl ⟨y, hy, rfl⟩)
   ·exact fun e2 => hyx (nodup_inj h.nds hy hx e2)
   ·exact not_map hX.2 (h.hsp y hy).1
   ·simp only [foot, maps, List.mem_cons, List.mem_append, List.mem_map]; exact .inr (.inr (.inr (.inr (.inr (.inr ⟨y, hy, rfl⟩)))))
   ·exact n1 (h.hsp y hy).2
   ·exact fun e2 => hyx (nodup_inj a8 hy hx e2)
 ·show (maps _).Nodup
  unfold maps
  rw [q1]
  exact h.nd
 ·show ((ssp s.sp x').map (·.sb)).Nodup
  rw [q2]
  exact h.nds
theorem StAt.pagesT {w w' : World} {s m} {x : Sp} (h : StAt w s) (hg : gsp s.sp x.id = some x) (hm : Mp elI w' x.pb m) (q : w.mapTurned w' x.pb) : StAt w' { s with sp := ssp s.sp { x with ps := m } } := by
 have hX := h.hsp x (gsp_some hg).1
 refine h.spaceT (x := x) (x' := { x with ps := m }) hg rfl rfl rfl ⟨turned_cells hX.2 q hX.1, hm⟩ (fun i hi _ h2 => q.grown.block i (h.foot_lt i hi) (by simpa using h2))
theorem StAt.sealT {w : World} {s} {x : Sp} (h : StAt w s) (hg : gsp s.sp x.id = some x) : StAt (w.setCell ⟨x.sb, 1, none⟩ (.bool true)) { s with sp := ssp s.sp { x with sl := true } } := by
 have hX := h.hsp x (gsp_some hg).1
 refine h.spaceT (x := x) (x' := { x with sl := true }) hg rfl rfl rfl ⟨?_, hX.2.other (a := ⟨x.sb, 1, none⟩) (not_map hX.2 hX.1) _⟩ (fun i hi h1 _ => heap_setCell_other w _ i _ h1)
 exact heap_setCell_same w x.sb 1 _ 133 _ hX.1
end Go.Proofs.YtcmmhfjnhlaepabGreatDoor.S8
namespace Go.Proofs.YtcmmhfjnhlaepabGreatDoor.S8
open Go Go.RowKit Go.Maps Gp Pg We
structure Ch (w w' : World) (s s' : St) : Prop where
 os : w'.os = w.os
 tape : w'.tape = w.tape
 output : w'.output = w.output
 size : w.heap.size <= w'.heap.size
 block : ∀ i, i < w.heap.size -> i ∉ foot s -> w'.heap[i]? = w.heap[i]?
 own : ∀ i ∈ foot s', i ∈ foot s \/ w.heap.size <= i
 home : s'.p = s.p
theorem Ch.refl (w : World) (s : St) : Ch w w s s := ⟨rfl, rfl, rfl, Nat.le_refl _, fun _ _ _ => rfl, fun _ h => .inl h, rfl⟩
theorem Ch.trans {a b c : World} {s t u : St} (h : Ch a b s t) (k : Ch b c t u) : Ch a c s u := by
 refine ⟨k.os.trans h.os, k.tape.trans h.tape, k.output.trans h.output, Nat.le_trans h.size k.size, fun i hi hn => ?_, fun i hi => ?_, k.home.trans h.home⟩
 ·refine (k.block i (Nat.lt_of_lt_of_le hi h.size) (fun hm => ?_)).trans (h.block i hi hn)
  rcases h.own i hm with h1 | h1
  ·exact hn h1
  ·omega
 ·rcases k.own i hi with h1 | h1
  ·exact h.own i h1
  ·exact .inr (Nat.le_trans h.size h1)
theorem Ch.turned {w w' : World} {s s' : St} {b : Nat} (q : w.mapTurned w' b) (hb : b ∈ foot s) (hf : foot s' = foot s) (hp : s'.p = s.p) : Ch w w' s s' := by
 have g := q.grown
 refine ⟨g.os, g.tape, g.output, g.size, fun i hi hn => g.block i hi (fun e => hn ?_), fun i hi => .inl (hf ▸ hi), hp⟩
 cases e; exact hb
theorem Ch.call {w w' : World} {s : St} (q : Below w.heap.size w w') : Ch w w' s s := ⟨q.os, q.tape, q.output, q.size, fun i hi _ => q.block i hi, fun _ h => .inl h, rfl⟩
theorem Ch.below {B : Nat} {a w w' : World} {s s' : St} (c : Ch w w' s s') (h : Below B a w) (hB : B <= w.heap.size) (hf : ∀ i ∈ foot s, B <= i) : Below B a w' :=
 ⟨c.os.trans h.os, c.tape.trans h.tape, c.output.trans h.output, Nat.le_trans h.size c.size, fun i hi => (c.block i (by omega) (fun hm => by have := hf i hm; omega)).trans (h.block i hi)⟩
theorem Ch.high {B : Nat} {w w' : World} {s s' : St} (c : Ch w w' s s') (hB : B <= w.heap.size) (hf : ∀ i ∈ foot s, B <= i) : ∀ i ∈ foot s', B <= i := fun i hi => by
 rcases c.own i hi with h | h
 ·exact hf i h
 ·omega
def lvm (m : Pl) (at' : Int) : Pl :=
 if (mget m at').getD 0 - 1 = 0 then mdel (mput m at' ((mget m at').getD 0 - 1)) at' else mput m at' ((mget m at').getD 0 - 1)
theorem mget_mins {m : Pl} {k v : Int} (h : ∀ p ∈ m, p.1 ≠ k) : mget (mins (k, v) m) k = some v := by
 induction m with
 | nil => simp [mins, mget]
 | cons y r ih =>
  unfold mins
  have hy := h y (by simp)
  by_cases hl : k < y.1
  ·simp [hl, mget]
  ·simp only [hl, if_false]
   have := ih (fun p hp => h p (by simp [hp]))
   unfold mget at this |-
   rw [List.find?_cons]
   simp [hy]
   simpa using this
theorem mdel_ne (m : Pl) (k : Int) : ∀ p ∈ mdel m k, p.1 ≠ k := by
 intro p hp
 simpa using (List.mem_filter.1 hp).2
theorem mget_put (m : Pl) (k v : Int) : mget (mput m k v) k = some v := mget_mins (mdel_ne m k)
theorem wrap_id {x : Int} (h1 : -9223372036854775808 <= x) (h2 : x <= 9223372036854775807) : IntKind.i64.wrap x = x := by
 simp only [IntKind.wrap, IntKind.signed, IntKind.bits]
 simp
 omega
set_option maxRecDepth 20000 in
theorem leave_any {w : World} {s : St} (h : StAt w s) {A : Int} (hk : K64 A) (h1 : 0 <= (mget s.refs A).getD 0) (h2 : (mget s.refs A).getD 0 <= 1000000) (hn : s.refs.length < 1000000) :
  Calls Tryz.prog 148 #[.pointer (some ⟨s.p, 0, none⟩), .int .i64 A] w fun e w' => e = .returned (.tuple #[]) /\ Mp elI w' s.bR (lvm s.refs A) /\ w.mapTurned w' s.bR := by
 have c1 := h.c1
 have hl := h.hR.look hk
 have hpl := h.lt
 have H := Hid.mk h
 clear h
 unfold lvm
 generalize hx : (mget s.refs A).getD 0 = x at *
 generalize hy : x - 1 = y
 have hw : IntKind.i64.wrap (x - 1) = y := by rw [<- hy]; exact wrap_id (by omega) (by omega)
 clear hy hx h1 h2
 go_enter Tryz.func148, Tryz.ntmps148
 go_upto_region 1 with (first | (at_mapUpdate; refine wp_put _ rfl _ _ _ 129 3 rfl Tryz.underlying129 H.out.hR hn A _ _ rfl rfl rfl hk rfl ?_; intro w1 m1 t1))
 have g1 := H.out.refsT m1 t1
 have d1 : w1.cell? ⟨s.p, 1, none⟩ = some (.map (some s.bR)) := g1.c1
 have l1 := m1.look hk
 rw [mget_put, Option.getD_some] at l1
 have hp1 : s.p < w1.heap.size := g1.lt
 have M1 := Hid.mk m1
 have T1 := Hid.mk t1
 clear g1 m1 t1 c1 hl hpl
 go_frame
 clear hw
 by_cases h0 : y = 0
 ·go_wp2_with (first | (at_delete; refine wp_del _ rfl _ _ 129 3 rfl Tryz.underlying129 M1.out A rfl rfl hk ?_; intro w2 m2 t2))
  go_end0
  exact ⟨rfl, by rw [h0] at m2; exact m2, T1.out.trans t2⟩
 ·go_wp2
  go_end0
  exact ⟨rfl, M1.out, T1.out⟩
def newSt (g : Nat) : St := ⟨g + 4, g, g + 1, g + 2, g + 3, [], [], [], []⟩
theorem new_any (w : World) : Calls Tryz.prog 67 #[] w fun e w' => e = .returned (.pointer (some ⟨w.heap.size + 4, 0, none⟩)) /\ StAt w' (newSt w.heap.size) /\ Below w.heap.size w w' := by
 have hmm := @run_makeMap Tryz.prog
 go_enter Tryz.func67, Tryz.ntmps67
 go_wp2_with fail
 go_ret
 refine ⟨rfl, ?_, ?_⟩
 ·have e : ∀ (o1 o2 o3 o4 o5 : Obj), (((((w.alloc o1).alloc o2).alloc o3).alloc o4).alloc o5).heap = ((((w.heap.push o1).push o2).push o3).push o4).push o5 := fun _ _ _ _ _ => rfl
  have m0 : ∀ R : Rdr, Mp R (((((w.alloc (.map #[] 0)).alloc (.map #[] 0)).alloc (.map #[] 0)).alloc (.map #[] 0)).alloc (.cells #[.map (some w.heap.size), .map (some (w.heap.size + 1)), .map (some (w.heap.size + 2)), .map (some (w.heap.size + 3))] 131)) w.heap.size [] :=
   fun R => ((((Mp.made w R).alloc _).alloc _).alloc _).alloc _
  have m1 : ∀ R : Rdr, Mp R (((((w.alloc (.map #[] 0)).alloc (.map #[] 0)).alloc (.map #[] 0)).alloc (.map #[] 0)).alloc (.cells #[.map (some w.heap.size), .map (some (w.heap.size + 1)), .map (some (w.heap.size + 2)), .map (some (w.heap.size + 3))] 131)) (w.heap.size + 1) [] :=
   fun R => by
    have := ((((Mp.made (w.alloc (.map #[] 0)) R).alloc (.map #[] 0)).alloc (.map #[] 0)).alloc (.cells #[.map (some w.heap.size), .map (some (w.heap.size + 1)), .map (some (w.heap.size + 2)), .map (some (w.heap.size + 3))] 131))
    rw [size_alloc] at this
    exact this
  have m2 : ∀ R : Rdr, Mp R (((((w.alloc (.map #[] 0)).alloc (.map #[] 0)).alloc (.map #[] 0)).alloc (.map #[] 0)).alloc (.cells #[.map (some w.heap.size), .map (some (w.heap.size + 1)), .map (some (w.heap.size + 2)), .map (some (w.heap.size + 3))] 131)) (w.heap.size + 2) [] :=
   fun R => by
    have := (((Mp.made ((w.alloc (.map #[] 0)).alloc (.map #[] 0)) R).alloc (.map #[] 0)).alloc (.cells #[.map (some w.heap.size), .map (some (w.heap.size + 1)), .map (some (w.heap.size + 2)), .map (some (w.heap.size + 3))] 131))
    rw [size_alloc, size_alloc] at this
    exact this
  have m3 : ∀ R : Rdr, Mp R (((((w.alloc (.map #[] 0)).alloc (.map #[] 0)).alloc (.map #[] 0)).alloc (.map #[] 0)).alloc (.cells #[.map (some w.heap.size), .map (some (w.heap.size + 1)), .map (some (w.heap.size + 2)), .map (some (w.heap.size + 3))] 131)) (w.heap.size + 3) [] :=
   fun R => by
    have := ((Mp.made (((w.alloc (.map #[] 0)).alloc (.map #[] 0)).alloc (.map #[] 0)) R).alloc (.cells #[.map (some w.heap.size), .map (some (w.heap.size + 1)), .map (some (w.heap.size + 2)), .map (some (w.heap.size + 3))] 131))
    rw [size_alloc, size_alloc, size_alloc] at this
    exact this
  refine ⟨?_, m0 _, m1 _, m2 _, m3 _, fun x hx => (by cases hx), ?_, ?_⟩
  ·have := heap_alloc_new ((((w.alloc (.map #[] 0)).alloc (.map #[] 0)).alloc (.map #[] 0)).alloc (.map #[] 0)) (.cells #[.map (some w.heap.size), .map (some (w.heap.size + 1)), .map (some (w.heap.size + 2)), .map (some (w.heap.size + 3))] 131)
   rw [size_alloc, size_alloc, size_alloc, size_alloc] at this
   exact this
  ·simp [maps, newSt]
  ·simp [newSt]
 ·refine (((((Below.refl _ w).alloc ?_ _).alloc ?_ _).alloc ?_ _).alloc ?_ _).alloc ?_ _
  all_goals (try simp only [size_alloc])
  all_goals omega
theorem eq_map58 (b : Nat) (w : World) : (binOp BinOp.eql 128 (.map (some b)) (.map none)).run Tryz.prog w = .ok (.bool false) w := by kernel_rfl
theorem fill_any {w : World} {s : St} (h : StAt w s) : Calls Tryz.prog 92 #[.pointer (some ⟨s.p, 0, none⟩)] w fun e w' => e = .returned (.tuple #[]) /\ w = w' := by
 have c0 := h.c0
 have e0 := eq_map58 s.bS w
 clear h
 go_enter Tryz.func92, Tryz.ntmps92
 go_wp2
 go_end0
 exact ⟨rfl, rfl⟩
end Go.Proofs.YtcmmhfjnhlaepabGreatDoor.S8
namespace Go.Proofs.YtcmmhfjnhlaepabGreatDoor.S8
open Go Go.RowKit Go.Maps Gp Pg We
theorem foot_ssp {w : World} {s : St} {x x' : Sp} (h : StAt w s) (hg : gsp s.sp x.id = some x) (hid : x'.id = x.id) (hsb : x'.sb = x.sb) (hpb : x'.pb = x.pb) (r b o : Pl) : foot { s with sp := ssp s.sp x', refs := r, bad := b, worn := o } = foot s := by
 obtain ⟨hx, _⟩ := gsp_some hg
 obtain ⟨q1, q2⟩ := ssp_pb s.sp x' x hid hpb hsb (fun z hz ez => up_one h.hS.up hz hx ez)
 simp only [foot, maps]
 rw [q1, q2]
theorem mem_bR (s : St) : s.bR ∈ foot s := by simp [foot, maps]
theorem mem_bB (s : St) : s.bB ∈ foot s := by simp [foot, maps]
theorem mem_bW (s : St) : s.bW ∈ foot s := by simp [foot, maps]
theorem mem_bS (s : St) : s.bS ∈ foot s := by simp [foot, maps]
theorem mem_pb {s : St} {x : Sp} (hx : x ∈ s.sp) : x.pb ∈ foot s := by
 simp only [foot, maps, List.mem_cons, List.mem_append, List.mem_map]; exact .inr (.inr (.inr (.inr (.inr (.inr ⟨x, hx, rfl⟩)))))
theorem mem_sb {s : St} {x : Sp} (hx : x ∈ s.sp) : x.sb ∈ foot s := by
 simp only [foot, List.mem_cons, List.mem_append, List.mem_map]; exact .inr (.inl ⟨x, hx, rfl⟩)
theorem StAt.noSp {w s} (h : StAt w s) {id : Int} (hk : K64 id) (hg : gsp s.sp id = none) : (Instr.lookup 128 (.map (some s.bS)) (.int .i64 id) false).run Tryz.prog w = .ok (.pointer none) w := by
 rw [h.hS.lookP hk, spm_get, hg]; rfl
theorem StAt.aSp {w s} (h : StAt w s) {x : Sp} (hk : K64 x.id) (hg : gsp s.sp x.id = some x) : (Instr.lookup 128 (.map (some s.bS)) (.int .i64 x.id) false).run Tryz.prog w = .ok (.pointer (some ⟨x.sb, 0, none⟩)) w := by
 rw [h.hS.lookP hk, spm_get, hg]
 simp [pv]
theorem put_none {w s} (h : StAt w s) {id page A : Int} (hk : K64 id) (hg : gsp s.sp id = none) :
  Calls Tryz.prog 93 #[.pointer (some ⟨s.p, 0, none⟩), .int .i64 id, .int .i64 page, .int .i64 A] w fun e w' => e = .returned (.int .i64 80) /\ w = w' := by
 have c0 := h.c0
 have l0 := h.noSp hk hg
 clear h
 go_enter Tryz.func93, Tryz.ntmps93
 go_wp2
 go_ret
 exact ⟨rfl, rfl⟩
set_option maxRecDepth 20000 in
theorem put_high {w s} (h : StAt w s) {x : Sp} {page A : Int} (hk : K64 x.id) (hg : gsp s.sp x.id = some x) (hq : x.q <= page) :
  Calls Tryz.prog 93 #[.pointer (some ⟨s.p, 0, none⟩), .int .i64 x.id, .int .i64 page, .int .i64 A] w fun e w' => e = .returned (.int .i64 81) /\ w = w' := by
 have c0 := h.c0
 have l0 := h.aSp hk hg
 have q0 := (h.hsp x (gsp_some hg).1).q
 clear h hg
 go_enter Tryz.func93, Tryz.ntmps93
 go_wp2
 go_ret
 exact ⟨rfl, rfl⟩
def putS (s : St) (x : Sp) (page A : Int) (m1 : Pl) : St := { s with sp := ssp s.sp { x with ps := mput x.ps page A }, refs := mput m1 A ((mget m1 A).getD 0 + 1) }
set_option maxRecDepth 20000 in
theorem put_new {w s} (h : StAt w s) {x : Sp} {page A : Int} (hk : K64 x.id) (hp : K64 page) (hA : K64 A) (hg : gsp s.sp x.id = some x) (hq : page < x.q) (hno : mget x.ps page = none)
  (hn : x.ps.length < 1000000) (hn1 : (s.refs : Pl).length < 1000000) (hv1 : 0 <= (mget s.refs A).getD 0) (hv2 : (mget s.refs A).getD 0 <= 1000000) :
  Calls Tryz.prog 93 #[.pointer (some ⟨s.p, 0, none⟩), .int .i64 x.id, .int .i64 page, .int .i64 A] w fun e w' => e = .returned (.int .i64 0) /\ StAt w' (putS s x page A s.refs) /\ Ch w w' s (putS s x page A s.refs) := by
 have c0 := h.c0
 have l0 := h.aSp hk hg
 have hX := h.hsp x (gsp_some hg).1
 have q0 := hX.q
 have q2 := hX.pb
 have l1 := hX.2.lookOk hp
 rw [hno, Option.getD_none, Option.isSome_none] at l1
 have hf := foot_ssp h hg (x' := { x with ps := mput x.ps page A }) rfl rfl rfl (mput s.refs A ((mget s.refs A).getD 0 + 1)) s.bad s.worn
 generalize hM : s.refs = M at *
 have H := Hid.mk (And.intro h (And.intro hg hX))
 have HF := Hid.mk hf
 have HM := Hid.mk hM
 clear hM
 clear h hX hg hf
 unfold putS at *
 generalize hy : (mget M A).getD 0 + 1 = y at *
 have hw : IntKind.i64.wrap ((mget M A).getD 0 + 1) = y := by rw [<- hy]; exact wrap_id (by omega) (by omega)
 generalize hx0 : (mget M A).getD 0 = x0 at *
 have HX0 := Hid.mk hx0
 clear hy hv1 hv2 hno hx0
 go_enter Tryz.func93, Tryz.ntmps93
 have H1 := Hid.mk (show StAt w { s with refs := M } /\ gsp s.sp x.id = some x /\ SpAt w x by rw [<- HM.out]; exact H.out)
 go_upto_region 10 with (first | (at_mapUpdate; refine wp_put _ rfl _ _ _ 129 3 rfl Tryz.underlying129 H1.out.2.2.2 hn page _ _ rfl rfl rfl hp rfl ?_; intro w2 m2 t2))
 have g2 := H1.out.1.pagesT H1.out.2.1 m2 t2
 have d1 : w2.cell? ⟨s.p, 1, none⟩ = some (.map (some s.bR)) := g2.c1
 have l2 : (Instr.lookup 129 (.map (some s.bR)) (.int .i64 A) false).run Tryz.prog w2 = .ok (.int .i64 ((mget M A).getD 0)) w2 := g2.hR.look hA
 rw [HX0.out] at l2
 have hR2 : Mp elI w2 s.bR M := g2.hR
 have G2 := Hid.mk (And.intro g2 (And.intro t2 hR2))
 clear g2 t2 m2 hR2 c0 l0 q0 q2 l1
 go_frame
 go_wp2_with (first | (at_mapUpdate; refine wp_put _ rfl _ _ _ 129 3 rfl Tryz.underlying129 G2.out.2.2 hn1 A _ _ rfl rfl rfl hA rfl ?_; intro w3 m3 t3))
 go_ret
 exact ⟨rfl, G2.out.1.refsT m3 t3, ((Ch.turned G2.out.2.1 (mem_pb (gsp_some H.out.2.1).1) rfl rfl : Ch w w2 s s).trans (Ch.turned t3 (mem_bR s) HF.out rfl))⟩
set_option maxRecDepth 20000 in
theorem put_old {w s} (h : StAt w s) {x : Sp} {page A old : Int} (hk : K64 x.id) (hp : K64 page) (hA : K64 A) (hg : gsp s.sp x.id = some x) (hq : page < x.q) (hno : mget x.ps page = some old)
  (hO : K64 old) (ho1 : 0 <= (mget s.refs old).getD 0) (ho2 : (mget s.refs old).getD 0 <= 1000000) (hn0 : s.refs.length < 1000000)
  (hn : x.ps.length < 1000000) (hn1 : ((lvm s.refs old) : Pl).length < 1000000) (hv1 : 0 <= (mget (lvm s.refs old) A).getD 0) (hv2 : (mget (lvm s.refs old) A).getD 0 <= 1000000) :
  Calls Tryz.prog 93 #[.pointer (some ⟨s.p, 0, none⟩), .int .i64 x.id, .int .i64 page, .int .i64 A] w fun e w' => e = .returned (.int .i64 0) /\ StAt w' (putS s x page A (lvm s.refs old)) /\ Ch w w' s (putS s x page A (lvm s.refs old)) := by
 have c0 := h.c0
 have l0 := h.aSp hk hg
 have hX := h.hsp x (gsp_some hg).1
 have q0 := hX.q
 have q2 := hX.pb
 have l1 := hX.2.lookOk hp
 rw [hno, Option.getD_some, Option.isSome_some] at l1
 have hf := foot_ssp h hg (x' := { x with ps := mput x.ps page A }) rfl rfl rfl (mput (lvm s.refs old) A ((mget (lvm s.refs old) A).getD 0 + 1)) s.bad s.worn
 have hlv := leave_any h hO ho1 ho2 hn0
 clear ho1 ho2 hn0
 generalize lvm s.refs old = M at *
 have H := Hid.mk (And.intro h (And.intro hg hX))
 have HF := Hid.mk hf
 have HL := Hid.mk hlv
 clear hlv
 clear h hX hg hf
 unfold putS at *
 generalize hy : (mget M A).getD 0 + 1 = y at *
 have hw : IntKind.i64.wrap ((mget M A).getD 0 + 1) = y := by rw [<- hy]; exact wrap_id (by omega) (by omega)
 generalize hx0 : (mget M A).getD 0 = x0 at *
 have HX0 := Hid.mk hx0
 clear hy hv1 hv2 hno hx0
 go_enter Tryz.func93, Tryz.ntmps93
 go_upto_region 9 with (first | (go_at_call 148; refine HL.out.mono ?_; rintro e w1 ⟨rfl, m1, t1⟩))
 have g1 := H.out.1.refsT m1 t1
 have hX1 : SpAt w1 x := g1.hsp x (gsp_some H.out.2.1).1
 have q21 := hX1.pb
 replace HL := Hid.mk t1
 have H1 := Hid.mk (And.intro g1 (And.intro H.out.2.1 hX1))
 clear m1 t1 g1 hX1 c0 l0 q0 q2 l1
 go_upto_region 10 with (first | (at_mapUpdate; refine wp_put _ rfl _ _ _ 129 3 rfl Tryz.underlying129 H1.out.2.2.2 hn page _ _ rfl rfl rfl hp rfl ?_; intro w2 m2 t2))
 have g2 := H1.out.1.pagesT H1.out.2.1 m2 t2
 have d1 : w2.cell? ⟨s.p, 1, none⟩ = some (.map (some s.bR)) := g2.c1
 have l2 : (Instr.lookup 129 (.map (some s.bR)) (.int .i64 A) false).run Tryz.prog w2 = .ok (.int .i64 ((mget M A).getD 0)) w2 := g2.hR.look hA
 rw [HX0.out] at l2
 have hR2 : Mp elI w2 s.bR M := g2.hR
 have G2 := Hid.mk (And.intro g2 (And.intro t2 hR2))
 clear g2 t2 m2 hR2 q21
 go_frame
 go_wp2_with (first | (at_mapUpdate; refine wp_put _ rfl _ _ _ 129 3 rfl Tryz.underlying129 G2.out.2.2 hn1 A _ _ rfl rfl rfl hA rfl ?_; intro w3 m3 t3))
 go_ret
 exact ⟨rfl, G2.out.1.refsT m3 t3, (Ch.turned HL.out (mem_bR s) rfl rfl : Ch w w1 s s).trans (((Ch.turned G2.out.2.1 (mem_pb (gsp_some H.out.2.1).1) rfl rfl : Ch w1 w2 s s).trans (Ch.turned t3 (mem_bR s) HF.out rfl)))⟩
/-! trim -/
theorem trim_none {w s} (h : StAt w s) {id page : Int} (hk : K64 id) (hg : gsp s.sp id = none) :
  Calls Tryz.prog 94 #[.pointer (some ⟨s.p, 0, none⟩), .int .i64 id, .int .i64 page] w fun e w' => e = .returned (.int .i64 80) /\ w = w' := by
 have c0 := h.c0
 have l0 := h.noSp hk hg
 clear h
 go_enter Tryz.func94, Tryz.ntmps94
 go_wp2
 go_ret
 exact ⟨rfl, rfl⟩
set_option maxRecDepth 20000 in
theorem trim_not {w s} (h : StAt w s) {x : Sp} {page : Int} (hk : K64 x.id) (hp : K64 page) (hg : gsp s.sp x.id = some x) (hno : mget x.ps page = none) :
  Calls Tryz.prog 94 #[.pointer (some ⟨s.p, 0, none⟩), .int .i64 x.id, .int .i64 page] w fun e w' => e = .returned (.int .i64 81) /\ w = w' := by
 have c0 := h.c0
 have l0 := h.aSp hk hg
 have hX := h.hsp x (gsp_some hg).1
 have q2 := hX.pb
 have l1 := hX.2.lookOk hp
 rw [hno, Option.getD_none, Option.isSome_none] at l1
 clear h hg hX hno
 go_enter Tryz.func94, Tryz.ntmps94
 go_wp2
 go_ret
 exact ⟨rfl, rfl⟩
def trimS (s : St) (x : Sp) (page : Int) (m1 : Pl) : St := { s with sp := ssp s.sp { x with ps := mdel x.ps page }, refs := m1 }
set_option maxRecDepth 20000 in
theorem trim_old {w s} (h : StAt w s) {x : Sp} {page old : Int} (hk : K64 x.id) (hp : K64 page) (hg : gsp s.sp x.id = some x) (hno : mget x.ps page = some old)
  (hO : K64 old) (ho1 : 0 <= (mget s.refs old).getD 0) (ho2 : (mget s.refs old).getD 0 <= 1000000) (hn0 : s.refs.length < 1000000) :
  Calls Tryz.prog 94 #[.pointer (some ⟨s.p, 0, none⟩), .int .i64 x.id, .int .i64 page] w fun e w' => e = .returned (.int .i64 0) /\ StAt w' (trimS s x page (lvm s.refs old)) /\ Ch w w' s (trimS s x page (lvm s.refs old)) := by
 have c0 := h.c0
 have l0 := h.aSp hk hg
 have hX := h.hsp x (gsp_some hg).1
 have q2 := hX.pb
 have l1 := hX.2.lookOk hp
 rw [hno, Option.getD_some, Option.isSome_some] at l1
 have hf := foot_ssp h hg (x' := { x with ps := mdel x.ps page }) rfl rfl rfl (lvm s.refs old) s.bad s.worn
 have hlv := leave_any h hO ho1 ho2 hn0
 clear ho1 ho2 hn0
 generalize lvm s.refs old = M at *
 have H := Hid.mk (And.intro h (And.intro hg hX))
 have HF := Hid.mk hf
 have HL := Hid.mk hlv
 clear hlv h hX hg hf hno
 unfold trimS at *
 go_enter Tryz.func94, Tryz.ntmps94
 go_upto_region 8 with (first | (go_at_call 148; refine HL.out.mono ?_; rintro e w1 ⟨rfl, m1, t1⟩))
 have g1 := H.out.1.refsT m1 t1
 have hX1 : SpAt w1 x := g1.hsp x (gsp_some H.out.2.1).1
 have q21 := hX1.pb
 replace HL := Hid.mk t1
 have H1 := Hid.mk (And.intro g1 (And.intro H.out.2.1 hX1))
 clear m1 t1 g1 hX1 c0 l0 q2 l1
 go_wp2_with (first | (at_delete; refine wp_del _ rfl _ _ 129 3 rfl Tryz.underlying129 H1.out.2.2.2 page rfl rfl hp ?_; intro w2 m2 t2))
 go_ret
 exact ⟨rfl, H1.out.1.pagesT H1.out.2.1 m2 t2, (Ch.turned HL.out (mem_bR s) rfl rfl : Ch w w1 s s).trans (Ch.turned t2 (mem_pb (gsp_some H.out.2.1).1) HF.out rfl)⟩
/-! seal -/
theorem seal_none {w s} (h : StAt w s) {id : Int} (hk : K64 id) (hg : gsp s.sp id = none) :
  Calls Tryz.prog 99 #[.pointer (some ⟨s.p, 0, none⟩), .int .i64 id] w fun e w' => e = .returned (.int .i64 80) /\ w = w' := by
 have c0 := h.c0
 have l0 := h.noSp hk hg
 clear h
 go_enter Tryz.func99, Tryz.ntmps99
 go_wp2
 go_ret
 exact ⟨rfl, rfl⟩
def sealS (s : St) (x : Sp) : St := { s with sp := ssp s.sp { x with sl := true } }
set_option maxRecDepth 20000 in
theorem seal_some {w s} (h : StAt w s) {x : Sp} (hk : K64 x.id) (hg : gsp s.sp x.id = some x) :
  Calls Tryz.prog 99 #[.pointer (some ⟨s.p, 0, none⟩), .int .i64 x.id] w fun e w' => e = .returned (.int .i64 0) /\ StAt w' (sealS s x) /\ Ch w w' s (sealS s x) := by
 have c0 := h.c0
 have l0 := h.aSp hk hg
 have hX := h.hsp x (gsp_some hg).1
 have q1 := hX.sl
 have f1 := hX.fz 1
 have hf := foot_ssp h hg (x' := { x with sl := true }) rfl rfl rfl s.refs s.bad s.worn
 have H := Hid.mk (And.intro h (And.intro hg hf))
 clear h hg hX hf
 go_enter Tryz.func99, Tryz.ntmps99
 go_wp2
 go_ret
 refine ⟨rfl, H.out.1.sealT H.out.2.1, ⟨rfl, rfl, rfl, by simp [World.setCell], fun i _ hn => heap_setCell_other w _ i _ (fun e => hn ?_), fun i hi => .inl (H.out.2.2 ▸ hi), rfl⟩⟩
 subst e
 exact mem_sb (gsp_some H.out.2.1).1
end Go.Proofs.YtcmmhfjnhlaepabGreatDoor.S8
namespace Go.Proofs.YtcmmhfjnhlaepabGreatDoor.S8
open Go Go.RowKit Go.Maps Gp Pg We
def Rg (R : Rdr) (w : World) (b r : Nat) (m rest : Pl) : Prop := ∃ left cnt, w.ranges Tryz.prog 3 R b r m.length (dm m) left cnt /\ rest = m.filter fun p => left (.int .i64 p.1)
theorem Rg.mp {R w b r m rest} (h : Rg R w b r m rest) : Mp R w b m := by
 obtain ⟨left, cnt, h, _⟩ := h
 exact h.owns
theorem Rg.lt {R w b r m rest} (h : Rg R w b r m rest) : r < w.heap.size := by
 obtain ⟨left, cnt, h, _⟩ := h
 exact h.lt
theorem Rg.same {R} {w w' : World} {b r m rest} (h : Rg R w b r m rest) (e1 : w'.heap[b]? = w.heap[b]?) (e2 : w'.heap[r]? = w.heap[r]?) : Rg R w' b r m rest := by
 obtain ⟨left, cnt, ⟨es, clock, since, seen, c0, hb, F, hs, hD, hr, rs⟩, hl⟩ := h
 exact ⟨left, cnt, ⟨es, clock, since, seen, c0, e1.trans hb, F, hs, hD, e2.trans hr, rs⟩, hl⟩
theorem left_same {w w' : World} {b r : Nat} (e1 : w'.heap[b]? = w.heap[b]?) (e2 : w'.heap[r]? = w.heap[r]?) : w'.rangeLeft b r = w.rangeLeft b r := by
 unfold World.rangeLeft
 rw [e1, e2]
theorem Rg.iter {R w b r m rest} (h : Rg R w b r m rest) : ∃ x y z, w.heap[r]? = some (.mapIter (some b) x y z) := by
 obtain ⟨left, cnt, ⟨es, clock, since, seen, c0, hb, F, hs, hD, hr, rs⟩, hl⟩ := h
 exact ⟨_, _, _, hr⟩
theorem dm_left {m : Pl} {k c : Int} (h : ∀ zd : DataW Unit, (dm m).atKey (.int .i64 k) zd = dI c) : (k, c) ∈ m := by
 have h0 := h (dI (c + 1))
 rw [dm_at] at h0
 cases hg : mget m k with
 | none => rw [hg] at h0; simp [dI] at h0; omega
 | some v =>
  rw [hg] at h0
  simp [dI] at h0
  subst h0
  unfold mget at hg
  obtain ⟨p, hp, rfl⟩ := Option.map_eq_some_iff.1 hg
  have h1 := List.mem_of_find?_eq_some hp
  have h2 : p.1 = k := by simpa using List.find?_some hp
  rw [<- h2]
  exact h1
section
variable (w : World) {ops : Array Oper} {rest : List Oper} {o : Oper} {a : Act} {Q : Exit -> Act -> World -> Prop}
theorem wp_range {R : Rdr} {b : Nat} {m : Pl} (hg : o.guard = none) (mo : Operand) (t e : TypeId) (hop : o.op = Op.range t mo) (ht : Tryz.prog.underlying t = some (.map 3 e)) (h : Mp R w b m) (hm : a.eval mo = .map (some b))
  (hK : ∀ w', Rg R w' b w.heap.size m m -> Below w.heap.size w w' -> w'.heap.size = w.heap.size + 1 -> wpList Tryz.prog ops Q rest (a.put o.dst (.pointer (some ⟨w.heap.size, 0, none⟩))) w') : wpList Tryz.prog ops Q (o :: rest) a w := by
 refine wpList_range_own w hg mo t hop 3 e law3 ht R b m.length (dm m) hm h (fun w' h1 h2 h3 => hK w' ⟨_, _, h1, ?_⟩ ⟨h2.os, h2.tape, h2.output, h2.size, fun i hi => h2.block i hi (by simp)⟩ h3)
 symm
 apply List.filter_eq_self.2
 intro p hp
 rw [dm_has]
 unfold mget
 rw [Option.isSome_map, List.find?_isSome]
 exact ⟨p, hp, by simp⟩
theorem next_rest {R : Rdr} {w' : World} {b r : Nat} {m ps : Pl} {left : Lit -> Bool} {cnt' : Nat} {k : Int} (hr : ps = m.filter fun p => left (.int .i64 p.1)) (h : w'.ranges Tryz.prog 3 R b r m.length (dm m) (fun z => left z && !z.sameKey (.int .i64 k)) cnt') : Rg R w' b r m (mdel ps k) := by
 refine ⟨_, _, h, ?_⟩
 rw [hr, mdel, List.filter_filter]
 congr 1
 funext p
 have := kv_same p k
 simp only [kv] at this
 rw [this, Bool.and_comm]
theorem wp_next {b r : Nat} {m ps : Pl} (hg : o.guard = none) (it : Operand) (hop : o.op = Op.next it false) (h : Rg elI w b r m ps) (hit : a.eval it = .pointer (some ⟨r, 0, none⟩))
  (hDone : ps = [] -> wpList Tryz.prog ops Q rest (a.put o.dst (.tuple #[.bool false])) w)
  (hMore : ∀ (k c : Int) (w' : World), (k, c) ∈ ps -> K64 k -> Rg elI w' b r m (mdel ps k) -> w'.rangeLeft b r < w.rangeLeft b r -> w.grownBy w' (some r) -> w'.heap.size = w.heap.size →
   (Instr.entry (.pointer (some ⟨r, 0, none⟩))).run Tryz.prog w' = .ok (.tuple #[.int .i64 k, .int .i64 c]) w' -> wpList Tryz.prog ops Q rest (a.put o.dst (.tuple #[.bool true, .int .i64 k, .int .i64 c])) w') : wpList Tryz.prog ops Q (o :: rest) a w := by
 obtain ⟨left, cnt, h, hr⟩ := h
 refine wpList_next_ranges w hg it hop 3 law3 elI (Value.int .i64) (Value.int .i64) (fun key kl hkey => by obtain ⟨x, rfl, _⟩ := Maps.keyOf_int_inv Tryz.underlying3 hkey; exact ⟨x, rfl⟩) (fun v y hv => by obtain ⟨c, rfl, _⟩ := elI_inv hv; exact ⟨c, rfl⟩) b r m.length (dm m) left cnt hit h (fun _ hl => hDone ?_) (fun x c kl y w' cnt' hkey hlk hv hat hrg hlt hgr hsz hen => ?_)
 ·rw [hr]
  apply List.filter_eq_nil_iff.2
  intro p _
  simp [hl]
 ·obtain ⟨x', ex, rfl, hwx⟩ := Maps.keyOf_int_inv Tryz.underlying3 hkey
  cases ex
  obtain ⟨c', ec, rfl⟩ := elI_inv hv
  cases ec
  refine hMore x c w' ?_ hwx (next_rest hr hrg) (by rw [hrg.left_eq, h.left_eq]; exact hlt) hgr hsz hen
  rw [hr]
  exact List.mem_filter.2 ⟨dm_left hat, hlk⟩
theorem wp_nextP {b r : Nat} {m ps : Pl} (hg : o.guard = none) (it : Operand) (hop : o.op = Op.next it false) (h : Rg elP w b r m ps) (hit : a.eval it = .pointer (some ⟨r, 0, none⟩))
  (hDone : ps = [] -> wpList Tryz.prog ops Q rest (a.put o.dst (.tuple #[.bool false])) w)
  (hMore : ∀ (k : Int) (g : Nat) (w' : World), (k, (g : Int)) ∈ ps -> K64 k -> Rg elP w' b r m (mdel ps k) -> w'.rangeLeft b r < w.rangeLeft b r -> w.grownBy w' (some r) -> w'.heap.size = w.heap.size →
   (Instr.entry (.pointer (some ⟨r, 0, none⟩))).run Tryz.prog w' = .ok (.tuple #[.int .i64 k, .pointer (some ⟨g, 0, none⟩)]) w' -> wpList Tryz.prog ops Q rest (a.put o.dst (.tuple #[.bool true, .int .i64 k, .pointer (some ⟨g, 0, none⟩)])) w') : wpList Tryz.prog ops Q (o :: rest) a w := by
 obtain ⟨left, cnt, h, hr⟩ := h
 refine wpList_plain hg fun K' hK' => ?_
 unfold Oper.wp
 rcases h.next law3 o.type with ⟨h0, hl, hrun⟩ | ⟨key, v, kl, y, w', cnt', hkey, hlk, hv, hat, hrun, hrg, hlt, hgr, hsz, hen⟩
 ·simp [execOp, hop, hit, hrun, Result.andThen]
  refine hK' _ _ (hDone ?_)
  rw [hr]
  apply List.filter_eq_nil_iff.2
  intro p _
  simp [hl]
 ·obtain ⟨x, rfl, rfl, hwx⟩ := Maps.keyOf_int_inv Tryz.underlying3 hkey
  rcases elP_inv hv with ⟨rfl, rfl⟩ | ⟨g, rfl, rfl⟩
  ·have := hat (dI 0)
   rw [dm_at] at this
   cases hg : mget m x <;> (rw [hg] at this; simp [dI] at this)
  ·simp [execOp, hop, hit, hrun, Result.andThen]
   refine hK' _ _ (hMore x g w' ?_ hwx (next_rest hr hrg) (by rw [hrg.left_eq, h.left_eq]; exact hlt) hgr hsz hen)
   rw [hr]
   exact List.mem_filter.2 ⟨dm_left hat, hlk⟩
end
set_option maxRecDepth 20000 in
open Go.ChangeMaps Go.MapKept Go.WideShapes in
open Go.WideElems (Fit rd rg pl rd_key rd_val rg_of other_key rd_mk) in
theorem Rg.store {w : World} {b r : Nat} {m ps : Pl} (h : Rg elI w b r m ps) (hn : m.length < 1000000) {k v : Int} (hk : K64 k) (hm : (mget m k).isSome = true) (hps : ∀ p ∈ ps, p.1 ≠ k) :
  ∃ w', (Instr.mapUpdate 129 (.map (some b)) (.int .i64 k) (.int .i64 v)).run Tryz.prog w = .ok () w' /\ Rg elI w' b r (mput m k v) ps /\ w.mapTurned w' b /\ w'.rangeLeft b r = w.rangeLeft b r := by
 have hmp := h.mp
 obtain ⟨w1, hrun1, hM1, hT1⟩ := hmp.store Tryz.underlying129 hn hk (val := .int .i64 v) (v := v) rfl
 obtain ⟨left, cnt, ⟨es, clock, since, seen, c0, hb, F, hs, hD, hr, hold, hc, hl1, hl2, hsc, hsk⟩, hl⟩ := h
 have hne : r ≠ b := by
  intro e
  rw [e, hb] at hr
  cases hr
 rcases law3.find w (key3 hk) es.toList F.keys with ⟨h1, h2⟩ | ⟨j, e0, h1, h2, h3⟩
 ·exfalso
  obtain ⟨x, hx⟩ := Option.isSome_iff_exists.1 hm
  have hh : Maps.has (dm m) (.int .i64 k) = true := by rw [dm_has]; exact hm
  rw [hD] at hh
  obtain ⟨p, hp, hpk⟩ := List.any_eq_true.1 hh
  obtain ⟨y, hy, rfl⟩ := List.mem_map.1 (mem_sorted.1 hp)
  obtain ⟨z, hz⟩ := F.reads y hy
  have e2 := WideAt.sameKey_eq hpk
  rw [rg_of hz] at e2
  exact h2 y hy (law3.inj (e2 ▸ rd_key hz) (key3 hk))
 ·have hj : es[j]? = some e0 := by simpa using h2
  have hrun2 : (Instr.mapUpdate 129 (.map (some b)) (.int .i64 k) (.int .i64 v)).run Tryz.prog w = .ok () (setBlock w b (.map (es.modify j (fun e' => { e' with key := .int .i64 k, val := .int .i64 v })) clock)) := by
   simp [Instr.mapUpdate, run_underlying Tryz.underlying129, MapKept.run_getObj_map hb, law3.check w false (key3 hk), h1, hj, h3, law3.stays w (key3 hk), MapKept.run_setObj_map _ hb, Result.andThen, setBlock]
  have ew : w1 = setBlock w b (.map (es.modify j (fun e' => { e' with key := .int .i64 k, val := .int .i64 v })) clock) := by
   rw [hrun1] at hrun2
   cases hrun2
   rfl
  have hlist : (es.modify j (fun e' => { e' with key := .int .i64 k, val := .int .i64 v })).toList = es.toList.set j { e0 with key := .int .i64 k, val := .int .i64 v } := by rw [Array.toList_modify, modify_eq_set _ _ _ _ h2]
  obtain ⟨es1, cl1, hb1, F1, hs1, hD1⟩ := hM1
  have hb2 : w1.heap[b]? = some (.map (es.modify j (fun e' => { e' with key := .int .i64 k, val := .int .i64 v })) clock) := by rw [ew]; exact heap_setBlock_same hb _
  rw [hb1] at hb2
  simp only [Option.some.injEq, Obj.map.injEq] at hb2
  obtain ⟨rfl, rfl⟩ := hb2
  have hrr : w1.heap[r]? = some (.mapIter (some b) since seen c0) := by rw [ew]; exact (heap_setBlock_other hb _ hne).trans hr
  have hje : e0 ∈ es.toList := List.mem_of_getElem? h2
  have who : ∀ x ∈ es.toList.set j { e0 with key := Value.int .i64 k, val := Value.int .i64 v }, ∃ y ∈ es.toList, y.born = x.born /\ y.key = x.key := by
   intro x hx
   obtain ⟨i, hi, ex⟩ := List.getElem_of_mem hx
   rw [List.getElem_set] at ex
   split at ex
   ·exact ⟨e0, hje, by rw [<- ex], by rw [<- ex]; exact h3⟩
   ·exact ⟨x, ex ▸ List.getElem_mem (by simpa using hi), rfl, rfl⟩
  have who2 : ∀ y ∈ es.toList, ∃ x ∈ es.toList.set j { e0 with key := Value.int .i64 k, val := Value.int .i64 v }, y.born = x.born /\ y.key = x.key := by
   intro y hy
   obtain ⟨i, hi, ey⟩ := List.getElem_of_mem hy
   by_cases e : i = j
   ·subst e
    have : y = e0 := by
     rw [List.getElem?_eq_getElem hi, ey] at h2
     exact Option.some.inj h2
    subst this
    exact ⟨{ y with key := Value.int .i64 k, val := Value.int .i64 v }, List.mem_iff_getElem.2 ⟨i, by simpa using hi, by simp⟩, rfl, h3⟩
   ·exact ⟨y, List.mem_iff_getElem.2 ⟨i, by simpa using hi, by rw [List.getElem_set_ne (fun e1 => e e1.symm)]; exact ey⟩, rfl, rfl⟩
  have keyL : ∀ x ∈ (es.modify j (fun e' => { e' with key := .int .i64 k, val := .int .i64 v })).toList, ∀ y ∈ es.toList, y.key = x.key -> (rg Tryz.prog 3 elI x).1 = (rg Tryz.prog 3 elI y).1 := by
   intro x hx y hy e
   obtain ⟨z1, hz1⟩ := F1.reads x hx
   obtain ⟨z2, hz2⟩ := F.reads y hy
   rw [rg_of hz1, rg_of hz2]
   have q1 := rd_key hz1
   have q2 := rd_key hz2
   rw [e, q1] at q2
   exact Option.some.inj q2
  have hleft : ∀ x : Array MapEntry, (leftOf x seen).size = (x.toList.filter fun e => !seen.contains e.born).length := fun x => by
   unfold leftOf
   rw [<- Array.toList_filter, Array.length_toList]
  have hcnt : (leftOf (es.modify j (fun e' => { e' with key := .int .i64 k, val := .int .i64 v })) seen).size = (leftOf es seen).size := by
   rw [hleft, hleft, hlist]
   have e2 : ∀ l : List MapEntry, (l.filter fun e => !seen.contains e.born).length = ((l.map (·.born)).filter fun n => !seen.contains n).length := fun l => by
    rw [List.filter_map, List.length_map]; rfl
   rw [e2, e2, List.map_set]
   congr 2
   apply List.ext_getElem?
   intro i
   rw [List.getElem?_set]
   split
   ·rename_i hij
    subst hij
    rw [List.getElem?_map, h2]
    simp
    exact (List.getElem?_eq_some_iff.1 h2).1
   ·rfl
  refine ⟨w1, hrun1, ⟨left, cnt, ⟨_, _, since, seen, c0, hb1, F1, hs1, hD1, hrr, fun x hx => ?_, hcnt.trans hc, fun x hx => ?_, fun kl hkl => ?_, hsc, hsk⟩, ?_⟩, hT1, ?_⟩
  ·rw [hlist] at hx
   obtain ⟨y, hy, e1, _⟩ := who x hx
   rw [<- e1]
   exact hold y hy
  ·obtain ⟨y, hy, e1, e2⟩ := who x (hlist ▸ hx)
   rw [keyL x hx y hy e2, <- e1]
   exact hl1 y hy
  ·obtain ⟨y, hy, rfl⟩ := hl2 kl hkl
   obtain ⟨x, hx, e1, e2⟩ := who2 y hy
   rw [<- hlist] at hx
   exact ⟨x, hx, keyL x hx y hy e2⟩
  ·-- what is still to come is not at that key
   have hlk : left (.int .i64 k) = false := by
    cases e : left (.int .i64 k)
    ·rfl
    ·exfalso
     obtain ⟨x, hx⟩ := Option.isSome_iff_exists.1 hm
     unfold mget at hx
     obtain ⟨p, hp, _⟩ := Option.map_eq_some_iff.1 hx
     have h4 : p.1 = k := by simpa using List.find?_some hp
     exact hps p (by rw [hl]; exact List.mem_filter.2 ⟨List.mem_of_find?_eq_some hp, by rw [h4]; exact e⟩) h4
   have hins : ∀ l : Pl, (mins (k, v) l).filter (fun p => left (.int .i64 p.1)) = l.filter fun p => left (.int .i64 p.1) := by
    intro l
    induction l with
    | nil => simp [mins, hlk]
    | cons y q ih =>
     unfold mins
     split
     ·rw [List.filter_cons]; simp [hlk]
     ·rw [List.filter_cons, List.filter_cons, ih]
   rw [hl, mput, hins, mdel, List.filter_filter]
   apply List.filter_congr
   intro p _
   by_cases e : p.1 = k
   ·simp [e, hlk]
   ·simp [e]
  ·unfold World.rangeLeft
   rw [hb1, hrr, hb, hr]
   exact hcnt
end Go.Proofs.YtcmmhfjnhlaepabGreatDoor.S8
namespace Go.Proofs.YtcmmhfjnhlaepabGreatDoor.S8
open Go Go.RowKit Go.Maps Gp Pg We
theorem mget_cons (p : Int × Int) (r : Pl) (k : Int) : mget (p :: r) k = if p.1 = k then some p.2 else mget r k := by
 unfold mget
 rw [List.find?_cons]
 by_cases h : p.1 = k <;> simp [h]
theorem mget_mins_ne {k v a : Int} (h : a ≠ k) : ∀ m : Pl, mget (mins (k, v) m) a = mget m a
 | [] => by
  unfold mins
  rw [mget_cons, if_neg (fun e => h e.symm)]
 | y :: r => by
  unfold mins
  split
  ·rw [mget_cons, if_neg (fun e => h e.symm)]
  ·rw [mget_cons, mget_cons, mget_mins_ne h r]
theorem mget_del_ne {k a : Int} (h : a ≠ k) : ∀ m : Pl, mget (mdel m k) a = mget m a
 | [] => rfl
 | y :: r => by
  unfold mdel
  rw [List.filter_cons]
  by_cases e : y.1 = k
  ·simp only [e, decide_true, Bool.not_true, Bool.false_eq_true, if_false]
   rw [mget_cons, if_neg (by rw [e]; exact fun e => h e.symm)]
   exact mget_del_ne h r
  ·simp only [e, decide_false, Bool.not_false, if_true]
   rw [mget_cons, mget_cons]
   have := mget_del_ne h r
   unfold mdel at this
   rw [this]
theorem mget_none_iff (m : Pl) (k : Int) : mget m k = none ↔ ∀ p ∈ m, p.1 ≠ k := by
 unfold mget
 rw [Option.map_eq_none_iff, List.find?_eq_none]
 simp
theorem mget_del_same (m : Pl) (k : Int) : mget (mdel m k) k = none := (mget_none_iff _ _).2 (mdel_ne m k)
theorem mget_put_ne {k v a : Int} (h : a ≠ k) (m : Pl) : mget (mput m k v) a = mget m a := by
 unfold mput
 rw [mget_mins_ne h, mget_del_ne h]
theorem mget_mem {m : Pl} {k v : Int} (h : mget m k = some v) : (k, v) ∈ m := by
 unfold mget at h
 obtain ⟨p, hp, rfl⟩ := Option.map_eq_some_iff.1 h
 have h2 : p.1 = k := by simpa using List.find?_some hp
 rw [<- h2]
 exact List.mem_of_find?_eq_some hp
theorem up_ne {p : Int × Int} {r : Pl} (h : Up (p :: r)) : ∀ q ∈ r, q.1 ≠ p.1 := fun q hq e => by
 have := (List.pairwise_cons.1 h).1 q hq
 omega
theorem mem_mget {m : Pl} (hu : Up m) {k v : Int} (h : (k, v) ∈ m) : mget m k = some v := by
 induction m with
 | nil => cases h
 | cons p r ih =>
  rw [mget_cons]
  rcases List.mem_cons.1 h with e | e
  ·subst e; simp
  ·rw [if_neg (fun e2 => up_ne hu _ e e2.symm), ih (List.pairwise_cons.1 hu).2 e]
theorem up_sub {m r : Pl} (h : Up m) (hs : r.Sublist m) : Up r := h.sublist hs
theorem mdel_sub (m : Pl) (k : Int) : (mdel m k).Sublist m := List.filter_sublist
theorem up_len {lo hi : Int} : ∀ {m : Pl}, Up m -> (∀ p ∈ m, lo <= p.1 /\ p.1 <= hi) -> (m.length : Int) <= max 0 (hi - lo + 1)
 | [], _, _ => by simp; omega
 | p :: r, hu, h => by
  have hp := h p (by simp)
  have := up_len (lo := p.1 + 1) (hi := hi) (List.pairwise_cons.1 hu).2 (fun q hq => ⟨by have := (List.pairwise_cons.1 hu).1 q hq; omega, (h q (by simp [hq])).2⟩)
  rw [List.length_cons]
  omega
def cntP (m : Pl) (a : Int) : Nat := (m.filter fun p => decide (p.2 = a)).length
theorem cntP_nil (a : Int) : cntP [] a = 0 := rfl
theorem cntP_cons (p : Int × Int) (r : Pl) (a : Int) : cntP (p :: r) a = (if p.2 = a then 1 else 0) + cntP r a := by
 unfold cntP
 rw [List.filter_cons]
 by_cases h : p.2 = a <;> simp [h]; omega
theorem mdel_none {m : Pl} {k : Int} (h : ∀ p ∈ m, p.1 ≠ k) : mdel m k = m := List.filter_eq_self.2 (fun p hp => by simp [h p hp])
theorem mdel_cons (p : Int × Int) (r : Pl) (k : Int) : mdel (p :: r) k = if p.1 = k then mdel r k else p :: mdel r k := by
 unfold mdel
 rw [List.filter_cons]
 by_cases h : p.1 = k <;> simp [h]
theorem cntP_del {m : Pl} (hu : Up m) {k c : Int} (h : (k, c) ∈ m) (a : Int) : cntP m a = (if c = a then 1 else 0) + cntP (mdel m k) a := by
 induction m with
 | nil => cases h
 | cons p r ih =>
  rcases List.mem_cons.1 h with e | e
  ·subst e
   rw [cntP_cons, mdel_cons]
   simp only [if_true]
   rw [mdel_none (fun q hq => up_ne hu q hq)]
  ·have hne : p.1 ≠ k := fun e2 => up_ne hu _ e e2.symm
   rw [cntP_cons, mdel_cons, if_neg hne, cntP_cons, ih (List.pairwise_cons.1 hu).2 e]
   omega
theorem cntP_ins (x : Int × Int) (a : Int) : ∀ m : Pl, cntP (mins x m) a = (if x.2 = a then 1 else 0) + cntP m a
 | [] => by unfold mins; rw [cntP_cons]
 | y :: r => by
  unfold mins
  split
  ·rw [cntP_cons]
  ·rw [cntP_cons, cntP_ins x a r, cntP_cons]; omega
theorem cntP_put (m : Pl) (k c a : Int) : cntP (mput m k c) a = (if c = a then 1 else 0) + cntP (mdel m k) a := cntP_ins _ _ _
theorem cntP_le (m : Pl) (a : Int) : cntP m a <= m.length := List.length_filter_le _ _
structure RefsIs (m : Pl) (f : Int -> Nat) : Prop where
 get : ∀ a, mget m a = if f a = 0 then none else some (f a : Int)
 rng : ∀ a, f a ≠ 0 -> 0 <= a /\ a <= 2000
 top : ∀ a, f a <= 100000
theorem RefsIs.val {m f} (h : RefsIs m f) (a : Int) : (mget m a).getD 0 = (f a : Int) := by
 rw [h.get]
 by_cases e : f a = 0 <;> simp [e]
theorem RefsIs.len {m f} (h : RefsIs m f) (hu : Up m) : m.length <= 2001 := by
 have := up_len (lo := 0) (hi := 2000) hu (fun p hp => by
  have hg := mem_mget hu (k := p.1) (v := p.2) hp
  refine h.rng p.1 (fun e => ?_)
  rw [h.get, if_pos e] at hg
  cases hg)
 omega
theorem RefsIs.leave {m f} (h : RefsIs m f) {c : Int} (hc : 1 <= f c) : RefsIs (lvm m c) (fun a => if a = c then f a - 1 else f a) := by
 refine ⟨fun a => ?_, fun a => ?_, fun a => ?_⟩
 ·unfold lvm
  rw [h.val]
  by_cases e : a = c
  ·subst e
   simp only [if_true]
   by_cases e1 : f a = 1
   ·rw [if_pos (by omega), if_pos (by omega), mget_del_same]
   ·rw [if_neg (by omega), if_neg (by omega), mget_put]
    congr 1; omega
  ·simp only [e, if_false]
   split
   ·rw [mget_del_ne e, mget_put_ne e, h.get]
   ·rw [mget_put_ne e, h.get]
 ·have := h.rng a
  split <;> (intro h1; exact this (by omega))
 ·have := h.top a
  split <;> omega
theorem RefsIs.inc {m f} (h : RefsIs m f) {A : Int} (hA : 0 <= A /\ A <= 2000) (ht : f A < 100000) : RefsIs (mput m A ((mget m A).getD 0 + 1)) (fun a => if a = A then f a + 1 else f a) := by
 refine ⟨fun a => ?_, fun a => ?_, fun a => ?_⟩
 ·rw [h.val]
  by_cases e : a = A
  ·subst e
   simp only [if_true]
   rw [mget_put, if_neg (by omega)]
   congr 1
  ·simp only [e, if_false]
   rw [mget_put_ne e, h.get]
 ·by_cases e : a = A
  ·subst e; intro _; exact hA
  ·simp only [e, if_false]; exact h.rng a
 ·by_cases e : a = A
  ·subst e; simp only [if_true]; omega
  ·simp only [e, if_false]; exact h.top a
theorem RefsIs.congr {m f g} (h : RefsIs m f) (e : ∀ a, f a = g a) : RefsIs m g := by
 have : f = g := funext e
 subst this; exact h
theorem up_ext : ∀ {m n : Pl}, Up m -> Up n -> (∀ a, mget m a = mget n a) -> m = n
 | [], [], _, _, _ => rfl
 | [], q :: n, _, _, h => by have := h q.1; rw [mget_cons, if_pos rfl] at this; cases this
 | p :: m, [], _, _, h => by have := h p.1; rw [mget_cons, if_pos rfl] at this; cases this
 | p :: m, q :: n, hu, hv, h => by
  have hlt1 := (List.pairwise_cons.1 hu).1
  have hlt2 := (List.pairwise_cons.1 hv).1
  have hk : p.1 = q.1 := by
   rcases Int.lt_trichotomy p.1 q.1 with h1 | h1 | h1
   ·have := h p.1
    rw [mget_cons, if_pos rfl, mget_cons, if_neg (by omega)] at this
    have h2 := mget_mem this.symm
    have := hlt2 _ h2
    simp only at this; omega
   ·exact h1
   ·have := h q.1
    rw [mget_cons, if_neg (by omega), mget_cons, if_pos rfl] at this
    have h2 := mget_mem this
    have := hlt1 _ h2
    simp only at this; omega
  have hv2 : p.2 = q.2 := by
   have := h p.1
   rw [mget_cons, if_pos rfl, mget_cons, if_pos hk.symm] at this
   exact Option.some.inj this
  have hpq : p = q := Prod.ext hk hv2
  subst hpq
  rw [up_ext (List.pairwise_cons.1 hu).2 (List.pairwise_cons.1 hv).2 (fun a => ?_)]
  by_cases e : a = p.1
  ·subst e
   rw [(mget_none_iff m p.1).2 (up_ne hu), (mget_none_iff n p.1).2 (up_ne hv)]
  ·have := h a
   rwa [mget_cons, mget_cons, if_neg (fun e2 => e e2.symm), if_neg (fun e2 => e e2.symm)] at this
theorem up_mins {k v : Int} : ∀ {m : Pl}, Up m -> (∀ p ∈ m, p.1 ≠ k) -> Up (mins (k, v) m)
 | [], _, _ => by simp [mins, Up]
 | y :: r, hu, hn => by
  unfold mins
  have hy := hn y (by simp)
  have h1 := List.pairwise_cons.1 hu
  split
  ·rename_i hl
   refine List.pairwise_cons.2 ⟨fun q hq => ?_, hu⟩
   rcases List.mem_cons.1 hq with rfl | hq
   ·exact hl
   ·have := h1.1 q hq; simp only at hl |-; omega
  ·rename_i hl
   have ih := up_mins (k := k) (v := v) h1.2 (fun p hp => hn p (by simp [hp]))
   refine List.pairwise_cons.2 ⟨fun q hq => ?_, ih⟩
   have hmem : ∀ (l : Pl), q ∈ mins (k, v) l -> q = (k, v) \/ q ∈ l := by
    intro l
    induction l with
    | nil => intro h; simpa [mins] using h
    | cons z t ih2 =>
     unfold mins
     split
     ·intro h
      rcases List.mem_cons.1 h with h | h
      ·exact .inl h
      ·exact .inr h
     ·intro h
      rcases List.mem_cons.1 h with h | h
      ·exact .inr (by simp [h])
      ·rcases ih2 h with h | h
       ·exact .inl h
       ·exact .inr (by simp [h])
   rcases hmem r hq with rfl | h
   ·simp only at hl |-; omega
   ·exact h1.1 q h
theorem up_put {m : Pl} (h : Up m) (k v : Int) : Up (mput m k v) := up_mins (up_sub h (mdel_sub m k)) (mdel_ne m k)
theorem up_del {m : Pl} (h : Up m) (k : Int) : Up (mdel m k) := up_sub h (mdel_sub m k)
end Go.Proofs.YtcmmhfjnhlaepabGreatDoor.S8
namespace Go.Proofs.YtcmmhfjnhlaepabGreatDoor.S8
open Go Go.RowKit Go.Maps Gp Pg We
theorem isp_perm (x : Sp) : ∀ l : List Sp, (isp x l).Perm (x :: l)
 | [] => List.Perm.refl _
 | y :: r => by
  unfold isp
  split
  ·exact List.Perm.refl _
  ·exact ((isp_perm x r).cons y).trans (List.Perm.swap x y r)
theorem maps_isp (s : St) (x : Sp) : (maps { s with sp := isp x s.sp }).Perm (x.pb :: maps s) := by
 have h := (isp_perm x s.sp).map (·.pb)
 simp only [maps, List.map_cons] at h |-
 exact ((((h.cons _).cons _).cons _).cons _).trans (List.perm_middle (l₁ := [s.bS, s.bR, s.bB, s.bW]) (a := x.pb) (l₂ := s.sp.map Sp.pb))
theorem foot_isp (s : St) (x : Sp) : ∀ i, i ∈ foot { s with sp := isp x s.sp } ↔ i = x.sb \/ i = x.pb \/ i ∈ foot s := by
 intro i
 have h1 := ((isp_perm x s.sp).map (·.sb)).mem_iff (a := i)
 have h2 := (maps_isp s x).mem_iff (a := i)
 rw [List.map_cons] at h1
 simp only [foot, List.mem_cons, List.mem_append] at h1 h2 |-
 rw [h2, h1]
 constructor
 ·rintro (h | (h | h) | h | h)
  ·exact .inr (.inr (.inl h))
  ·exact .inl h
  ·exact .inr (.inr (.inr (.inl h)))
  ·exact .inr (.inl h)
  ·exact .inr (.inr (.inr (.inr h)))
 ·rintro (h | h | h | h | h)
  ·exact .inr (.inl (.inl h))
  ·exact .inr (.inr (.inl h))
  ·exact .inl h
  ·exact .inr (.inl (.inr h))
  ·exact .inr (.inr (.inr h))
theorem StAt.addT {w w' : World} {s : St} {x : Sp} (h : StAt w s) (hg : gsp s.sp x.id = none) (hx : SpAt w x) (n1 : x.sb ∉ foot s) (n2 : x.pb ∉ foot s) (hm : Mp elP w' s.bS (mput (spm s.sp) x.id x.sb)) (q : w.mapTurned w' s.bS) : StAt w' { s with sp := isp x s.sp } := by
 obtain ⟨a1, a2, a3, a4, a5, a6, a7, a8⟩ := h.ap
 refine ⟨turned_cells h.hS q h.hp, ?_, h.hR.kept q a1.symm, h.hB.kept q a2.symm, h.hW.kept q a3.symm, fun y hy => ?_, ?_, ?_⟩
 ·rw [spm_add x s.sp hg] at hm
  exact hm
 ·rcases List.mem_cons.1 ((isp_perm x s.sp).mem_iff.1 hy) with rfl | hy
  ·exact hx.turned h.hS q (fun e => n2 (by rw [e]; exact mem_bS s))
  ·exact (h.hsp y hy).turned h.hS q (a7 y hy).1
 ·refine (maps_isp s x).nodup_iff.2 (List.nodup_cons.2 ⟨fun hm => n2 (by simp [foot, hm]), h.nd⟩)
 ·refine ((isp_perm x s.sp).map (·.sb)).nodup_iff.2 (List.nodup_cons.2 ⟨fun hm => n1 (by simp only [foot, List.mem_cons, List.mem_append]; exact .inr (.inl hm)), h.nds⟩)
theorem foot_dsp (s : St) (id : Int) (r : Pl) : ∀ i ∈ foot { s with sp := dsp s.sp id, refs := r }, i ∈ foot s := by
 intro i hi
 simp only [foot, maps, dsp, List.mem_cons, List.mem_append, List.mem_map, List.mem_filter] at hi |-
 rcases hi with h | ⟨x, hx, h⟩ | h | h | h | h | ⟨x, hx, h⟩
 ·exact .inl h
 ·exact .inr (.inl ⟨x, hx.1, h⟩)
 ·exact .inr (.inr (.inl h))
 ·exact .inr (.inr (.inr (.inl h)))
 ·exact .inr (.inr (.inr (.inr (.inl h))))
 ·exact .inr (.inr (.inr (.inr (.inr (.inl h)))))
 ·exact .inr (.inr (.inr (.inr (.inr (.inr ⟨x, hx.1, h⟩)))))
theorem StAt.dropT {w w' : World} {s : St} {id : Int} (h : StAt w s) (hm : Mp elP w' s.bS (mdel (spm s.sp) id)) (q : w.mapTurned w' s.bS) : StAt w' { s with sp := dsp s.sp id } := by
 obtain ⟨a1, a2, a3, a4, a5, a6, a7, a8⟩ := h.ap
 have hsub : (dsp s.sp id).Sublist s.sp := List.filter_sublist
 refine ⟨turned_cells h.hS q h.hp, ?_, h.hR.kept q a1.symm, h.hB.kept q a2.symm, h.hW.kept q a3.symm, fun y hy => (h.hsp y (hsub.subset hy)).turned h.hS q (a7 y (hsub.subset hy)).1, ?_, h.nds.sublist (hsub.map _)⟩
 ·rw [spm_del] at hm
  exact hm
 ·refine h.nd.sublist ?_
  exact (((((hsub.map _).cons_cons _).cons_cons _).cons_cons _).cons_cons _)
theorem Ch.added {w w1 w2 : World} {s s' : St} {b : Nat} {g1 g2 : Nat} (q1 : Below w.heap.size w w1) (q2 : w1.mapTurned w2 b) (hb : b ∈ foot s) (hf : ∀ i ∈ foot s', i = g1 \/ i = g2 \/ i ∈ foot s) (h1 : w.heap.size <= g1) (h2 : w.heap.size <= g2) (hp : s'.p = s.p := by rfl) : Ch w w2 s s' := by
 have g := q2.grown
 refine ⟨g.os.trans q1.os, g.tape.trans q1.tape, g.output.trans q1.output, Nat.le_trans q1.size g.size, fun i hi hn => (g.block i (Nat.lt_of_lt_of_le hi q1.size) (fun e => hn (by cases e; exact hb))).trans (q1.block i hi), fun i hi => ?_, hp⟩
 rcases hf i hi with rfl | rfl | h
 ·exact .inr h1
 ·exact .inr h2
 ·exact .inl h
theorem Ch.step {w wr w2 : World} {s : St} {r : Nat} (c : Ch w wr s s) (g : wr.grownBy w2 (some r)) (hr : w.heap.size <= r) : Ch w w2 s s :=
 ⟨g.os.trans c.os, g.tape.trans c.tape, g.output.trans c.output, Nat.le_trans c.size g.size, fun i hi hn => (g.block i (Nat.lt_of_lt_of_le hi c.size) (by simp; omega)).trans (c.block i hi hn), fun _ h => .inl h, rfl⟩
theorem StAt.step {w wr w2 : World} {s s' : St} {r : Nat} (h : StAt wr s') (hs : StAt w s) (hf : foot s' = foot s) (g : wr.grownBy w2 (some r)) (hr : w.heap.size <= r) : StAt w2 s' :=
 h.frame fun i hi => g.block i (h.foot_lt i hi) (by have := hs.foot_lt i (hf ▸ hi); simp; omega)
theorem add_some {w s} (h : StAt w s) {x : Sp} {q : Int} (hk : K64 x.id) (hg : gsp s.sp x.id = some x) :
  Calls Tryz.prog 96 #[.pointer (some ⟨s.p, 0, none⟩), .int .i64 x.id, .int .i64 q] w fun e w' => e = .returned (.int .i64 80) /\ w = w' := by
 have c0 := h.c0
 have l0 := h.aSp hk hg
 clear h hg
 go_enter Tryz.func96, Tryz.ntmps96
 go_wp2
 go_ret
 exact ⟨rfl, rfl⟩
def addS (s : St) (x : Sp) : St := { s with sp := isp x s.sp }
set_option maxRecDepth 20000 in
theorem add_none {w s} (h : StAt w s) {id q : Int} (hk : K64 id) (hg : gsp s.sp id = none) (hn : s.sp.length < 1000) :
  Calls Tryz.prog 96 #[.pointer (some ⟨s.p, 0, none⟩), .int .i64 id, .int .i64 q] w fun e w' => e = .returned (.int .i64 0) /\ ∃ sb pb, StAt w' (addS s ⟨id, q, false, [], sb, pb⟩) /\ Ch w w' s (addS s ⟨id, q, false, [], sb, pb⟩) := by
 have c0 := h.c0
 have l0 := h.noSp hk hg
 have hpl := h.lt
 have hmm := @run_makeMap Tryz.prog
 have H := Hid.mk (And.intro h (And.intro hg hn))
 clear h hg hn
 go_enter Tryz.func96, Tryz.ntmps96
 go_upto_region 3 with fail
 have a0 := H.out.1.alloc (.map #[] 0)
 have a1 := a0.alloc (.cells #[.int .i64 q, .bool false, .map (some w.heap.size)] 133)
 have a2 : SpAt ((w.alloc (.map #[] 0)).alloc (.cells #[.int .i64 q, .bool false, .map (some w.heap.size)] 133)) ⟨id, q, false, [], w.heap.size + 1, w.heap.size⟩ := by
  refine ⟨?_, (Mp.made w elI).alloc _⟩
  have := heap_alloc_new (w.alloc (.map #[] 0)) (.cells #[.int .i64 q, .bool false, .map (some w.heap.size)] 133)
  rw [size_alloc] at this
  exact this
 have a3 := below_two w (.map #[] 0) (.cells #[.int .i64 q, .bool false, .map (some w.heap.size)] 133)
 have b1 : (spm s.sp).length < 1000000 := by simp only [spm, List.length_map]; have := H.out.2.2; omega
 have A := Hid.mk (And.intro a1 (And.intro a2 a3))
 clear a0 a1 a2 a3
 go_wp2_with (first | (at_mapUpdate; refine wp_put _ rfl _ _ _ 128 127 rfl Tryz.underlying128 A.out.1.hS b1 id _ _ rfl rfl rfl hk rfl ?_; intro w2 m2 t2))
 go_ret
 have hlt := H.out.1.foot_lt
 have n1 : w.heap.size + 1 ∉ foot s := fun hm => by have := hlt _ hm; omega
 have n2 : w.heap.size ∉ foot s := fun hm => by have := hlt _ hm; omega
 refine ⟨rfl, w.heap.size + 1, w.heap.size, A.out.1.addT (x := ⟨id, q, false, [], w.heap.size + 1, w.heap.size⟩) H.out.2.1 A.out.2.1 n1 n2 m2 t2, ?_⟩
 exact Ch.added A.out.2.2 t2 (mem_bS s) (fun i hi => (foot_isp s _ i).1 hi) (Nat.le_succ _) (Nat.le_refl _)
/-! drop -/
theorem drop_none {w s} (h : StAt w s) {id : Int} (hk : K64 id) (hg : gsp s.sp id = none) :
  Calls Tryz.prog 97 #[.pointer (some ⟨s.p, 0, none⟩), .int .i64 id] w fun e w' => e = .returned (.int .i64 80) /\ w = w' := by
 have c0 := h.c0
 have l0 := h.noSp hk hg
 clear h
 go_enter Tryz.func97, Tryz.ntmps97
 go_wp2
 go_ret
 exact ⟨rfl, rfl⟩
def dropS (s : St) (id : Int) (m : Pl) : St := { s with sp := dsp s.sp id, refs := m }
def DrS (w : World) (s : St) (x : Sp) (F : Int -> Nat) (r : Nat) (rest : Pl) (M : Pl) (wr : World) : Prop :=
 Rg elI wr x.pb r x.ps rest /\ rest.Sublist x.ps /\ StAt wr { s with refs := M } /\ RefsIs M (fun a => F a + cntP rest a) /\ Ch w wr s s /\ w.heap.size <= r
set_option maxRecDepth 20000 in
theorem drop_some {w s} (h : StAt w s) {x : Sp} {F : Int -> Nat} (hk : K64 x.id) (hg : gsp s.sp x.id = some x) (hF : RefsIs s.refs (fun a => F a + cntP x.ps a)) (hA : ∀ p ∈ x.ps, 0 <= p.2 /\ p.2 <= 2000) :
  Calls Tryz.prog 97 #[.pointer (some ⟨s.p, 0, none⟩), .int .i64 x.id] w fun e w' => e = .returned (.int .i64 0) /\ ∃ M, StAt w' (dropS s x.id M) /\ RefsIs M F /\ Ch w w' s (dropS s x.id M) := by
 have c0 := h.c0
 have l0 := h.aSp hk hg
 have hX := h.hsp x (gsp_some hg).1
 have q2 := hX.pb
 have H := Hid.mk (And.intro h (And.intro hg (And.intro hX (And.intro hF hA))))
 clear h hX hg hF hA
 go_enter Tryz.func97, Tryz.ntmps97
 go_upto_region 5 with (first | (at_range; refine wp_range _ rfl _ 129 3 rfl Tryz.underlying129 H.out.2.2.1.2 rfl ?_; intro w1 r1 b1 z1))
 go_frame
 have S0 : DrS w s x F w.heap.size x.ps s.refs w1 := ⟨r1, List.Sublist.refl _, H.out.1.call b1, H.out.2.2.2.1, Ch.call b1, Nat.le_refl _⟩
 replace S0 := Hid.mk S0
 clear r1 b1 z1 c0 l0 q2
 generalize hr : w.heap.size = r at *
 replace hr := Hid.mk hr
 go_loopw [7] (fun _ wr => ∃ rest M, DrS w s x F r rest M wr) (fun _ wr => wr.rangeLeft x.pb r)
 case atStart => exact ⟨_, _, S0.out⟩
 case round =>
  clear S0
  obtain ⟨rest, M, hs⟩ := hrel
  have HS := Hid.mk hs
  clear hs
  go_wp2_with (first | (at_next; refine wp_next _ rfl _ rfl HS.out.1 rfl ?_ ?_))
  ·intro hd
   subst hd
   have e0 := HS.out.2.2.1.c0
   go_wp2_with (first | (at_delete; refine wp_del _ rfl _ _ 128 127 rfl Tryz.underlying128 HS.out.2.2.1.hS x.id rfl rfl hk ?_; intro w2 m2 t2))
   go_ret
   refine ⟨rfl, M, HS.out.2.2.1.dropT m2 t2, HS.out.2.2.2.1, HS.out.2.2.2.2.1.trans ?_⟩
   have g := t2.grown
   exact ⟨g.os, g.tape, g.output, g.size, fun i hi hn => g.block i hi (fun e => hn (by cases e; exact mem_bS s)), fun i hi => .inl (foot_dsp s _ _ i hi), rfl⟩
  ·intro k c w2 hm hk2 hrg hlt hgr hsz hen
   have g2 := HS.out.2.2.1.step H.out.1 rfl hgr HS.out.2.2.2.2.2
   have hu : Up rest := up_sub H.out.2.2.1.2.up HS.out.2.1
   have hc := H.out.2.2.2.2 _ (HS.out.2.1.subset hm)
   have hkc : K64 c := k64 (by simp only at hc; omega) (by simp only at hc; omega)
   have hcn := cntP_del hu hm
   have f1 := HS.out.2.2.2.1
   have hlv : Calls Tryz.prog 148 #[.pointer (some ⟨s.p, 0, none⟩), .int .i64 c] w2 fun e w' => e = .returned (.tuple #[]) /\ Mp elI w' s.bR (lvm M c) /\ w2.mapTurned w' s.bR :=
    leave_any g2 hkc (by show (0 : Int) <= (mget M c).getD 0; rw [f1.val]; omega) (by show (mget M c).getD 0 <= (1000000 : Int); rw [f1.val]; have := f1.top c; omega) (by show (M : Pl).length < 1000000; have := f1.len HS.out.2.2.1.hR.up; omega)
   have f2 := (f1.leave (c := c) (by rw [hcn c]; simp; omega)).congr (g := fun a => F a + cntP (mdel rest k) a) (fun a => by
    rw [hcn a]
    by_cases e : a = c
    ·subst e; simp; omega
    ·rw [if_neg e, if_neg (fun e2 => e e2.symm)]; omega)
   have hne : x.pb ≠ s.bR := (H.out.1.ap.2.2.2.2.2.2.1 x (gsp_some H.out.2.1).1).2.1
   have hr2 : r ≠ s.bR := fun e => by have := H.out.1.hR.lt; have := HS.out.2.2.2.2.2; omega
   have HL := Hid.mk hlv
   have HG := Hid.mk (And.intro g2 (And.intro hrg (And.intro hlt (And.intro hgr (And.intro f2 (And.intro hne hr2))))))
   clear hlv g2 hu hc hcn f1 f2 hrg hlt hgr hne hr2 hsz hm
   go_wp2_with (first | (go_at_call 148; refine HL.out.mono ?_; rintro e w3 ⟨rfl, m3, t3⟩))
   have e1 := t3.grown.block x.pb HG.out.2.1.mp.lt (by simpa using HG.out.2.2.2.2.2.1)
   have e2 := t3.grown.block r HG.out.2.1.lt (by simpa using HG.out.2.2.2.2.2.2)
   refine ⟨⟨_, _, HG.out.2.1.same e1 e2, (mdel_sub _ _).trans HS.out.2.1, HG.out.1.refsT m3 t3, HG.out.2.2.2.2.1, (HS.out.2.2.2.2.1.step HG.out.2.2.2.1 HS.out.2.2.2.2.2).trans (Ch.turned t3 (mem_bR s) rfl rfl), HS.out.2.2.2.2.2⟩, ?_⟩
   rw [left_same e1 e2]
   exact HG.out.2.2.1
end Go.Proofs.YtcmmhfjnhlaepabGreatDoor.S8
