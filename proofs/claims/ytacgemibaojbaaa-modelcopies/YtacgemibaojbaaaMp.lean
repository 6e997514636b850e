/-
  Maps of this program: keys are numbers, elements are coded as numbers; what look-ups, stores and deletes answer and leave, said over a plain list of pairs. No condition.
-/
import Derived.Test.YtacgemibaojbaaaOwn
import Derived.Test.YtacgemibaojbaaaChecked
import Derived.Maps.RangeWalk
import Derived.Maps.Ext
namespace Go.Proofs.Ytacgemibaojbaaa
open Go Go.RowKit Go.Maps

abbrev Pl := List (Int × Int)
abbrev Rdr := Value → Option (DataW Unit × List MemPlace)
def dI (x : Int) : DataW Unit := .lit (.int .i64 x)
/-- a space's number: its quota, whether it is sealed, the block of its pages -/
def cS (x : Int × Bool × Nat) : Int := x.1 + (if x.2.1 then 2048 else 0) + 4096 * (x.2.2 : Int)
/-- how an element reads: a space, a page (which put, and what that says), nothing -/
def elS : Rdr
  | .agg ⟨[.int .i64 q, .bool s, .map (some b)]⟩ => if 0 ≤ q ∧ q < 2048 then some (dI (cS (q, s, b)), []) else none
  | .agg ⟨[.int .i64 0, .bool false, .map none]⟩ => some (dI (-1), [])
  | _ => none
def elL (L : Int → ByteArray) : Rdr
  | .agg ⟨[.int .i64 p, .string t]⟩ => if (p = 0 ∧ t = ByteArray.empty) ∨ (1 ≤ p ∧ t = L p) then some (dI p, []) else none
  | _ => none
def elU : Rdr
  | .agg cs => if cs.size = 0 then some (dI 0, []) else none
  | _ => none
theorem elS_mk {q : Int} {s : Bool} {b : Nat} (h : 0 ≤ q ∧ q < 2048) : elS (.agg #[.int .i64 q, .bool s, .map (some b)]) = some (dI (cS (q, s, b)), []) := by
  show (if 0 ≤ q ∧ q < 2048 then _ else _) = _
  rw [if_pos h]
theorem elS_zero : elS (.agg #[.int .i64 0, .bool false, .map none]) = some (dI (-1), []) := rfl
theorem dI_inj {x y : Int} (h : dI x = dI y) : x = y := by unfold dI at h; simpa using h
theorem elS_inv {v : Value} {z} (h : elS v = some z) : (v = .agg #[.int .i64 0, .bool false, .map none] ∧ z = (dI (-1), [])) ∨ ∃ (q : Int) (s : Bool) (b : Nat), (0 ≤ q ∧ q < 2048) ∧ v = .agg #[.int .i64 q, .bool s, .map (some b)] ∧ z = (dI (cS (q, s, b)), []) := by
  unfold elS at h
  split at h
  · split at h
    · rename_i q s b hq
      cases h
      exact .inr ⟨q, s, b, hq, rfl, rfl⟩
    · cases h
  · cases h; exact .inl ⟨rfl, rfl⟩
  · cases h
theorem cS_inj {q q' : Int} {s s' : Bool} {b b' : Nat} (h : 0 ≤ q ∧ q < 2048) (h' : 0 ≤ q' ∧ q' < 2048) (e : cS (q, s, b) = cS (q', s', b')) : q = q' ∧ s = s' ∧ b = b' := by
  unfold cS at e
  simp only at e
  cases s <;> cases s' <;> simp at e <;> (refine ⟨by omega, by first | rfl | omega, by omega⟩)
theorem cS_pos {q : Int} {s : Bool} {b : Nat} (h : 0 ≤ q ∧ q < 2048) : cS (q, s, b) ≠ -1 := by
  unfold cS
  simp only
  split <;> omega
theorem elL_mk {L : Int → ByteArray} {p : Int} (h : 1 ≤ p) : elL L (.agg #[.int .i64 p, .string (L p)]) = some (dI p, []) := by
  show (if (p = 0 ∧ L p = ByteArray.empty) ∨ (1 ≤ p ∧ L p = L p) then _ else _) = _
  rw [if_pos (.inr ⟨h, rfl⟩)]
theorem elL_zero (L : Int → ByteArray) : elL L (.agg #[.int .i64 0, .string ByteArray.empty]) = some (dI 0, []) := by
  show (if ((0 : Int) = 0 ∧ ByteArray.empty = ByteArray.empty) ∨ (1 ≤ (0 : Int) ∧ ByteArray.empty = L 0) then some (dI 0, []) else none) = _
  rw [if_pos (.inl ⟨rfl, rfl⟩)]
theorem elL_inv {L : Int → ByteArray} {v : Value} {z} (h : elL L v = some z) : (v = .agg #[.int .i64 0, .string ByteArray.empty] ∧ z = (dI 0, [])) ∨ ∃ p : Int, 1 ≤ p ∧ v = .agg #[.int .i64 p, .string (L p)] ∧ z = (dI p, []) := by
  unfold elL at h
  split at h
  · split at h
    · rename_i p t hq
      cases h
      rcases hq with ⟨rfl, rfl⟩ | ⟨h1, rfl⟩
      · exact .inl ⟨rfl, rfl⟩
      · exact .inr ⟨p, h1, rfl, rfl⟩
    · cases h
  · cases h
theorem elS_none {v : Value} {ps} (h : elS v = some (dI (-1), ps)) : v = .agg #[.int .i64 0, .bool false, .map none] := by
  rcases elS_inv h with ⟨rfl, _⟩ | ⟨q, s, b, hq, rfl, e⟩
  · rfl
  · simp only [Prod.mk.injEq] at e
    exact absurd (dI_inj e.1).symm (cS_pos hq)
theorem elS_some {v : Value} {ps} {y : Int × Bool × Nat} (h : elS v = some (dI (cS y), ps)) (hy : 0 ≤ y.1 ∧ y.1 < 2048) : v = .agg #[.int .i64 y.1, .bool y.2.1, .map (some y.2.2)] := by
  obtain ⟨q', s', b'⟩ := y
  rcases elS_inv h with ⟨rfl, e⟩ | ⟨q, s, b, hq, rfl, e⟩
  · simp only [Prod.mk.injEq] at e
    exact absurd (dI_inj e.1) (cS_pos hy)
  · simp only [Prod.mk.injEq] at e
    obtain ⟨rfl, rfl, rfl⟩ := cS_inj hq hy (dI_inj e.1).symm
    rfl
theorem elL_none {L : Int → ByteArray} {v : Value} {ps} (h : elL L v = some (dI 0, ps)) : v = .agg #[.int .i64 0, .string ByteArray.empty] := by
  rcases elL_inv h with ⟨rfl, _⟩ | ⟨p, hp, rfl, e⟩
  · rfl
  · simp only [Prod.mk.injEq] at e
    have := dI_inj e.1
    omega
theorem elL_some {L : Int → ByteArray} {v : Value} {ps} {p : Int} (h : elL L v = some (dI p, ps)) (hp : 1 ≤ p) : v = .agg #[.int .i64 p, .string (L p)] := by
  rcases elL_inv h with ⟨rfl, e⟩ | ⟨p', hp', rfl, e⟩
  · simp only [Prod.mk.injEq] at e
    have := dI_inj e.1
    omega
  · simp only [Prod.mk.injEq] at e
    rw [dI_inj e.1]
theorem elU_inv {v : Value} {z} (h : elU v = some z) : v = .agg #[] ∧ z = (dI 0, []) := by
  unfold elU at h
  cases v <;> simp at h
  obtain ⟨h1, rfl⟩ := h
  exact ⟨by rw [h1], rfl⟩

/-! lists of pairs, by their first -/
def mget (m : Pl) (k : Int) : Option Int := (m.find? fun p => decide (p.1 = k)).map (·.2)
def mdel (m : Pl) (k : Int) : Pl := m.filter fun p => !decide (p.1 = k)
def mins (x : Int × Int) : Pl → Pl
  | [] => [x]
  | y :: r => if x.1 < y.1 then x :: y :: r else y :: mins x r
def mput (m : Pl) (k v : Int) : Pl := mins (k, v) (mdel m k)
def kv (p : Int × Int) : Lit × DataW Unit := (.int .i64 p.1, dI p.2)
def dm (m : Pl) : DataW Unit := .map (m.map kv)

theorem kv_same (p : Int × Int) (k : Int) : (kv p).1.sameKey (.int .i64 k) = decide (p.1 = k) := by simp [kv, Lit.sameKey]
theorem dm_del (m : Pl) (k : Int) : (dm m).del (.int .i64 k) = dm (mdel m k) := by
  unfold dm DataW.del mdel
  simp only [List.filter_map, DataW.map.injEq]
  congr 2
  funext p
  simp only [Function.comp, kv_same]
theorem kv_ins (x : Int × Int) : ∀ m : Pl, DataW.insert (kv x) (m.map kv) = (mins x m).map kv
  | [] => rfl
  | y :: r => by
    unfold mins
    rw [List.map_cons]
    unfold DataW.insert
    by_cases h : x.1 < y.1
    · rw [if_pos h, if_pos (by simp [kv, Lit.before, h])]; rfl
    · rw [if_neg h, if_neg (by simp [kv, Lit.before]; omega), kv_ins x r]; rfl
theorem dm_put (m : Pl) (k v : Int) : (dm m).put (.int .i64 k) (dI v) = dm (mput m k v) := by
  have h := dm_del m k
  unfold dm DataW.del at h
  unfold dm DataW.put mput
  simp only [DataW.map.injEq] at h ⊢
  rw [h]
  exact kv_ins (k, v) _
theorem find_kv (m : Pl) (k : Int) : (m.map kv).find? (fun p => p.1.sameKey (.int .i64 k)) = (m.find? fun p => decide (p.1 = k)).map kv := by
  rw [List.find?_map]
  congr 2
  funext p
  simp only [Function.comp, kv_same]
theorem dm_at (m : Pl) (k : Int) (z : DataW Unit) : (dm m).atKey (.int .i64 k) z = match mget m k with | some v => dI v | none => z := by
  unfold dm DataW.atKey mget
  simp only [find_kv]
  cases m.find? (fun p => decide (p.1 = k)) <;> rfl
theorem dm_has (m : Pl) (k : Int) : Maps.has (dm m) (.int .i64 k) = (mget m k).isSome := by
  unfold dm mget
  rw [Maps.has_eq, List.any_map]
  induction m with
  | nil => rfl
  | cons p r ih =>
    rw [List.any_cons, List.find?_cons, ih]
    simp only [Function.comp, kv_same]
    cases decide (p.1 = k) <;> simp
theorem dm_size (m : Pl) : Maps.size (dm m) = m.length := by simp [dm, Maps.size]

theorem law3 : Keyed Try.prog 3 := int_keyed Try.underlying3
/-- a number that an int can be -/
abbrev K64 (k : Int) : Prop := (Lit.int .i64 k).wf = true
theorem k64 {k : Int} (h1 : -9223372036854775808 ≤ k) (h2 : k ≤ 9223372036854775807) : K64 k := WalkArith.wf_i64 (by omega)
theorem key3 {k : Int} (h : K64 k) : keyOf Try.prog 3 (.int .i64 k) = some (.int .i64 k) := keyOf_int_mk Try.underlying3 h

/-- block b is a map of these pairs -/
def Mp (R : Rdr) (w : World) (b : Nat) (m : Pl) : Prop := w.ownsMap Try.prog 3 R b m.length (dm m)
theorem Mp.of {R w b n m} (h : w.ownsMap Try.prog 3 R b n (dm m)) : Mp R w b m := by
  obtain ⟨es, c, hb, F, hs, hD⟩ := h
  refine ⟨es, c, hb, F, ?_, hD⟩
  have := congrArg Maps.size hD
  rw [dm_size] at this
  simp [Maps.size, length_sorted] at this
  omega
theorem Mp.lt {R w b m} (h : Mp R w b m) : b < w.heap.size := World.ownsMap.lt h
theorem Mp.same {R} {w w' : World} {b m} (h : Mp R w b m) (e : w'.heap[b]? = w.heap[b]?) : Mp R w' b m := by
  obtain ⟨es, c, hb, r⟩ := h
  exact ⟨es, c, e.trans hb, r⟩
theorem Mp.drew {R w b m} (h : Mp R w b m) : Mp R w.drew b m := h
theorem Mp.alloc {R} {w : World} {b m} (h : Mp R w b m) (o : Obj) : Mp R (w.alloc o) b m := World.ownsMap.alloc h o
theorem Mp.call {R} {w w' : World} {b m} (h : Mp R w b m) (q : Below w.heap.size w w') : Mp R w' b m := h.same (q.block b h.lt)
theorem Mp.other {R} {w : World} {b m} (h : Mp R w b m) {a : Addr} (ha : a.block ≠ b) (x : Value) : Mp R (w.setCell a x) b m := World.ownsMap.setCell h (fun e => ha e.symm) x
theorem Mp.kept {R} {w w' : World} {b g m} (h : Mp R w b m) (q : w.mapTurned w' g) (hne : b ≠ g) : Mp R w' b m := h.same (q.grown.block b h.lt (by simpa using hne))
theorem Mp.made (w : World) (R : Rdr) : Mp R (w.alloc (.map #[] 0)) w.heap.size [] := World.ownsMap_made w Try.prog 3 R
theorem Mp.obj {R w b m} (h : Mp R w b m) : ∃ es c, w.heap[b]? = some (.map es c) := by
  obtain ⟨es, c, hb, _⟩ := h
  exact ⟨es, c, hb⟩
/-- keys rise -/
def Up (m : Pl) : Prop := m.Pairwise fun p q => p.1 < q.1
theorem Mp.up {R w b m} (h : Mp R w b m) : Up m := by
  obtain ⟨es, e, hp, _⟩ := World.ownsMap.canon h law3
  unfold dm at e
  simp only [DataW.map.injEq] at e
  subst e
  rw [List.pairwise_map] at hp
  exact hp.imp (fun h => by simpa [kv, Lit.before] using h)

theorem zero3 (w : World) : (zeroValue 3).run Try.prog w = .ok (.int .i64 0) w := by kernel_rfl
theorem zero97 (w : World) : (zeroValue 97).run Try.prog w = .ok (.agg #[.int .i64 0, .bool false, .map none]) w := by kernel_rfl
theorem zero75 (w : World) : (zeroValue 75).run Try.prog w = .ok (.agg #[.int .i64 0, .string ByteArray.empty]) w := by kernel_rfl
/-- a space as its map has it -/
def svS (x : Option (Int × Bool × Nat)) : Value := match x with | some (q, s, b) => .agg #[.int .i64 q, .bool s, .map (some b)] | none => .agg #[.int .i64 0, .bool false, .map none]
def svL (L : Int → ByteArray) (x : Option Int) : Value := match x with | some p => .agg #[.int .i64 p, .string (L p)] | none => .agg #[.int .i64 0, .string ByteArray.empty]
theorem mget_mem' {m : Pl} {k v : Int} (h : mget m k = some v) : (k, v) ∈ m := by
  unfold mget at h
  obtain ⟨p, hp, rfl⟩ := Option.map_eq_some_iff.1 h
  have h2 : p.1 = k := by simpa using List.find?_some hp
  rw [← h2]
  exact List.mem_of_find?_eq_some hp
theorem Mp.lookS {w : World} {b m} (h : Mp elS w b m) (c : Bool) {k : Int} (hk : K64 k) {y : Option (Int × Bool × Nat)} (hy : mget m k = y.map cS) (hq : ∀ z, y = some z → 0 ≤ z.1 ∧ z.1 < 2048) : (Instr.lookup 70 (.map (some b)) (.int .i64 k) c).run Try.prog w = .ok (if c then .tuple #[svS y, .bool y.isSome] else svS y) w := by
  cases c
  · obtain ⟨v, ps, hrun, hv⟩ := World.ownsMap.lookup h law3 Try.underlying70 (zero97 w) (zd := dI (-1)) (zp := []) elS_zero (key3 hk)
    rw [hrun]
    rw [dm_at, hy] at hv
    cases y with
    | none => simp only [Option.map_none] at hv; rw [elS_none hv]; rfl
    | some y => simp only [Option.map_some] at hv; rw [elS_some hv (hq _ rfl)]; rfl
  · obtain ⟨v, ps, hrun, hv⟩ := World.ownsMap.look_ok h law3 Try.underlying70 (zero97 w) (zd := dI (-1)) (zp := []) elS_zero (key3 hk)
    rw [hrun, dm_has]
    rw [dm_at, hy] at hv
    cases y with
    | none => simp only [Option.map_none] at hv; rw [elS_none hv, hy]; rfl
    | some y => simp only [Option.map_some] at hv; rw [elS_some hv (hq _ rfl), hy]; rfl
theorem Mp.lookL {L : Int → ByteArray} {w : World} {b m} (h : Mp (elL L) w b m) (hz : ∀ p ∈ m, 1 ≤ p.2) (c : Bool) {k : Int} (hk : K64 k) : (Instr.lookup 95 (.map (some b)) (.int .i64 k) c).run Try.prog w = .ok (if c then .tuple #[svL L (mget m k), .bool (mget m k).isSome] else svL L (mget m k)) w := by
  cases c
  · obtain ⟨v, ps, hrun, hv⟩ := World.ownsMap.lookup h law3 Try.underlying95 (zero75 w) (zd := dI 0) (zp := []) (elL_zero L) (key3 hk)
    rw [hrun]
    rw [dm_at] at hv
    cases hg : mget m k with
    | none => rw [hg] at hv; rw [elL_none hv]; rfl
    | some p => rw [hg] at hv; rw [elL_some hv (hz _ (mget_mem' hg))]; rfl
  · obtain ⟨v, ps, hrun, hv⟩ := World.ownsMap.look_ok h law3 Try.underlying95 (zero75 w) (zd := dI 0) (zp := []) (elL_zero L) (key3 hk)
    rw [hrun, dm_has]
    rw [dm_at] at hv
    cases hg : mget m k with
    | none => rw [hg] at hv; rw [elL_none hv]; rfl
    | some p => rw [hg] at hv; rw [elL_some hv (hz _ (mget_mem' hg))]; rfl
/-- in no map there is nothing -/
theorem lookL_nil (w : World) (c : Bool) {k : Int} (hk : K64 k) : (Instr.lookup 95 (.map none) (.int .i64 k) c).run Try.prog w = .ok (if c then .tuple #[.agg #[.int .i64 0, .string ByteArray.empty], .bool false] else .agg #[.int .i64 0, .string ByteArray.empty]) w := by
  have h1 := law3.check w true (key3 hk)
  cases c <;> (simp [Instr.lookup, run_underlying Try.underlying95, h1, Instr.findKey, Instr.findNow, Result.andThen]; rfl)
theorem Mp.store {R} {w : World} {b m} (h : Mp R w b m) {t e : TypeId} (ht : Try.prog.underlying t = some (.map 3 e)) (hn : m.length < 1000000) {k v : Int} (hk : K64 k) {val : Value} (hv : R val = some (dI v, [])) :
    ∃ w', (Instr.mapUpdate t (.map (some b)) (.int .i64 k) val).run Try.prog w = .ok () w' ∧ Mp R w' b (mput m k v) ∧ w.mapTurned w' b := by
  obtain ⟨w', hrun, h1, h2⟩ := World.ownsMap.store h law3 ht (Nat.lt_trans hn (by decide)) (key3 hk) hv
  rw [dm_put] at h1
  exact ⟨w', hrun, Mp.of h1, h2⟩
theorem Mp.drop {R} {w : World} {b m} (h : Mp R w b m) {t e : TypeId} (ht : Try.prog.underlying t = some (.map 3 e)) {k : Int} (hk : K64 k) (ty : TypeId) :
    ∃ w', (Builtin.delete_ #[t, 3] ty #[.map (some b), .int .i64 k]).run Try.prog w = .ok (.tuple #[]) w' ∧ Mp R w' b (mdel m k) ∧ w.mapTurned w' b := by
  obtain ⟨w', hrun, h1, h2⟩ := World.ownsMap.drop h law3 ht (key3 hk) ty
  rw [dm_del] at h1
  exact ⟨w', hrun, Mp.of h1, h2⟩
theorem Mp.len {R} {w : World} {b m} (h : Mp R w b m) {t e : TypeId} (ht : Try.prog.underlying t = some (.map 3 e)) (ty : TypeId) : (Builtin.len_ #[t] ty #[.map (some b)]).run Try.prog w = .ok (.int .i64 (m.length : Int)) w := by
  rw [World.ownsMap.len h ht ty, dm_size]

/-! at the operation, for the walk -/
section
variable (w : World) {ops : Array Oper} {rest : List Oper} {o : Oper} {a : Act} {Q : Exit → Act → World → Prop}
theorem wp_put {R : Rdr} {b : Nat} {m : Pl} (hg : o.guard = none) (mo x v : Operand) (t e : TypeId) (hop : o.op = Op.mapUpdate t mo x v) (ht : Try.prog.underlying t = some (.map 3 e)) (h : Mp R w b m) (hn : m.length < 1000000)
    (k c : Int) (val : Value) (hm : a.eval mo = .map (some b)) (hx : a.eval x = .int .i64 k) (hv : a.eval v = val) (hk : K64 k) (hval : R val = some (dI c, []))
    (hK : ∀ w', Mp R w' b (mput m k c) → w.mapTurned w' b → wpList Try.prog ops Q rest (a.put o.dst undef) w') : wpList Try.prog ops Q (o :: rest) a w := by
  refine wpList_plain hg fun K' hK' => ?_
  obtain ⟨w', hrun, r1, r2⟩ := h.store ht hn hk hval
  unfold Oper.wp
  simp [execOp, hop, hm, hx, hv, hrun, Result.andThen]
  exact hK' _ _ (hK w' r1 r2)
theorem wp_del {R : Rdr} {b : Nat} {m : Pl} (hg : o.guard = none) (mo x : Operand) (t e : TypeId) (hop : o.op = Op.call { callee := Callee.builtin Builtin.delete, args := #[mo, x], argTypes := #[t, 3] }) (ht : Try.prog.underlying t = some (.map 3 e)) (h : Mp R w b m)
    (k : Int) (hm : a.eval mo = .map (some b)) (hx : a.eval x = .int .i64 k) (hk : K64 k)
    (hK : ∀ w', Mp R w' b (mdel m k) → w.mapTurned w' b → wpList Try.prog ops Q rest (a.put o.dst (.tuple #[])) w') : wpList Try.prog ops Q (o :: rest) a w := by
  refine wpList_plain hg fun K' hK' => ?_
  obtain ⟨w', hrun, r1, r2⟩ := h.drop ht hk o.type
  unfold Oper.wp
  simp [execOp, hop, resolve, invoke, builtin, hm, hx, hrun, Result.andThen]
  exact hK' _ _ (hK w' r1 r2)
end
end Go.Proofs.Ytacgemibaojbaaa
