/-
  Maps of this program: keys are numbers, elements are coded as numbers; what look-ups, stores and deletes answer and leave, said over a plain list of pairs. No condition.
-/
import Derived.Test.YtccelipljbkkgaaOwn
import Derived.Test.YtccelipljbkkgaaChecked
import Derived.Maps.RangeWalk
import Derived.Maps.Ext
namespace Go.Proofs.Ytccelipljbkkgaa
open Go Go.RowKit Go.Maps

abbrev Pl := List (Int × Int)
abbrev Rdr := Value → Option (DataW Unit × List MemPlace)
def dI (x : Int) : DataW Unit := .lit (.int .i64 x)
/-- how an element reads: a number, a pointer to the head of a block, nothing -/
def elI : Rdr
  | .int .i64 a => some (dI a, [])
  | _ => none
def elP : Rdr
  | .pointer none => some (.nil, [])
  | .pointer (some ⟨b, 0, none⟩) => some (dI (b : Int), [])
  | _ => none
def elU : Rdr
  | .agg cs => if cs.size = 0 then some (dI 0, []) else none
  | _ => none
theorem elI_inv {v : Value} {z} (h : elI v = some z) : ∃ a, v = .int .i64 a ∧ z = (dI a, []) := by
  unfold elI at h
  split at h
  · cases h; exact ⟨_, rfl, rfl⟩
  · cases h
theorem elP_inv {v : Value} {z} (h : elP v = some z) : (v = .pointer none ∧ z = (.nil, [])) ∨ ∃ b : Nat, v = .pointer (some ⟨b, 0, none⟩) ∧ z = (dI (b : Int), []) := by
  unfold elP at h
  split at h
  · cases h; exact .inl ⟨rfl, rfl⟩
  · cases h; exact .inr ⟨_, rfl, rfl⟩
  · cases h
theorem elU_inv {v : Value} {z} (h : elU v = some z) : v = .agg #[] ∧ z = (dI 0, []) := by
  unfold elU at h
  cases v <;> simp at h
  obtain ⟨h1, rfl⟩ := h
  exact ⟨by rw [h1], rfl⟩

/-! lists of pairs, by their first -/
def mget (m : Pl) (k : Int) : Option Int := (m.find? fun p => decide (p.1 = k)).map (·.2)
def mdel (m : Pl) (k : Int) : Pl := m.filter fun p => !decide (p.1 = k)
def mins (x : Int × Int) : Pl → Pl
  | [] => [x]
  | y :: r => if x.1 < y.1 then x :: y :: r else y :: mins x r
def mput (m : Pl) (k v : Int) : Pl := mins (k, v) (mdel m k)
def kv (p : Int × Int) : Lit × DataW Unit := (.int .i64 p.1, dI p.2)
def dm (m : Pl) : DataW Unit := .map (m.map kv)

theorem kv_same (p : Int × Int) (k : Int) : (kv p).1.sameKey (.int .i64 k) = decide (p.1 = k) := by simp [kv, Lit.sameKey]
theorem dm_del (m : Pl) (k : Int) : (dm m).del (.int .i64 k) = dm (mdel m k) := by
  unfold dm DataW.del mdel
  simp only [List.filter_map, DataW.map.injEq]
  congr 2
  funext p
  simp only [Function.comp, kv_same]
theorem kv_ins (x : Int × Int) : ∀ m : Pl, DataW.insert (kv x) (m.map kv) = (mins x m).map kv
  | [] => rfl
  | y :: r => by
    unfold mins
    rw [List.map_cons]
    unfold DataW.insert
    by_cases h : x.1 < y.1
    · rw [if_pos h, if_pos (by simp [kv, Lit.before, h])]; rfl
    · rw [if_neg h, if_neg (by simp [kv, Lit.before]; omega), kv_ins x r]; rfl
theorem dm_put (m : Pl) (k v : Int) : (dm m).put (.int .i64 k) (dI v) = dm (mput m k v) := by
  have h := dm_del m k
  unfold dm DataW.del at h
  unfold dm DataW.put mput
  simp only [DataW.map.injEq] at h ⊢
  rw [h]
  exact kv_ins (k, v) _
theorem find_kv (m : Pl) (k : Int) : (m.map kv).find? (fun p => p.1.sameKey (.int .i64 k)) = (m.find? fun p => decide (p.1 = k)).map kv := by
  rw [List.find?_map]
  congr 2
  funext p
  simp only [Function.comp, kv_same]
theorem dm_at (m : Pl) (k : Int) (z : DataW Unit) : (dm m).atKey (.int .i64 k) z = match mget m k with | some v => dI v | none => z := by
  unfold dm DataW.atKey mget
  simp only [find_kv]
  cases m.find? (fun p => decide (p.1 = k)) <;> rfl
theorem dm_has (m : Pl) (k : Int) : Maps.has (dm m) (.int .i64 k) = (mget m k).isSome := by
  unfold dm mget
  rw [Maps.has_eq, List.any_map]
  induction m with
  | nil => rfl
  | cons p r ih =>
    rw [List.any_cons, List.find?_cons, ih]
    simp only [Function.comp, kv_same]
    cases decide (p.1 = k) <;> simp
theorem dm_size (m : Pl) : Maps.size (dm m) = m.length := by simp [dm, Maps.size]

theorem law3 : Keyed Try.prog 3 := int_keyed Try.underlying3
/-- a number that an int can be -/
abbrev K64 (k : Int) : Prop := (Lit.int .i64 k).wf = true
theorem k64 {k : Int} (h1 : -9223372036854775808 ≤ k) (h2 : k ≤ 9223372036854775807) : K64 k := WalkArith.wf_i64 (by omega)
theorem key3 {k : Int} (h : K64 k) : keyOf Try.prog 3 (.int .i64 k) = some (.int .i64 k) := keyOf_int_mk Try.underlying3 h

/-- block b is a map of these pairs -/
def Mp (R : Rdr) (w : World) (b : Nat) (m : Pl) : Prop := w.ownsMap Try.prog 3 R b m.length (dm m)
theorem Mp.of {R w b n m} (h : w.ownsMap Try.prog 3 R b n (dm m)) : Mp R w b m := by
  obtain ⟨es, c, hb, F, hs, hD⟩ := h
  refine ⟨es, c, hb, F, ?_, hD⟩
  have := congrArg Maps.size hD
  rw [dm_size] at this
  simp [Maps.size, length_sorted] at this
  omega
theorem Mp.lt {R w b m} (h : Mp R w b m) : b < w.heap.size := World.ownsMap.lt h
theorem Mp.same {R} {w w' : World} {b m} (h : Mp R w b m) (e : w'.heap[b]? = w.heap[b]?) : Mp R w' b m := by
  obtain ⟨es, c, hb, r⟩ := h
  exact ⟨es, c, e.trans hb, r⟩
theorem Mp.drew {R w b m} (h : Mp R w b m) : Mp R w.drew b m := h
theorem Mp.alloc {R} {w : World} {b m} (h : Mp R w b m) (o : Obj) : Mp R (w.alloc o) b m := World.ownsMap.alloc h o
theorem Mp.call {R} {w w' : World} {b m} (h : Mp R w b m) (q : Below w.heap.size w w') : Mp R w' b m := h.same (q.block b h.lt)
theorem Mp.other {R} {w : World} {b m} (h : Mp R w b m) {a : Addr} (ha : a.block ≠ b) (x : Value) : Mp R (w.setCell a x) b m := World.ownsMap.setCell h (fun e => ha e.symm) x
theorem Mp.kept {R} {w w' : World} {b g m} (h : Mp R w b m) (q : w.mapTurned w' g) (hne : b ≠ g) : Mp R w' b m := h.same (q.grown.block b h.lt (by simpa using hne))
theorem Mp.made (w : World) (R : Rdr) : Mp R (w.alloc (.map #[] 0)) w.heap.size [] := World.ownsMap_made w Try.prog 3 R
theorem Mp.obj {R w b m} (h : Mp R w b m) : ∃ es c, w.heap[b]? = some (.map es c) := by
  obtain ⟨es, c, hb, _⟩ := h
  exact ⟨es, c, hb⟩
/-- keys rise -/
def Up (m : Pl) : Prop := m.Pairwise fun p q => p.1 < q.1
theorem Mp.up {R w b m} (h : Mp R w b m) : Up m := by
  obtain ⟨es, e, hp, _⟩ := World.ownsMap.canon h law3
  unfold dm at e
  simp only [DataW.map.injEq] at e
  subst e
  rw [List.pairwise_map] at hp
  exact hp.imp (fun h => by simpa [kv, Lit.before] using h)

theorem zero3 (w : World) : (zeroValue 3).run Try.prog w = .ok (.int .i64 0) w := by kernel_rfl
theorem zero70 (w : World) : (zeroValue 97).run Try.prog w = .ok (.pointer none) w := by kernel_rfl
theorem zero65 (w : World) : (zeroValue 73).run Try.prog w = .ok (.agg #[]) w := by kernel_rfl

theorem Mp.look {w : World} {b m} (h : Mp elI w b m) {k : Int} (hk : K64 k) : (Instr.lookup 65 (.map (some b)) (.int .i64 k) false).run Try.prog w = .ok (.int .i64 ((mget m k).getD 0)) w := by
  obtain ⟨v, ps, hrun, hv⟩ := World.ownsMap.lookup h law3 Try.underlying65 (zero3 w) (zd := dI 0) (zp := []) rfl (key3 hk)
  rw [hrun]
  obtain ⟨a, rfl, e⟩ := elI_inv hv
  rw [dm_at] at e
  cases hg : mget m k <;> (rw [hg] at e; simp [dI] at e; simp [e])
theorem Mp.lookOk {w : World} {b m} (h : Mp elI w b m) {k : Int} (hk : K64 k) : (Instr.lookup 65 (.map (some b)) (.int .i64 k) true).run Try.prog w = .ok (.tuple #[.int .i64 ((mget m k).getD 0), .bool (mget m k).isSome]) w := by
  obtain ⟨v, ps, hrun, hv⟩ := World.ownsMap.look_ok h law3 Try.underlying65 (zero3 w) (zd := dI 0) (zp := []) rfl (key3 hk)
  rw [hrun, dm_has]
  obtain ⟨a, rfl, e⟩ := elI_inv hv
  rw [dm_at] at e
  cases hg : mget m k <;> (rw [hg] at e; simp [dI] at e; simp [e])
/-- a pointer that a code stands for -/
def pv (x : Option Int) : Value := match x with | some b => .pointer (some ⟨b.toNat, 0, none⟩) | none => .pointer none
theorem Mp.lookP {w : World} {b m} (h : Mp elP w b m) {k : Int} (hk : K64 k) : (Instr.lookup 64 (.map (some b)) (.int .i64 k) false).run Try.prog w = .ok (pv (mget m k)) w := by
  obtain ⟨v, ps, hrun, hv⟩ := World.ownsMap.lookup h law3 Try.underlying64 (zero70 w) (zd := .nil) (zp := []) rfl (key3 hk)
  rw [hrun]
  rw [dm_at] at hv
  rcases elP_inv hv with ⟨rfl, e⟩ | ⟨a, rfl, e⟩
  all_goals cases hg : mget m k <;> (rw [hg] at e; simp [dI] at e; try simp [pv, e])
theorem Mp.lookU {w : World} {b m} (h : Mp elU w b m) {k : Int} (hk : K64 k) : (Instr.lookup 66 (.map (some b)) (.int .i64 k) true).run Try.prog w = .ok (.tuple #[.agg #[], .bool (mget m k).isSome]) w := by
  obtain ⟨v, ps, hrun, hv⟩ := World.ownsMap.look_ok h law3 Try.underlying66 (zero65 w) (zd := dI 0) (zp := []) rfl (key3 hk)
  rw [hrun, dm_has]
  obtain ⟨rfl, e⟩ := elU_inv hv
  rfl
theorem Mp.store {R} {w : World} {b m} (h : Mp R w b m) {t e : TypeId} (ht : Try.prog.underlying t = some (.map 3 e)) (hn : m.length < 1000000) {k v : Int} (hk : K64 k) {val : Value} (hv : R val = some (dI v, [])) :
    ∃ w', (Instr.mapUpdate t (.map (some b)) (.int .i64 k) val).run Try.prog w = .ok () w' ∧ Mp R w' b (mput m k v) ∧ w.mapTurned w' b := by
  obtain ⟨w', hrun, h1, h2⟩ := World.ownsMap.store h law3 ht (Nat.lt_trans hn (by decide)) (key3 hk) hv
  rw [dm_put] at h1
  exact ⟨w', hrun, Mp.of h1, h2⟩
theorem Mp.drop {R} {w : World} {b m} (h : Mp R w b m) {t e : TypeId} (ht : Try.prog.underlying t = some (.map 3 e)) {k : Int} (hk : K64 k) (ty : TypeId) :
    ∃ w', (Builtin.delete_ #[t, 3] ty #[.map (some b), .int .i64 k]).run Try.prog w = .ok (.tuple #[]) w' ∧ Mp R w' b (mdel m k) ∧ w.mapTurned w' b := by
  obtain ⟨w', hrun, h1, h2⟩ := World.ownsMap.drop h law3 ht (key3 hk) ty
  rw [dm_del] at h1
  exact ⟨w', hrun, Mp.of h1, h2⟩
theorem Mp.len {R} {w : World} {b m} (h : Mp R w b m) {t e : TypeId} (ht : Try.prog.underlying t = some (.map 3 e)) (ty : TypeId) : (Builtin.len_ #[t] ty #[.map (some b)]).run Try.prog w = .ok (.int .i64 (m.length : Int)) w := by
  rw [World.ownsMap.len h ht ty, dm_size]

/-! at the operation, for the walk -/
section
variable (w : World) {ops : Array Oper} {rest : List Oper} {o : Oper} {a : Act} {Q : Exit → Act → World → Prop}
theorem wp_put {R : Rdr} {b : Nat} {m : Pl} (hg : o.guard = none) (mo x v : Operand) (t e : TypeId) (hop : o.op = Op.mapUpdate t mo x v) (ht : Try.prog.underlying t = some (.map 3 e)) (h : Mp R w b m) (hn : m.length < 1000000)
    (k c : Int) (val : Value) (hm : a.eval mo = .map (some b)) (hx : a.eval x = .int .i64 k) (hv : a.eval v = val) (hk : K64 k) (hval : R val = some (dI c, []))
    (hK : ∀ w', Mp R w' b (mput m k c) → w.mapTurned w' b → wpList Try.prog ops Q rest (a.put o.dst undef) w') : wpList Try.prog ops Q (o :: rest) a w := by
  refine wpList_plain hg fun K' hK' => ?_
  obtain ⟨w', hrun, r1, r2⟩ := h.store ht hn hk hval
  unfold Oper.wp
  simp [execOp, hop, hm, hx, hv, hrun, Result.andThen]
  exact hK' _ _ (hK w' r1 r2)
theorem wp_del {R : Rdr} {b : Nat} {m : Pl} (hg : o.guard = none) (mo x : Operand) (t e : TypeId) (hop : o.op = Op.call { callee := Callee.builtin Builtin.delete, args := #[mo, x], argTypes := #[t, 3] }) (ht : Try.prog.underlying t = some (.map 3 e)) (h : Mp R w b m)
    (k : Int) (hm : a.eval mo = .map (some b)) (hx : a.eval x = .int .i64 k) (hk : K64 k)
    (hK : ∀ w', Mp R w' b (mdel m k) → w.mapTurned w' b → wpList Try.prog ops Q rest (a.put o.dst (.tuple #[])) w') : wpList Try.prog ops Q (o :: rest) a w := by
  refine wpList_plain hg fun K' hK' => ?_
  obtain ⟨w', hrun, r1, r2⟩ := h.drop ht hk o.type
  unfold Oper.wp
  simp [execOp, hop, resolve, invoke, builtin, hm, hx, hrun, Result.andThen]
  exact hK' _ _ (hK w' r1 r2)
end
end Go.Proofs.Ytccelipljbkkgaa
