/-
  A loop over a map, said over the plain list of what is still to come; a store at a key that is there, in the loop. No condition.
-/
import Derived.Test.YtccelipljbkkgaaLeave
namespace Go.Proofs.Ytccelipljbkkgaa
open Go Go.RowKit Go.Maps

/-- block r goes over the map in block b (of the pairs m); rest is still to come -/
def Rg (R : Rdr) (w : World) (b r : Nat) (m rest : Pl) : Prop := ∃ left cnt, w.ranges Try.prog 3 R b r m.length (dm m) left cnt ∧ rest = m.filter fun p => left (.int .i64 p.1)
theorem Rg.mp {R w b r m rest} (h : Rg R w b r m rest) : Mp R w b m := by
  obtain ⟨left, cnt, h, _⟩ := h
  exact h.owns
theorem Rg.lt {R w b r m rest} (h : Rg R w b r m rest) : r < w.heap.size := by
  obtain ⟨left, cnt, h, _⟩ := h
  exact h.lt
theorem Rg.ne {R w b r m rest} (h : Rg R w b r m rest) : r ≠ b := by
  obtain ⟨left, cnt, h, _⟩ := h
  exact h.ne
theorem Rg.same {R} {w w' : World} {b r m rest} (h : Rg R w b r m rest) (e1 : w'.heap[b]? = w.heap[b]?) (e2 : w'.heap[r]? = w.heap[r]?) : Rg R w' b r m rest := by
  obtain ⟨left, cnt, ⟨es, clock, since, seen, c0, hb, F, hs, hD, hr, rs⟩, hl⟩ := h
  exact ⟨left, cnt, ⟨es, clock, since, seen, c0, e1.trans hb, F, hs, hD, e2.trans hr, rs⟩, hl⟩
theorem left_same {w w' : World} {b r : Nat} (e1 : w'.heap[b]? = w.heap[b]?) (e2 : w'.heap[r]? = w.heap[r]?) : w'.rangeLeft b r = w.rangeLeft b r := by
  unfold World.rangeLeft
  rw [e1, e2]
theorem Rg.iter {R w b r m rest} (h : Rg R w b r m rest) : ∃ x y z, w.heap[r]? = some (.mapIter (some b) x y z) := by
  obtain ⟨left, cnt, ⟨es, clock, since, seen, c0, hb, F, hs, hD, hr, rs⟩, hl⟩ := h
  exact ⟨_, _, _, hr⟩
theorem dm_left {m : Pl} {k c : Int} (h : ∀ zd : DataW Unit, (dm m).atKey (.int .i64 k) zd = dI c) : (k, c) ∈ m := by
  have h0 := h (dI (c + 1))
  rw [dm_at] at h0
  cases hg : mget m k with
  | none => rw [hg] at h0; simp [dI] at h0; omega
  | some v =>
    rw [hg] at h0
    simp [dI] at h0
    subst h0
    unfold mget at hg
    obtain ⟨p, hp, rfl⟩ := Option.map_eq_some_iff.1 hg
    have h1 := List.mem_of_find?_eq_some hp
    have h2 : p.1 = k := by simpa using List.find?_some hp
    rw [← h2]
    exact h1

section
variable (w : World) {ops : Array Oper} {rest : List Oper} {o : Oper} {a : Act} {Q : Exit → Act → World → Prop}
theorem wp_range {R : Rdr} {b : Nat} {m : Pl} (hg : o.guard = none) (mo : Operand) (t e : TypeId) (hop : o.op = Op.range t mo) (ht : Try.prog.underlying t = some (.map 3 e)) (h : Mp R w b m) (hm : a.eval mo = .map (some b))
    (hK : ∀ w', Rg R w' b w.heap.size m m → Below w.heap.size w w' → w'.heap.size = w.heap.size + 1 → wpList Try.prog ops Q rest (a.put o.dst (.pointer (some ⟨w.heap.size, 0, none⟩))) w') : wpList Try.prog ops Q (o :: rest) a w := by
  refine wpList_range_own w hg mo t hop 3 e law3 ht R b m.length (dm m) hm h (fun w' h1 h2 h3 => hK w' ⟨_, _, h1, ?_⟩ ⟨h2.os, h2.tape, h2.output, h2.size, fun i hi => h2.block i hi (by simp)⟩ h3)
  symm
  apply List.filter_eq_self.2
  intro p hp
  rw [dm_has]
  unfold mget
  rw [Option.isSome_map, List.find?_isSome]
  exact ⟨p, hp, by simp⟩
theorem next_rest {R : Rdr} {w' : World} {b r : Nat} {m ps : Pl} {left : Lit → Bool} {cnt' : Nat} {k : Int} (hr : ps = m.filter fun p => left (.int .i64 p.1)) (h : w'.ranges Try.prog 3 R b r m.length (dm m) (fun z => left z && !z.sameKey (.int .i64 k)) cnt') : Rg R w' b r m (mdel ps k) := by
  refine ⟨_, _, h, ?_⟩
  rw [hr, mdel, List.filter_filter]
  congr 1
  funext p
  have := kv_same p k
  simp only [kv] at this
  rw [this, Bool.and_comm]
theorem wp_next {b r : Nat} {m ps : Pl} (hg : o.guard = none) (it : Operand) (hop : o.op = Op.next it false) (h : Rg elI w b r m ps) (hit : a.eval it = .pointer (some ⟨r, 0, none⟩))
    (hDone : ps = [] → wpList Try.prog ops Q rest (a.put o.dst (.tuple #[.bool false])) w)
    (hMore : ∀ (k c : Int) (w' : World), (k, c) ∈ ps → K64 k → Rg elI w' b r m (mdel ps k) → w'.rangeLeft b r < w.rangeLeft b r → w.grownBy w' (some r) → w'.heap.size = w.heap.size →
      (Instr.entry (.pointer (some ⟨r, 0, none⟩))).run Try.prog w' = .ok (.tuple #[.int .i64 k, .int .i64 c]) w' → wpList Try.prog ops Q rest (a.put o.dst (.tuple #[.bool true, .int .i64 k, .int .i64 c])) w') : wpList Try.prog ops Q (o :: rest) a w := by
  obtain ⟨left, cnt, h, hr⟩ := h
  refine wpList_next_ranges w hg it hop 3 law3 elI (Value.int .i64) (Value.int .i64) (fun key kl hkey => by obtain ⟨x, rfl, _⟩ := Maps.keyOf_int_inv Try.underlying3 hkey; exact ⟨x, rfl⟩) (fun v y hv => by obtain ⟨c, rfl, _⟩ := elI_inv hv; exact ⟨c, rfl⟩) b r m.length (dm m) left cnt hit h (fun _ hl => hDone ?_) (fun x c kl y w' cnt' hkey hlk hv hat hrg hlt hgr hsz hen => ?_)
  · rw [hr]
    apply List.filter_eq_nil_iff.2
    intro p _
    simp [hl]
  · obtain ⟨x', ex, rfl, hwx⟩ := Maps.keyOf_int_inv Try.underlying3 hkey
    cases ex
    obtain ⟨c', ec, rfl⟩ := elI_inv hv
    cases ec
    refine hMore x c w' ?_ hwx (next_rest hr hrg) (by rw [hrg.left_eq, h.left_eq]; exact hlt) hgr hsz hen
    rw [hr]
    exact List.mem_filter.2 ⟨dm_left hat, hlk⟩
/-- .. of a map of pointers -/
theorem wp_nextP {b r : Nat} {m ps : Pl} (hg : o.guard = none) (it : Operand) (hop : o.op = Op.next it false) (h : Rg elP w b r m ps) (hit : a.eval it = .pointer (some ⟨r, 0, none⟩))
    (hDone : ps = [] → wpList Try.prog ops Q rest (a.put o.dst (.tuple #[.bool false])) w)
    (hMore : ∀ (k : Int) (g : Nat) (w' : World), (k, (g : Int)) ∈ ps → K64 k → Rg elP w' b r m (mdel ps k) → w'.rangeLeft b r < w.rangeLeft b r → w.grownBy w' (some r) → w'.heap.size = w.heap.size →
      (Instr.entry (.pointer (some ⟨r, 0, none⟩))).run Try.prog w' = .ok (.tuple #[.int .i64 k, .pointer (some ⟨g, 0, none⟩)]) w' → wpList Try.prog ops Q rest (a.put o.dst (.tuple #[.bool true, .int .i64 k, .pointer (some ⟨g, 0, none⟩)])) w') : wpList Try.prog ops Q (o :: rest) a w := by
  obtain ⟨left, cnt, h, hr⟩ := h
  refine wpList_plain hg fun K' hK' => ?_
  unfold Oper.wp
  rcases h.next law3 o.type with ⟨h0, hl, hrun⟩ | ⟨key, v, kl, y, w', cnt', hkey, hlk, hv, hat, hrun, hrg, hlt, hgr, hsz, hen⟩
  · simp [execOp, hop, hit, hrun, Result.andThen]
    refine hK' _ _ (hDone ?_)
    rw [hr]
    apply List.filter_eq_nil_iff.2
    intro p _
    simp [hl]
  · obtain ⟨x, rfl, rfl, hwx⟩ := Maps.keyOf_int_inv Try.underlying3 hkey
    rcases elP_inv hv with ⟨rfl, rfl⟩ | ⟨g, rfl, rfl⟩
    · have := hat (dI 0)
      rw [dm_at] at this
      cases hg : mget m x <;> (rw [hg] at this; simp [dI] at this)
    · simp [execOp, hop, hit, hrun, Result.andThen]
      refine hK' _ _ (hMore x g w' ?_ hwx (next_rest hr hrg) (by rw [hrg.left_eq, h.left_eq]; exact hlt) hgr hsz hen)
      rw [hr]
      exact List.mem_filter.2 ⟨dm_left hat, hlk⟩
end

set_option maxRecDepth 20000 in
open Go.ChangeMaps Go.MapKept Go.WideShapes in
open Go.WideElems (Fit rd rg pl rd_key rd_val rg_of other_key rd_mk) in
/-- a store at a key that is there, in the loop -/
theorem Rg.store {w : World} {b r : Nat} {m ps : Pl} (h : Rg elI w b r m ps) (hn : m.length < 1000000) {k v : Int} (hk : K64 k) (hm : (mget m k).isSome = true) (hps : ∀ p ∈ ps, p.1 ≠ k) :
    ∃ w', (Instr.mapUpdate 65 (.map (some b)) (.int .i64 k) (.int .i64 v)).run Try.prog w = .ok () w' ∧ Rg elI w' b r (mput m k v) ps ∧ w.mapTurned w' b ∧ w'.rangeLeft b r = w.rangeLeft b r := by
  have hmp := h.mp
  obtain ⟨w1, hrun1, hM1, hT1⟩ := hmp.store Try.underlying65 hn hk (val := .int .i64 v) (v := v) rfl
  obtain ⟨left, cnt, ⟨es, clock, since, seen, c0, hb, F, hs, hD, hr, hold, hc, hl1, hl2, hsc, hsk⟩, hl⟩ := h
  have hne : r ≠ b := by
    intro e
    rw [e, hb] at hr
    cases hr
  rcases law3.find w (key3 hk) es.toList F.keys with ⟨h1, h2⟩ | ⟨j, e0, h1, h2, h3⟩
  · exfalso
    obtain ⟨x, hx⟩ := Option.isSome_iff_exists.1 hm
    have hh : Maps.has (dm m) (.int .i64 k) = true := by rw [dm_has]; exact hm
    rw [hD] at hh
    obtain ⟨p, hp, hpk⟩ := List.any_eq_true.1 hh
    obtain ⟨y, hy, rfl⟩ := List.mem_map.1 (mem_sorted.1 hp)
    obtain ⟨z, hz⟩ := F.reads y hy
    have e2 := WideAt.sameKey_eq hpk
    rw [rg_of hz] at e2
    exact h2 y hy (law3.inj (e2 ▸ rd_key hz) (key3 hk))
  · have hj : es[j]? = some e0 := by simpa using h2
    have hrun2 : (Instr.mapUpdate 65 (.map (some b)) (.int .i64 k) (.int .i64 v)).run Try.prog w = .ok () (setBlock w b (.map (es.modify j (fun e' => { e' with key := .int .i64 k, val := .int .i64 v })) clock)) := by
      simp [Instr.mapUpdate, run_underlying Try.underlying65, MapKept.run_getObj_map hb, law3.check w false (key3 hk), h1, hj, h3, law3.stays w (key3 hk), MapKept.run_setObj_map _ hb, Result.andThen, setBlock]
    have ew : w1 = setBlock w b (.map (es.modify j (fun e' => { e' with key := .int .i64 k, val := .int .i64 v })) clock) := by
      rw [hrun1] at hrun2
      cases hrun2
      rfl
    have hlist : (es.modify j (fun e' => { e' with key := .int .i64 k, val := .int .i64 v })).toList = es.toList.set j { e0 with key := .int .i64 k, val := .int .i64 v } := by rw [Array.toList_modify, modify_eq_set _ _ _ _ h2]
    obtain ⟨es1, cl1, hb1, F1, hs1, hD1⟩ := hM1
    have hb2 : w1.heap[b]? = some (.map (es.modify j (fun e' => { e' with key := .int .i64 k, val := .int .i64 v })) clock) := by rw [ew]; exact heap_setBlock_same hb _
    rw [hb1] at hb2
    simp only [Option.some.injEq, Obj.map.injEq] at hb2
    obtain ⟨rfl, rfl⟩ := hb2
    have hrr : w1.heap[r]? = some (.mapIter (some b) since seen c0) := by rw [ew]; exact (heap_setBlock_other hb _ hne).trans hr
    have hje : e0 ∈ es.toList := List.mem_of_getElem? h2
    -- whose key and stamp are as they were
    have who : ∀ x ∈ es.toList.set j { e0 with key := Value.int .i64 k, val := Value.int .i64 v }, ∃ y ∈ es.toList, y.born = x.born ∧ y.key = x.key := by
      intro x hx
      obtain ⟨i, hi, ex⟩ := List.getElem_of_mem hx
      rw [List.getElem_set] at ex
      split at ex
      · exact ⟨e0, hje, by rw [← ex], by rw [← ex]; exact h3⟩
      · exact ⟨x, ex ▸ List.getElem_mem (by simpa using hi), rfl, rfl⟩
    have who2 : ∀ y ∈ es.toList, ∃ x ∈ es.toList.set j { e0 with key := Value.int .i64 k, val := Value.int .i64 v }, y.born = x.born ∧ y.key = x.key := by
      intro y hy
      obtain ⟨i, hi, ey⟩ := List.getElem_of_mem hy
      by_cases e : i = j
      · subst e
        have : y = e0 := by
          rw [List.getElem?_eq_getElem hi, ey] at h2
          exact Option.some.inj h2
        subst this
        exact ⟨{ y with key := Value.int .i64 k, val := Value.int .i64 v }, List.mem_iff_getElem.2 ⟨i, by simpa using hi, by simp⟩, rfl, h3⟩
      · exact ⟨y, List.mem_iff_getElem.2 ⟨i, by simpa using hi, by rw [List.getElem_set_ne (fun e1 => e e1.symm)]; exact ey⟩, rfl, rfl⟩
    have keyL : ∀ x ∈ (es.modify j (fun e' => { e' with key := .int .i64 k, val := .int .i64 v })).toList, ∀ y ∈ es.toList, y.key = x.key → (rg Try.prog 3 elI x).1 = (rg Try.prog 3 elI y).1 := by
      intro x hx y hy e
      obtain ⟨z1, hz1⟩ := F1.reads x hx
      obtain ⟨z2, hz2⟩ := F.reads y hy
      rw [rg_of hz1, rg_of hz2]
      have q1 := rd_key hz1
      have q2 := rd_key hz2
      rw [e, q1] at q2
      exact Option.some.inj q2
    have hleft : ∀ x : Array MapEntry, (leftOf x seen).size = (x.toList.filter fun e => !seen.contains e.born).length := fun x => by
      unfold leftOf
      rw [← Array.toList_filter, Array.length_toList]
    have hcnt : (leftOf (es.modify j (fun e' => { e' with key := .int .i64 k, val := .int .i64 v })) seen).size = (leftOf es seen).size := by
      rw [hleft, hleft, hlist]
      have e2 : ∀ l : List MapEntry, (l.filter fun e => !seen.contains e.born).length = ((l.map (·.born)).filter fun n => !seen.contains n).length := fun l => by
        rw [List.filter_map, List.length_map]; rfl
      rw [e2, e2, List.map_set]
      congr 2
      apply List.ext_getElem?
      intro i
      rw [List.getElem?_set]
      split
      · rename_i hij
        subst hij
        rw [List.getElem?_map, h2]
        simp
        exact (List.getElem?_eq_some_iff.1 h2).1
      · rfl
    refine ⟨w1, hrun1, ⟨left, cnt, ⟨_, _, since, seen, c0, hb1, F1, hs1, hD1, hrr, fun x hx => ?_, hcnt.trans hc, fun x hx => ?_, fun kl hkl => ?_, hsc, hsk⟩, ?_⟩, hT1, ?_⟩
    · rw [hlist] at hx
      obtain ⟨y, hy, e1, _⟩ := who x hx
      rw [← e1]
      exact hold y hy
    · obtain ⟨y, hy, e1, e2⟩ := who x (hlist ▸ hx)
      rw [keyL x hx y hy e2, ← e1]
      exact hl1 y hy
    · obtain ⟨y, hy, rfl⟩ := hl2 kl hkl
      obtain ⟨x, hx, e1, e2⟩ := who2 y hy
      rw [← hlist] at hx
      exact ⟨x, hx, keyL x hx y hy e2⟩
    · -- what is still to come is not at that key
      have hlk : left (.int .i64 k) = false := by
        cases e : left (.int .i64 k)
        · rfl
        · exfalso
          obtain ⟨x, hx⟩ := Option.isSome_iff_exists.1 hm
          unfold mget at hx
          obtain ⟨p, hp, _⟩ := Option.map_eq_some_iff.1 hx
          have h4 : p.1 = k := by simpa using List.find?_some hp
          exact hps p (by rw [hl]; exact List.mem_filter.2 ⟨List.mem_of_find?_eq_some hp, by rw [h4]; exact e⟩) h4
      have hins : ∀ l : Pl, (mins (k, v) l).filter (fun p => left (.int .i64 p.1)) = l.filter fun p => left (.int .i64 p.1) := by
        intro l
        induction l with
        | nil => simp [mins, hlk]
        | cons y q ih =>
          unfold mins
          split
          · rw [List.filter_cons]; simp [hlk]
          · rw [List.filter_cons, List.filter_cons, ih]
      rw [hl, mput, hins, mdel, List.filter_filter]
      apply List.filter_congr
      intro p _
      by_cases e : p.1 = k
      · simp [e, hlk]
      · simp [e]
    · unfold World.rangeLeft
      rw [hb1, hrr, hb, hr]
      exact hcnt
end Go.Proofs.Ytccelipljbkkgaa
