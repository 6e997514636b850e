/-
  A loop over a map, said over the plain list of what is still to come. No condition.
-/
import Derived.Test.YtacgemibaojbaaaMp
namespace Go.Proofs.Ytacgemibaojbaaa
open Go Go.RowKit Go.Maps

/-- block r goes over the map in block b (of the pairs m); rest is still to come -/
def Rg (R : Rdr) (w : World) (b r : Nat) (m rest : Pl) : Prop := ∃ left cnt, w.ranges Try.prog 3 R b r m.length (dm m) left cnt ∧ rest = m.filter fun p => left (.int .i64 p.1)
theorem Rg.mp {R w b r m rest} (h : Rg R w b r m rest) : Mp R w b m := by
  obtain ⟨left, cnt, h, _⟩ := h
  exact h.owns
theorem Rg.lt {R w b r m rest} (h : Rg R w b r m rest) : r < w.heap.size := by
  obtain ⟨left, cnt, h, _⟩ := h
  exact h.lt
theorem Rg.ne {R w b r m rest} (h : Rg R w b r m rest) : r ≠ b := by
  obtain ⟨left, cnt, h, _⟩ := h
  exact h.ne
theorem Rg.same {R} {w w' : World} {b r m rest} (h : Rg R w b r m rest) (e1 : w'.heap[b]? = w.heap[b]?) (e2 : w'.heap[r]? = w.heap[r]?) : Rg R w' b r m rest := by
  obtain ⟨left, cnt, ⟨es, clock, since, seen, c0, hb, F, hs, hD, hr, rs⟩, hl⟩ := h
  exact ⟨left, cnt, ⟨es, clock, since, seen, c0, e1.trans hb, F, hs, hD, e2.trans hr, rs⟩, hl⟩
theorem left_same {w w' : World} {b r : Nat} (e1 : w'.heap[b]? = w.heap[b]?) (e2 : w'.heap[r]? = w.heap[r]?) : w'.rangeLeft b r = w.rangeLeft b r := by
  unfold World.rangeLeft
  rw [e1, e2]
theorem Rg.iter {R w b r m rest} (h : Rg R w b r m rest) : ∃ x y z, w.heap[r]? = some (.mapIter (some b) x y z) := by
  obtain ⟨left, cnt, ⟨es, clock, since, seen, c0, hb, F, hs, hD, hr, rs⟩, hl⟩ := h
  exact ⟨_, _, _, hr⟩
theorem dm_left {m : Pl} {k c : Int} (h : ∀ zd : DataW Unit, (dm m).atKey (.int .i64 k) zd = dI c) : (k, c) ∈ m := by
  have h0 := h (dI (c + 1))
  rw [dm_at] at h0
  cases hg : mget m k with
  | none => rw [hg] at h0; simp [dI] at h0; omega
  | some v =>
    rw [hg] at h0
    simp [dI] at h0
    subst h0
    unfold mget at hg
    obtain ⟨p, hp, rfl⟩ := Option.map_eq_some_iff.1 hg
    have h1 := List.mem_of_find?_eq_some hp
    have h2 : p.1 = k := by simpa using List.find?_some hp
    rw [← h2]
    exact h1

section
variable (w : World) {ops : Array Oper} {rest : List Oper} {o : Oper} {a : Act} {Q : Exit → Act → World → Prop}
theorem wp_range {R : Rdr} {b : Nat} {m : Pl} (hg : o.guard = none) (mo : Operand) (t e : TypeId) (hop : o.op = Op.range t mo) (ht : Try.prog.underlying t = some (.map 3 e)) (h : Mp R w b m) (hm : a.eval mo = .map (some b))
    (hK : ∀ w', Rg R w' b w.heap.size m m → Below w.heap.size w w' → w'.heap.size = w.heap.size + 1 → wpList Try.prog ops Q rest (a.put o.dst (.pointer (some ⟨w.heap.size, 0, none⟩))) w') : wpList Try.prog ops Q (o :: rest) a w := by
  refine wpList_range_own w hg mo t hop 3 e law3 ht R b m.length (dm m) hm h (fun w' h1 h2 h3 => hK w' ⟨_, _, h1, ?_⟩ ⟨h2.os, h2.tape, h2.output, h2.size, fun i hi => h2.block i hi (by simp)⟩ h3)
  symm
  apply List.filter_eq_self.2
  intro p hp
  rw [dm_has]
  unfold mget
  rw [Option.isSome_map, List.find?_isSome]
  exact ⟨p, hp, by simp⟩
theorem next_rest {R : Rdr} {w' : World} {b r : Nat} {m ps : Pl} {left : Lit → Bool} {cnt' : Nat} {k : Int} (hr : ps = m.filter fun p => left (.int .i64 p.1)) (h : w'.ranges Try.prog 3 R b r m.length (dm m) (fun z => left z && !z.sameKey (.int .i64 k)) cnt') : Rg R w' b r m (mdel ps k) := by
  refine ⟨_, _, h, ?_⟩
  rw [hr, mdel, List.filter_filter]
  congr 1
  funext p
  have := kv_same p k
  simp only [kv] at this
  rw [this, Bool.and_comm]
theorem wp_nextS {b r : Nat} {m ps : Pl} (hg : o.guard = none) (it : Operand) (hop : o.op = Op.next it false) (h : Rg elS w b r m ps) (hz : ∀ p ∈ m, p.2 ≠ -1) (hit : a.eval it = .pointer (some ⟨r, 0, none⟩))
    (hDone : ps = [] → wpList Try.prog ops Q rest (a.put o.dst (.tuple #[.bool false])) w)
    (hMore : ∀ (k q : Int) (s : Bool) (g : Nat) (w' : World), (k, cS (q, s, g)) ∈ ps → K64 k → (0 ≤ q ∧ q < 2048) → Rg elS w' b r m (mdel ps k) → w'.rangeLeft b r < w.rangeLeft b r → w.grownBy w' (some r) → w'.heap.size = w.heap.size →
      (Instr.entry (.pointer (some ⟨r, 0, none⟩))).run Try.prog w' = .ok (.tuple #[.int .i64 k, .agg #[.int .i64 q, .bool s, .map (some g)]]) w' → wpList Try.prog ops Q rest (a.put o.dst (.tuple #[.bool true, .int .i64 k, .agg #[.int .i64 q, .bool s, .map (some g)]])) w') : wpList Try.prog ops Q (o :: rest) a w := by
  obtain ⟨left, cnt, h, hr⟩ := h
  refine wpList_plain hg fun K' hK' => ?_
  unfold Oper.wp
  rcases h.next law3 o.type with ⟨h0, hl, hrun⟩ | ⟨key, v, kl, y, w', cnt', hkey, hlk, hv, hat, hrun, hrg, hlt, hgr, hsz, hen⟩
  · simp [execOp, hop, hit, hrun, Result.andThen]
    refine hK' _ _ (hDone ?_)
    rw [hr]
    apply List.filter_eq_nil_iff.2
    intro p _
    simp [hl]
  · obtain ⟨x, rfl, rfl, hwx⟩ := Maps.keyOf_int_inv Try.underlying3 hkey
    rcases elS_inv hv with ⟨rfl, e⟩ | ⟨q, s, g, hq, rfl, e⟩
    · cases e
      exact absurd rfl (hz _ (dm_left hat))
    · cases e
      simp [execOp, hop, hit, hrun, Result.andThen]
      refine hK' _ _ (hMore x q s g w' ?_ hwx hq (next_rest hr hrg) (by rw [hrg.left_eq, h.left_eq]; exact hlt) hgr hsz hen)
      rw [hr]
      exact List.mem_filter.2 ⟨dm_left hat, hlk⟩
/-- .. of a map of pages -/
theorem wp_nextL {L : Int → ByteArray} {b r : Nat} {m ps : Pl} (hg : o.guard = none) (it : Operand) (hop : o.op = Op.next it false) (h : Rg (elL L) w b r m ps) (hz : ∀ p ∈ m, 1 ≤ p.2) (hit : a.eval it = .pointer (some ⟨r, 0, none⟩))
    (hDone : ps = [] → wpList Try.prog ops Q rest (a.put o.dst (.tuple #[.bool false])) w)
    (hMore : ∀ (k p : Int) (w' : World), (k, p) ∈ ps → K64 k → Rg (elL L) w' b r m (mdel ps k) → w'.rangeLeft b r < w.rangeLeft b r → w.grownBy w' (some r) → w'.heap.size = w.heap.size →
      (Instr.entry (.pointer (some ⟨r, 0, none⟩))).run Try.prog w' = .ok (.tuple #[.int .i64 k, .agg #[.int .i64 p, .string (L p)]]) w' → wpList Try.prog ops Q rest (a.put o.dst (.tuple #[.bool true, .int .i64 k, .agg #[.int .i64 p, .string (L p)]])) w') : wpList Try.prog ops Q (o :: rest) a w := by
  obtain ⟨left, cnt, h, hr⟩ := h
  refine wpList_plain hg fun K' hK' => ?_
  unfold Oper.wp
  rcases h.next law3 o.type with ⟨h0, hl, hrun⟩ | ⟨key, v, kl, y, w', cnt', hkey, hlk, hv, hat, hrun, hrg, hlt, hgr, hsz, hen⟩
  · simp [execOp, hop, hit, hrun, Result.andThen]
    refine hK' _ _ (hDone ?_)
    rw [hr]
    apply List.filter_eq_nil_iff.2
    intro p _
    simp [hl]
  · obtain ⟨x, rfl, rfl, hwx⟩ := Maps.keyOf_int_inv Try.underlying3 hkey
    rcases elL_inv hv with ⟨rfl, e⟩ | ⟨p, hp, rfl, e⟩
    · cases e
      have := hz _ (dm_left hat)
      simp at this
    · cases e
      simp [execOp, hop, hit, hrun, Result.andThen]
      refine hK' _ _ (hMore x p w' ?_ hwx (next_rest hr hrg) (by rw [hrg.left_eq, h.left_eq]; exact hlt) hgr hsz hen)
      rw [hr]
      exact List.mem_filter.2 ⟨dm_left hat, hlk⟩
end

end Go.Proofs.Ytacgemibaojbaaa
