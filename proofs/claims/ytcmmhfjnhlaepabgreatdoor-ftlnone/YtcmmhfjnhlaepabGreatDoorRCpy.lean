/-
  One map copied into an empty one: the two walks of maps.Copy. Condition: less than a million pairs.
-/
import Derived.Test.YtcmmhfjnhlaepabGreatDoorRH5
namespace Go.Proofs.YtcmmhfjnhlaepabGreatDoor.S8
open Go Go.RowKit Go.Maps Gp Pg We

/-- what was copied so far: all but the rest -/
def Cpd (m rest M : Pl) : Prop := rest.Sublist m ∧ M.length + rest.length ≤ m.length ∧ ∀ a, mget M a = if (mget rest a).isSome then none else mget m a
theorem Cpd.start (m : Pl) : Cpd m m [] := by
  refine ⟨List.Sublist.refl _, by simp, fun a => ?_⟩
  show none = _
  cases h : mget m a <;> simp
theorem mdel_lt {m : Pl} {k c : Int} (h : (k, c) ∈ m) : (mdel m k).length + 1 ≤ m.length := by
  unfold mdel
  have := List.length_filter_lt_length_iff_exists (p := fun p : Int × Int => !decide (p.1 = k)) (l := m)
  have h2 := this.2 ⟨(k, c), h, by simp⟩
  omega
theorem Cpd.step {m rest M : Pl} (hu : Up m) (h : Cpd m rest M) {k c : Int} (hm : (k, c) ∈ rest) : Cpd m (mdel rest k) (mput M k c) := by
  refine ⟨(mdel_sub _ _).trans h.1, ?_, fun a => ?_⟩
  · have h1 := mput_len M k c
    have h2 := mdel_lt hm
    have := h.2.1
    omega
  · by_cases e : a = k
    · subst e
      rw [mget_put, mget_del_same, mem_mget hu (h.1.subset hm)]
      rfl
    · rw [mget_put_ne e, mget_del_ne e, h.2.2 a]
theorem Cpd.done {m M : Pl} (hu : Up m) (hM : Up M) (h : Cpd m [] M) : M = m := up_ext hM hu (fun a => by rw [h.2.2 a]; rfl)
theorem grown_far {w wr w2 : World} {b r : Nat} (h : w.grownBy wr (some b)) (g : wr.grownBy w2 (some r)) (hr : w.heap.size ≤ r) : w.grownBy w2 (some b) :=
  ⟨g.os.trans h.os, g.tape.trans h.tape, g.output.trans h.output, Nat.le_trans h.size g.size, fun k hk hne => (g.block k (Nat.lt_of_lt_of_le hk h.size) (by simp; omega)).trans (h.block k hk hne)⟩
theorem grown_same {w wr w2 : World} {b : Nat} (h : w.grownBy wr (some b)) (g : wr.grownBy w2 (some b)) : w.grownBy w2 (some b) :=
  ⟨g.os.trans h.os, g.tape.trans h.tape, g.output.trans h.output, Nat.le_trans h.size g.size, fun k hk hne => (g.block k (Nat.lt_of_lt_of_le hk h.size) hne).trans (h.block k hk hne)⟩
theorem grown_below {w w2 : World} {b : Nat} (g : Below w.heap.size w w2) : w.grownBy w2 (some b) := ⟨g.os, g.tape, g.output, g.size, fun k hk _ => g.block k hk⟩
/-- what holds in maps.Copy -/
structure CpM (R : Rdr) (w : World) (b1 b2 r : Nat) (m rest M : Pl) (wr : World) : Prop where
  rg : Rg R wr b2 r m rest
  tq : Mp R wr b1 M
  cp : Cpd m rest M
  gr : w.grownBy wr (some b1)
  hr : w.heap.size ≤ r
  lt : b1 < w.heap.size
theorem CpM.take {R w b1 b2 r m rest rest2 M wr w2} (h : CpM R w b1 b2 r m rest M wr) (hrg : Rg R w2 b2 r m rest2) (g : wr.grownBy w2 (some r)) : Rg R w2 b2 r m rest2 ∧ Mp R w2 b1 M ∧ w.grownBy w2 (some b1) :=
  ⟨hrg, h.tq.same (g.block b1 h.tq.lt (by have := h.lt; have := h.hr; simp; omega)), grown_far h.gr g h.hr⟩
theorem CpM.put {R w b1 b2 r m rest M wr w2 w3} (h : CpM R w b1 b2 r m rest M wr) (hne : b1 ≠ b2) {k c : Int} (hm : (k, c) ∈ rest) (hrg : Rg R w2 b2 r m (mdel rest k)) (g : wr.grownBy w2 (some r)) (m3 : Mp R w3 b1 (mput M k c)) (t3 : w2.mapTurned w3 b1) : CpM R w b1 b2 r m (mdel rest k) (mput M k c) w3 ∧ w3.rangeLeft b2 r = w2.rangeLeft b2 r := by
  have e1 := t3.grown.block b2 hrg.mp.lt (by simpa using fun e => hne e.symm)
  have e2 := t3.grown.block r hrg.lt (by have := h.lt; have := h.hr; simp; omega)
  exact ⟨⟨hrg.same e1 e2, m3, h.cp.step h.rg.mp.up hm, grown_same (grown_far h.gr g h.hr) t3.grown, h.hr, h.lt⟩, left_same e1 e2⟩
set_option maxRecDepth 20000 in
set_option maxHeartbeats 2000000 in
theorem copyI_any {w : World} {b1 b2 : Nat} {m : Pl} (h1 : Mp elI w b1 []) (h2 : Mp elI w b2 m) (hne : b1 ≠ b2) (hl : m.length < 1000000) : Calls Tryz.prog 88 #[.map (some b1), .map (some b2)] w fun e w' => e = .returned (.tuple #[]) ∧ Mp elI w' b1 m ∧ w.grownBy w' (some b1) := by
  have H := Hid.mk (And.intro h1 (And.intro h2 hne))
  clear h1 h2 hne
  go_enter Tryz.func88, Tryz.ntmps88
  go_upto_region 1 with (first | (at_range; refine wp_range _ rfl _ 129 3 rfl Tryz.underlying129 H.out.2.1 rfl ?_; intro w4 r4 b4 z4))
  go_frame
  have S0 : CpM elI w b1 b2 w.heap.size m m [] w4 := ⟨r4, H.out.1.call b4, Cpd.start m, grown_below b4, Nat.le_refl _, H.out.1.lt⟩
  replace S0 := Hid.mk S0
  clear r4 b4 z4
  generalize w.heap.size = r at *
  go_loopw [4] (fun _ wr => ∃ rest M, CpM elI w b1 b2 r m rest M wr) (fun _ wr => wr.rangeLeft b2 r)
  case atStart => exact ⟨_, _, S0.out⟩
  case round =>
    clear S0
    obtain ⟨rest, M, hs⟩ := hrel
    have HS := Hid.mk hs
    clear hs
    go_wp2_with (first | (at_next; refine wp_next _ rfl _ rfl HS.out.rg rfl ?_ ?_))
    · intro hd
      subst hd
      go_wp2_with fail
      go_end0
      have e := HS.out.cp.done HS.out.rg.mp.up HS.out.tq.up
      exact ⟨rfl, e ▸ HS.out.tq, HS.out.gr⟩
    · intro k c w2 hm hk hrg hlt hgr hsz hen
      have hp := HS.out.take hrg hgr
      have hMl : M.length < 1000000 := by have := HS.out.cp.2.1; omega
      have HG := Hid.mk (And.intro hp (And.intro hm (And.intro hrg (And.intro hlt hgr))))
      clear hp hm hrg hlt hgr hsz
      go_wp2_with (first | (at_mapUpdate; refine wp_put _ rfl _ _ _ 129 3 rfl Tryz.underlying129 HG.out.1.2.1 hMl k c _ rfl rfl rfl hk rfl ?_; intro w3 m3 t3; go_frame))
      have q := HS.out.put H.out.2.2 HG.out.2.1 HG.out.2.2.1 HG.out.2.2.2.2 m3 t3
      refine ⟨⟨_, _, q.1⟩, ?_⟩
      rw [q.2]
      exact HG.out.2.2.2.1
section
variable (w : World) {ops : Array Oper} {rest : List Oper} {o : Oper} {a : Act} {Q : Exit → Act → World → Prop}
/-- the next of a map whose elements are nothing -/
theorem wp_nextU {b r : Nat} {m ps : Pl} (hg : o.guard = none) (it : Operand) (hop : o.op = Op.next it false) (h : Rg elU w b r m ps) (hit : a.eval it = .pointer (some ⟨r, 0, none⟩))
    (hDone : ps = [] → wpList Tryz.prog ops Q rest (a.put o.dst (.tuple #[.bool false])) w)
    (hMore : ∀ (k : Int) (w' : World), (k, 0) ∈ ps → K64 k → Rg elU w' b r m (mdel ps k) → w'.rangeLeft b r < w.rangeLeft b r → w.grownBy w' (some r) → w'.heap.size = w.heap.size →
      (Instr.entry (.pointer (some ⟨r, 0, none⟩))).run Tryz.prog w' = .ok (.tuple #[.int .i64 k, .agg #[]]) w' → wpList Tryz.prog ops Q rest (a.put o.dst (.tuple #[.bool true, .int .i64 k, .agg #[]])) w') : wpList Tryz.prog ops Q (o :: rest) a w := by
  obtain ⟨left, cnt, h, hr⟩ := h
  refine wpList_plain hg fun K' hK' => ?_
  unfold Oper.wp
  rcases h.next law3 o.type with ⟨h0, hl, hrun⟩ | ⟨key, v, kl, y, w', cnt', hkey, hlk, hv, hat, hrun, hrg, hlt, hgr, hsz, hen⟩
  · simp [execOp, hop, hit, hrun, Result.andThen]
    refine hK' _ _ (hDone ?_)
    rw [hr]
    apply List.filter_eq_nil_iff.2
    intro p _
    simp [hl]
  · obtain ⟨x, rfl, rfl, hwx⟩ := Maps.keyOf_int_inv Tryz.underlying3 hkey
    obtain ⟨rfl, e⟩ := elU_inv hv
    cases e
    simp [execOp, hop, hit, hrun, Result.andThen]
    refine hK' _ _ (hMore x w' ?_ hwx (next_rest hr hrg) (by rw [hrg.left_eq, h.left_eq]; exact hlt) hgr hsz hen)
    rw [hr]
    exact List.mem_filter.2 ⟨dm_left hat, hlk⟩
end
set_option maxRecDepth 20000 in
set_option maxHeartbeats 2000000 in
theorem copyU_any {w : World} {b1 b2 : Nat} {m : Pl} (h1 : Mp elU w b1 []) (h2 : Mp elU w b2 m) (hne : b1 ≠ b2) (hl : m.length < 1000000) : Calls Tryz.prog 89 #[.map (some b1), .map (some b2)] w fun e w' => e = .returned (.tuple #[]) ∧ Mp elU w' b1 m ∧ w.grownBy w' (some b1) := by
  have H := Hid.mk (And.intro h1 (And.intro h2 hne))
  clear h1 h2 hne
  go_enter Tryz.func89, Tryz.ntmps89
  go_upto_region 1 with (first | (at_range; refine wp_range _ rfl _ 67 89 rfl Tryz.underlying67 H.out.2.1 rfl ?_; intro w4 r4 b4 z4))
  go_frame
  have S0 : CpM elU w b1 b2 w.heap.size m m [] w4 := ⟨r4, H.out.1.call b4, Cpd.start m, grown_below b4, Nat.le_refl _, H.out.1.lt⟩
  replace S0 := Hid.mk S0
  clear r4 b4 z4
  generalize w.heap.size = r at *
  go_loopw [4] (fun _ wr => ∃ rest M, CpM elU w b1 b2 r m rest M wr) (fun _ wr => wr.rangeLeft b2 r)
  case atStart => exact ⟨_, _, S0.out⟩
  case round =>
    clear S0
    obtain ⟨rest, M, hs⟩ := hrel
    have HS := Hid.mk hs
    clear hs
    go_wp2_with (first | (at_next; refine wp_nextU _ rfl _ rfl HS.out.rg rfl ?_ ?_))
    · intro hd
      subst hd
      go_wp2_with fail
      go_end0
      have e := HS.out.cp.done HS.out.rg.mp.up HS.out.tq.up
      exact ⟨rfl, e ▸ HS.out.tq, HS.out.gr⟩
    · intro k w2 hm hk hrg hlt hgr hsz hen
      have hp := HS.out.take hrg hgr
      have hMl : M.length < 1000000 := by have := HS.out.cp.2.1; omega
      have HG := Hid.mk (And.intro hp (And.intro hm (And.intro hrg (And.intro hlt hgr))))
      clear hp hm hrg hlt hgr hsz
      go_upto_region 3 with fail
      have eb := Below.heap_alloc w2 (.cells #[] 89) b2 HG.out.2.2.1.mp.lt
      have er := Below.heap_alloc w2 (.cells #[] 89) r HG.out.2.2.1.lt
      have p1 := HG.out.2.2.1.same eb er
      have p2 := left_same eb er
      have p3 : wr.grownBy (w2.alloc (.cells #[] 89)) (some r) := grown_same HG.out.2.2.2.2 (World.grownBy_alloc w2 _ _)
      have p4 := HG.out.1.2.1.alloc (.cells #[] 89)
      have HG2 := Hid.mk (And.intro p1 (And.intro p2 (And.intro p3 p4)))
      clear p1 p2 p3 p4 eb er
      go_wp2_with (first | (at_mapUpdate; refine wp_put _ rfl _ _ _ 67 89 rfl Tryz.underlying67 HG2.out.2.2.2 hMl k 0 _ rfl rfl rfl hk rfl ?_; intro w3 m3 t3; go_frame))
      have q := HS.out.put H.out.2.2 HG.out.2.1 HG2.out.1 HG2.out.2.2.1 m3 t3
      refine ⟨⟨_, _, q.1⟩, ?_⟩
      rw [q.2, HG2.out.2.1]
      exact HG.out.2.2.2.1
end Go.Proofs.YtcmmhfjnhlaepabGreatDoor.S8
