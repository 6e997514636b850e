/-
  A state copied: the walk of Copy. No condition.
-/
import Derived.Test.YtcmmhfjnhlaepabGreatDoorRCpy
import Derived.Test.YtcmmhfjnhlaepabGreatDoorRH5
namespace Go.Proofs.YtcmmhfjnhlaepabGreatDoor.S8
open Go Go.RowKit Go.Maps Go.Shelf Gp Pg We

theorem gA_cons (x : Asp) (r : List Asp) (id : Int) : gA (x :: r) id = if x.id = id then some x else gA r id := by
  unfold gA
  rw [List.find?_cons]
  by_cases h : x.id = id <;> simp [h]
theorem gA_small {l : List Asp} {i : Int} (h : ∀ y ∈ l, i < y.id) : gA l i = none := by
  unfold gA
  rw [List.find?_eq_none]
  intro y hy
  have := h y hy
  simp
  omega
theorem upA_ext : ∀ {l l' : List Asp}, UpA l → UpA l' → (∀ id, gA l id = gA l' id) → l = l'
  | [], [], _, _, _ => rfl
  | [], y :: q, _, _, h => by
    have := h y.id
    rw [gA_cons, if_pos rfl] at this
    cases this
  | x :: r, [], _, _, h => by
    have := h x.id
    rw [gA_cons, if_pos rfl] at this
    cases this
  | x :: r, y :: q, hu, hv, h => by
    have hu1 := List.pairwise_cons.1 hu
    have hv1 := List.pairwise_cons.1 hv
    have e : x.id = y.id := by
      rcases Int.lt_trichotomy x.id y.id with c | c | c
      · have h1 := h x.id
        rw [gA_cons, if_pos rfl, gA_small (fun z hz => by
          rcases List.mem_cons.1 hz with rfl | hz
          · exact c
          · have := hv1.1 z hz; omega)] at h1
        cases h1
      · exact c
      · have h1 := h y.id
        rw [gA_cons y, if_pos rfl, gA_small (fun z hz => by
          rcases List.mem_cons.1 hz with rfl | hz
          · exact c
          · have := hu1.1 z hz; omega)] at h1
        cases h1
    have h1 := h x.id
    rw [gA_cons, if_pos rfl, gA_cons, if_pos e.symm] at h1
    obtain rfl : x = y := by simpa using h1
    have h2 : r = q := upA_ext hu1.2 hv1.2 (fun id => by
      have h3 := h id
      rw [gA_cons, gA_cons] at h3
      by_cases c : x.id = id
      · subst c
        rw [gA_small hu1.1, gA_small hv1.1]
      · rwa [if_neg c, if_neg c] at h3)
    rw [h2]
theorem gA_iA {x : Asp} (id : Int) : ∀ {l : List Asp}, (∀ y ∈ l, y.id ≠ x.id) → gA (iA x l) id = if x.id = id then some x else gA l id
  | [], _ => gA_cons x [] id
  | y :: r, h => by
    unfold iA
    split
    · exact gA_cons x (y :: r) id
    · have h1 := gA_iA (x := x) id (l := r) (fun z hz => h z (by simp [hz]))
      rw [gA_cons, h1, gA_cons]
      by_cases c : y.id = id
      · rw [if_pos c, if_pos c, if_neg]
        intro e
        exact h y (by simp) (by omega)
      · rw [if_neg c, if_neg c]
theorem grown_cells {w w' : World} {R : Rdr} {b : Nat} {m : Pl} {g : Nat} {cs : Array Value} {t : TypeId} {f : Nat × Nat} (h : Mp R w b m) (q : w.grownBy w' (some b)) (hg : w.heap[g]? = some (Obj.cells cs t f)) : w'.heap[g]? = some (Obj.cells cs t f) :=
  (q.block g (Array.getElem?_eq_some_iff.1 hg).1 (by simpa using not_map h hg)).trans hg
theorem Mp.keptG {R} {w w' : World} {b g m} (h : Mp R w b m) (q : w.grownBy w' (some g)) (hne : b ≠ g) : Mp R w' b m := h.same (q.block b h.lt (by simpa using hne))
theorem SpAt.grown {w w' : World} {R b m} {x : Sp} (hx : SpAt w x) (h : Mp R w b m) (q : w.grownBy w' (some b)) (hne : x.pb ≠ b) : SpAt w' x := ⟨grown_cells h q hx.1, hx.2.keptG q hne⟩
theorem StAt.refsG {w w' : World} {s m} (h : StAt w s) (hm : Mp elI w' s.bR m) (q : w.grownBy w' (some s.bR)) : StAt w' { s with refs := m } := by
  obtain ⟨a1, a2, a3, a4, a5, a6, a7, a8⟩ := h.ap
  exact ⟨grown_cells h.hR q h.hp, h.hS.keptG q a1, hm, h.hB.keptG q a4.symm, h.hW.keptG q a5.symm, fun x hx => (h.hsp x hx).grown h.hR q (a7 x hx).2.1, h.nd, h.nds⟩
theorem StAt.badG {w w' : World} {s m} (h : StAt w s) (hm : Mp elU w' s.bB m) (q : w.grownBy w' (some s.bB)) : StAt w' { s with bad := m } := by
  obtain ⟨a1, a2, a3, a4, a5, a6, a7, a8⟩ := h.ap
  exact ⟨grown_cells h.hB q h.hp, h.hS.keptG q a2, h.hR.keptG q a4, hm, h.hW.keptG q a6.symm, fun x hx => (h.hsp x hx).grown h.hB q (a7 x hx).2.2.1, h.nd, h.nds⟩
theorem StAt.wornG {w w' : World} {s m} (h : StAt w s) (hm : Mp elI w' s.bW m) (q : w.grownBy w' (some s.bW)) : StAt w' { s with worn := m } := by
  obtain ⟨a1, a2, a3, a4, a5, a6, a7, a8⟩ := h.ap
  exact ⟨grown_cells h.hW q h.hp, h.hS.keptG q a3, h.hR.keptG q a5, h.hB.keptG q a6, hm, fun x hx => (h.hsp x hx).grown h.hW q (a7 x hx).2.2.2, h.nd, h.nds⟩
/-- what holds while Copy goes over the spaces: c has all but the rest -/
structure CoS (w : World) (s : St) (P r : Nat) (rest : Pl) (c : St) (wr : World) : Prop where
  st : StAt wr c
  rg : Rg elP wr s.bS r (spm s.sp) rest
  sub : rest.Sublist (spm s.sp)
  bel : Below w.heap.size w wr
  high : ∀ i ∈ foot c, w.heap.size ≤ i
  hr : w.heap.size ≤ r
  rn : r ∉ foot c
  len : c.sp.length + rest.length ≤ s.sp.length
  sp : ∀ id, gA (c.sp.map Sp.a) id = if (mget rest id).isSome then none else gA (s.sp.map Sp.a) id
  p : c.p = P
  no : c.refs = [] ∧ c.bad = [] ∧ c.worn = []
theorem spm_mem {l : List Sp} {k g : Int} (h : (k, g) ∈ spm l) : ∃ x ∈ l, x.id = k ∧ (x.sb : Int) = g := by
  unfold spm at h
  obtain ⟨x, hx, e⟩ := List.mem_map.1 h
  exact ⟨x, hx, congrArg Prod.fst e, congrArg Prod.snd e⟩
/-- one space more -/
theorem CoS.next {w s P r rest c wr w2 w3 w5} (hw : Whole w s) (h : CoS w s P r rest c wr) {x : Sp} (hx : x ∈ s.sp) (hm : (x.id, (x.sb : Int)) ∈ rest) (hrg : Rg elP w2 s.bS r (spm s.sp) (mdel rest x.id)) (hgr : wr.grownBy w2 (some r)) (o : Obj)
    (b3 : Below w2.heap.size w2 w3) (t5 : (w3.alloc o).mapTurned w5 c.bS) (g5 : StAt w5 (addS c ⟨x.id, x.q, x.sl, x.ps, w3.heap.size, w2.heap.size⟩)) :
    CoS w s P r (mdel rest x.id) (addS c ⟨x.id, x.q, x.sl, x.ps, w3.heap.size, w2.heap.size⟩) w5 ∧ w5.rangeLeft s.bS r = w2.rangeLeft s.bS r := by
  have hsz := h.bel.size
  have hs2 := hgr.size
  have hs3 := b3.size
  have hbS : w.heap.size ≤ c.bS := h.high _ (mem_bS c)
  have hsS : s.bS < w.heap.size := hw.at'.hS.lt
  have hr2 := h.hr
  have hrl := hrg.lt
  have hne : c.bS ≠ r := fun e => h.rn (e ▸ mem_bS c)
  have ea : ∀ i, i < w2.heap.size → i ≠ c.bS → w5.heap[i]? = w2.heap[i]? := fun i hi hn => by
    rw [t5.grown.block i (by rw [size_alloc]; omega) (by simpa using hn), Below.heap_alloc w3 o i (by omega), b3.block i hi]
  have e1 := ea s.bS (by omega) (by omega)
  have e2 := ea r hrl (fun e => hne e.symm)
  have hgn : gA (c.sp.map Sp.a) x.id = none := by
    rw [h.sp, mem_mget (up_sub hw.at'.hS.up h.sub) hm]
    rfl
  have hno : ∀ y ∈ c.sp.map Sp.a, y.id ≠ x.id := gA_none hgn
  have bel2 := below_grown h.bel hgr hsz h.hr
  have bel3 := (bel2.trans (b3.mono (by omega))).alloc (Nat.le_trans hsz (Nat.le_trans hs2 hs3)) o
  refine ⟨⟨g5, hrg.same e1 e2, (mdel_sub _ _).trans h.sub, bel3.grown t5.grown bel3.size (fun k hk => by cases hk; exact hbS), fun i hi => ?_, h.hr, fun hm2 => ?_, ?_, fun id => ?_, h.p, h.no⟩, left_same e1 e2⟩
  · rcases (foot_isp c _ i).1 hi with e | e | e
    · show w.heap.size ≤ i; rw [e]; show w.heap.size ≤ w3.heap.size; omega
    · rw [e]; show w.heap.size ≤ w2.heap.size; omega
    · exact h.high i e
  · rcases (foot_isp c _ r).1 hm2 with e | e | e
    · have e' : r = w3.heap.size := e; omega
    · have e' : r = w2.heap.size := e; omega
    · exact h.rn e
  · have h1 := (isp_perm ⟨x.id, x.q, x.sl, x.ps, w3.heap.size, w2.heap.size⟩ c.sp).length_eq
    rw [List.length_cons] at h1
    have h2 := mdel_lt hm
    have h3 := h.len
    show (isp _ c.sp).length + _ ≤ _
    omega
  · show gA ((isp ⟨x.id, x.q, x.sl, x.ps, w3.heap.size, w2.heap.size⟩ c.sp).map Sp.a) id = _
    rw [iA_map]
    have hxa : (Sp.a ⟨x.id, x.q, x.sl, x.ps, w3.heap.size, w2.heap.size⟩) = x.a := rfl
    rw [hxa, gA_iA id hno]
    by_cases c2 : x.id = id
    · subst c2
      rw [if_pos (show x.a.id = x.id from rfl), mget_del_same]
      have hu : UpA (s.sp.map Sp.a) := upA_of hw.at'.hS.up
      rw [show x.id = x.a.id from rfl, gA_mem hu (List.mem_map_of_mem hx)]
      rfl
    · rw [if_neg (show ¬ x.a.id = id from c2), mget_del_ne (fun e => c2 e.symm), h.sp]
/-- all spaces -/
theorem CoS.all {w s P r c wr} (hw : Whole w s) (h : CoS w s P r [] c wr) : c.sp.map Sp.a = s.sp.map Sp.a :=
  upA_ext (upA_of h.st.hS.up) (upA_of hw.at'.hS.up) (fun id => by rw [h.sp]; rfl)
set_option maxRecDepth 20000 in
set_option maxHeartbeats 4000000 in
theorem copy_any {w s} (h : Whole w s) : Calls Tryz.prog 46 #[.pointer (some ⟨s.p, 0, none⟩)] w fun e w' => ∃ s2, e = .returned (.pointer (some ⟨s2.p, 0, none⟩)) ∧ Whole w' s2 ∧ ab s2 = ab s ∧ (∀ i ∈ foot s2, w.heap.size ≤ i) ∧ Below w.heap.size w w' := by
  have H := Hid.mk h
  have hlen := h.inv.len
  have c0 := h.at'.c0
  clear h
  go_enter Tryz.func46, Tryz.ntmps46
  go_upto_region 4 with (first | (go_at_call 67; refine (newW_any _).mono ?_; rintro e w1 ⟨rfl, hw1, b1⟩))
  have c0' := (H.out.at'.call b1).c0
  have HN := Hid.mk (And.intro hw1 b1)
  clear hw1 b1 c0
  go_upto_region 5 with (first | (at_range; refine wp_range _ rfl _ 128 127 rfl Tryz.underlying128 (H.out.at'.call HN.out.2).hS rfl ?_; intro w4 r4 b4 z4))
  go_frame
  have S0 : CoS w s (w.heap.size + 4) w1.heap.size (spm s.sp) (newSt w.heap.size) w4 := by
    refine ⟨HN.out.1.at'.call b4, r4, List.Sublist.refl _, below3 HN.out.2 b4, foot_new _, HN.out.2.size, fun hm => Nat.lt_irrefl _ (HN.out.1.at'.foot_lt _ hm), ?_, fun id => ?_, rfl, rfl, rfl, rfl⟩
    · show 0 + _ ≤ _
      simp [spm]
    · show none = _
      have hu := upA_of H.out.at'.hS.up
      rw [spm_get]
      have hg := gA_map s.sp id
      cases hx : gsp s.sp id with
      | none => rw [hx] at hg; rw [hg]; rfl
      | some x => rfl
  replace S0 := Hid.mk S0
  clear r4 b4 z4 c0' HN
  generalize w1.heap.size = r at *
  generalize w.heap.size + 4 = P at *
  simp only [ab, List.length_map] at hlen
  go_loopw [4, 5] (fun _ _ wr => ∃ rest c, CoS w s P r rest c wr) (fun _ _ wr => wr.rangeLeft s.bS r)
  case atStart => exact ⟨_, _, S0.out⟩
  case round =>
    clear S0
    obtain ⟨rest, c, hs⟩ := hrel
    have HS := Hid.mk hs
    clear hs
    go_wp2_with (first | (at_next; refine wp_nextP _ rfl _ rfl HS.out.rg rfl ?_ ?_))
    · intro hd
      subst hd
      obtain rfl : c.p = P := HS.out.p
      have hcv := fun (c' : St) (W : World) (b : Below w.heap.size w W) => H.out.at'.frame (fun i hi => b.block i (H.out.at'.foot_lt i hi))
      have hl1 : s.refs.length < 1000000 := by have := H.out.refs.len H.out.at'.hR.up; omega
      have hl2 : s.bad.length < 1000000 := by have := H.out.inv.blen; simp only [ab] at this; omega
      have hl3 : s.worn.length < 1000000 := by have := H.out.inv.wlen; simp only [ab] at this; omega
      have hno := HS.out.no
      have hall := HS.out.all H.out
      have hhi := HS.out.high
      have st1 := HS.out.st.drew
      have bel1 := HS.out.bel.drew
      have sA1 := hcv s _ bel1
      have hR0 : Mp elI wr.drew c.bR [] := by rw [← hno.1]; exact st1.hR
      have ne1 : c.bR ≠ s.bR := by have := hhi _ (mem_bR c); have := H.out.at'.hR.lt; omega
      have d1 : wr.cell? ⟨c.p, 1, none⟩ = some (.map (some c.bR)) := HS.out.st.c1
      have k1 : wr.cell? ⟨s.p, 1, none⟩ = some (.map (some s.bR)) := sA1.c1
      have HK := Hid.mk (And.intro st1 (And.intro bel1 (And.intro sA1.hR (And.intro hR0 (And.intro hno (And.intro hall (And.intro hhi (And.intro ne1 hcv))))))))
      clear st1 bel1 sA1 hR0 hno hall hhi ne1 hcv HS
      go_upto_region 8 with fail
      go_region_with (go_at_call 88; refine (copyI_any HK.out.2.2.2.1 HK.out.2.2.1 HK.out.2.2.2.2.2.2.2.1 hl1).mono ?_; rintro e w5 ⟨rfl, m5, g5⟩)
      all_goals
        have st2 := HK.out.1.refsG m5 g5
        have bel2 : Below w.heap.size w w5 := below_grown HK.out.2.1 g5 HK.out.2.1.size (HK.out.2.2.2.2.2.2.1 _ (mem_bR c))
        have sA2 := HK.out.2.2.2.2.2.2.2.2 s _ bel2
        have hB0 : Mp elU w5.drew c.bB [] := by have := st2.drew.hB; simp only [HK.out.2.2.2.2.1.2.1] at this; exact this
        have hB1 : Mp elU w5.drew s.bB s.bad := sA2.drew.hB
        have ne2 : c.bB ≠ s.bB := by have := HK.out.2.2.2.2.2.2.1 _ (show c.bB ∈ foot c by simp [foot, maps]); have := H.out.at'.hB.lt; omega
        have d2 : w5.cell? ⟨c.p, 2, none⟩ = some (.map (some c.bB)) := st2.c2
        have k2 : w5.cell? ⟨s.p, 2, none⟩ = some (.map (some s.bB)) := sA2.c2
        have HL := Hid.mk (And.intro st2.drew (And.intro bel2.drew (And.intro hB0 (And.intro hB1 ne2))))
        clear st2 bel2 sA2 hB0 hB1 ne2 m5 g5 d1 k1
        go_upto_region 9 with fail
        go_region_with (go_at_call 89; refine (copyU_any HL.out.2.2.1 HL.out.2.2.2.1 HL.out.2.2.2.2 hl2).mono ?_; rintro e w6 ⟨rfl, m6, g6⟩)
        all_goals
          have st3 := HL.out.1.badG m6 g6
          have bel3 : Below w.heap.size w w6 := below_grown HL.out.2.1 g6 HL.out.2.1.size (HK.out.2.2.2.2.2.2.1 _ (show c.bB ∈ foot c by simp [foot, maps]))
          have sA3 := HK.out.2.2.2.2.2.2.2.2 s _ bel3
          have hW0 : Mp elI w6.drew c.bW [] := by have := st3.drew.hW; simp only [HK.out.2.2.2.2.1.2.2] at this; exact this
          have hW1 : Mp elI w6.drew s.bW s.worn := sA3.drew.hW
          have ne3 : c.bW ≠ s.bW := by have := HK.out.2.2.2.2.2.2.1 _ (show c.bW ∈ foot c by simp [foot, maps]); have := H.out.at'.hW.lt; omega
          have d3 : w6.cell? ⟨c.p, 3, none⟩ = some (.map (some c.bW)) := st3.c3
          have k3 : w6.cell? ⟨s.p, 3, none⟩ = some (.map (some s.bW)) := sA3.c3
          have HM := Hid.mk (And.intro st3.drew (And.intro bel3.drew (And.intro hW0 (And.intro hW1 ne3))))
          clear st3 bel3 sA3 hW0 hW1 ne3 m6 g6 d2 k2
          go_upto_region 10 with fail
          go_region_with (go_at_call 88; refine (copyI_any HM.out.2.2.1 HM.out.2.2.2.1 HM.out.2.2.2.2 hl3).mono ?_; rintro e w7 ⟨rfl, m7, g7⟩)
          all_goals
            have st4 := HM.out.1.wornG m7 g7
            have bel4 : Below w.heap.size w w7 := below_grown HM.out.2.1 g7 HM.out.2.1.size (HK.out.2.2.2.2.2.2.1 _ (show c.bW ∈ foot c by simp [foot, maps]))
            have ea : ab { c with refs := s.refs, bad := s.bad, worn := s.worn } = ab s := by unfold ab; rw [HK.out.2.2.2.2.2.1]
            have HF := Hid.mk (And.intro st4 (And.intro bel4 ea))
            clear st4 bel4 ea m7 g7 d3 k3
            go_wp2_with fail
            go_ret
            refine ⟨{ c with refs := s.refs, bad := s.bad, worn := s.worn }, rfl, ⟨HF.out.1, ?_, ?_⟩, HF.out.2.2, HK.out.2.2.2.2.2.2.1, HF.out.2.1⟩
            · rw [HF.out.2.2]; exact H.out.inv
            · rw [HF.out.2.2]; exact H.out.refs
    · intro k g w2 hm hk hrg hlt hgr hsz hen
      obtain ⟨x, hx, rfl, hxs⟩ := spm_mem (HS.out.sub.subset hm)
      obtain rfl : x.sb = g := by omega
      have hkx : K64 x.id := hk
      have hcl : c.sp.length < 1000000 := by have := HS.out.len; omega
      have g2 : StAt w2 c := HS.out.st.frame fun i hi => hgr.block i (HS.out.st.foot_lt i hi) (fun e => HS.out.rn (by cases e; exact hi))
      have bel2 : Below w.heap.size w w2 := below_grown HS.out.bel hgr HS.out.bel.size HS.out.hr
      have X2 : SpAt w2 x := (H.out.at'.frame fun i hi => bel2.block i (H.out.at'.foot_lt i hi)).hsp x hx
      have hgn : gsp c.sp x.id = none := by
        have h1 := HS.out.sp x.id
        rw [mem_mget (up_sub H.out.at'.hS.up HS.out.sub) hm, gA_map] at h1
        cases q : gsp c.sp x.id with
        | none => rfl
        | some y => rw [q] at h1; cases h1
      have hpn : x.pb ≠ c.bS := by
        have h1 := (H.out.at'.hsp x hx).2.lt
        have h2 := HS.out.high _ (mem_bS c)
        omega
      have hcp := HS.out.p
      have hS0 := Hid.mk (And.intro g2.c0 (And.intro X2.q (And.intro X2.sl X2.pb)))
      have HG := Hid.mk (And.intro g2 (And.intro X2 (And.intro hgn (And.intro hpn (And.intro hm (And.intro hrg (And.intro hlt (And.intro hgr (And.intro hx hcp)))))))))
      clear g2 bel2 X2 hgn hpn hm hrg hlt hgr hx hk hsz hxs
      go_upto_region 7 with fail
      clear hen
      subst hcp
      refine wp_region_held_drew (S := fun w' => w'.cell? ⟨c.p, 0, none⟩ = some (.map (some c.bS)) ∧ w'.cell? ⟨x.sb, 0, none⟩ = some (.int .i64 x.q) ∧ w'.cell? ⟨x.sb, 1, none⟩ = some (.bool x.sl) ∧ w'.cell? ⟨x.sb, 2, none⟩ = some (.map (some x.pb))) (by kernel_rfl) hS0.out (fun hHeld => ?_)
      refine wpAnyH_take (i := 0) (oi := { dst := some 19, op := Op.move (Operand.tmp 3), type := 61, pos := "state.go:45", after := #[], guard := none }) (v := ?vv0) rfl (by kernel_rfl) (by kernel_rfl) (by kernel_rfl) (fun _ _ _ h => h) (Or.inl ⟨by rfl, ?yy0⟩) hHeld ?rr0
      case yy0 => (intro w0 hSw; (try dsimp only at hSw); go_simp; try with_reducible rfl)
      try simp only [Act.put, List.setIfInBounds_toArray, List.set_cons_zero, List.set_cons_succ]
      refine wpAnyH_take (i := 1) (oi := { dst := some 20, op := Op.nilCheck (Operand.tmp 19), type := 0, pos := "state.go:45", after := #[{ on := 0, ground := Ground.data }], guard := none }) (v := ?vv1) rfl (by kernel_rfl) (by kernel_rfl) (by kernel_rfl) (fun _ _ _ h => h) (Or.inl ⟨by rfl, ?yy1⟩) hHeld ?rr1
      case yy1 => (intro w0 hSw; (try dsimp only at hSw); go_simp; try with_reducible rfl)
      try simp only [Act.put, List.setIfInBounds_toArray, List.set_cons_zero, List.set_cons_succ]
      refine wpAnyH_take (i := 2) (oi := { dst := some 21, op := Op.fieldAddr 131 (Operand.tmp 20) 0, type := 0, pos := "state.go:45", after := #[{ on := 1, ground := Ground.data }], guard := none }) (v := ?vv2) rfl (by kernel_rfl) (by kernel_rfl) (by kernel_rfl) (fun _ _ _ h => h) (Or.inl ⟨by rfl, ?yy2⟩) hHeld ?rr2
      case yy2 => (intro w0 hSw; (try dsimp only at hSw); go_simp; try with_reducible rfl)
      try simp only [Act.put, List.setIfInBounds_toArray, List.set_cons_zero, List.set_cons_succ]
      refine wpAnyH_take (i := 3) (oi := { dst := some 22, op := Op.load 128 (Operand.tmp 21), type := 128, pos := "state.go:45", after := #[{ on := 2, ground := Ground.data }], guard := none }) (v := ?vv3) rfl (by kernel_rfl) (by kernel_rfl) (by kernel_rfl) (fun _ _ _ h => h) (Or.inl ⟨by rfl, ?yy3⟩) hHeld ?rr3
      case yy3 => (intro w0 hSw; (try dsimp only at hSw); go_simp; try with_reducible rfl)
      try simp only [Act.put, List.setIfInBounds_toArray, List.set_cons_zero, List.set_cons_succ]
      refine wpAnyH_take (i := 4) (oi := { dst := some 23, op := Op.move (Operand.tmp 4), type := 3, pos := "state.go:45", after := #[], guard := none }) (v := ?vv4) rfl (by kernel_rfl) (by kernel_rfl) (by kernel_rfl) (fun _ _ _ h => h) (Or.inl ⟨by rfl, ?yy4⟩) hHeld ?rr4
      case yy4 => (intro w0 hSw; (try dsimp only at hSw); go_simp; try with_reducible rfl)
      try simp only [Act.put, List.setIfInBounds_toArray, List.set_cons_zero, List.set_cons_succ]
      refine wpAnyH_take (i := 5) (oi := { dst := some 24, op := Op.move (Operand.tmp 5), type := 127, pos := "state.go:45", after := #[], guard := none }) (v := ?vv5) rfl (by kernel_rfl) (by kernel_rfl) (by kernel_rfl) (fun _ _ _ h => h) (Or.inl ⟨by rfl, ?yy5⟩) hHeld ?rr5
      case yy5 => (intro w0 hSw; (try dsimp only at hSw); go_simp; try with_reducible rfl)
      try simp only [Act.put, List.setIfInBounds_toArray, List.set_cons_zero, List.set_cons_succ]
      refine wpAnyH_take (i := 6) (oi := { dst := some 25, op := Op.nilCheck (Operand.tmp 24), type := 0, pos := "state.go:45", after := #[{ on := 5, ground := Ground.data }], guard := none }) (v := ?vv6) rfl (by kernel_rfl) (by kernel_rfl) (by kernel_rfl) (fun _ _ _ h => h) (Or.inl ⟨by rfl, ?yy6⟩) hHeld ?rr6
      case yy6 => (intro w0 hSw; (try dsimp only at hSw); go_simp; try with_reducible rfl)
      try simp only [Act.put, List.setIfInBounds_toArray, List.set_cons_zero, List.set_cons_succ]
      refine wpAnyH_take (i := 7) (oi := { dst := some 26, op := Op.fieldAddr 133 (Operand.tmp 25) 0, type := 0, pos := "state.go:45", after := #[{ on := 6, ground := Ground.data }], guard := none }) (v := ?vv7) rfl (by kernel_rfl) (by kernel_rfl) (by kernel_rfl) (fun _ _ _ h => h) (Or.inl ⟨by rfl, ?yy7⟩) hHeld ?rr7
      case yy7 => (intro w0 hSw; (try dsimp only at hSw); go_simp; try with_reducible rfl)
      try simp only [Act.put, List.setIfInBounds_toArray, List.set_cons_zero, List.set_cons_succ]
      refine wpAnyH_take (i := 8) (oi := { dst := some 27, op := Op.load 3 (Operand.tmp 26), type := 3, pos := "state.go:45", after := #[{ on := 7, ground := Ground.data }], guard := none }) (v := ?vv8) rfl (by kernel_rfl) (by kernel_rfl) (by kernel_rfl) (fun _ _ _ h => h) (Or.inl ⟨by rfl, ?yy8⟩) hHeld ?rr8
      case yy8 => (intro w0 hSw; (try dsimp only at hSw); go_simp; try with_reducible rfl)
      try simp only [Act.put, List.setIfInBounds_toArray, List.set_cons_zero, List.set_cons_succ]
      refine wpAnyH_take (i := 9) (oi := { dst := some 28, op := Op.move (Operand.tmp 5), type := 127, pos := "state.go:45", after := #[], guard := none }) (v := ?vv9) rfl (by kernel_rfl) (by kernel_rfl) (by kernel_rfl) (fun _ _ _ h => h) (Or.inl ⟨by rfl, ?yy9⟩) hHeld ?rr9
      case yy9 => (intro w0 hSw; (try dsimp only at hSw); go_simp; try with_reducible rfl)
      try simp only [Act.put, List.setIfInBounds_toArray, List.set_cons_zero, List.set_cons_succ]
      refine wpAnyH_take (i := 10) (oi := { dst := some 29, op := Op.nilCheck (Operand.tmp 28), type := 0, pos := "state.go:45", after := #[{ on := 9, ground := Ground.data }], guard := none }) (v := ?vv10) rfl (by kernel_rfl) (by kernel_rfl) (by kernel_rfl) (fun _ _ _ h => h) (Or.inl ⟨by rfl, ?yy10⟩) hHeld ?rr10
      case yy10 => (intro w0 hSw; (try dsimp only at hSw); go_simp; try with_reducible rfl)
      try simp only [Act.put, List.setIfInBounds_toArray, List.set_cons_zero, List.set_cons_succ]
      refine wpAnyH_take (i := 11) (oi := { dst := some 30, op := Op.fieldAddr 133 (Operand.tmp 29) 1, type := 0, pos := "state.go:45", after := #[{ on := 10, ground := Ground.data }], guard := none }) (v := ?vv11) rfl (by kernel_rfl) (by kernel_rfl) (by kernel_rfl) (fun _ _ _ h => h) (Or.inl ⟨by rfl, ?yy11⟩) hHeld ?rr11
      case yy11 => (intro w0 hSw; (try dsimp only at hSw); go_simp; try with_reducible rfl)
      try simp only [Act.put, List.setIfInBounds_toArray, List.set_cons_zero, List.set_cons_succ]
      refine wpAnyH_take (i := 12) (oi := { dst := some 31, op := Op.load 4 (Operand.tmp 30), type := 4, pos := "state.go:45", after := #[{ on := 11, ground := Ground.data }], guard := none }) (v := ?vv12) rfl (by kernel_rfl) (by kernel_rfl) (by kernel_rfl) (fun _ _ _ h => h) (Or.inl ⟨by rfl, ?yy12⟩) hHeld ?rr12
      case yy12 => (intro w0 hSw; (try dsimp only at hSw); go_simp; try with_reducible rfl)
      try simp only [Act.put, List.setIfInBounds_toArray, List.set_cons_zero, List.set_cons_succ]
      refine wpAnyH_take (i := 13) (oi := { dst := some 32, op := Op.move (Operand.tmp 5), type := 127, pos := "state.go:45", after := #[], guard := none }) (v := ?vv13) rfl (by kernel_rfl) (by kernel_rfl) (by kernel_rfl) (fun _ _ _ h => h) (Or.inl ⟨by rfl, ?yy13⟩) hHeld ?rr13
      case yy13 => (intro w0 hSw; (try dsimp only at hSw); go_simp; try with_reducible rfl)
      try simp only [Act.put, List.setIfInBounds_toArray, List.set_cons_zero, List.set_cons_succ]
      refine wpAnyH_take (i := 14) (oi := { dst := some 33, op := Op.nilCheck (Operand.tmp 32), type := 0, pos := "state.go:45", after := #[{ on := 13, ground := Ground.data }], guard := none }) (v := ?vv14) rfl (by kernel_rfl) (by kernel_rfl) (by kernel_rfl) (fun _ _ _ h => h) (Or.inl ⟨by rfl, ?yy14⟩) hHeld ?rr14
      case yy14 => (intro w0 hSw; (try dsimp only at hSw); go_simp; try with_reducible rfl)
      try simp only [Act.put, List.setIfInBounds_toArray, List.set_cons_zero, List.set_cons_succ]
      refine wpAnyH_take (i := 15) (oi := { dst := some 34, op := Op.fieldAddr 133 (Operand.tmp 33) 2, type := 0, pos := "state.go:45", after := #[{ on := 14, ground := Ground.data }], guard := none }) (v := ?vv15) rfl (by kernel_rfl) (by kernel_rfl) (by kernel_rfl) (fun _ _ _ h => h) (Or.inl ⟨by rfl, ?yy15⟩) hHeld ?rr15
      case yy15 => (intro w0 hSw; (try dsimp only at hSw); go_simp; try with_reducible rfl)
      try simp only [Act.put, List.setIfInBounds_toArray, List.set_cons_zero, List.set_cons_succ]
      refine wpAnyH_take (i := 16) (oi := { dst := some 35, op := Op.load 129 (Operand.tmp 34), type := 129, pos := "state.go:45", after := #[{ on := 15, ground := Ground.data }], guard := none }) (v := ?vv16) rfl (by kernel_rfl) (by kernel_rfl) (by kernel_rfl) (fun _ _ _ h => h) (Or.inl ⟨by rfl, ?yy16⟩) hHeld ?rr16
      case yy16 => (intro w0 hSw; (try dsimp only at hSw); go_simp; try with_reducible rfl)
      try simp only [Act.put, List.setIfInBounds_toArray, List.set_cons_zero, List.set_cons_succ]
      refine wpAnyH_ready (rs := [17]) (by kernel_rfl) (by simp) ?_
      refine AllReadyH.cons (o := { dst := some 36, op := Op.call { callee := Callee.value (Operand.func 87), args := #[Operand.tmp 35], argTypes := #[129] }, type := 129, pos := "state.go:45", after := #[{ on := 16, ground := Ground.data }], guard := none }) rfl (fun K hK => ?_) AllReadyH.nil
      go_simp
      go_wp2_with (first | (go_at_call 87; refine (clone_any (w := w2.drew) HG.out.2.1.2).mono ?_; rintro e w3 ⟨rfl, m3, b3⟩))
      have B3 : Below w2.heap.size w2 w3 := (Below.refl _ w2).drew.trans b3
      have g3 := HG.out.1.call B3
      have X3 : SpAt w3 x := HG.out.2.1.same (B3.block _ HG.out.2.1.lt) (B3.block _ HG.out.2.1.2.lt)
      have HB := Hid.mk (And.intro B3 (And.intro g3 (And.intro X3 m3)))
      refine hK.out _ _ ⟨g3.c0, X3.q, X3.sl, X3.pb⟩ (fun hHeld => ?_)
      clear hK K
      try simp only [Act.put, List.setIfInBounds_toArray, List.set_cons_zero, List.set_cons_succ]
      clear B3 g3 X3 m3 b3 hS0
      refine wpAnyH_take (i := 18) (oi := { dst := some 37, op := Op.build 133 #[(0, Operand.tmp 27), (1, Operand.tmp 31), (2, Operand.tmp 36)], type := 133, pos := "state.go:45", after := #[{ on := 8, ground := Ground.data }, { on := 12, ground := Ground.data }, { on := 17, ground := Ground.data }], guard := none }) (v := ?vv18) rfl (by kernel_rfl) (by kernel_rfl) (by kernel_rfl) (fun _ _ _ h => h) (Or.inl ⟨by rfl, ?yy18⟩) hHeld ?rr18
      case yy18 => (intro w0 hSw; (try dsimp only at hSw); go_simp; try with_reducible rfl)
      try simp only [Act.put, List.setIfInBounds_toArray, List.set_cons_zero, List.set_cons_succ]
      refine wpAnyH_ready (rs := [19]) (by kernel_rfl) (by simp) ?_
      refine AllReadyH.cons (o := { dst := some 38, op := Op.box 133 (Operand.tmp 37), type := 127, pos := "state.go:45", after := #[{ on := 18, ground := Ground.data }], guard := none }) rfl (fun K hK => ?_) AllReadyH.nil
      go_simp
      have g4 := HB.out.2.1.alloc (.cells #[.int .i64 x.q, .bool x.sl, .map (some w2.heap.size)] 133)
      have X4 : SpAt (w3.alloc (.cells #[.int .i64 x.q, .bool x.sl, .map (some w2.heap.size)] 133)) x := HB.out.2.2.1.same (Below.heap_alloc _ _ _ HB.out.2.2.1.lt) (Below.heap_alloc _ _ _ HB.out.2.2.1.2.lt)
      have Y4 : SpAt (w3.alloc (.cells #[.int .i64 x.q, .bool x.sl, .map (some w2.heap.size)] 133)) ⟨x.id, x.q, x.sl, x.ps, w3.heap.size, w2.heap.size⟩ := ⟨heap_alloc_new _ _, HB.out.2.2.2.alloc _⟩
      obtain ⟨w5, hrun, m5, t5⟩ := g4.hS.store Tryz.underlying128 (by simp only [spm, List.length_map]; omega) hkx (val := .pointer (some ⟨w3.heap.size, 0, none⟩)) (v := (w3.heap.size : Int)) rfl
      refine hK.out _ _ ⟨g4.c0, X4.q, X4.sl, X4.pb⟩ (fun hHeld => ?_)
      clear hK K
      try simp only [Act.put, List.setIfInBounds_toArray, List.set_cons_zero, List.set_cons_succ]

      refine wpAnyH_ready (rs := [20]) (by kernel_rfl) (by simp) ?_
      refine AllReadyH.cons (o := { dst := none, op := Op.mapUpdate 128 (Operand.tmp 22) (Operand.tmp 23) (Operand.tmp 38), type := 0, pos := "state.go:45", after := #[{ on := 3, ground := Ground.data }, { on := 4, ground := Ground.data }, { on := 19, ground := Ground.data }, { on := 17, ground := Ground.chain }, { on := 0, ground := Ground.phase }, { on := 1, ground := Ground.phase }, { on := 2, ground := Ground.phase }, { on := 3, ground := Ground.phase }, { on := 4, ground := Ground.phase }, { on := 5, ground := Ground.phase }, { on := 6, ground := Ground.phase }, { on := 7, ground := Ground.phase }, { on := 8, ground := Ground.phase }, { on := 9, ground := Ground.phase }, { on := 10, ground := Ground.phase }, { on := 11, ground := Ground.phase }, { on := 12, ground := Ground.phase }, { on := 13, ground := Ground.phase }, { on := 14, ground := Ground.phase }, { on := 15, ground := Ground.phase }, { on := 16, ground := Ground.phase }, { on := 17, ground := Ground.phase }, { on := 18, ground := Ground.phase }, { on := 19, ground := Ground.phase }], guard := none }) rfl (fun K hK => ?_) AllReadyH.nil
      go_simp
      have hlt2 := HG.out.1.foot_lt
      have hsz3 := HB.out.1.size
      have n1 : w3.heap.size ∉ foot c := fun hm => by have := hlt2 _ hm; omega
      have n2 : w2.heap.size ∉ foot c := fun hm => by have := hlt2 _ hm; omega
      have g5 := g4.addT (x := ⟨x.id, x.q, x.sl, x.ps, w3.heap.size, w2.heap.size⟩) HG.out.2.2.1 Y4 n1 n2 m5 t5
      have X5 : SpAt w5 x := X4.turned g4.hS t5 HG.out.2.2.2.1
      have HE := Hid.mk (And.intro g5 (And.intro t5 (And.intro HB.out.1 (And.intro n1 n2))))
      refine hK.out _ _ ⟨g5.c0, X5.q, X5.sl, X5.pb⟩ (fun hHeld => ?_)
      clear hK K
      try simp only [Act.put, List.setIfInBounds_toArray, List.set_cons_zero, List.set_cons_succ]
      refine wpAnyH_done (by kernel_rfl) ?_ _
      clear hHeld
      go_wp2_with fail
      have q := HS.out.next H.out HG.out.2.2.2.2.2.2.2.2.1 HG.out.2.2.2.2.1 HG.out.2.2.2.2.2.1 HG.out.2.2.2.2.2.2.2.1 _ HE.out.2.2.1 HE.out.2.1 HE.out.1
      refine ⟨⟨_, _, q.1⟩, ?_⟩
      rw [q.2]
      exact HG.out.2.2.2.2.2.2.1
end Go.Proofs.YtcmmhfjnhlaepabGreatDoor.S8
