/-
  What the plain device shows: all spaces, all pages. No condition.
-/
import Derived.Test.YtacgemibaojbaaaMda
namespace Go.Proofs.Ytacgemibaojbaaa
open Go Go.RowKit Go.Maps

def svC (id q n : Int) (s : Bool) : Array Value := #[.int .i64 id, .int .i64 q, .int .i64 n, .bool s]
def svR (x : Asp) : List Value := (svC x.id x.q (x.ps.length : Int) x.sl).toList
def lfC (id page : Int) (s : ByteArray) : Array Value := #[.int .i64 id, .int .i64 page, .string s]
def lfR (L : Int → ByteArray) (y : L3) : List Value := (lfC y.1 y.2.1 (L y.2.2)).toList
/-- what the loop over spaces holds -/
structure SpsS (L : Int → ByteArray) (w : World) (b : Nat) (l : List Asp) (f : Int → Nat) (e : TypeId) (sz : Nat) (vi v : Value) (rows : Rws) (wr : World) : Prop where
  ids : Ow wr w.heap.size 3 1 vi (rI (l.map (·.id)))
  out : Ow wr w.heap.size e sz v rows
  at' : SpsAt L wr b l f
  below : Below w.heap.size w wr
  apart : ∀ g, vi.ownBlock = some g → v.ownBlock ≠ some g
theorem gr3 {wr w2 w3 : World} {o : Obj} {u : Option Nat} (b : Below wr.heap.size wr w2) (g : (w2.alloc o).grownBy w3 u) : wr.grownBy w3 u := by
  have g1 := World.grownBy_alloc w2 o u
  exact ⟨(g.os.trans g1.os).trans b.os, (g.tape.trans g1.tape).trans b.tape, (g.output.trans g1.output).trans b.output, Nat.le_trans (Nat.le_trans b.size g1.size) g.size, fun k hk hne => ((g.block k (Nat.lt_of_lt_of_le (Nat.lt_of_lt_of_le hk b.size) g1.size) hne).trans (g1.block k (Nat.lt_of_lt_of_le hk b.size) hne)).trans (b.block k hk)⟩
theorem SpsS.next {L w b l f e sz vi v v3 rows rows3 wr w3} (h : SpsS L w b l f e sz vi v rows wr) (hs : SpsAt L w b l f) (gr : wr.grownBy w3 v.ownBlock) (o3 : Ow w3 w.heap.size e sz v3 rows3) (p3 : v3.ownBlock = v.ownBlock ∨ ∃ g, v3.ownBlock = some g ∧ wr.heap.size ≤ g) : SpsS L w b l f e sz vi v3 rows3 w3 := by
  refine ⟨h.ids.kept gr ?_, o3, h.at'.same fun i hi hii => gr.block i hi (fun e2 => ?_), h.below.grown gr h.below.size (fun j hj => (h.out.lt j hj).1), fun g hg => ?_⟩
  · cases e2 : vi.ownBlock with
    | none => exact .inl rfl
    | some g => exact .inr (fun e3 => h.apart g e2 e3.symm)
  · have h1 := (h.out.lt i e2.symm).1
    rcases hii with rfl | ⟨x, hx, rfl⟩
    · have := hs.lt; omega
    · have := (hs.pg x hx).lt; omega
  · rcases p3 with p | ⟨g', p, q⟩
    · rw [p]; exact h.apart g hg
    · rw [p]
      intro e2
      cases e2
      have := (h.ids.lt g hg).2
      omega
theorem SpsS.call {L w b l f e sz vi v rows wr w3} (h : SpsS L w b l f e sz vi v rows wr) (q : Below wr.heap.size wr w3) : SpsS L w b l f e sz vi v rows w3 :=
  ⟨h.ids.call q, h.out.call q, h.at'.call q, below3 h.below q, h.apart⟩
theorem id_at {l : List Asp} (hu : UpA l) {k : Nat} (hk : k < l.length) : ∃ x, x ∈ l ∧ gA l x.id = some x ∧ (l.map (·.id)).getD k 0 = x.id ∧ l.getD k ⟨0, 0, false, []⟩ = x := by
  refine ⟨l[k], List.getElem_mem hk, gA_mem hu (List.getElem_mem hk), ?_, ?_⟩
  · rw [List.getD_eq_getElem?_getD, List.getElem?_map, List.getElem?_eq_getElem hk]; rfl
  · rw [List.getD_eq_getElem?_getD, List.getElem?_eq_getElem hk]; rfl
set_option maxRecDepth 20000 in
set_option maxHeartbeats 2000000 in
theorem all_any {L n w b l f} (h : SpsAt L w b l f) (hi : InvM n l) : Calls Try.prog 40 #[.map (some b)] w fun e w' => ∃ v, e = .returned v ∧ Ow w' w.heap.size 64 4 v (l.map svR) ∧ Below w.heap.size w w' := by
  have hl15 := hi.inv.len
  simp only at hl15
  have hri := riseS h.mp (by rw [spm_len]; omega)
  rw [spm_len, spm_ids] at hri
  have H := Hid.mk (And.intro h hi)
  have HR := Hid.mk hri
  clear h hi hri
  go_enter Try.func40, Try.ntmps40
  go_upto_region 3 with (first | (go_at_call 59; refine HR.out.mono ?_; rintro e w1 ⟨ia, ic, rfl, i1, b1⟩))
  have S0 : SpsS L w b l f 64 4 (.slice ia l.length ic) (.slice none 0 0) ((l.take 0).map svR) w1 := ⟨i1, Ow.nil _ _ _ _, H.out.1.call b1, b1, fun _ _ h => by cases h⟩
  replace S0 := Hid.mk S0
  clear i1 b1 HR
  generalize hn : l.length = n at *
  replace hn := Hid.mk hn
  go_loopw [3, 10] (fun v i wr => ∃ k : Nat, k ≤ n ∧ i = .int .i64 k ∧ SpsS L w b l f 64 4 (.slice ia n ic) v ((l.take k).map svR) wr) (fun _ i _ => n - (intOf i).toNat)
  case atStart => exact ⟨0, Nat.zero_le _, rfl, S0.out⟩
  case round =>
    clear S0
    obtain ⟨k, hk, rfl, hs⟩ := hrel
    by_cases hkn : k < n
    · have hkl : k < l.length := by have := hn.out; omega
      obtain ⟨g, rfl, hgB, hgl, cg⟩ := hs.ids.intAt (j := k) (by rw [List.length_map]; exact hkl)
      obtain ⟨x, hx, hgx, hid, hget⟩ := id_at H.out.2.inv.up hkl
      rw [hid] at cg
      have hx64 : K64 x.id := by have := H.out.2.inv.ids x hx; exact k64 (by omega) (by omega)
      have q1 := hs.at'.look H.out.2 false hx64 hgx
      simp only [Bool.false_eq_true, if_false] at q1
      have htk : (l.take (k + 1)).map svR = (l.take k).map svR ++ [(svC x.id x.q (x.ps.length : Int) x.sl).toList] := by
        rw [take_snoc l k ⟨0, 0, false, []⟩ hkl, List.map_append, hget]
        rfl
      have hrl : ((l.take k).map svR).length < 1000000 := by rw [List.length_map, List.length_take]; omega
      have ln := fun (o : Obj) ty => ((hs.at'.alloc o).pg x hx).len Try.underlying95 ty
      generalize (x.ps.length : Int) = m at *
      have HS := Hid.mk (And.intro hs (And.intro htk hrl))
      clear hs htk hrl hgx hid hget hkl hx64
      generalize f x.id = gx at *
      go_wp2_with (first
        | (at_builtin; refine wp_app ei64 rfl _ _ rfl (HS.out.1.out.alloc _) (Nat.le_trans HS.out.1.below.size (by rw [size_alloc]; omega)) (svC x.id x.q m x.sl) rfl (by first | rfl | (simp only [size_alloc]; rfl)) rfl (by simp [svC, Value.oneCell']) HS.out.2.2 ?_; intro v3 w3 o3 g3 p3))
      rw [← HS.out.2.1] at o3
      exact ⟨⟨k + 1, by omega, by go_num, HS.out.1.next H.out.1 (gr3 (Below.refl _ wr) g3) o3 (p3.imp id (fun ⟨g, q1, q2⟩ => ⟨g, q1, Nat.le_trans (by rw [size_alloc]; omega) q2⟩))⟩, by simp [intOf]; omega⟩
    · have hk2 : k = n := by omega
      subst hk2
      have HS := Hid.mk hs
      clear hs
      go_wp2_with fail
      go_ret
      have o5 := HS.out.out
      rw [List.take_of_length_le (by have := hn.out; omega)] at o5
      exact ⟨_, rfl, o5, HS.out.below⟩
/-- what the loop over a space's pages holds -/
structure LfS (L : Int → ByteArray) (w : World) (b : Nat) (l : List Asp) (f : Int → Nat) (x : Asp) (B : Nat) (vi vj v : Value) (rows : Rws) (wr : World) : Prop where
  s : SpsS L w b l f 62 3 vi v rows wr
  jds : Ow wr B 3 1 vj (rI (x.ps.map (·.1)))
  hB : w.heap.size ≤ B
  apart : ∀ g, vj.ownBlock = some g → v.ownBlock ≠ some g
theorem LfS.next {L w b l f x B vi vj v v3 rows rows3 wr w3} (h : LfS L w b l f x B vi vj v rows wr) (hs : SpsAt L w b l f) (gr : wr.grownBy w3 v.ownBlock) (o3 : Ow w3 w.heap.size 62 3 v3 rows3) (p3 : v3.ownBlock = v.ownBlock ∨ ∃ g, v3.ownBlock = some g ∧ wr.heap.size ≤ g) : LfS L w b l f x B vi vj v3 rows3 w3 := by
  refine ⟨h.s.next hs gr o3 p3, h.jds.kept gr ?_, h.hB, fun g hg => ?_⟩
  · cases e2 : vj.ownBlock with
    | none => exact .inl rfl
    | some g => exact .inr (fun e3 => h.apart g e2 e3.symm)
  · rcases p3 with p | ⟨g', p, q⟩
    · rw [p]; exact h.apart g hg
    · rw [p]
      intro e2
      cases e2
      have := (h.jds.lt g hg).2
      omega
theorem gr0 {wr w3 : World} {o : Obj} {u : Option Nat} (g : (wr.alloc o).grownBy w3 u) : wr.grownBy w3 u := gr3 (Below.refl _ wr) g
theorem lvA_take {l : List Asp} {k : Nat} (hk : k < l.length) {x : Asp} (hx : l.getD k ⟨0, 0, false, []⟩ = x) : lvA (l.take (k + 1)) = lvA (l.take k) ++ lvx x := by
  rw [take_snoc l k ⟨0, 0, false, []⟩ hk, hx]
  induction l.take k with
  | nil => simp [lvA]
  | cons y r ih => rw [List.cons_append, lvA, ih, lvA, List.append_assoc]
theorem pg_at {ps : Pl} (hu : Up ps) {j : Nat} (hj : j < ps.length) : ∃ p v, (p, v) ∈ ps ∧ mget ps p = some v ∧ (ps.map (·.1)).getD j 0 = p ∧ ps.getD j (0, 0) = (p, v) := by
  refine ⟨ps[j].1, ps[j].2, List.getElem_mem hj, mem_mget hu (List.getElem_mem hj), ?_, ?_⟩
  · rw [List.getD_eq_getElem?_getD, List.getElem?_map, List.getElem?_eq_getElem hj]; rfl
  · rw [List.getD_eq_getElem?_getD, List.getElem?_eq_getElem hj]; rfl
set_option maxRecDepth 20000 in
set_option maxHeartbeats 4000000 in
theorem leaves_any {L n w b l f} (h : SpsAt L w b l f) (hi : InvM n l) : Calls Try.prog 39 #[.map (some b)] w fun e w' => ∃ v, e = .returned v ∧ Ow w' w.heap.size 62 3 v ((lvA l).map (lfR L)) ∧ Below w.heap.size w w' := by
  have hl15 := hi.inv.len
  simp only at hl15
  have hri := riseS h.mp (by rw [spm_len]; omega)
  rw [spm_len, spm_ids] at hri
  have qf : ∀ a b c w, (Instr.field 97 (.agg #[a, b, c]) 2).run Try.prog w = .ok c w := fun a b c w => by kernel_rfl
  have qg : ∀ a b w, (Instr.field 75 (.agg #[a, b]) 1).run Try.prog w = .ok b w := fun a b w => by kernel_rfl
  have H := Hid.mk (And.intro h hi)
  have HR := Hid.mk hri
  clear h hi hri
  go_enter Try.func39, Try.ntmps39
  go_upto_region 3 with (first | (go_at_call 59; refine HR.out.mono ?_; rintro e w1 ⟨ia, ic, rfl, i1, b1⟩))
  have S0 : SpsS L w b l f 62 3 (.slice ia l.length ic) (.slice none 0 0) ((lvA (l.take 0)).map (lfR L)) w1 := ⟨i1, Ow.nil _ _ _ _, H.out.1.call b1, b1, fun _ _ h => by cases h⟩
  replace S0 := Hid.mk S0
  clear i1 b1 HR
  generalize hn : l.length = n at *
  replace hn := Hid.mk hn
  go_loopw [3, 12] (fun v i wr => ∃ k : Nat, k ≤ n ∧ i = .int .i64 k ∧ SpsS L w b l f 62 3 (.slice ia n ic) v ((lvA (l.take k)).map (lfR L)) wr) (fun _ i _ => n - (intOf i).toNat)
  case atStart => exact ⟨0, Nat.zero_le _, rfl, S0.out⟩
  case round =>
    clear S0
    obtain ⟨k, hk, rfl, hs⟩ := hrel
    by_cases hkn : k < n
    · have hkl : k < l.length := by have := hn.out; omega
      obtain ⟨g, rfl, hgB, hgl, cg⟩ := hs.ids.intAt (j := k) (by rw [List.length_map]; exact hkl)
      obtain ⟨x, hx, hgx, hid, hget⟩ := id_at H.out.2.inv.up hkl
      rw [hid] at cg
      have hx64 : K64 x.id := by have := H.out.2.inv.ids x hx; exact k64 (by omega) (by omega)
      have q1 := hs.at'.look H.out.2 false hx64 hgx
      simp only [Bool.false_eq_true, if_false] at q1
      have hpl := H.out.2.inv.plen hx
      have hrl := riseL (hs.at'.pg x hx) (by omega)
      have htk := lvA_take hkl hget
      have hll : (lvA (l.take k)).length ≤ 100000 := by
        rw [lvA_len]
        have := pagesN_le (l := l.take k) (fun y hy => H.out.2.inv.plen (List.mem_of_mem_take hy))
        have := List.length_take_le k l
        omega
      have HS := Hid.mk (And.intro hs (And.intro htk (And.intro hll (And.intro hx hgx))))
      have HR := Hid.mk hrl
      clear hs htk hgx hid hget hkl hx64 hrl hll
      generalize hgg : f x.id = gx at *
      replace hgg := Hid.mk hgg
      go_upto_region 7 with (first | (go_at_call 60; refine HR.out.mono ?_; rintro e w2 ⟨ja, jc, rfl, j1, b2⟩))
      have T0 : LfS L w b l f x wr.heap.size (.slice (some ⟨g, 0, none⟩) n ic) (.slice ja x.ps.length jc) u3 ((lvA (l.take k)).map (lfR L) ++ ((lvx x).take 0).map (lfR L)) w2 := by
        have s := HS.out.1.call b2
        refine ⟨by rw [List.take_zero, List.map_nil, List.append_nil]; exact s, j1, HS.out.1.below.size, fun g2 hg2 e2 => ?_⟩
        have h1 := (j1.lt g2 hg2).1
        have h2 := (HS.out.1.out.lt g2 e2).2
        omega
      replace T0 := Hid.mk T0
      clear j1 b2 HR q1
      generalize hm : x.ps.length = m at *
      replace hm := Hid.mk hm
      generalize wr.heap.size = B at *
      go_loopw [3, 23] (fun v i wq => ∃ j : Nat, j ≤ m ∧ i = .int .i64 j ∧ LfS L w b l f x B (.slice (some ⟨g, 0, none⟩) n ic) (.slice ja m jc) v ((lvA (l.take k)).map (lfR L) ++ ((lvx x).take j).map (lfR L)) wq) (fun _ i _ => m - (intOf i).toNat)
      case atStart => exact ⟨0, Nat.zero_le _, rfl, T0.out⟩
      case round =>
        clear T0
        obtain ⟨j, hj, rfl, ht⟩ := hrel
        by_cases hjm : j < m
        · have hjl : j < x.ps.length := by have := hm.out; omega
          obtain ⟨g2, rfl, hgB2, hgl2, cg2⟩ := ht.jds.intAt (j := j) (by rw [List.length_map]; exact hjl)
          obtain ⟨p, v, hpm, hmg, hpd, hpg⟩ := pg_at (H.out.2.inv.ups x hx) hjl
          rw [hpd] at cg2
          have hp64 : K64 p := by have := H.out.2.inv.pss x hx _ hpm; have := H.out.2.inv.qs x hx; simp only at *; exact k64 (by omega) (by omega)
          have q2 := ht.s.at'.page H.out.2 false hp64 HS.out.2.2.2.2
          simp only [Bool.false_eq_true, if_false] at q2
          rw [hmg, hgg.out] at q2
          simp only [svL] at q2
          have hrow : ((lvx x).take (j + 1)).map (lfR L) = ((lvx x).take j).map (lfR L) ++ [(lfC x.id p (L v)).toList] := by
            have hl : (lvx x).length = x.ps.length := by unfold lvx; rw [List.length_map]
            rw [take_snoc (lvx x) j (0, 0, 0) (by omega), List.map_append]
            have : (lvx x).getD j (0, 0, 0) = (x.id, p, v) := by
              unfold lvx
              rw [List.getD_eq_getElem?_getD, List.getElem?_map]
              rw [List.getD_eq_getElem?_getD] at hpg
              rw [List.getElem?_eq_getElem hjl] at hpg ⊢
              simp only [Option.getD_some] at hpg
              simp only [Option.map_some, Option.getD_some, hpg, fL]
            rw [this]
            rfl
          have hrl2 : ((lvA (l.take k)).map (lfR L) ++ ((lvx x).take j).map (lfR L)).length < 1000000 := by
            have := HS.out.2.2.1
            rw [List.length_append, List.length_map, List.length_map, List.length_take]
            omega
          generalize L v = str at *
          have HT := Hid.mk (And.intro ht (And.intro hrow hrl2))
          clear ht hrow hrl2 hmg hpd hpg hjl hp64 hpm
          go_wp2_with (first
            | (at_builtin; refine wp_app ei62 rfl _ _ rfl HT.out.1.s.out HT.out.1.s.below.size (lfC x.id p str) rfl (by first | rfl | (simp only [size_alloc]; rfl)) rfl (by simp [lfC, Value.oneCell']) HT.out.2.2 ?_; intro v3 w3 o3 g3 p3))
          rw [List.append_assoc, ← HT.out.2.1] at o3
          exact ⟨⟨j + 1, by omega, by go_num, HT.out.1.next H.out.1 g3 o3 p3⟩, by simp [intOf]; omega⟩
        · have hj2 : j = m := by omega
          subst hj2
          have HT := Hid.mk ht
          clear ht
          go_wp2_with fail
          have o5 := HT.out.s
          rw [List.take_of_length_le (l := lvx x) (by unfold lvx; rw [List.length_map]; have := hm.out; omega), ← List.map_append, ← HS.out.2.1] at o5
          exact ⟨⟨k + 1, by omega, by go_num, o5⟩, by simp [intOf]; omega⟩
    · have hk2 : k = n := by omega
      subst hk2
      have HS := Hid.mk hs
      clear hs
      go_wp2_with fail
      go_ret
      have o5 := HS.out.out
      rw [List.take_of_length_le (by have := hn.out; omega)] at o5
      exact ⟨_, rfl, o5, HS.out.below⟩
set_option maxRecDepth 20000 in
theorem spacesM_any {g X bS bO fS fO w} (h : MxH g X bS bO fS fO w) : Calls Try.prog 19 #[.pointer (some ⟨g, 0, none⟩)] w fun e w' => ∃ v, e = .returned v ∧ Ow w' w.heap.size 64 4 v ((nowL X).map svR) ∧ Below w.heap.size w w' := by
  have hn := isNone_no h
  have hw := now_any h
  obtain ⟨f, hs⟩ := h.now
  have ha := all_any hs h.inv.now
  generalize bO.getD bS = b at *
  have HN := Hid.mk (And.intro hn (And.intro hw ha))
  clear h hs hn hw ha
  go_enter Try.func19, Try.ntmps19
  go_wp2_with (first | (go_at_call 22; refine HN.out.1.mono ?_; rintro e w1 ⟨rfl, rfl⟩) | (go_at_call 38; refine HN.out.2.1.mono ?_; rintro e w1 ⟨rfl, rfl⟩) | (go_at_call 40; refine HN.out.2.2.mono ?_; rintro e w1 ⟨v, rfl, o1, b1⟩))
  go_ret
  exact ⟨v, rfl, o1, b1⟩
set_option maxRecDepth 20000 in
theorem leavesM_any {g X bS bO fS fO w} (h : MxH g X bS bO fS fO w) : Calls Try.prog 18 #[.pointer (some ⟨g, 0, none⟩)] w fun e w' => ∃ v, e = .returned v ∧ Ow w' w.heap.size 62 3 v ((lvA (nowL X)).map (lfR X.L)) ∧ Below w.heap.size w w' := by
  have hn := isNone_no h
  have hw := now_any h
  obtain ⟨f, hs⟩ := h.now
  have ha := leaves_any hs h.inv.now
  generalize bO.getD bS = b at *
  have HN := Hid.mk (And.intro hn (And.intro hw ha))
  clear h hs hn hw ha
  go_enter Try.func18, Try.ntmps18
  go_wp2_with (first | (go_at_call 22; refine HN.out.1.mono ?_; rintro e w1 ⟨rfl, rfl⟩) | (go_at_call 38; refine HN.out.2.1.mono ?_; rintro e w1 ⟨rfl, rfl⟩) | (go_at_call 39; refine HN.out.2.2.mono ?_; rintro e w1 ⟨v, rfl, o1, b1⟩))
  go_ret
  exact ⟨v, rfl, o1, b1⟩
end Go.Proofs.Ytacgemibaojbaaa
