/-
  How many pages a checkpoint takes at most: the walk of checkpointPages. No condition. A space's dump: the records that make it of nothing. No condition. Dump: the records that make a state of nothing. No condition. What a state tells makes the same state of nothing: said plainly. No condition. What is found on a chip, as it is put together: its block, its state, where pages stand that tell it. The walk of do: records of pages are done, and where these stand is noted. Condition: texts of whole records that may be, which the state does not refuse. The walk of do: records of pages are done, and where these stand is noted. Condition: texts of whole records that may be, which the state does not refuse. What pages come to that were found: the walk of Rebuild, and what an image tells. Conditions: at most 200 pages; the newest checkpoint's texts and the journal's (at most 19 groups of one page each, in the order of their places) hold whole records that may be and that the state does not refuse.
-/
import Derived.Test.YtcmmhfjnhlaepabGreatDoorRA
import Derived.Test.YtcmmhfjnhlaepabGreatDoorRCop
import Derived.Test.YtcmmhfjnhlaepabGreatDoorRRom
import Derived.Test.YtcmmhfjnhlaepabGreatDoorRH5
import Derived.Test.YtcmmhfjnhlaepabGreatDoorRN1
import Derived.Test.YtcmmhfjnhlaepabGreatDoorRK8
namespace Go.Proofs.YtcmmhfjnhlaepabGreatDoor
open Go Go.RowKit

set_option maxRecDepth 20000 in
theorem cpPages_any {w f F A X} (h : Fa w f F A X) {B0 : Nat} {w0 : World} {t : S8.Ab} (hH : ∀ w', Below w.heap.size w w' → S8.Hold B0 w0 F.st t w') (hk : S8.pagesN t.sp ≤ 5000) (hs : t.sp.length ≤ 100) (x : Int) (hx : (S8.pagesN t.sp : Int) * 9 + (t.sp.length : Int) * 9 + (X.C.B : Int) * 11 = x) :
    Calls Tryz.prog 69 #[.pointer (some ⟨f, 0, none⟩)] w fun e w' => e = .returned (.int .i64 (Rm.pgs x X.C.Z)) ∧ Below w.heap.size w w' := by
  have hg := h.wtr.chip.geo
  obtain ⟨_, _, c9⟩ := h.ptr
  have hlt : f < w.heap.size := (Array.getElem?_eq_some_iff.1 h.box).1
  have c1 : w.cell? ⟨f, 1, none⟩ = some (.int .i64 X.C.B) := h.c 1
  have c3 : w.cell? ⟨f, 3, none⟩ = some (.int .i64 X.C.Z) := h.c 3
  have HK := Hid.mk fun w' b => S8.hold_keys (hH w' b)
  have HS := Hid.mk fun w' b => S8.hold_spaces (hH w' b)
  obtain ⟨k, hk0⟩ : ∃ k, S8.pagesN t.sp = k := ⟨_, rfl⟩
  obtain ⟨n, hn0⟩ : ∃ n, t.sp.length = n := ⟨_, rfl⟩
  rw [hk0] at HK hk hx
  rw [hn0] at HS hs hx
  have HC := Hid.mk fun w' => Rm.cpLen_any (k : Int) (n : Int) (X.C.B : Int) x (by omega) (by omega) (by omega) hx w'
  have HP := Hid.mk fun w' => Rm.pagesOf_any x (X.C.Z : Int) (by omega) (by omega) w'
  have kS : Hid (∀ w', Below w.heap.size w w' → Below w.heap.size w w' ∧ w'.cell? ⟨f, 9, none⟩ = some (.pointer (some ⟨F.st, 0, none⟩)) ∧ w'.cell? ⟨f, 1, none⟩ = some (.int .i64 X.C.B) ∧ w'.cell? ⟨f, 3, none⟩ = some (.int .i64 X.C.Z)) := Hid.mk fun w' b =>
    ⟨b, (b.cell (p := ⟨f, 9, none⟩) hlt).trans c9, (b.cell (p := ⟨f, 1, none⟩) hlt).trans c1, (b.cell (p := ⟨f, 3, none⟩) hlt).trans c3⟩
  generalize Rm.pgs x (X.C.Z : Int) = y at *
  generalize X.C.B = B at *
  generalize X.C.Z = Z at *
  clear h hH hk0 hn0 hx hg c9 c1 c3 hk hs
  go_enter Tryz.func69, Tryz.ntmps69
  go_upto_region 1 with fail
  go_region_held3 (fun w' => Below w.heap.size w w' ∧ w'.cell? ⟨f, 9, none⟩ = some (.pointer (some ⟨F.st, 0, none⟩)) ∧ w'.cell? ⟨f, 1, none⟩ = some (.int .i64 B) ∧ w'.cell? ⟨f, 3, none⟩ = some (.int .i64 Z))
    (first | assumption | exact kS.out _ (Below.refl _ w) | exact kS.out _ (Below.refl _ w).drew | exact kS.out _ (below3 (And.left (by assumption)) (by assumption)) | fail)
    (first
      | (go_at_call 55; refine (HK.out _ (by first | exact Below.refl _ w | exact (Below.refl _ w).drew | exact And.left (by assumption))).mono ?_; rintro e w1 ⟨rfl, b1⟩)
      | (go_at_call 122; refine (HS.out _ (by first | exact Below.refl _ w | exact (Below.refl _ w).drew | exact And.left (by assumption))).mono ?_; rintro e w2 ⟨a2, cap2, rfl, o2, b2⟩)
      | (go_at_call 121; refine (HC.out _).mono ?_; rintro e w3 ⟨rfl, rfl⟩)
      | (go_at_call 120; refine (HP.out _).mono ?_; rintro e w4 ⟨rfl, rfl⟩))
  all_goals
    go_wp2_with fail
    go_ret
    exact ⟨rfl, And.left (by assumption)⟩
end Go.Proofs.YtcmmhfjnhlaepabGreatDoor
namespace Go.Proofs.YtcmmhfjnhlaepabGreatDoor.S8
open Go Go.RowKit Go.Maps Gp Pg We

theorem below_al (w : World) (o : Obj) : Below w.heap.size w (w.alloc o) := (Below.refl _ w).alloc (Nat.le_refl _) o
def cR (r : R6) : Array Value := #[.int .i64 r.1, .int .i64 r.2.1, .int .i64 r.2.2.1, .int .i64 r.2.2.2.1, .int .i64 r.2.2.2.2.1, .int .i64 r.2.2.2.2.2]
def rR (r : R6) : List Value := (cR r).toList
theorem Ow.lit (w : World) {B : Nat} (hB : B ≤ w.heap.size) (r : R6) : Ow (w.alloc (.cells (cR r) 47)) B 47 6 (.slice (some ⟨w.heap.size, 0, none⟩) 1 1) [rR r] :=
  ⟨by simpa [rR] using World.ownsRow_lit (e := 47) (size := 6) w (cR r) 1 hB (by simp [maxLen]) rfl, fun q hq => by rw [List.mem_singleton.1 hq]; rfl, fun q hq u hu => by rw [List.mem_singleton.1 hq] at hu; revert u; simp [rR, cR, Value.oneCell']⟩
theorem cR_one (r : R6) : ∀ u ∈ (cR r).toList, u.oneCell' = true := by simp [cR, Value.oneCell']
/-- a space as records -/
def dPut (i : Int) (p : Int × Int) : R6 := (1, i, p.1, p.2, 0, 0)
def dmA (x : Asp) : List R6 := (4, x.id, 0, 0, 0, x.q) :: (x.ps.map (dPut x.id) ++ if x.sl = true then [(7, x.id, 0, 0, 0, 0)] else [])
/-- what a dump's loops hold: the keys, the records, the state -/
structure GS (w : World) (s : St) (ids : List Int) (vi v : Value) (rows : Rws) (wr : World) : Prop where
  ids : Ow wr w.heap.size 3 1 vi (rI ids)
  out : Ow wr w.heap.size 47 6 v rows
  st : StAt wr s
  below : Below w.heap.size w wr
  apart : ∀ g, vi.ownBlock = some g → v.ownBlock ≠ some g
theorem GS.next {w : World} {s : St} {ids : List Int} {vi v v3 : Value} {rows rows3 : Rws} {wr w3 : World} (h : GS w s ids vi v rows wr) (hs : StAt w s) (gr : wr.grownBy w3 v.ownBlock) (o3 : Ow w3 w.heap.size 47 6 v3 rows3) (p3 : v3.ownBlock = v.ownBlock ∨ ∃ g, v3.ownBlock = some g ∧ wr.heap.size ≤ g) : GS w s ids vi v3 rows3 w3 := by
  refine ⟨h.ids.kept gr ?_, o3, h.st.frame fun i hi => gr.block i (h.st.foot_lt i hi) (fun e => ?_), h.below.grown gr h.below.size (fun j hj => (h.out.lt j hj).1), fun g hg => ?_⟩
  · cases e : vi.ownBlock with
    | none => exact .inl rfl
    | some g => exact .inr (fun e2 => h.apart g e e2.symm)
  · have := (h.out.lt i e.symm).1
    have := hs.foot_lt i hi
    omega
  · rcases p3 with p | ⟨g', p, q⟩
    · rw [p]; exact h.apart g hg
    · rw [p]
      intro e
      cases e
      have := (h.ids.lt g hg).2
      omega
/-- other keys are gone over -/
theorem GS.swap {w : World} {s : St} {ids ids2 : List Int} {vi vi2 v : Value} {rows : Rws} {wr w1 : World} (h : GS w s ids vi v rows wr) (b1 : Below wr.heap.size wr w1) (i1 : Ow w1 wr.heap.size 3 1 vi2 (rI ids2)) : GS w s ids2 vi2 v rows w1 := by
  refine ⟨i1.lower h.below.size, h.out.call b1, h.st.call b1, below3 h.below b1, fun g hg e => ?_⟩
  have h1 := (i1.lt g hg).1
  have h2 := (h.out.lt g e).2
  omega
set_option maxRecDepth 20000 in
theorem sdump_any {w s} (h : StAt w s) {x : Sp} (hx : x ∈ s.sp) (hk64 : ∀ p ∈ x.ps, K64 p.1) (hl : x.ps.length ≤ 1024) :
    Calls Tryz.prog 127 #[.pointer (some ⟨x.sb, 0, none⟩), .int .i64 x.id] w fun e w' => ∃ v, e = .returned v ∧ Ow w' w.heap.size 47 6 v ((dmA x.a).map rR) ∧ Below w.heap.size w w' := by
  have hX := h.hsp x hx
  have q0 := hX.q
  have q2 := fun o => ((h.alloc o).hsp x hx).pb
  have hxl := hX.lt
  have hri := fun o => riseI (hX.2.alloc o) (by omega)
  have H := Hid.mk (And.intro h (And.intro hk64 hX))
  have HR := Hid.mk hri
  clear h hk64 hri hX
  go_enter Tryz.func127, Tryz.ntmps127
  go_upto_region 3 with (first | (go_at_call 129; refine (HR.out _).mono ?_; rintro e w1 ⟨ia, ic, rfl, i1, b1⟩))
  have S0 : GS w s (x.ps.map (·.1)) (.slice ia x.ps.length ic) (.slice (some ⟨w.heap.size, 0, none⟩) 1 1) (((4, x.id, 0, 0, 0, x.q) :: (x.ps.take 0).map (dPut x.id)).map rR) w1 := by
    have g0 : GS w s [] (.slice none 0 0) (.slice (some ⟨w.heap.size, 0, none⟩) 1 1) (((4, x.id, 0, 0, 0, x.q) :: (x.ps.take 0).map (dPut x.id)).map rR) (w.alloc (.cells (cR (4, x.id, 0, 0, 0, x.q)) 47)) := ⟨Ow.nil _ _ _ _, Ow.lit w (Nat.le_refl _) _, H.out.1.alloc _, below_al w _, fun _ h => by cases h⟩
    exact g0.swap b1 i1
  replace S0 := Hid.mk S0
  clear i1 b1 q0 q2
  generalize hn : x.ps.length = n at *
  replace hn := Hid.mk hn
  go_loopw [5, 21] (fun v i wr => ∃ k : Nat, k ≤ n ∧ i = .int .i64 k ∧ GS w s (x.ps.map (·.1)) (.slice ia n ic) v (((4, x.id, 0, 0, 0, x.q) :: (x.ps.take k).map (dPut x.id)).map rR) wr) (fun _ i _ => n - (intOf i).toNat)
  case atStart => exact ⟨0, Nat.zero_le _, rfl, S0.out⟩
  case round =>
    clear S0
    obtain ⟨k, hk, rfl, hs⟩ := hrel
    by_cases hkn : k < n
    · have hkl : k < x.ps.length := by have := hn.out; omega
      obtain ⟨g, rfl, hgB, hgl, cg⟩ := hs.ids.intAt (j := k) (by rw [List.length_map]; exact hkl)
      have hp := List.getElem_mem hkl
      have htk : ((4, x.id, 0, 0, 0, x.q) :: (x.ps.take (k + 1)).map (dPut x.id)).map rR = ((4, x.id, 0, 0, 0, x.q) :: (x.ps.take k).map (dPut x.id)).map rR ++ [(cR (dPut x.id x.ps[k])).toList] := by
        rw [List.take_succ_eq_append_getElem hkl]
        simp only [List.map_append, List.map_cons, List.map_nil, List.cons_append]
        rfl
      have hpv : (x.ps.map (·.1)).getD k 0 = x.ps[k].1 := by
        rw [List.getD_eq_getElem?_getD, List.getElem?_map, List.getElem?_eq_getElem hkl]; rfl
      rw [hpv] at cg
      generalize x.ps[k] = p at *
      have hX := hs.st.hsp x hx
      have q2 := hX.pb
      have lk := hX.2.look (H.out.2.1 p hp)
      rw [mem_mget hX.2.up (k := p.1) (v := p.2) hp, Option.getD_some] at lk
      have hrl : (((4, x.id, 0, 0, 0, x.q) :: (x.ps.take k).map (dPut x.id)).map rR).length < 1000000 := by rw [List.length_map, List.length_cons, List.length_map, List.length_take]; omega
      have HS := Hid.mk (And.intro hs (And.intro htk hrl))
      clear hs htk hrl hpv hX hkl
      go_wp2_with (first | (at_builtin; refine wp_app ei47 rfl _ _ rfl HS.out.1.out HS.out.1.below.size (cR (dPut x.id p)) rfl rfl rfl (cR_one _) HS.out.2.2 ?_; intro v3 w3 o3 g3 p3))
      rw [← HS.out.2.1] at o3
      exact ⟨⟨k + 1, by omega, by go_num, HS.out.1.next H.out.1 g3 o3 p3⟩, by simp [intOf]; omega⟩
    · have hk2 : k = n := by omega
      subst hk2
      have hX := hs.st.hsp x hx
      have q1 := hX.sl
      rw [List.take_of_length_le (by have := hn.out; omega)] at hs
      have hrl : (((4, x.id, 0, 0, 0, x.q) :: x.ps.map (dPut x.id)).map rR).length < 1000000 := by rw [List.length_map, List.length_cons, List.length_map]; have := hn.out; omega
      have hd : (dmA x.a).map rR = ((4, x.id, 0, 0, 0, x.q) :: x.ps.map (dPut x.id)).map rR ++ if x.sl = true then [(cR (7, x.id, 0, 0, 0, 0)).toList] else [] := by
        show ((4, x.id, 0, 0, 0, x.q) :: (x.ps.map (dPut x.id) ++ if x.sl = true then [(7, x.id, 0, 0, 0, 0)] else [])).map rR = _
        split <;> simp [rR]
      have HD := Hid.mk hd
      clear hd hX
      have HS := Hid.mk (And.intro hs hrl)
      clear hs hrl
      cases hsl : x.sl with
      | true =>
        rw [hsl] at q1
        go_wp2_with (first | (at_builtin; refine wp_app ei47 rfl _ _ rfl HS.out.1.out HS.out.1.below.size (cR (7, x.id, 0, 0, 0, 0)) rfl rfl rfl (cR_one _) HS.out.2 ?_; intro v3 w3 o3 g3 p3))
        go_ret
        exact ⟨_, rfl, by rw [HD.out, hsl, if_pos rfl]; exact o3, (HS.out.1.next H.out.1 g3 o3 p3).below⟩
      | false =>
        rw [hsl] at q1
        go_wp2_with fail
        go_ret
        exact ⟨_, rfl, by rw [HD.out, hsl, if_neg (by simp), List.append_nil]; exact HS.out.1.out, HS.out.1.below⟩
end Go.Proofs.YtcmmhfjnhlaepabGreatDoor.S8
namespace Go.Proofs.YtcmmhfjnhlaepabGreatDoor.S8
open Go Go.RowKit Go.Maps Gp Pg We

section
variable {ops : Array Oper} {rest : List Oper} {o : Oper} {a : Act} {Q : Exit → Act → World → Prop}
/-- append of a whole slice -/
theorem wp_apps {t e sz bytes : Nat} (E : EI t e sz bytes) {w : World} {B B2 : Nat} {v v2 : Value} {rows rows2 : Rws} (hgd : o.guard = none) (s x : Operand) (ho : o.op = .call { callee := .builtin .append, args := #[s, x], argTypes := #[t, t] })
    (h : Ow w B e sz v rows) (hB : B ≤ w.heap.size) (h2 : Ow w B2 e sz v2 rows2) (hne : rows2 ≠ []) (hs : a.eval s = v) (hx : a.eval x = v2) (hn : rows.length + rows2.length < 1000000)
    (hK : ∀ v' w', Ow w' B e sz v' (rows ++ rows2) → w.grownBy w' v.ownBlock → (v'.ownBlock = v.ownBlock ∨ ∃ g, v'.ownBlock = some g ∧ w.heap.size ≤ g) → wpList Tryz.prog ops Q rest (a.put o.dst v') w') :
    wpList Tryz.prog ops Q (o :: rest) a w := by
  obtain ⟨i, z, q1, q2, q3, q4, q5⟩ := E.info
  have hby : (rows.length + rows2.length) * bytes ≤ 140737488355328 := by
    have := Nat.mul_le_mul_left (rows.length + rows2.length) E.top
    omega
  rcases h2.own.2 with ⟨_, hz⟩ | ⟨g, cap, cur, rfl, hr⟩
  · exact absurd (List.length_eq_zero_iff.1 hz) hne
  refine wpList_append_own_at _ hgd s x t ho B e i z sz bytes E.under q1 q2 q3 q4 q5 E.pos v rows.length rows.flatten hs h.own ⟨g, 0, none⟩ rows2.length cap rows2.flatten hx h2.own.1 (h2.own.cells rfl) (fun u hu => by obtain ⟨r, hr, hu⟩ := List.mem_flatten.1 hu; exact h2.one r hr u hu) (by simp [maxLen]; omega) hby hB (fun v' w' p1 p2 _ p4 => ?_)
  refine hK v' w' ⟨by rw [List.length_append, List.flatten_append]; exact p1, fun r hr => ?_, fun r hr => ?_⟩ p2 (p4.imp id (fun p4 => ⟨_, p4, Nat.le_refl _⟩))
  · rcases List.mem_append.1 hr with hr | hr
    · exact h.len r hr
    · exact h2.len r hr
  · rcases List.mem_append.1 hr with hr | hr
    · exact h.one r hr
    · exact h2.one r hr
end
def dBad (p : Int × Int) : R6 := (8, 0, 0, p.1, 0, 0)
def dWorn (p : Int × Int) : R6 := (9, 0, 0, p.1, 0, p.2)
/-- a state as records -/
def dumpA (t : Ab) : List R6 := t.sp.flatMap dmA ++ t.bad.map dBad ++ t.worn.map dWorn
theorem dmA_len (x : Asp) : (dmA x).length ≤ x.ps.length + 2 := by
  unfold dmA
  rw [List.length_cons, List.length_append, List.length_map]
  split <;> simp
theorem dm_len {l : List Asp} (h : ∀ x ∈ l, x.ps.length ≤ 1024) : (l.flatMap dmA).length ≤ l.length * 1026 := by
  induction l with
  | nil => simp
  | cons x r ih =>
    have h1 := dmA_len x
    have h2 := h x (by simp)
    have h3 := ih (fun y hy => h y (by simp [hy]))
    rw [List.flatMap_cons, List.length_append, List.length_cons]
    omega
theorem dmA_ne (x : Asp) : (dmA x).map rR ≠ [] := by simp [dmA]
/-- the records so far -/
def du (t : Ab) (i j k : Nat) : Rws := ((t.sp.take i).flatMap dmA ++ (t.bad.take j).map dBad ++ (t.worn.take k).map dWorn).map rR
theorem du_len {t : Ab} (h : InvA t) (i j k : Nat) : (du t i j k).length < 20000 := by
  have h1 := dm_len (l := t.sp.take i) (fun x hx => h.plen (List.mem_of_mem_take hx))
  have h2 := h.len
  have h3 := h.blen
  have h4 := h.wlen
  unfold du
  rw [List.length_map, List.length_append, List.length_append, List.length_map, List.length_map]
  have h5 : (t.sp.take i).length ≤ t.sp.length := by rw [List.length_take]; omega
  have h6 : (t.bad.take j).length ≤ t.bad.length := by rw [List.length_take]; omega
  have h7 : (t.worn.take k).length ≤ t.worn.length := by rw [List.length_take]; omega
  omega
theorem du_sp (t : Ab) {i : Nat} (h : i < t.sp.length) : du t (i + 1) 0 0 = du t i 0 0 ++ (dmA t.sp[i]).map rR := by
  unfold du
  rw [List.take_succ_eq_append_getElem h, List.flatMap_append]
  simp
theorem du_bad (t : Ab) (i : Nat) {j : Nat} (h : j < t.bad.length) : du t i (j + 1) 0 = du t i j 0 ++ [(cR (dBad t.bad[j])).toList] := by
  unfold du
  rw [List.take_succ_eq_append_getElem h]
  simp only [List.map_append, List.map_cons, List.map_nil, List.take_zero, List.append_nil, ← List.append_assoc]
  rfl
theorem du_worn (t : Ab) (i j : Nat) {k : Nat} (h : k < t.worn.length) : du t i j (k + 1) = du t i j k ++ [(cR (dWorn t.worn[k])).toList] := by
  unfold du
  rw [List.take_succ_eq_append_getElem h]
  simp only [List.map_append, List.map_cons, List.map_nil, ← List.append_assoc]
  rfl
theorem du_all (t : Ab) : du t t.sp.length t.bad.length t.worn.length = (dumpA t).map rR := by
  unfold du dumpA
  rw [List.take_length, List.take_length, List.take_length]
set_option maxRecDepth 20000 in
theorem dump_any {w s} (h : Whole w s) : Calls Tryz.prog 73 #[.pointer (some ⟨s.p, 0, none⟩)] w fun e w' => ∃ v, e = .returned v ∧ Ow w' w.heap.size 47 6 v ((dumpA (ab s)).map rR) ∧ Below w.heap.size w w' := by
  have c0 := h.at'.c0
  have hl15 := h.inv.len
  have hlm : (spm s.sp).length = s.sp.length := by simp [spm]
  have hri := riseP h.at'.hS (by rw [hlm]; simp only [ab, List.length_map] at hl15; omega)
  rw [hlm, spm_ids] at hri
  have H := Hid.mk h
  have HR := Hid.mk hri
  clear h hri hlm
  go_enter Tryz.func73, Tryz.ntmps73
  go_upto_region 5 with (first | (go_at_call 126; refine HR.out.mono ?_; rintro e w1 ⟨ia, ic, rfl, i1, b1⟩))
  have S0 : GS w s ((ab s).sp.map (·.id)) (.slice ia s.sp.length ic) (.slice none 0 0) (du (ab s) 0 0 0) w1 := ⟨i1, Ow.nil _ _ _ _, H.out.at'.call b1, b1, fun _ _ h => by cases h⟩
  replace S0 := Hid.mk S0
  have hl2 : s.sp.length ≤ 15 := by simpa [ab] using hl15
  clear i1 b1 c0 hl15
  generalize hn : s.sp.length = n at *
  replace hn := Hid.mk hn
  go_loopw [3, 18] (fun v i wr => ∃ k : Nat, k ≤ n ∧ i = .int .i64 k ∧ GS w s ((ab s).sp.map (·.id)) (.slice ia n ic) v (du (ab s) k 0 0) wr) (fun _ i _ => n - (intOf i).toNat)
  case atStart => exact ⟨0, Nat.zero_le _, rfl, S0.out⟩
  case round =>
    clear S0
    obtain ⟨k, hk, rfl, hs⟩ := hrel
    by_cases hkn : k < n
    · have hkl : k < s.sp.length := by have := hn.out; omega
      have hka : k < (ab s).sp.length := by simp only [ab, List.length_map]; exact hkl
      obtain ⟨g, rfl, hgB, hgl, cg⟩ := hs.ids.intAt (j := k) (by rw [List.length_map]; exact hka)
      have hx := List.getElem_mem hkl
      have hdu := du_sp (ab s) hka
      have hxa : (ab s).sp[k] = (s.sp[k]).a := by simp [ab]
      rw [hxa] at hdu
      have hxv : ((ab s).sp.map (·.id)).getD k 0 = (s.sp[k]).id := by
        rw [List.getD_eq_getElem?_getD, List.getElem?_map, List.getElem?_eq_getElem hka, hxa]; rfl
      rw [hxv] at cg
      generalize s.sp[k] = x at *
      have hgx : gsp s.sp x.id = some x := by
        have h1 : (gsp s.sp x.id).isSome = true := by unfold gsp; rw [List.find?_isSome]; exact ⟨x, hx, by simp⟩
        obtain ⟨y, hy⟩ := Option.isSome_iff_exists.1 h1
        rw [hy, up_one hs.st.hS.up (gsp_some hy).1 hx (gsp_some hy).2]
      have c0 := hs.st.c0
      have lk := hs.st.aSp (k15 (H.out.inv.ids _ (ab_mem hx))) hgx
      have hsd := sdump_any hs.st hx (fun p hp => by have := H.out.inv.pss _ (ab_mem hx) p hp; have := H.out.inv.qs _ (ab_mem hx); exact k64 (by omega) (by have : x.a.q = x.q := rfl; omega)) (H.out.inv.plen (ab_mem hx))
      have hrl := du_len H.out.inv k 0 0
      have hrl2 := dmA_len x.a
      have hrl3 := H.out.inv.plen (ab_mem hx)
      have HP := Hid.mk hsd
      have HS := Hid.mk (And.intro hs (And.intro hdu (And.intro hrl (And.intro hrl2 hrl3))))
      clear hsd hs hdu hrl hrl2 hrl3 hgx hxv hxa hkl hka
      go_wp2_with (first
        | (go_at_call 127; refine HP.out.mono ?_; rintro e w2 ⟨v2, rfl, o2, b2⟩)
        | (at_builtin; refine wp_apps ei47 rfl _ _ rfl (HS.out.1.out.call b2) (Nat.le_trans HS.out.1.below.size b2.size) o2 (dmA_ne _) rfl rfl (by have := HS.out.2.2.1; have := HS.out.2.2.2.1; have := HS.out.2.2.2.2; rw [List.length_map]; omega) ?_; intro v3 w3 o3 g3 p3))
      rw [← HS.out.2.1] at o3
      have gr : wr.grownBy w3 _ := ⟨g3.os.trans b2.os, g3.tape.trans b2.tape, g3.output.trans b2.output, Nat.le_trans b2.size g3.size, fun k hk hne => (g3.block k (Nat.lt_of_lt_of_le hk b2.size) hne).trans (b2.block k hk)⟩
      exact ⟨⟨k + 1, by omega, by go_num, HS.out.1.next H.out.at' gr o3 (p3.imp id (fun ⟨g, q1, q2⟩ => ⟨g, q1, Nat.le_trans b2.size q2⟩))⟩, by simp [intOf]; omega⟩
    · have hk2 : k = n := by omega
      subst hk2
      have c2 := hs.st.c2
      have hbl := H.out.inv.blen
      have hrb := riseU hs.st.hB (by simp only [ab] at hbl; omega)
      have HS := Hid.mk hs
      have HRb := Hid.mk hrb
      clear hs hrb
      go_upto_region 10 with (first | (go_at_call 128; refine HRb.out.mono ?_; rintro e w1 ⟨ja, jc, rfl, i1, b1⟩))
      have S1 := Hid.mk (HS.out.swap b1 i1)
      clear i1 b1 c2 HS HRb
      replace hbl : s.bad.length ≤ 32 := hbl
      generalize hnb : (s.bad : Pl).length = nb at *
      replace hnb := Hid.mk hnb
      go_loopw [3, 39] (fun v i wr => ∃ j : Nat, j ≤ nb ∧ i = .int .i64 j ∧ GS w s (s.bad.map (·.1)) (.slice ja nb jc) v (du (ab s) k j 0) wr) (fun _ i _ => nb - (intOf i).toNat)
      case atStart => exact ⟨0, Nat.zero_le _, rfl, S1.out⟩
      case round =>
        clear S1
        obtain ⟨j, hj, rfl, hs⟩ := hrel
        by_cases hjn : j < nb
        · have hjl : j < s.bad.length := by have := hnb.out; omega
          obtain ⟨g, rfl, hgB, hgl, cg⟩ := hs.ids.intAt (j := j) (by rw [List.length_map]; exact hjl)
          have hdu : du (ab s) k (j + 1) 0 = du (ab s) k j 0 ++ [(cR (dBad s.bad[j])).toList] := du_bad (ab s) k (j := j) hjl
          have hxv : (s.bad.map (·.1)).getD j 0 = (s.bad[j]).1 := by
            rw [List.getD_eq_getElem?_getD, List.getElem?_map, List.getElem?_eq_getElem hjl]; rfl
          rw [hxv] at cg
          generalize s.bad[j] = p at *
          have hrl := du_len H.out.inv k j 0
          have HS := Hid.mk (And.intro hs (And.intro hdu hrl))
          clear hs hdu hrl hxv hjl
          go_wp2_with (first | (at_builtin; refine wp_app ei47 rfl _ _ rfl HS.out.1.out HS.out.1.below.size (cR (dBad p)) rfl rfl rfl (cR_one _) (Nat.lt_trans HS.out.2.2 (by decide)) ?_; intro v3 w3 o3 g3 p3))
          rw [← HS.out.2.1] at o3
          exact ⟨⟨j + 1, by omega, by go_num, HS.out.1.next H.out.at' g3 o3 p3⟩, by simp [intOf]; omega⟩
        · have hj2 : j = nb := by omega
          subst hj2
          have c3 := hs.st.c3
          have hwl := H.out.inv.wlen
          have hrw := riseI hs.st.hW (by simp only [ab] at hwl; omega)
          have HS := Hid.mk hs
          have HRw := Hid.mk hrw
          clear hs hrw
          go_upto_region 15 with (first | (go_at_call 129; refine HRw.out.mono ?_; rintro e w1 ⟨la, lc, rfl, i1, b1⟩))
          have S2 := Hid.mk (HS.out.swap b1 i1)
          clear i1 b1 c3 HS HRw
          replace hwl : s.worn.length ≤ 32 := hwl
          generalize hnw : (s.worn : Pl).length = nw at *
          replace hnw := Hid.mk hnw
          go_loopw [3, 55] (fun v i wr => ∃ l : Nat, l ≤ nw ∧ i = .int .i64 l ∧ GS w s (s.worn.map (·.1)) (.slice la nw lc) v (du (ab s) k j l) wr) (fun _ i _ => nw - (intOf i).toNat)
          case atStart => exact ⟨0, Nat.zero_le _, rfl, S2.out⟩
          case round =>
            clear S2
            obtain ⟨l, hl, rfl, hs⟩ := hrel
            by_cases hln : l < nw
            · have hll : l < s.worn.length := by have := hnw.out; omega
              obtain ⟨g, rfl, hgB, hgl, cg⟩ := hs.ids.intAt (j := l) (by rw [List.length_map]; exact hll)
              have hdu : du (ab s) k j (l + 1) = du (ab s) k j l ++ [(cR (dWorn s.worn[l])).toList] := du_worn (ab s) k j (k := l) hll
              have hp := List.getElem_mem hll
              have hxv : (s.worn.map (·.1)).getD l 0 = (s.worn[l]).1 := by
                rw [List.getD_eq_getElem?_getD, List.getElem?_map, List.getElem?_eq_getElem hll]; rfl
              rw [hxv] at cg
              generalize s.worn[l] = p at *
              have c3 := hs.st.c3
              have lk := hs.st.hW.look (k := p.1) (k64 (by have := H.out.inv.worn p hp; omega) (by have := H.out.inv.worn p hp; omega))
              rw [mem_mget hs.st.hW.up (k := p.1) (v := p.2) hp, Option.getD_some] at lk
              have hrl := du_len H.out.inv k j l
              have HS := Hid.mk (And.intro hs (And.intro hdu hrl))
              clear hs hdu hrl hxv hll
              go_wp2_with (first | (at_builtin; refine wp_app ei47 rfl _ _ rfl HS.out.1.out HS.out.1.below.size (cR (dWorn p)) rfl rfl rfl (cR_one _) (Nat.lt_trans HS.out.2.2 (by decide)) ?_; intro v3 w3 o3 g3 p3))
              rw [← HS.out.2.1] at o3
              exact ⟨⟨l + 1, by omega, by go_num, HS.out.1.next H.out.at' g3 o3 p3⟩, by simp [intOf]; omega⟩
            · have hl2 : l = nw := by omega
              subst hl2
              have HS := Hid.mk hs
              clear hs
              go_wp2_with fail
              go_ret
              have o5 := HS.out.out
              have e5 := du_all (ab s)
              have e6 : (ab s).sp.length = k := by simp only [ab, List.length_map]; exact hn.out
              have e7 : (ab s).bad.length = j := hnb.out
              have e8 : (ab s).worn.length = l := hnw.out
              rw [e6, e7, e8] at e5
              rw [e5] at o5
              exact ⟨_, rfl, o5, HS.out.below⟩
end Go.Proofs.YtcmmhfjnhlaepabGreatDoor.S8
namespace Go.Proofs.YtcmmhfjnhlaepabGreatDoor.S8
open Go Go.RowKit Go.Maps Gp Pg We

/-- these records, one behind the other, are all taken, and make t' of t -/
def plays : Ab → List R6 → Ab → Prop
  | t, [], t' => t = t'
  | t, r :: l, t' => (apR t r).2 = 0 ∧ plays (apR t r).1 l t'
section
variable {ops : Array Oper} {o : Oper} {a : Act} {K : Act → World → Prop} {Q : Exit → Act → World → Prop} {E' : Prop}
/-- append of one that is written out, at a step of a drawn region -/
theorem step_app {t e sz bytes : Nat} (E : EI t e sz bytes) {w : World} {B : Nat} {v : Value} {rows : Rws} (hgd : o.guard = none) (s x : Operand) (ho : o.op = .call { callee := .builtin .append, args := #[s, x], argTypes := #[t, t] })
    (h : Ow w B e sz v rows) (hB : B ≤ w.heap.size) (cs : Array Value) (hs : a.eval s = v) (hx : a.eval x = .slice (some ⟨w.heap.size, 0, none⟩) 1 1) (hc : cs.size = sz) (h1 : ∀ u ∈ cs.toList, u.oneCell' = true) (hn : rows.length < 1000000)
    (hK : ∀ v' w', Ow w' B e sz v' (rows ++ [cs.toList]) → w.grownBy w' v.ownBlock → (v'.ownBlock = v.ownBlock ∨ ∃ g, v'.ownBlock = some g ∧ w.heap.size ≤ g) → K (a.put o.dst v') w') :
    if Region.wanted o (yielded ops a.tmps) = true then Oper.wp Tryz.prog o a (w.alloc (.cells cs e)) K Q else E' := by
  obtain ⟨i, z, q1, q2, q3, q4, q5⟩ := E.info
  have hl : cs.toList.length = 1 * sz := by rw [Array.length_toList, hc, Nat.one_mul]
  have hby : (rows.length + 1) * bytes ≤ 140737488355328 := by
    have := Nat.mul_le_mul_left (rows.length + 1) E.top
    omega
  refine step_append_lies _ hgd s x t ho B e i z sz bytes E.under q1 q2 q3 q4 q5 E.pos v rows.length rows.flatten hs (h.own.alloc _) ⟨w.heap.size, 0, none⟩ 1 1 cs.toList hx hl (lit_cells w cs e) h1 (by omega) (by simp [maxLen]; omega) hby (by rw [size_alloc]; omega) _ rfl (fun g cap w' p1 p2 p4 _ => ?_)
  have gr : w.grownBy w' v.ownBlock := by
    have g1 := World.grownBy_alloc w (.cells cs e) v.ownBlock
    exact ⟨p2.os.trans g1.os, p2.tape.trans g1.tape, p2.output.trans g1.output, Nat.le_trans g1.size p2.size, fun k hk hne => (p2.block k (Nat.lt_of_lt_of_le hk g1.size) hne).trans (g1.block k hk hne)⟩
  refine hK _ w' (h.more (by rw [hl, Nat.one_mul]) h1 p1) gr ?_
  rcases p4 with p4 | p4
  · exact .inl p4.symm
  · exact .inr ⟨g, rfl, by rw [p4, size_alloc]; omega⟩
end
end Go.Proofs.YtcmmhfjnhlaepabGreatDoor.S8
namespace Go.Proofs.YtcmmhfjnhlaepabGreatDoor
open Go Go.RowKit

theorem Ow.to8 {w : World} {B e sz v rows} (h : We.Ow w B e sz v rows) : We.Ow w B e sz v rows := ⟨h.own, h.len, h.one⟩
theorem Ow.from8 {w : World} {B e sz v rows} (h : We.Ow w B e sz v rows) : We.Ow w B e sz v rows := ⟨h.own, h.len, h.one⟩
theorem ei30s : We.EI 30 3 1 8 := ⟨ei30.under, ei30.info, ei30.pos, ei30.top⟩
/-- block g is an image -/
def ImB (w : World) (G P : Nat) (nx chk : Int) (mv : Value) : Prop := w.heap[G]? = some (.cells #[.pointer (some ⟨P, 0, none⟩), .int .u64 nx, .int .u64 chk, mv] 138 (0, 0))
theorem ImB.cells {w : World} {G P nx chk mv} (h : ImB w G P nx chk mv) : w.cell? ⟨G, 0, none⟩ = some (.pointer (some ⟨P, 0, none⟩)) ∧ w.cell? ⟨G, 1, none⟩ = some (.int .u64 nx) ∧ w.cell? ⟨G, 2, none⟩ = some (.int .u64 chk) ∧ w.cell? ⟨G, 3, none⟩ = some mv := by
  refine ⟨?_, ?_, ?_, ?_⟩ <;> (rw [cell_of_row w G _ _ 138 _ h]; rfl)
theorem ImB.lt {w : World} {G P nx chk mv} (h : ImB w G P nx chk mv) : G < w.heap.size := (Array.getElem?_eq_some_iff.1 h).1
theorem ImB.set {w : World} {G P nx chk mv} (h : ImB w G P nx chk mv) (mv' : Value) : ImB (w.setCell ⟨G, 3, none⟩ mv') G P nx chk mv' := by
  unfold ImB
  rw [heap_setCell_same w G 3 _ 138 _ h]
  rfl
/-- an image that the call itself has made, of a state that has t; the blocks Z are others -/
structure Img (B : Nat) (w0 : World) (G P : Nat) (t : S8.Ab) (nx chk : Int) (ms : List Int) (mv : Value) (Z : List Nat) (w : World) : Prop where
  st : S8.HoldZ B w0 P t (G :: (mv.ownBlock.toList ++ Z)) w
  box : ImB w G P nx chk mv
  me : Ints w B mv ms
  ne : mv.ownBlock ≠ some G
  nz : ∀ z ∈ Z, z ≠ G ∧ mv.ownBlock ≠ some z
theorem Img.call {B w0 G P t nx chk ms mv Z} {w w' : World} (h : Img B w0 G P t nx chk ms mv Z w) (b : Below w.heap.size w w') : Img B w0 G P t nx chk ms mv Z w' :=
  ⟨h.st.call b, (b.block G h.box.lt).trans h.box, We.Ow.call h.me b, h.ne, h.nz⟩
theorem Img.drew {B w0 G P t nx chk ms mv Z} {w : World} (h : Img B w0 G P t nx chk ms mv Z w) : Img B w0 G P t nx chk ms mv Z w.drew := h.call (Below.refl _ w).drew
theorem Img.more {B w0 G P t nx chk ms mv Z} {w w' : World} (h : Img B w0 G P t nx chk ms mv Z w) (b : Below w.heap.size w w') {Z' : List Nat} (hz : ∀ z ∈ Z', z ∈ Z ∨ (w.heap.size ≤ z ∧ z < w'.heap.size)) : Img B w0 G P t nx chk ms mv Z' w' := by
  have hG := h.box.lt
  have hm : ∀ g, mv.ownBlock = some g → g < w.heap.size := fun g hg => (We.Ow.lt h.me g hg).2
  refine ⟨?_, (b.block G hG).trans h.box, We.Ow.call h.me b, h.ne, fun z q => ?_⟩
  · obtain ⟨s, h1, h2, h3, h4, h5, h6, h7⟩ := h.st
    refine ⟨s, h1, h2.call b, h3, h4.trans (b.mono (Nat.le_trans h5 h4.size)), h5, h6, fun z q => ?_⟩
    have hold : z ∈ G :: (mv.ownBlock.toList ++ Z) → (B ≤ z ∧ z < w'.heap.size) ∧ z ∉ S8.foot s := fun q => ⟨⟨(h7 z q).1.1, Nat.lt_of_lt_of_le (h7 z q).1.2 b.size⟩, (h7 z q).2⟩
    rcases List.mem_cons.1 q with e | q
    · exact hold (by rw [e]; simp)
    · rcases List.mem_append.1 q with q | q
      · exact hold (by simp [q])
      · rcases hz z q with q | q
        · exact hold (by simp [q])
        · exact ⟨⟨Nat.le_trans (Nat.le_trans h5 h4.size) q.1, q.2⟩, fun hm => by have := h2.at'.foot_lt _ hm; omega⟩
  · rcases hz z q with q | q
    · exact h.nz z q
    · exact ⟨by omega, fun e => by have := hm z e; omega⟩
/-- a record is done -/
theorem Img.apply {B w0 G P t nx chk ms mv Z} {w : World} (h : Img B w0 G P t nx chk ms mv Z w) (r : Gp.R6) : Calls Tryz.prog 48 #[.pointer (some ⟨P, 0, none⟩), Gp.rv r.1 r.2.1 r.2.2.1 r.2.2.2.1 r.2.2.2.2.1 r.2.2.2.2.2] w fun e w' =>
    e = .returned (.int .i64 (S8.apR t r).2) ∧ Img B w0 G P (S8.apR t r).1 nx chk ms mv Z w' ∧ (∀ z ∈ Z, w'.heap[z]? = w.heap[z]?) ∧ (w'.heap[G]? = w.heap[G]?) ∧ Below B w w' := by
  refine (S8.applyZ h.st r).mono ?_
  rintro e w' ⟨rfl, h1, h2, h3⟩
  refine ⟨rfl, ⟨h1, (h2 G (by simp)).trans h.box, We.Ow.same h.me (fun g hg => h2 g (by simp [hg])), h.ne, h.nz⟩, fun z hz => h2 z (by simp [hz]), h2 G (by simp), h3⟩
/-- one place more is noted -/
theorem Img.note {B w0 G P t nx chk ms mv Z} {w w2 : World} (h : Img B w0 G P t nx chk ms mv Z w) {mv2 : Value} {x : Int} (q1 : Ints w2 B mv2 (ms ++ [x])) (q2 : w.grownBy w2 mv.ownBlock) (q3 : mv2.ownBlock = mv.ownBlock ∨ ∃ g, mv2.ownBlock = some g ∧ w.heap.size ≤ g) :
    Img B w0 G P t nx chk (ms ++ [x]) mv2 Z (w2.setCell ⟨G, 3, none⟩ mv2) ∧ (∀ z ∈ Z, (w2.setCell ⟨G, 3, none⟩ mv2).heap[z]? = w.heap[z]?) ∧ Below B w (w2.setCell ⟨G, 3, none⟩ mv2) := by
  obtain ⟨s, h1, h2, h3, h4, h5, h6, h7⟩ := h.st
  have hG := h7 G (by simp)
  have hB : B ≤ w.heap.size := Nat.le_trans h5 h4.size
  have hm : ∀ g, mv.ownBlock = some g → (B ≤ g ∧ g < w.heap.size) ∧ g ∉ S8.foot s := fun g hg => h7 g (by simp [hg])
  have e1 : ∀ i, i < w.heap.size → i ≠ G → mv.ownBlock ≠ some i → (w2.setCell ⟨G, 3, none⟩ mv2).heap[i]? = w.heap[i]? := fun i hi hn hne =>
    (heap_setCell_other w2 ⟨G, 3, none⟩ i mv2 hn).trans (q2.block i hi (fun e => hne e.symm))
  have hb : Below B w w2 := (Below.refl B w).grown q2 hB (fun g hg => (hm g hg).1.1)
  have hb2 : Below B w (w2.setCell ⟨G, 3, none⟩ mv2) := hb.setCell hG.1.1 mv2
  have hsz : (w2.setCell ⟨G, 3, none⟩ mv2).heap.size = w2.heap.size := by simp [World.setCell]
  have hbox : ImB w2 G P nx chk mv := (q2.block G hG.1.2 (fun e => h.ne e.symm)).trans h.box
  have hne2 : mv2.ownBlock ≠ some G := fun e => by
    rcases q3 with q | ⟨g, q, hg⟩
    · exact h.ne (by rw [← q]; exact e)
    · rw [e] at q
      have : G = g := by simpa using q
      omega
  refine ⟨⟨⟨s, h1, h2.frame (fun i hi => e1 i (h2.at'.foot_lt i hi) (fun e => hG.2 (e ▸ hi)) (fun e => (hm i e).2 hi)), h3, ?_, h5, h6, fun z q => ?_⟩, hbox.set mv2, We.Ow.same q1 (fun g hg => heap_setCell_other w2 ⟨G, 3, none⟩ g mv2 (fun e => hne2 (by have e' : g = G := e; rw [← e']; exact hg))), hne2, fun z q => ⟨(h.nz z q).1, fun e => ?_⟩⟩, fun z q => e1 z (h7 z (by simp [q])).1.2 (h.nz z q).1 (h.nz z q).2, hb2⟩
  · exact h4.trans (hb2.mono (Nat.le_refl _))
  · rw [hsz]
    rcases List.mem_cons.1 q with rfl | q
    · exact ⟨⟨hG.1.1, Nat.lt_of_lt_of_le hG.1.2 q2.size⟩, hG.2⟩
    · rcases List.mem_append.1 q with q | q
      · have hq : mv2.ownBlock = some z := by simpa using q
        have hl := We.Ow.lt q1 z hq
        refine ⟨hl, fun hf => ?_⟩
        rcases q3 with q3 | ⟨g, q3, hg⟩
        · exact (hm z (by rw [← q3]; exact hq)).2 hf
        · have : g = z := by rw [hq] at q3; simpa using q3.symm
          have := h2.at'.foot_lt z hf
          omega
      · have hq := h7 z (by simp [q])
        exact ⟨⟨hq.1.1, Nat.lt_of_lt_of_le hq.1.2 q2.size⟩, hq.2⟩
  · rcases q3 with q3 | ⟨g, q3, hg⟩
    · exact (h.nz z q).2 (by rw [← q3]; exact e)
    · have : g = z := by rw [e] at q3; simpa using q3.symm
      have := (h7 z (by simp [q])).1.2
      omega
end Go.Proofs.YtcmmhfjnhlaepabGreatDoor
namespace Go.Proofs.YtcmmhfjnhlaepabGreatDoor
open Go Go.RowKit

theorem Rw_recs {w a c rs wr} (h : Gp.Rw w (.slice a rs.length c) rs wr) : Gp.RecsF wr a rs.length (fun i => rs.getD i (0, 0, 0, 0, 0, 0)) := by
  intro i hi
  rcases hr : rs.getD i (0, 0, 0, 0, 0, 0) with ⟨K, S, P, A, T, N⟩
  obtain ⟨g, ha, hg, c0, c1, c2, c3, c4, c5⟩ := h.at i hi hr
  refine ⟨g, 0, ha, hg, ?_⟩
  dsimp only
  rw [hr, Nat.zero_add]
  exact ⟨c0, c1, c2, c3, c4, c5⟩
theorem RecsF_same {w w' : World} {a n f} (h : Gp.RecsF w a n f) (hs : w.heap.size ≤ w'.heap.size) (e : ∀ g o, a = some ⟨g, o, none⟩ → w'.heap[g]? = w.heap[g]?) : Gp.RecsF w' a n f := by
  intro i hi
  obtain ⟨g, o, ha, hg, hc⟩ := h i hi
  have e2 : ∀ j, w'.cell? ⟨g, j, none⟩ = w.cell? ⟨g, j, none⟩ := fun j => by unfold World.cell?; rw [e g o ha]
  refine ⟨g, o, ha, Nat.lt_of_lt_of_le hg hs, ?_⟩
  simp only [e2]
  exact hc
/-- what do reads when a record is done -/
def Do7 (G P g8 : Nat) (r : Gp.R6) (w' : World) : Prop := w'.cell? ⟨G, 0, none⟩ = some (.pointer (some ⟨P, 0, none⟩)) ∧ w'.cell? ⟨g8, 0, none⟩ = some (.int .i64 r.1) ∧ w'.cell? ⟨g8, 1, none⟩ = some (.int .i64 r.2.1) ∧ w'.cell? ⟨g8, 2, none⟩ = some (.int .i64 r.2.2.1) ∧ w'.cell? ⟨g8, 3, none⟩ = some (.int .i64 r.2.2.2.1) ∧ w'.cell? ⟨g8, 4, none⟩ = some (.int .i64 r.2.2.2.2.1) ∧ w'.cell? ⟨g8, 5, none⟩ = some (.int .i64 r.2.2.2.2.2)
theorem Do7.same {G P g8 r} {w w' : World} (h : Do7 G P g8 r w) (e1 : w'.heap[G]? = w.heap[G]?) (e2 : w'.heap[g8]? = w.heap[g8]?) : Do7 G P g8 r w' := by
  have f1 : ∀ j, w'.cell? ⟨G, j, none⟩ = w.cell? ⟨G, j, none⟩ := fun j => by unfold World.cell?; rw [e1]
  have f2 : ∀ j, w'.cell? ⟨g8, j, none⟩ = w.cell? ⟨g8, j, none⟩ := fun j => by unfold World.cell?; rw [e2]
  unfold Do7
  simp only [f1, f2]
  exact h
/-- what do reads when a place is noted -/
def At14 (g : Nat) (x : Int) (w' : World) : Prop := w'.cell? ⟨g, 0, none⟩ = some (.int .i64 x)
theorem drop_rec (l : List Gp.R6) (k : Nat) (h : k < l.length) : l.drop k = l.getD k (0, 0, 0, 0, 0, 0) :: l.drop (k + 1) := by
  rw [List.drop_eq_getElem_cons h]
  simp [List.getD_eq_getElem?_getD, h]
theorem txR_txF {w : World} {B a n cap} {l : List Fd} {rss : List (List Gp.R6)} (h : We.Ow w B 9 1 (.slice a n cap) (txR l)) (e : l.map (·.t) = rss.map Gp.puts) : Gp.TxtF w a (rss.map Gp.puts) := by
  intro i hi
  rw [← e] at hi ⊢
  rw [List.length_map] at hi
  obtain ⟨g, h1, _, h3, h4⟩ := h.at (j := i) (by simpa [txR] using hi)
  refine ⟨g, 0, h1, h3, ?_⟩
  have := h4 0 (by omega)
  rw [Nat.mul_one, Nat.add_zero] at this
  rw [Nat.zero_add, this]
  simp [txR, List.getD_eq_getElem?_getD, hi]
set_option maxRecDepth 20000 in
set_option maxHeartbeats 2000000 in
theorem do_any {B w0 G P t nx chk ms mv Z} {w : World} (h : Img B w0 G P t nx chk ms mv Z w) (a : Option Addr) (cap : Nat) (l : List Fd) (hl : FdsF w a l) (hZ : ∀ g o, a = some ⟨g, o, none⟩ → g < B ∨ g ∈ Z) (rss : List (List Gp.R6)) (htx : l.map (·.t) = rss.map Gp.puts)
    (hm : ∀ x ∈ rss, ∀ r ∈ x, Gp.R6.may r = true) (h100 : ∀ x ∈ rss, x.length ≤ 100) (hlen : l.length ≤ 200) (hms : ms.length ≤ 1000) (t' : S8.Ab) (hp : S8.plays t rss.flatten t') :
    Calls Tryz.prog 78 #[.pointer (some ⟨G, 0, none⟩), .slice a l.length cap] w fun e w' => e = .returned (.int .i64 0) ∧ ∃ mv', Img B w0 G P t' nx chk (ms ++ l.map (·.a)) mv' Z w' ∧ (∀ z ∈ Z, w'.heap[z]? = w.heap[z]?) ∧ Below B w w' := by
  have hBw : B ≤ w.heap.size := by
    obtain ⟨s, h1, h2, h3, h4, h5, h6, h7⟩ := h.st
    exact Nat.le_trans h5 h4.size
  have hrl : rss.length = l.length := by have := congrArg List.length htx; simpa using this.symm
  have HT := Hid.mk (textsF a cap l w hl (by omega))
  have HU : Hid (∀ (w1 : World) (a1 : Option Addr) (c1 : Nat), We.Ow w1 w.heap.size 9 1 (.slice a1 l.length c1) (txR l) → Calls Tryz.prog 133 #[.slice a1 l.length c1] w1 fun e w' => ∃ v, e = .returned (.tuple #[v, .int .i64 0]) ∧ Gp.Rw w1 v rss.flatten w') := fun w1 a1 c1 ho => by
    have := Gp.unpack_cat a1 c1 rss w1 (txR_txF ho htx) hm h100 (by omega)
    rw [hrl] at this
    exact this
  have hfl := Gp.flat_le rss h100
  rw [hrl] at hfl
  have HI := Hid.mk (And.intro h (And.intro hl hZ))
  have hmf : Hid (∀ r ∈ rss.flatten, Gp.R6.may r = true) := fun r hr => by
    obtain ⟨x, hx, hr⟩ := List.mem_flatten.1 hr
    exact hm x hx r hr
  generalize rss.flatten = rs at *
  have HP := Hid.mk hp
  clear h hl hZ htx hm h100 hp
  generalize hn : l.length = len at *
  replace hn := Hid.mk hn
  go_enter Tryz.func78, Tryz.ntmps78
  go_upto_region 5 with (first
    | (go_at_call 134; refine HT.out.mono ?_; rintro e w1 ⟨v1, rfl, o1, b1⟩; obtain ⟨a1, c1, rfl⟩ := o1.form; rw [show (txR l).length = len by simp [txR, hn.out]] at o1 ⊢)
    | (go_at_call 133; refine (HU.out _ _ _ o1).mono ?_; rintro e w2 ⟨v2, rfl, r2⟩; obtain ⟨a2, c2, rfl⟩ := r2.form))
  have I2 : Img B w0 G P t nx chk ms mv ((Value.slice a2 rs.length c2).ownBlock.toList ++ Z) w2 := HI.out.1.more (below3 b1 (r2.below.mono (Nat.le_refl _))) (fun z q => by
    rcases List.mem_append.1 q with q | q
    · have := r2.own.lt z (by simpa using q)
      exact .inr ⟨Nat.le_trans b1.size this.1, this.2⟩
    · exact .inl q)
  have R2 := Rw_recs r2
  have hown : Hid (∀ g o, a2 = some ⟨g, o, none⟩ → g ∈ (Value.slice a2 rs.length c2).ownBlock.toList ++ Z) := fun g o e => by rw [e]; simp [Value.ownBlock]
  have b2 : Below w.heap.size w w2 := below3 b1 (r2.below.mono (Nat.le_refl _))
  have H2 := Hid.mk (And.intro I2 (And.intro R2 b2))
  clear I2 R2 b2 r2 o1 b1 HT HU
  generalize hrn : rs.length = rn at *
  replace hrn := Hid.mk hrn
  go_loopw [23] (fun i wr => ∃ (k : Nat) (tk : S8.Ab), k ≤ rn ∧ i = .int .i64 k ∧ S8.plays tk (rs.drop k) t' ∧ Img B w0 G P tk nx chk ms mv ((Value.slice a2 rn c2).ownBlock.toList ++ Z) wr ∧ (∀ z ∈ (Value.slice a2 rn c2).ownBlock.toList ++ Z, wr.heap[z]? = w2.heap[z]?) ∧ Below B w2 wr) (fun i _ => rn - (intOf i).toNat)
  case atStart => exact ⟨0, t, Nat.zero_le _, rfl, HP.out, H2.out.1, fun _ _ => rfl, Below.refl _ _⟩
  case round =>
    obtain ⟨k, tk, hk, rfl, hpk, hI, hkeep, hb⟩ := hrel
    by_cases hlt : k < rn
    · have hltl : k < rs.length := by rw [hrn.out]; exact hlt
      obtain ⟨g, o, rfl, hg, c0, c1', c2', c3, c4, c5⟩ := RecsF_same H2.out.2.1 hb.size (fun g o e => hkeep g (hown.out g o e)) k (by first | exact hltl | exact hlt)
      rw [drop_rec rs k hltl] at hpk
      dsimp only at c0 c1' c2' c3 c4 c5
      generalize rs.getD k (0, 0, 0, 0, 0, 0) = r at *
      obtain ⟨x0, x1, x2, x3, x4, x5⟩ := r
      dsimp only at c0 c1' c2' c3 c4 c5
      obtain ⟨hp0, hpk⟩ := hpk
      have hbl := Pg.below_one wr (.cells #[.int .i64 x0, .int .i64 x1, .int .i64 x2, .int .i64 x3, .int .i64 x4, .int .i64 x5] 47)
      have hrow : Row (wr.alloc (.cells #[.int .i64 x0, .int .i64 x1, .int .i64 x2, .int .i64 x3, .int .i64 x4, .int .i64 x5] 47)) wr.heap.size 47 .i64 [x0, x1, x2, x3, x4, x5] := Row.fresh wr 47 .i64 [x0, x1, x2, x3, x4, x5]
      have hI2 : Img B w0 G P tk nx chk ms mv (wr.heap.size :: ((Value.slice (some ⟨g, o, none⟩) rn c2).ownBlock.toList ++ Z)) (wr.alloc (.cells #[.int .i64 x0, .int .i64 x1, .int .i64 x2, .int .i64 x3, .int .i64 x4, .int .i64 x5] 47)) := hI.more hbl (fun z q => by
        rcases List.mem_cons.1 q with rfl | q
        · exact .inr ⟨Nat.le_refl _, by rw [size_alloc]; omega⟩
        · exact .inl q)
      have h7 : Hid (Do7 G P wr.heap.size (x0, x1, x2, x3, x4, x5) (wr.alloc (.cells #[.int .i64 x0, .int .i64 x1, .int .i64 x2, .int .i64 x3, .int .i64 x4, .int .i64 x5] 47)).drew) := by
        obtain ⟨d0, d1, d2, d3, d4, d5⟩ := hrow.six
        exact ⟨hI2.box.cells.1, d0, d1, d2, d3, d4, d5⟩
      have HS := Hid.mk (And.intro hI2 (And.intro hp0 (And.intro hpk (And.intro hkeep (And.intro hb hbl)))))
      clear hI hI2 hp0 hpk hkeep hb hbl hrow
      go_upto_region 7 with fail
      clear c0 c1' c2' c3 c4 c5
      generalize (wr.alloc (.cells #[.int .i64 x0, .int .i64 x1, .int .i64 x2, .int .i64 x3, .int .i64 x4, .int .i64 x5] 47)) = V at *
      refine wp_region_held_drew (S := fun w' => Do7 G P wr.heap.size (x0, x1, x2, x3, x4, x5) w') (by kernel_rfl) h7.out (fun hHeld => ?_)
      refine wpAnyH_take (i := 0) (oi := { dst := some 27, op := Op.move (Operand.tmp 0), type := 92, pos := "scan.go:108", after := #[], guard := none }) (v := ?vv0) rfl (by kernel_rfl) (by kernel_rfl) (by kernel_rfl) (fun _ _ _ h => h) (Or.inl ⟨by rfl, ?yy0⟩) hHeld ?rr0
      case yy0 => (intro w0 hSw; obtain ⟨y0, y1, y2, y3, y4, y5, y6⟩ := hSw; dsimp only at y1 y2 y3 y4 y5 y6; go_simp; try with_reducible rfl)
      try simp only [Act.put, List.setIfInBounds_toArray, List.set_cons_zero, List.set_cons_succ]
      refine wpAnyH_take (i := 1) (oi := { dst := some 28, op := Op.nilCheck (Operand.tmp 27), type := 0, pos := "scan.go:108", after := #[{ on := 0, ground := Ground.data }], guard := none }) (v := ?vv1) rfl (by kernel_rfl) (by kernel_rfl) (by kernel_rfl) (fun _ _ _ h => h) (Or.inl ⟨by rfl, ?yy1⟩) hHeld ?rr1
      case yy1 => (intro w0 hSw; obtain ⟨y0, y1, y2, y3, y4, y5, y6⟩ := hSw; dsimp only at y1 y2 y3 y4 y5 y6; go_simp; try with_reducible rfl)
      try simp only [Act.put, List.setIfInBounds_toArray, List.set_cons_zero, List.set_cons_succ]
      refine wpAnyH_take (i := 2) (oi := { dst := some 29, op := Op.fieldAddr 138 (Operand.tmp 28) 0, type := 0, pos := "scan.go:108", after := #[{ on := 1, ground := Ground.data }], guard := none }) (v := ?vv2) rfl (by kernel_rfl) (by kernel_rfl) (by kernel_rfl) (fun _ _ _ h => h) (Or.inl ⟨by rfl, ?yy2⟩) hHeld ?rr2
      case yy2 => (intro w0 hSw; obtain ⟨y0, y1, y2, y3, y4, y5, y6⟩ := hSw; dsimp only at y1 y2 y3 y4 y5 y6; go_simp; try with_reducible rfl)
      try simp only [Act.put, List.setIfInBounds_toArray, List.set_cons_zero, List.set_cons_succ]
      refine wpAnyH_take (i := 3) (oi := { dst := some 30, op := Op.load 61 (Operand.tmp 29), type := 61, pos := "scan.go:108", after := #[{ on := 2, ground := Ground.data }], guard := none }) (v := ?vv3) rfl (by kernel_rfl) (by kernel_rfl) (by kernel_rfl) (fun _ _ _ h => h) (Or.inl ⟨by rfl, ?yy3⟩) hHeld ?rr3
      case yy3 => (intro w0 hSw; obtain ⟨y0, y1, y2, y3, y4, y5, y6⟩ := hSw; dsimp only at y1 y2 y3 y4 y5 y6; go_simp; try with_reducible rfl)
      try simp only [Act.put, List.setIfInBounds_toArray, List.set_cons_zero, List.set_cons_succ]
      refine wpAnyH_take (i := 4) (oi := { dst := some 31, op := Op.load 47 (Operand.tmp 8), type := 47, pos := "scan.go:108", after := #[], guard := none }) (v := ?vv4) rfl (by kernel_rfl) (by kernel_rfl) (by kernel_rfl) (fun _ _ _ h => h) (Or.inl ⟨by rfl, ?yy4⟩) hHeld ?rr4
      case yy4 => (intro w0 hSw; obtain ⟨y0, y1, y2, y3, y4, y5, y6⟩ := hSw; dsimp only at y1 y2 y3 y4 y5 y6; go_simp; try with_reducible rfl)
      try simp only [Act.put, List.setIfInBounds_toArray, List.set_cons_zero, List.set_cons_succ]
      refine wpAnyH_ready (rs := [5]) (by kernel_rfl) (by simp) ?_
      refine AllReadyH.cons (o := { dst := some 32, op := Op.call { callee := Callee.value (Operand.func 48), args := #[Operand.tmp 30, Operand.tmp 31], argTypes := #[61, 47] }, type := 38, pos := "scan.go:108", after := #[{ on := 3, ground := Ground.data }, { on := 4, ground := Ground.data }], guard := none }) rfl (fun K hK => ?_) AllReadyH.nil
      go_simp
      go_at_call 48
      refine (HS.out.1.drew.apply (x0, x1, x2, x3, x4, x5)).mono ?_
      rintro e w5 ⟨rfl, i5, z5, g5, b5⟩
      rw [HS.out.2.1]
      have hH5 := hHeld.same g5 (z5 _ (by simp))
      have H5 := Hid.mk (And.intro i5 (And.intro z5 b5))
      clear i5 z5 g5 b5
      refine hK.out _ _ hH5 (fun hHeld => ?_)
      clear hK K
      try simp only [Act.put, List.setIfInBounds_toArray, List.set_cons_zero, List.set_cons_succ]
      refine wpAnyH_take (i := 6) (oi := { dst := some 9, op := Op.assign (Operand.tmp 32), type := 38, pos := "scan.go:108", after := #[{ on := 5, ground := Ground.data }, { on := 5, ground := Ground.chain }, { on := 0, ground := Ground.phase }, { on := 1, ground := Ground.phase }, { on := 2, ground := Ground.phase }, { on := 3, ground := Ground.phase }, { on := 4, ground := Ground.phase }, { on := 5, ground := Ground.phase }], guard := none }) (v := ?vv6) rfl (by kernel_rfl) (by kernel_rfl) (by kernel_rfl) (fun _ _ _ h => h) (Or.inl ⟨by rfl, ?yy6⟩) hHeld ?rr6
      case yy6 => (intro w0 hSw; obtain ⟨y0, y1, y2, y3, y4, y5, y6⟩ := hSw; dsimp only at y1 y2 y3 y4 y5 y6; go_simp; try with_reducible rfl)
      try simp only [Act.put, List.setIfInBounds_toArray, List.set_cons_zero, List.set_cons_succ]
      refine wpAnyH_done (by kernel_rfl) ?_ _
      clear hH5 h7
      go_wp2_with fail
      refine ⟨⟨k + 1, (S8.apR tk (x0, x1, x2, x3, x4, x5)).1, by omega, by go_num, HS.out.2.2.1, H5.out.1.more (Below.refl _ _) (fun z q => .inl (by simp only [List.mem_cons]; exact .inr q)), fun z q => ?_, ?_⟩, by simp [intOf]; omega⟩
      · refine (H5.out.2.1 z (by simp only [List.mem_cons]; exact .inr q)).trans ((HS.out.2.2.2.2.2.block z ?_).trans (HS.out.2.2.2.1 z q))
        obtain ⟨s, _, _, _, _, _, _, q7⟩ := H2.out.1.st
        exact Nat.lt_of_lt_of_le (q7 z (by simp only [List.mem_cons]; exact .inr (List.mem_append.2 (.inr q)))).1.2 HS.out.2.2.2.2.1.size
      · exact (HS.out.2.2.2.2.1.trans (HS.out.2.2.2.2.2.mono (Nat.le_trans hBw (Nat.le_trans H2.out.2.2.size HS.out.2.2.2.2.1.size)))).drew.trans (H5.out.2.2.mono (Nat.le_refl _))
    · obtain rfl : k = rn := by omega
      rw [List.drop_of_length_le (by rw [hrn.out]; omega)] at hpk
      obtain rfl : tk = t' := hpk
      have hB3 : Below B w wr := (H2.out.2.2.mono hBw).trans (hb.mono (Nat.le_refl _))
      have hI3 : Img B w0 G P tk nx chk ms mv Z wr := hI.more (Below.refl _ _) (fun z q => .inl (List.mem_append.2 (.inr q)))
      have hk3 : ∀ z ∈ Z, wr.heap[z]? = w.heap[z]? := fun z q => by
        obtain ⟨s, _, _, _, _, _, _, q7⟩ := HI.out.1.st
        exact (hkeep z (List.mem_append.2 (.inr q))).trans (H2.out.2.2.block z (q7 z (by simp [q])).1.2)
      have H3 := Hid.mk (And.intro hI3 (And.intro hk3 hB3))
      clear hI hkeep hb hI3 hk3 hB3 H2
      go_upto_region 12 with fail
      go_loopw [39] (fun i wx => ∃ (k : Nat) (mv' : Value), k ≤ len ∧ i = .int .i64 k ∧ Img B w0 G P tk nx chk (ms ++ (l.take k).map (·.a)) mv' Z wx ∧ (∀ z ∈ Z, wx.heap[z]? = w.heap[z]?) ∧ Below B w wx) (fun i _ => len - (intOf i).toNat)
      case atStart => exact ⟨0, mv, Nat.zero_le _, rfl, by rw [List.take_zero, List.map_nil, List.append_nil]; exact H3.out.1, H3.out.2.1, H3.out.2.2⟩
      case round =>
        clear H3
        obtain ⟨k, mv', hk', rfl, hI, hkeep, hb⟩ := hrel
        by_cases hlt2 : k < len
        · have hltl : k < l.length := by rw [hn.out]; exact hlt2
          obtain ⟨g, o, rfl, hg, c0, c1', c2', c3, c4, c5, c6, c7⟩ := HI.out.2.1.same hb.size (fun g o e => by
            rcases HI.out.2.2 g o e with q | q
            · exact hb.block g q
            · exact hkeep g q) k hltl
          have htk : (l.take (k + 1)).map (·.a) = (l.take k).map (·.a) ++ [(l.getD k fdZ).a] := by rw [take_fd l k hltl, List.map_append]; rfl
          have hml : (ms ++ (l.take k).map (·.a)).length ≤ 2000 := by rw [List.length_append, List.length_map, List.length_take]; omega
          generalize l.getD k fdZ = f at *
          obtain ⟨fa, fc, fK, fS, fI, fO, fW, ft⟩ := f
          dsimp only at c0 c1' c2' c3 c4 c5 c6 c7 htk
          have hbl := Pg.below_one wr (.cells #[.int .i64 fa, .int .i64 fc, .int .i64 fK, .int .u64 fS, .int .i64 fI, .int .i64 fO, .int .i64 fW, .string ft] 99)
          have hfr := (Fd8.fresh wr ⟨fa, fc, fK, fS, fI, fO, fW, ft⟩).1
          dsimp only at hfr
          have hIM := Hid.mk (hI.call hbl).drew
          have hBr : B ≤ wr.heap.size := Nat.le_trans hBw hb.size
          have hBV : Hid (B ≤ (wr.alloc (.cells #[.int .i64 fa, .int .i64 fc, .int .i64 fK, .int .u64 fS, .int .i64 fI, .int .i64 fO, .int .i64 fW, .string ft] 99)).drew.heap.size) := Hid.mk (Nat.le_trans hBr hbl.size)
          have hlt11 : Hid (wr.heap.size < (wr.alloc (.cells #[.int .i64 fa, .int .i64 fc, .int .i64 fK, .int .u64 fS, .int .i64 fI, .int .i64 fO, .int .i64 fW, .string ft] 99)).drew.heap.size) := Hid.mk (by show _ < (wr.alloc _).heap.size; rw [size_alloc]; omega)
          have hne11 : Hid (mv'.ownBlock ≠ some wr.heap.size) := fun e => by have := (We.Ow.lt hI.me _ e).2; omega
          have hG11 : Hid (wr.heap.size ≠ G) := fun e => by have := hI.box.lt; omega
          have HK := Hid.mk (And.intro htk (And.intro hkeep (And.intro hb (And.intro hbl fun z (q : z ∈ Z) => by
            obtain ⟨s, _, _, _, _, _, _, q7⟩ := hI.st
            exact (q7 z (by simp [q])).1.2))))
          obtain ⟨a5, c5', rfl⟩ := Ints.form hI.me
          clear hI hkeep hb hbl htk
          generalize hms' : (ms ++ (l.take k).map (·.a)) = ms' at *
          replace hms' := Hid.mk hms'
          go_upto_region 14 with fail
          clear c0 c1' c2' c3 c4 c5 c6 c7
          have h14 : Hid ((wr.alloc (.cells #[.int .i64 fa, .int .i64 fc, .int .i64 fK, .int .u64 fS, .int .i64 fI, .int .i64 fO, .int .i64 fW, .string ft] 99)).drew.cell? ⟨wr.heap.size, 0, none⟩ = some (.int .i64 fa)) := Hid.mk hfr
          clear hfr
          generalize (wr.alloc (.cells #[.int .i64 fa, .int .i64 fc, .int .i64 fK, .int .u64 fS, .int .i64 fI, .int .i64 fO, .int .i64 fW, .string ft] 99)) = V at *
          generalize wr.heap.size = g11 at *
          have k3 := hIM.out.box.cells.2.2.2
          have k3a : (V.drew.alloc (.cells #[.int .i64 fa] 3)).cell? ⟨G, 3, none⟩ = some (.slice a5 ms'.length c5') := (Below.cell (p := ⟨G, 3, none⟩) (Pg.below_one V.drew _) hIM.out.box.lt).trans k3
          have k3b : (V.alloc (.cells #[.int .i64 fa] 3)).drew.cell? ⟨G, 3, none⟩ = some (.slice a5 ms'.length c5') := k3a
          have hAl : Hid ((V.drew.alloc (.cells #[.int .i64 fa] 3)).cell? ⟨g11, 0, none⟩ = some (.int .i64 fa)) := Hid.mk ((Below.cell (p := ⟨g11, 0, none⟩) (Pg.below_one V.drew _) hlt11.out).trans h14.out)
          refine wp_region_held_drew (S := fun w' => At14 g11 fa w') (by kernel_rfl) h14.out (fun hHeld => ?_)
          refine wpAnyH_take (i := 0) (oi := { dst := some 43, op := Op.move (Operand.tmp 0), type := 92, pos := "scan.go:113", after := #[], guard := none }) (v := ?vva0) rfl (by kernel_rfl) (by kernel_rfl) (by kernel_rfl) (fun _ _ _ h => h) (Or.inl ⟨by rfl, ?yya0⟩) hHeld ?rra0
          case yya0 => (intro w0 hSw; unfold At14 at hSw; go_simp; try with_reducible rfl)
          try simp only [Act.put, List.setIfInBounds_toArray, List.set_cons_zero, List.set_cons_succ]
          refine wpAnyH_take (i := 1) (oi := { dst := some 44, op := Op.move (Operand.tmp 0), type := 92, pos := "scan.go:113", after := #[], guard := none }) (v := ?vva1) rfl (by kernel_rfl) (by kernel_rfl) (by kernel_rfl) (fun _ _ _ h => h) (Or.inl ⟨by rfl, ?yya1⟩) hHeld ?rra1
          case yya1 => (intro w0 hSw; unfold At14 at hSw; go_simp; try with_reducible rfl)
          try simp only [Act.put, List.setIfInBounds_toArray, List.set_cons_zero, List.set_cons_succ]
          refine wpAnyH_take (i := 2) (oi := { dst := some 45, op := Op.nilCheck (Operand.tmp 44), type := 0, pos := "scan.go:113", after := #[{ on := 1, ground := Ground.data }], guard := none }) (v := ?vva2) rfl (by kernel_rfl) (by kernel_rfl) (by kernel_rfl) (fun _ _ _ h => h) (Or.inl ⟨by rfl, ?yya2⟩) hHeld ?rra2
          case yya2 => (intro w0 hSw; unfold At14 at hSw; go_simp; try with_reducible rfl)
          try simp only [Act.put, List.setIfInBounds_toArray, List.set_cons_zero, List.set_cons_succ]
          refine wpAnyH_take (i := 3) (oi := { dst := some 46, op := Op.fieldAddr 138 (Operand.tmp 45) 3, type := 0, pos := "scan.go:113", after := #[{ on := 2, ground := Ground.data }], guard := none }) (v := ?vva3) rfl (by kernel_rfl) (by kernel_rfl) (by kernel_rfl) (fun _ _ _ h => h) (Or.inl ⟨by rfl, ?yya3⟩) hHeld ?rra3
          case yya3 => (intro w0 hSw; unfold At14 at hSw; go_simp; try with_reducible rfl)
          try simp only [Act.put, List.setIfInBounds_toArray, List.set_cons_zero, List.set_cons_succ]
          refine wpAnyH_take (i := 5) (oi := { dst := some 48, op := Op.fieldAddr 99 (Operand.tmp 11) 0, type := 0, pos := "scan.go:113", after := #[], guard := none }) (v := ?vva5) rfl (by kernel_rfl) (by kernel_rfl) (by kernel_rfl) (fun _ _ _ h => h) (Or.inl ⟨by rfl, ?yya5⟩) hHeld ?rra5
          case yya5 => (intro w0 hSw; unfold At14 at hSw; go_simp; try with_reducible rfl)
          try simp only [Act.put, List.setIfInBounds_toArray, List.set_cons_zero, List.set_cons_succ]
          refine wpAnyH_take (i := 6) (oi := { dst := some 49, op := Op.load 3 (Operand.tmp 48), type := 3, pos := "scan.go:113", after := #[{ on := 5, ground := Ground.data }], guard := none }) (v := ?vva6) rfl (by kernel_rfl) (by kernel_rfl) (by kernel_rfl) (fun _ _ _ h => h) (Or.inl ⟨by rfl, ?yya6⟩) hHeld ?rra6
          case yya6 => (intro w0 hSw; unfold At14 at hSw; go_simp; try with_reducible rfl)
          try simp only [Act.put, List.setIfInBounds_toArray, List.set_cons_zero, List.set_cons_succ]
          refine wpAnyH_ready (rs := [4, 7]) (by kernel_rfl) (by simp) ?_
          refine AllReadyH.cons (o := { dst := some 47, op := Op.load 30 (Operand.tmp 46), type := 30, pos := "scan.go:113", after := #[{ on := 3, ground := Ground.data }], guard := none }) rfl (fun K hK => ?_) (AllReadyH.cons (o := { dst := some 50, op := Op.buildSlice 30 1 #[(0, Operand.tmp 49)], type := 30, pos := "scan.go:113", after := #[{ on := 6, ground := Ground.data }], guard := none }) rfl (fun K hK => ?_) AllReadyH.nil)
          · go_simp
            refine hK.out _ _ hHeld (fun hHeld => ?_)
            clear hK K
            try simp only [Act.put, List.setIfInBounds_toArray, List.set_cons_zero, List.set_cons_succ]
            refine wpAnyH_ready (rs := [7]) (by kernel_rfl) (by simp) ?_
            refine AllReadyH.cons (o := { dst := some 50, op := Op.buildSlice 30 1 #[(0, Operand.tmp 49)], type := 30, pos := "scan.go:113", after := #[{ on := 6, ground := Ground.data }], guard := none }) rfl (fun K hK => ?_) AllReadyH.nil
            go_simp
            refine hK.out _ _ hAl.out (fun hHeld => ?_)
            clear hK K
            try simp only [Act.put, List.setIfInBounds_toArray, List.set_cons_zero, List.set_cons_succ]
            refine wpAnyH_ready (rs := [8]) (by kernel_rfl) (by simp) ?_
            refine AllReadyH.cons (o := { dst := some 51, op := Op.call { callee := Callee.builtin Builtin.append, args := #[Operand.tmp 47, Operand.tmp 50], argTypes := #[30, 30] }, type := 30, pos := "scan.go:113", after := #[{ on := 4, ground := Ground.data }, { on := 7, ground := Ground.data }], guard := none }) rfl (fun K hK => ?_) AllReadyH.nil
            refine S8.step_app (w := V.drew) ei30s (by rfl) _ _ (by rfl) (Ow.to8 hIM.out.me) hBV.out #[.int .i64 fa] (by rfl) (by rfl) (by rfl) (by simp [Value.oneCell']) (by unfold rowsI; rw [List.length_map]; omega) ?_
            intro v4 w4 o4 g4 p4
            obtain ⟨a4, n4, rfl⟩ := o4.form
            generalize List.length (rowsI ms' ++ [#[Value.int IntKind.i64 fa].toList]) = L4 at *
            have c4 : w4.cell? ⟨g11, 0, none⟩ = some (.int .i64 fa) := (g4.cell_far ⟨g11, 0, none⟩ hlt11.out (fun e => hne11.out e.symm)).trans h14.out
            refine hK.out _ _ c4 (fun hHeld => ?_)
            clear hK K
            try simp only [Act.put, List.setIfInBounds_toArray, List.set_cons_zero, List.set_cons_succ]
            refine wpAnyH_take (i := 9) (oi := { dst := some 52, op := Op.nilCheck (Operand.tmp 43), type := 0, pos := "scan.go:113", after := #[{ on := 0, ground := Ground.data }, { on := 0, ground := Ground.phase }, { on := 1, ground := Ground.phase }, { on := 2, ground := Ground.phase }, { on := 3, ground := Ground.phase }, { on := 4, ground := Ground.phase }, { on := 5, ground := Ground.phase }, { on := 6, ground := Ground.phase }, { on := 7, ground := Ground.phase }, { on := 8, ground := Ground.phase }], guard := none }) (v := ?vvb9) rfl (by kernel_rfl) (by kernel_rfl) (by kernel_rfl) (fun _ _ _ h => h) (Or.inl ⟨by rfl, ?yyb9⟩) hHeld ?rrb9
            case yyb9 => (intro w0 hSw; unfold At14 at hSw; go_simp; try with_reducible rfl)
            try simp only [Act.put, List.setIfInBounds_toArray, List.set_cons_zero, List.set_cons_succ]
            refine wpAnyH_take (i := 10) (oi := { dst := some 53, op := Op.fieldAddr 138 (Operand.tmp 52) 3, type := 0, pos := "scan.go:113", after := #[{ on := 9, ground := Ground.data }, { on := 0, ground := Ground.phase }, { on := 1, ground := Ground.phase }, { on := 2, ground := Ground.phase }, { on := 3, ground := Ground.phase }, { on := 4, ground := Ground.phase }, { on := 5, ground := Ground.phase }, { on := 6, ground := Ground.phase }, { on := 7, ground := Ground.phase }, { on := 8, ground := Ground.phase }], guard := none }) (v := ?vvb10) rfl (by kernel_rfl) (by kernel_rfl) (by kernel_rfl) (fun _ _ _ h => h) (Or.inl ⟨by rfl, ?yyb10⟩) hHeld ?rrb10
            case yyb10 => (intro w0 hSw; unfold At14 at hSw; go_simp; try with_reducible rfl)
            try simp only [Act.put, List.setIfInBounds_toArray, List.set_cons_zero, List.set_cons_succ]
            refine wpAnyH_ready (rs := [11]) (by kernel_rfl) (by simp) ?_
            refine AllReadyH.cons (o := { dst := none, op := Op.store 30 (Operand.tmp 53) (Operand.tmp 51), type := 0, pos := "scan.go:113", after := #[{ on := 10, ground := Ground.data }, { on := 8, ground := Ground.data }, { on := 8, ground := Ground.chain }, { on := 0, ground := Ground.phase }, { on := 1, ground := Ground.phase }, { on := 2, ground := Ground.phase }, { on := 3, ground := Ground.phase }, { on := 4, ground := Ground.phase }, { on := 5, ground := Ground.phase }, { on := 6, ground := Ground.phase }, { on := 7, ground := Ground.phase }, { on := 8, ground := Ground.phase }], guard := none }) rfl (fun K hK => ?_) AllReadyH.nil
            have f4 : w4.frozen? ⟨G, 3, none⟩ = false := frozen_of_row w4 G 3 _ 138 ((g4.block G hIM.out.box.lt (fun e => hIM.out.ne e.symm)).trans hIM.out.box)
            have k4 : ∃ u, w4.cell? ⟨G, 3, none⟩ = some u := ⟨_, (g4.cell_far ⟨G, 3, none⟩ hIM.out.box.lt (fun e => hIM.out.ne e.symm)).trans hIM.out.box.cells.2.2.2⟩
            obtain ⟨u4, k4⟩ := k4
            go_simp
            have c5 : ∀ u : Value, (w4.setCell ⟨G, 3, none⟩ u).cell? ⟨g11, 0, none⟩ = some (.int .i64 fa) := fun u => by unfold World.cell?; dsimp only; rw [heap_setCell_other w4 ⟨G, 3, none⟩ g11 _ hG11.out]; exact c4
            refine hK.out _ _ (c5 _) (fun hHeld => ?_)
            clear hK K
            try simp only [Act.put, List.setIfInBounds_toArray, List.set_cons_zero, List.set_cons_succ]
            refine wpAnyH_done (by kernel_rfl) ?_ _
            clear k3 k3a k3b c4 c5 k4 f4
            obtain ⟨n1, n2, n3⟩ := hIM.out.note (x := fa) (by unfold Ints; rw [show rowsI (ms' ++ [fa]) = rowsI ms' ++ [[.int .i64 fa]] by simp [rowsI]]; exact Ow.from8 o4) g4 p4
            have HN := Hid.mk (And.intro n1 (And.intro n2 n3))
            clear n1 n2 n3 o4 g4 p4
            go_wp2_with fail
            refine ⟨⟨k + 1, _, by omega, by go_num, by rw [HK.out.1, ← List.append_assoc, hms'.out]; exact HN.out.1, fun z q => (HN.out.2.1 z q).trans ((HK.out.2.2.2.1.block z (HK.out.2.2.2.2 z q)).trans (HK.out.2.1 z q)), ((HK.out.2.2.1.trans (HK.out.2.2.2.1.mono hBr)).drew).trans HN.out.2.2⟩, by simp [intOf]; omega⟩
          · go_simp
            refine hK.out _ _ hAl.out (fun hHeld => ?_)
            clear hK K
            try simp only [Act.put, List.setIfInBounds_toArray, List.set_cons_zero, List.set_cons_succ]
            refine wpAnyH_ready (rs := [4]) (by kernel_rfl) (by simp) ?_
            refine AllReadyH.cons (o := { dst := some 47, op := Op.load 30 (Operand.tmp 46), type := 30, pos := "scan.go:113", after := #[{ on := 3, ground := Ground.data }], guard := none }) rfl (fun K hK => ?_) AllReadyH.nil
            go_simp
            refine hK.out _ _ hHeld (fun hHeld => ?_)
            clear hK K
            try simp only [Act.put, List.setIfInBounds_toArray, List.set_cons_zero, List.set_cons_succ]
            refine wpAnyH_ready (rs := [8]) (by kernel_rfl) (by simp) ?_
            refine AllReadyH.cons (o := { dst := some 51, op := Op.call { callee := Callee.builtin Builtin.append, args := #[Operand.tmp 47, Operand.tmp 50], argTypes := #[30, 30] }, type := 30, pos := "scan.go:113", after := #[{ on := 4, ground := Ground.data }, { on := 7, ground := Ground.data }], guard := none }) rfl (fun K hK => ?_) AllReadyH.nil
            refine S8.step_app (w := V.drew) ei30s (by rfl) _ _ (by rfl) (Ow.to8 hIM.out.me) hBV.out #[.int .i64 fa] (by rfl) (by rfl) (by rfl) (by simp [Value.oneCell']) (by unfold rowsI; rw [List.length_map]; omega) ?_
            intro v4 w4 o4 g4 p4
            obtain ⟨a4, n4, rfl⟩ := o4.form
            generalize List.length (rowsI ms' ++ [#[Value.int IntKind.i64 fa].toList]) = L4 at *
            have c4 : w4.cell? ⟨g11, 0, none⟩ = some (.int .i64 fa) := (g4.cell_far ⟨g11, 0, none⟩ hlt11.out (fun e => hne11.out e.symm)).trans h14.out
            refine hK.out _ _ c4 (fun hHeld => ?_)
            clear hK K
            try simp only [Act.put, List.setIfInBounds_toArray, List.set_cons_zero, List.set_cons_succ]
            refine wpAnyH_take (i := 9) (oi := { dst := some 52, op := Op.nilCheck (Operand.tmp 43), type := 0, pos := "scan.go:113", after := #[{ on := 0, ground := Ground.data }, { on := 0, ground := Ground.phase }, { on := 1, ground := Ground.phase }, { on := 2, ground := Ground.phase }, { on := 3, ground := Ground.phase }, { on := 4, ground := Ground.phase }, { on := 5, ground := Ground.phase }, { on := 6, ground := Ground.phase }, { on := 7, ground := Ground.phase }, { on := 8, ground := Ground.phase }], guard := none }) (v := ?vvc9) rfl (by kernel_rfl) (by kernel_rfl) (by kernel_rfl) (fun _ _ _ h => h) (Or.inl ⟨by rfl, ?yyc9⟩) hHeld ?rrc9
            case yyc9 => (intro w0 hSw; unfold At14 at hSw; go_simp; try with_reducible rfl)
            try simp only [Act.put, List.setIfInBounds_toArray, List.set_cons_zero, List.set_cons_succ]
            refine wpAnyH_take (i := 10) (oi := { dst := some 53, op := Op.fieldAddr 138 (Operand.tmp 52) 3, type := 0, pos := "scan.go:113", after := #[{ on := 9, ground := Ground.data }, { on := 0, ground := Ground.phase }, { on := 1, ground := Ground.phase }, { on := 2, ground := Ground.phase }, { on := 3, ground := Ground.phase }, { on := 4, ground := Ground.phase }, { on := 5, ground := Ground.phase }, { on := 6, ground := Ground.phase }, { on := 7, ground := Ground.phase }, { on := 8, ground := Ground.phase }], guard := none }) (v := ?vvc10) rfl (by kernel_rfl) (by kernel_rfl) (by kernel_rfl) (fun _ _ _ h => h) (Or.inl ⟨by rfl, ?yyc10⟩) hHeld ?rrc10
            case yyc10 => (intro w0 hSw; unfold At14 at hSw; go_simp; try with_reducible rfl)
            try simp only [Act.put, List.setIfInBounds_toArray, List.set_cons_zero, List.set_cons_succ]
            refine wpAnyH_ready (rs := [11]) (by kernel_rfl) (by simp) ?_
            refine AllReadyH.cons (o := { dst := none, op := Op.store 30 (Operand.tmp 53) (Operand.tmp 51), type := 0, pos := "scan.go:113", after := #[{ on := 10, ground := Ground.data }, { on := 8, ground := Ground.data }, { on := 8, ground := Ground.chain }, { on := 0, ground := Ground.phase }, { on := 1, ground := Ground.phase }, { on := 2, ground := Ground.phase }, { on := 3, ground := Ground.phase }, { on := 4, ground := Ground.phase }, { on := 5, ground := Ground.phase }, { on := 6, ground := Ground.phase }, { on := 7, ground := Ground.phase }, { on := 8, ground := Ground.phase }], guard := none }) rfl (fun K hK => ?_) AllReadyH.nil
            have f4 : w4.frozen? ⟨G, 3, none⟩ = false := frozen_of_row w4 G 3 _ 138 ((g4.block G hIM.out.box.lt (fun e => hIM.out.ne e.symm)).trans hIM.out.box)
            have k4 : ∃ u, w4.cell? ⟨G, 3, none⟩ = some u := ⟨_, (g4.cell_far ⟨G, 3, none⟩ hIM.out.box.lt (fun e => hIM.out.ne e.symm)).trans hIM.out.box.cells.2.2.2⟩
            obtain ⟨u4, k4⟩ := k4
            go_simp
            have c5 : ∀ u : Value, (w4.setCell ⟨G, 3, none⟩ u).cell? ⟨g11, 0, none⟩ = some (.int .i64 fa) := fun u => by unfold World.cell?; dsimp only; rw [heap_setCell_other w4 ⟨G, 3, none⟩ g11 _ hG11.out]; exact c4
            refine hK.out _ _ (c5 _) (fun hHeld => ?_)
            clear hK K
            try simp only [Act.put, List.setIfInBounds_toArray, List.set_cons_zero, List.set_cons_succ]
            refine wpAnyH_done (by kernel_rfl) ?_ _
            clear k3 k3a k3b c4 c5 k4 f4
            obtain ⟨n1, n2, n3⟩ := hIM.out.note (x := fa) (by unfold Ints; rw [show rowsI (ms' ++ [fa]) = rowsI ms' ++ [[.int .i64 fa]] by simp [rowsI]]; exact Ow.from8 o4) g4 p4
            have HN := Hid.mk (And.intro n1 (And.intro n2 n3))
            clear n1 n2 n3 o4 g4 p4
            go_wp2_with fail
            refine ⟨⟨k + 1, _, by omega, by go_num, by rw [HK.out.1, ← List.append_assoc, hms'.out]; exact HN.out.1, fun z q => (HN.out.2.1 z q).trans ((HK.out.2.2.2.1.block z (HK.out.2.2.2.2 z q)).trans (HK.out.2.1 z q)), ((HK.out.2.2.1.trans (HK.out.2.2.2.1.mono hBr)).drew).trans HN.out.2.2⟩, by simp [intOf]; omega⟩
        · obtain rfl : k = len := by omega
          rw [List.take_of_length_le (by rw [hn.out]; omega)] at hI
          have HS := Hid.mk (And.intro hI (And.intro hkeep hb))
          clear hI hkeep hb
          go_wp2_with fail
          go_ret
          exact ⟨rfl, mv', HS.out.1, HS.out.2.1, HS.out.2.2⟩
end Go.Proofs.YtcmmhfjnhlaepabGreatDoor
namespace Go.Proofs.YtcmmhfjnhlaepabGreatDoor
open Go Go.RowKit

theorem state_is {w : World} {G P nx chk mv} (h : ImB w G P nx chk mv) : Calls Tryz.prog 41 #[.pointer (some ⟨G, 0, none⟩)] w fun e w' => e = .returned (.pointer (some ⟨P, 0, none⟩)) ∧ w' = w := by
  obtain ⟨c0, c1, c2, c3⟩ := h.cells
  clear h
  go_enter Tryz.func41, Tryz.ntmps41
  go_wp2_with fail
  go_ret
  exact ⟨rfl, rfl⟩
theorem rebuild_blank (v : Value) (l : List Fd) (w : World) (h : We.Ow w 0 99 8 v (l.map Fd.row)) (hl : ∀ f ∈ l, f.ok) (hlen : l.length ≤ 1000) (hN : nwW l = none) : Calls Tryz.prog 40 #[v] w fun e w' => e = .returned (.tuple #[.pointer none, .int .i64 150]) ∧ Below w.heap.size w w' := by
  have hq := Hid.mk (newest_none v l w h hl hlen hN)
  clear h hl hN
  go_enter Tryz.func40, Tryz.ntmps40
  go_wp2_with (first | (go_at_call 76; refine hq.out.mono ?_; rintro e w1 ⟨rfl, b1⟩))
  go_ret2
  exact ⟨rfl, b1⟩
/-- the newest checkpoint's place, as Rebuild reads it -/
def Sq8 (g : Nat) (s : Int) (w' : World) : Prop := w'.cell? ⟨g, 3, none⟩ = some (.int .u64 s)
theorem Sq8.call {g s} {w w' : World} (h : Sq8 g s w) (hg : g < w.heap.size) (b : Below w.heap.size w w') : Sq8 g s w' := (b.cell (p := ⟨g, 3, none⟩) hg).trans h
/-- an image at its beginning -/
theorem Img.start {B : Nat} {w0 w1 w2 w3 : World} {P : Nat} {Z : List Nat} (h : S8.HoldZ B w0 P S8.noAb Z w1) (b2 : Below w1.heap.size w1 w2) (nx s : Int) (h3 : w3 = w2.alloc (.cells #[.pointer (some ⟨P, 0, none⟩), .int .u64 nx, .int .u64 s, .slice none 0 0] 138)) :
    Img B w0 w2.heap.size P S8.noAb nx s [] (.slice none 0 0) Z w3 := by
  subst h3
  have h2 := h.call b2
  have hbl := Pg.below_one w2 (.cells #[.pointer (some ⟨P, 0, none⟩), .int .u64 nx, .int .u64 s, .slice none 0 0] 138)
  obtain ⟨st, q1, q2, q3, q4, q5, q6, q7⟩ := h2
  refine ⟨⟨st, q1, q2.call hbl, q3, q4.trans (hbl.mono (Nat.le_trans q5 q4.size)), q5, q6, fun z q => ?_⟩, heap_alloc_new w2 _, We.Ow.nil _ _ _ _, by simp [Value.ownBlock], fun z q => ⟨by have := (q7 z q).1.2; omega, by simp [Value.ownBlock]⟩⟩
  rcases List.mem_cons.1 q with rfl | q
  · exact ⟨⟨Nat.le_trans q5 q4.size, by rw [size_alloc]; omega⟩, fun hm => by have := q2.at'.foot_lt _ hm; omega⟩
  · have hq : z ∈ Z := by simpa [Value.ownBlock] using q
    have h3 := q7 z hq
    exact ⟨⟨h3.1.1, by rw [size_alloc]; omega⟩, h3.2⟩
def slLen : Value → Nat
  | .slice _ n _ => n
  | _ => 0
/-- what the journal holds: groups of one page, one state behind the other -/
structure Jr (J : List Fd) (rows : Nat → List Gp.R6) (st : Nat → S8.Ab) : Prop where
  len : J.length ≤ 19
  up : Rising J
  one : ∀ f ∈ J, f.O = 1 ∧ f.I = 0 ∧ U64 f.S
  txt : ∀ j, j < J.length → (J.getD j fdZ).t = Gp.puts (rows j)
  may : ∀ j, j < J.length → (∀ r ∈ rows j, Gp.R6.may r = true) ∧ (rows j).length ≤ 100
  do' : ∀ j, j < J.length → S8.plays (st j) (rows j) (st (j + 1))
set_option maxRecDepth 20000 in
set_option maxHeartbeats 2000000 in
theorem rebuild_ok (a : Option Addr) (cap : Nat) (l : List Fd) (w : World) (h : We.Ow w 0 99 8 (.slice a l.length cap) (l.map Fd.row)) (hl : ∀ f ∈ l, f.ok) (hlen : l.length ≤ 200) (s : Int) (m : Nat) (hN : nwW l = some (s, (m : Int))) (hm : 1 ≤ m ∧ m ≤ 200)
    (h0 : ((pgs l s m).getD 0 fdZ).S = s) (rss : List (List Gp.R6)) (htx : (pgs l s m).map (·.t) = rss.map Gp.puts) (hmay : ∀ x ∈ rss, ∀ r ∈ x, Gp.R6.may r = true) (h100 : ∀ x ∈ rss, x.length ≤ 100)
    (rows : Nat → List Gp.R6) (st : Nat → S8.Ab) (hp : S8.plays S8.noAb rss.flatten (st 0)) (hJ : Jr (jrn s l) rows st) (hg : 0 ≤ grt l ∧ grt l < 9223372036854775807) :
    Calls Tryz.prog 40 #[.slice a l.length cap] w fun e w' => ∃ G P mv, e = .returned (.tuple #[.pointer (some ⟨G, 0, none⟩), .int .i64 0]) ∧
      Img w.heap.size w G P (st (jrn s l).length) (grt l + 1) s ((pgs l s m).map (·.a) ++ (jrn s l).map (·.a)) mv [] w' := by
  have HN := Hid.mk (newest_some _ l w h hl (by omega) s m hN (by omega))
  have HG := Hid.mk (fun (w' : World) (b : Below w.heap.size w w') => greatest_any a cap l w' ((FdsF.of h).below b) (by omega))
  have HF := Hid.mk (FdsF.of h)
  have hwg : IntKind.u64.wrap (grt l + 1) = grt l + 1 := by rw [IntKind.wrap_u64]; omega
  have HJ := Hid.mk (And.intro hJ (And.intro htx (And.intro hmay (And.intro h100 (And.intro hp h0)))))
  have hJl := hJ.len
  clear h hl hN hJ htx hmay h100 hp h0
  generalize grt l = gr at *
  generalize pgs l s m = ps at *
  generalize hn : l.length = len at *
  replace hn := Hid.mk hn
  go_enter Tryz.func40, Tryz.ntmps40
  go_upto_region 4 with (first | (go_at_call 76; refine HN.out.mono ?_; rintro e w1 ⟨v1, rfl, o1, hps, b1⟩; obtain ⟨a1, c1, rfl⟩ := o1.form; rw [List.length_map, hps] at o1 ⊢))
  obtain ⟨gn, rfl, hgn, hgl, hc⟩ := o1.at (j := 0) (by rw [List.length_map]; omega)
  have hrow : (ps.map Fd.row).getD 0 [] = (ps.getD 0 fdZ).row := by simp [List.getD_eq_getElem?_getD, show 0 < ps.length by omega]
  rw [hrow] at hc
  have hS1 : w1.cell? ⟨gn, 3, none⟩ = some (.int .u64 s) := by
    have := hc 3 (by omega)
    unfold Fd.row at this
    rw [HJ.out.2.2.2.2.2] at this
    simpa using this
  have h4 : Hid (Sq8 gn s w1.drew) := Hid.mk hS1
  have HO := Hid.mk (And.intro o1 (And.intro b1 (And.intro hgn hgl)))
  have hm1 : 0 < m := by omega
  clear o1 b1 hc hrow hS1 HN
  refine wp_region_held_drew (S := fun w' => Sq8 gn s w') (by kernel_rfl) h4.out (fun hHeld => ?_)
  refine wpAnyH_take (i := 1) (oi := { dst := some 20, op := Op.move (Operand.tmp 0), type := 80, pos := "scan.go:82", after := #[], guard := none }) (v := ?vv1) rfl (by kernel_rfl) (by kernel_rfl) (by kernel_rfl) (fun _ _ _ h => h) (Or.inl ⟨by rfl, ?yy1⟩) hHeld ?rr1
  case yy1 => (intro w0 hSw; unfold Sq8 at hSw; go_simp; try with_reducible rfl)
  try simp only [Act.put, List.setIfInBounds_toArray, List.set_cons_zero, List.set_cons_succ]
  refine wpAnyH_take (i := 4) (oi := { dst := some 23, op := Op.move (Operand.tmp 4), type := 80, pos := "scan.go:82", after := #[], guard := none }) (v := ?vv4) rfl (by kernel_rfl) (by kernel_rfl) (by kernel_rfl) (fun _ _ _ h => h) (Or.inl ⟨by rfl, ?yy4⟩) hHeld ?rr4
  case yy4 => (intro w0 hSw; unfold Sq8 at hSw; go_simp; try with_reducible rfl)
  try simp only [Act.put, List.setIfInBounds_toArray, List.set_cons_zero, List.set_cons_succ]
  refine wpAnyH_take (i := 5) (oi := { dst := some 24, op := Op.indexAddr 80 (Operand.tmp 23) (Operand.const (Value.int IntKind.i64 0)), type := 0, pos := "scan.go:82", after := #[{ on := 4, ground := Ground.data }], guard := none }) (v := ?vv5) rfl (by kernel_rfl) (by kernel_rfl) (by kernel_rfl) (fun _ _ _ h => h) (Or.inl ⟨by rfl, ?yy5⟩) hHeld ?rr5
  case yy5 => (intro w0 hSw; unfold Sq8 at hSw; go_simp; try with_reducible rfl)
  try simp only [Act.put, List.setIfInBounds_toArray, List.set_cons_zero, List.set_cons_succ]
  refine wpAnyH_take (i := 6) (oi := { dst := some 25, op := Op.fieldAddr 99 (Operand.tmp 24) 2, type := 0, pos := "scan.go:82", after := #[{ on := 5, ground := Ground.data }], guard := none }) (v := ?vv6) rfl (by kernel_rfl) (by kernel_rfl) (by kernel_rfl) (fun _ _ _ h => h) (Or.inl ⟨by rfl, ?yy6⟩) hHeld ?rr6
  case yy6 => (intro w0 hSw; unfold Sq8 at hSw; go_simp; try with_reducible rfl)
  try simp only [Act.put, List.setIfInBounds_toArray, List.set_cons_zero, List.set_cons_succ]
  refine wpAnyH_take (i := 7) (oi := { dst := some 26, op := Op.fieldAddr 97 (Operand.tmp 25) 1, type := 0, pos := "scan.go:82", after := #[{ on := 6, ground := Ground.data }], guard := none }) (v := ?vv7) rfl (by kernel_rfl) (by kernel_rfl) (by kernel_rfl) (fun _ _ _ h => h) (Or.inl ⟨by rfl, ?yy7⟩) hHeld ?rr7
  case yy7 => (intro w0 hSw; unfold Sq8 at hSw; go_simp; try with_reducible rfl)
  try simp only [Act.put, List.setIfInBounds_toArray, List.set_cons_zero, List.set_cons_succ]
  refine wpAnyH_take (i := 8) (oi := { dst := some 27, op := Op.load 72 (Operand.tmp 26), type := 72, pos := "scan.go:82", after := #[{ on := 7, ground := Ground.data }], guard := none }) (v := ?vv8) rfl (by kernel_rfl) (by kernel_rfl) (by kernel_rfl) (fun _ _ _ h => h) (Or.inl ⟨by rfl, ?yy8⟩) hHeld ?rr8
  case yy8 => (intro w0 hSw; unfold Sq8 at hSw; go_simp; try with_reducible rfl)
  try simp only [Act.put, List.setIfInBounds_toArray, List.set_cons_zero, List.set_cons_succ]
  refine wpAnyH_ready (rs := [0]) (by kernel_rfl) (by simp) ?_
  refine AllReadyH.cons (o := { dst := some 19, op := Op.call { callee := Callee.value (Operand.func 67), args := #[], argTypes := #[] }, type := 61, pos := "scan.go:82", after := #[], guard := none }) rfl (fun K hK => ?_) AllReadyH.nil
  go_simp
  go_at_call 67
  refine (S8.newZ (Z := [gn]) HO.out.2.1.drew (Nat.le_refl _) (fun z q => by rw [List.mem_singleton.1 q]; exact ⟨HO.out.2.2.1, HO.out.2.2.2⟩)).mono ?_
  rintro e w5 ⟨rfl, z5, b5⟩
  have hH5 := hHeld.call HO.out.2.2.2 b5
  refine hK.out _ _ hH5 (fun hHeld => ?_)
  clear hK K
  try simp only [Act.put, List.setIfInBounds_toArray, List.set_cons_zero, List.set_cons_succ]
  refine wpAnyH_ready (rs := [2]) (by kernel_rfl) (by simp) ?_
  refine AllReadyH.cons (o := { dst := some 21, op := Op.call { callee := Callee.value (Operand.func 77), args := #[Operand.tmp 20], argTypes := #[80] }, type := 72, pos := "scan.go:82", after := #[{ on := 1, ground := Ground.data }, { on := 0, ground := Ground.chain }], guard := none }) rfl (fun K hK => ?_) AllReadyH.nil
  go_simp
  go_at_call 77
  refine (HG.out _ (below3 HO.out.2.1.drew b5)).mono ?_
  rintro e w6 ⟨rfl, b6⟩
  have hl5 : gn < w5.heap.size := Nat.lt_of_lt_of_le HO.out.2.2.2 b5.size
  have hH6 := hHeld.call hl5 b6
  refine hK.out _ _ hH6 (fun hHeld => ?_)
  clear hK K
  try simp only [Act.put, List.setIfInBounds_toArray, List.set_cons_zero, List.set_cons_succ]
  refine wpAnyH_take (i := 3) (oi := { dst := some 22, op := Op.binOp BinOp.add 72 (Operand.tmp 21) (Operand.const (Value.int IntKind.u64 1)) 72, type := 72, pos := "scan.go:82", after := #[{ on := 2, ground := Ground.data }], guard := none }) (v := ?vva3) rfl (by kernel_rfl) (by kernel_rfl) (by kernel_rfl) (fun _ _ _ h => h) (Or.inl ⟨by rfl, ?yya3⟩) hHeld ?rra3
  case yya3 => (intro w0 hSw; unfold Sq8 at hSw; go_simp; try with_reducible rfl)
  try simp only [Act.put, List.setIfInBounds_toArray, List.set_cons_zero, List.set_cons_succ]
  refine wpAnyH_take (i := 9) (oi := { dst := some 28, op := Op.build 138 #[(0, Operand.tmp 19), (1, Operand.tmp 22), (2, Operand.tmp 27)], type := 138, pos := "scan.go:82", after := #[{ on := 0, ground := Ground.data }, { on := 3, ground := Ground.data }, { on := 8, ground := Ground.data }], guard := none }) (v := ?vva9) rfl (by kernel_rfl) (by kernel_rfl) (by kernel_rfl) (fun _ _ _ h => h) (Or.inl ⟨by rfl, ?yya9⟩) hHeld ?rra9
  case yya9 => (intro w0 hSw; unfold Sq8 at hSw; go_simp; try with_reducible rfl)
  try simp only [Act.put, List.setIfInBounds_toArray, List.set_cons_zero, List.set_cons_succ]
  refine wpAnyH_ready (rs := [10]) (by kernel_rfl) (by simp) ?_
  refine AllReadyH.cons (o := { dst := some 29, op := Op.box 138 (Operand.tmp 28), type := 92, pos := "scan.go:82", after := #[{ on := 9, ground := Ground.data }], guard := none }) rfl (fun K hK => ?_) AllReadyH.nil
  go_simp
  refine hK.out _ _ (hHeld.call (Nat.lt_of_lt_of_le hl5 b6.size) (Pg.below_one w6 _)) (fun hHeld => ?_)
  clear hK K
  try simp only [Act.put, List.setIfInBounds_toArray, List.set_cons_zero, List.set_cons_succ]
  refine wpAnyH_take (i := 11) (oi := { dst := some 6, op := Op.assign (Operand.tmp 29), type := 92, pos := "scan.go:82", after := #[{ on := 10, ground := Ground.data }, { on := 2, ground := Ground.chain }, { on := 0, ground := Ground.phase }, { on := 1, ground := Ground.phase }, { on := 2, ground := Ground.phase }, { on := 3, ground := Ground.phase }, { on := 4, ground := Ground.phase }, { on := 5, ground := Ground.phase }, { on := 6, ground := Ground.phase }, { on := 7, ground := Ground.phase }, { on := 8, ground := Ground.phase }, { on := 9, ground := Ground.phase }, { on := 10, ground := Ground.phase }], guard := none }) (v := ?vva11) rfl (by kernel_rfl) (by kernel_rfl) (by kernel_rfl) (fun _ _ _ h => h) (Or.inl ⟨by rfl, ?yya11⟩) hHeld ?rra11
  case yya11 => (intro w0 hSw; unfold Sq8 at hSw; go_simp; try with_reducible rfl)
  try simp only [Act.put, List.setIfInBounds_toArray, List.set_cons_zero, List.set_cons_succ]
  refine wpAnyH_done (by kernel_rfl) ?_ _
  have b56 := below3 b5 b6
  have bW := Pg.below_one w6 (.cells #[.pointer (some ⟨w1.heap.size + 4, 0, none⟩), .int .u64 (gr + 1), .int .u64 s, .slice none 0 0] 138)
  replace z5 : S8.HoldZ w.heap.size w (w1.heap.size + 4) S8.noAb [gn] w5 := z5
  have I0 := Img.start z5 b6 (gr + 1) s rfl
  have oW := (HO.out.1.drew.call b56).call bW
  have BW := below3 (below3 HO.out.2.1.drew b56) bW
  have H0 := Hid.mk (And.intro I0 (And.intro oW BW))
  clear I0 oW BW bW b56 b5 b6 z5 hH5 hH6 hHeld h4 HG HO hl5
  have hdo := Hid.mk (do_any H0.out.1 (some ⟨gn, 0, none⟩) c1 ps (FdsF.of H0.out.2.1) (fun g o e => .inr (by simp at e; simp [e.1])) rss HJ.out.2.1 HJ.out.2.2.1 HJ.out.2.2.2.1 (by omega) (by simp) (st 0) HJ.out.2.2.2.2.1)
  rw [hps] at hdo
  generalize w6.heap.size = G at *
  generalize w1.heap.size + 4 = P at *
  generalize (w6.alloc (.cells #[.pointer (some ⟨P, 0, none⟩), .int .u64 (gr + 1), .int .u64 s, .slice none 0 0] 138)) = W at *
  go_upto_region 8 with (first | (go_at_call 78; refine hdo.out.mono ?_; rintro e w7 ⟨rfl, mv7, i7, z7, b7⟩))
  rw [List.nil_append] at i7
  obtain ⟨c70, c71, c72, c73⟩ := i7.box.cells
  have B7 : Below w.heap.size w w7 := H0.out.2.2.trans b7
  have hjo := Hid.mk (journal_any a cap l s w7 (HF.out.below B7) (by rw [hn.out]; omega) HJ.out.1.len HJ.out.1.up)
  rw [hn.out] at hjo
  have H7 := Hid.mk (And.intro i7 B7)
  clear i7 z7 b7 B7 hdo H0
  go_upto_region 9 with (first | (go_at_call 79; refine hjo.out.mono ?_; rintro e w8 ⟨vj, rfl, oj, bj⟩; obtain ⟨aj, cj, rfl⟩ := oj.form; rw [List.length_map] at oj ⊢))
  have hcj : (jrn s l).length ≤ cj := by
    rcases oj.own.2 with ⟨q, q2⟩ | ⟨g, cap', cur, q, hq, _⟩
    · simp at q
      rw [q.2.1]
      exact Nat.zero_le _
    · simp at q
      have e1 : (List.map Fd.row (jrn s l)).length = (jrn s l).length := List.length_map _
      omega
  have I8 : Img w.heap.size w G P (st 0) (gr + 1) s (ps.map (·.a)) mv7 (Value.slice aj (jrn s l).length cj).ownBlock.toList w8 := H7.out.1.more bj (fun z q => by
    have := oj.lt z (by simpa using q)
    exact .inr this)
  have H8 := Hid.mk (And.intro I8 (And.intro (FdsF.of oj) (fun g o (e : aj = some ⟨g, o, none⟩) => (by rw [e]; simp [Value.ownBlock] : g ∈ (Value.slice aj (jrn s l).length cj).ownBlock.toList))))
  clear I8 oj bj hjo H7 c70 c71 c72 c73
  generalize (Value.slice aj (jrn s l).length cj).ownBlock.toList = ZJ at *
  generalize hJn : (jrn s l).length = jn at *
  have HJn := Hid.mk hJn
  go_loopw [8] (fun v wr => ∃ (k : Nat) (ak : Option Addr) (mvk : Value), k ≤ jn ∧ v = .slice ak (jn - k) (cj - k) ∧ FdsF wr ak ((jrn s l).drop k) ∧ (∀ g o, ak = some ⟨g, o, none⟩ → g ∈ ZJ) ∧ Img w.heap.size w G P (st k) (gr + 1) s (ps.map (·.a) ++ ((jrn s l).take k).map (·.a)) mvk ZJ wr) (fun v _ => slLen v)
  case atStart => exact ⟨0, aj, mv7, Nat.zero_le _, by rw [Nat.sub_zero, Nat.sub_zero], by rw [List.drop_zero]; exact H8.out.2.1, H8.out.2.2, by rw [List.take_zero, List.map_nil, List.append_nil]; exact H8.out.1⟩
  case round =>
    clear H8
    obtain ⟨k, ak, mvk, hk, rfl, hF, hZ, hI⟩ := hrel
    by_cases hlt : k < jn
    · have hltl : k < (jrn s l).length := by rw [HJn.out]; exact hlt
      obtain ⟨g, o, rfl, hg, hf⟩ := hF 0 (by rw [List.length_drop]; omega)
      have e0 : ((jrn s l).drop k).getD 0 fdZ = (jrn s l).getD k fdZ := by simp [List.getD_eq_getElem?_getD]
      rw [e0, Nat.zero_mul, Nat.add_zero] at hf
      have hone := HJ.out.1.one ((jrn s l).getD k fdZ) (by simp [List.getD_eq_getElem?_getD, hltl])
      have htk := take_fd (jrn s l) k hltl
      have hgl := Hid.mk (groupLen_one g o (jn - k) (cj - k) ((jrn s l).getD k fdZ) wr hg hf hone.1 hone.2.1 (by omega) (by omega) hone.2.2)
      have hto : ∀ w, (Instr.slice 80 (.slice (some ⟨g, o, none⟩) (jn - k) (cj - k)) none (some (.int .i64 1)) none).run Tryz.prog w = .ok (.slice (some ⟨g, o, none⟩) 1 (cj - k)) w := fun w => cut_to Tryz.underlying80 size70f (.inl rfl) (jn - k) (cj - k) 1 (by omega) w
      obtain ⟨a', hfrom, hfr2, hfr3⟩ := cut_from (a := some ⟨g, o, none⟩) ((jrn s l).drop k) (jn - k) (cj - k) 1 (by omega) (by omega) (by rw [List.length_drop]; omega)
      have hfrom1 : ∀ w, (Instr.slice 80 (.slice (some ⟨g, o, none⟩) (jn - k) (cj - k)) (some (.int .i64 1)) none none).run Tryz.prog w = .ok (.slice a' (jn - k - 1) (cj - k - 1)) w := hfrom
      have hdo : Hid (∀ w' , Below wr.heap.size wr w' → Calls Tryz.prog 78 #[.pointer (some ⟨G, 0, none⟩), .slice (some ⟨g, o, none⟩) 1 (cj - k)] w' fun e w'' => e = .returned (.int .i64 0) ∧ ∃ mv', Img w.heap.size w G P (st (k + 1)) (gr + 1) s (ps.map (·.a) ++ ((jrn s l).take k).map (·.a) ++ [(jrn s l).getD k fdZ].map (·.a)) mv' ZJ w'' ∧ (∀ z ∈ ZJ, w''.heap[z]? = w'.heap[z]?) ∧ Below w.heap.size w' w'') := fun w' b => by
        refine do_any (hI.call b) (some ⟨g, o, none⟩) (cj - k) [(jrn s l).getD k fdZ] (fun j hj => ?_) (fun g o e => .inr (hZ g o e)) [rows k] ?_ (fun x hx => ?_) (fun x hx => ?_) (by simp) ?_ (st (k + 1)) (by simpa using HJ.out.1.do' k hltl)
        · have : j = 0 := by simpa using hj
          subst this
          refine ⟨g, o, rfl, Nat.lt_of_lt_of_le hg b.size, ?_⟩
          rw [Nat.zero_mul, Nat.add_zero]
          exact hf.same (b.block g hg)
        · simp only [List.map_cons, List.map_nil]
          rw [HJ.out.1.txt k hltl]
        · rw [List.mem_singleton.1 hx]
          exact (HJ.out.1.may k hltl).1
        · rw [List.mem_singleton.1 hx]
          exact (HJ.out.1.may k hltl).2
        · rw [List.length_append, List.length_map, List.length_map, List.length_take]
          omega
      have hlp : (0 : Int) < ((jn - k : Nat) : Int) := by omega
      have hlp0 : 0 < jn - k := by omega
      have HF2 := Hid.mk (And.intro hF (And.intro hfr2 hZ))
      have Hblk := Hid.mk (And.intro hg hfr3)
      clear hF hI hf hone hfr2 hfrom hZ e0
      generalize hL : jn - k = L at *
      generalize hC : cj - k = C at *
      go_wp2_with (first
        | (go_at_call 80; refine hgl.out.mono ?_; rintro e w9 ⟨rfl, b9⟩)
        | (go_at_call 78; refine (hdo.out _ b9).mono ?_; rintro e w10 ⟨rfl, mv10, i10, z10, b10⟩))
      have hz9 : w10.heap.size ≥ wr.heap.size := Nat.le_trans b9.size b10.size
      refine ⟨⟨k + 1, a', mv10, by omega, by rw [show jn - (k + 1) = L - 1 by omega, show cj - (k + 1) = C - 1 by omega], ?_, fun g' o' e => ?_, ?_⟩, by show L - 1 < L; omega⟩
      · have hd := HF2.out.2.1 w10 (HF2.out.1.same hz9 (fun g' o' e => (z10 g' (HF2.out.2.2 g' o' e)).trans (b9.block g' (by have e1 := e; simp at e1; rw [← e1.1]; exact Hblk.out.1))))
        rw [List.drop_drop] at hd
        exact hd
      · have q := Hblk.out.2
        rw [e] at q
        have : g' = g := by simpa using q
        rw [this]
        exact HF2.out.2.2 g o rfl
      · rw [htk, List.map_append, ← List.append_assoc]
        exact i10
    · obtain rfl : k = jn := by omega
      rw [List.take_of_length_le (by rw [HJn.out]; omega)] at hI
      have hI2 := Hid.mk hI
      clear hI hF hZ
      rw [Nat.sub_self]
      go_wp2_with fail
      go_ret2
      exact ⟨G, rfl, P, mvk, hI2.out.more (Below.refl _ _) (fun z q => by cases q)⟩
end Go.Proofs.YtcmmhfjnhlaepabGreatDoor
