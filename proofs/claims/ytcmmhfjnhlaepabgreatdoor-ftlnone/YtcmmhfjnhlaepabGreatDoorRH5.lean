/-
  What a state tells: Get, Refs, Live, Keys, Bad, Bads, Worn; and what no state tells. No condition. Slices of structs that a call itself has made: how they grow by append, and what their elements are. No condition. Space: what is told of one space. No condition. Spaces: all spaces, by their numbers. No condition. A state that the call itself has made, by what it has alone; a page that two spaces have. No condition. Rows of records that are handed in. No condition. A state beside blocks of the call's own; which blocks are bad and how often each was erased, told by records. No condition.
-/
import Derived.Test.YtcmmhfjnhlaepabGreatDoorRH4
import Derived.Maps.AppendAt
import Derived.Laws.OwnMore
namespace Go.Proofs.YtcmmhfjnhlaepabGreatDoor.S8
open Go Go.RowKit Go.Maps Gp Pg We
def getA (t : Ab) (id page : Int) : Option Int := match gA t.sp id with | none => none | some x => mget x.ps page
set_option maxRecDepth 20000 in
theorem get_any {w s} (h : StAt w s) {id page : Int} (hi : K64 id) (hp : K64 page) :
  Calls Tryz.prog 39 #[.pointer (some ⟨s.p, 0, none⟩), .int .i64 id, .int .i64 page] w fun e w' => e = .returned (.tuple #[.int .i64 ((getA (ab s) id page).getD 0), .bool (getA (ab s) id page).isSome]) /\ w = w' := by
 have c0 := h.c0
 unfold getA
 cases hg : gsp s.sp id with
 | none =>
  rw [ab_gspN hg]
  have l0 := h.noSp hi hg
  clear h hg
  go_enter Tryz.func39, Tryz.ntmps39
  go_wp2
  go_ret2
  exact ⟨rfl, rfl⟩
 | some x =>
  rw [ab_gsp hg]
  have hxid := (gsp_some hg).2
  have hgx := gsp_id hg
  subst hxid
  have l0 := h.aSp hi hgx
  have hX := h.hsp x (gsp_some hg).1
  have q2 := hX.pb
  have l1 := hX.2.lookOk hp
  show Calls _ _ _ _ fun e w' => e = .returned (.tuple #[.int .i64 ((mget x.ps page).getD 0), .bool (mget x.ps page).isSome]) /\ w = w'
  generalize (mget x.ps page).getD 0 = a at *
  generalize (mget x.ps page).isSome = b at *
  clear h hg hgx hX
  go_enter Tryz.func39, Tryz.ntmps39
  go_wp2
  go_ret2
  exact ⟨rfl, rfl⟩
theorem live_any {w s} (h : StAt w s) : Calls Tryz.prog 54 #[.pointer (some ⟨s.p, 0, none⟩)] w fun e w' => e = .returned (.int .i64 (s.refs.length : Int)) /\ w = w' := by
 have c1 := h.c1
 have l1 := fun ty => h.hR.len Tryz.underlying129 ty
 generalize (s.refs : Pl).length = b at *
 clear h
 go_enter Tryz.func54, Tryz.ntmps54
 go_wp2
 go_ret
 exact ⟨rfl, rfl⟩
def kN (rest : Pl) : List Sp -> Nat
 | [] => 0
 | x :: r => (if (mget rest x.id).isSome then 0 else x.ps.length) + kN rest r
theorem kN_start (l : List Sp) (rest : Pl) (h : ∀ x ∈ l, (mget rest x.id).isSome = true) : kN rest l = 0 := by
 induction l with
 | nil => rfl
 | cons x r ih => simp only [kN]; rw [if_pos (h x (by simp)), ih (fun y hy => h y (by simp [hy]))]
theorem kN_none {l : List Sp} {rest : Pl} {k : Int} (h : ∀ x ∈ l, x.id ≠ k) : kN (mdel rest k) l = kN rest l := by
 induction l with
 | nil => rfl
 | cons x r ih => simp only [kN]; rw [mget_del_ne (h x (by simp)), ih (fun y hy => h y (by simp [hy]))]
theorem kN_step {l : List Sp} (hu : Up (spm l)) {rest : Pl} {x : Sp} (hx : x ∈ l) (hr : (mget rest x.id).isSome = true) : kN (mdel rest x.id) l = kN rest l + x.ps.length := by
 induction l with
 | nil => cases hx
 | cons y r ih =>
  have hy : ∀ z ∈ r, z.id ≠ y.id := fun z hz e => by
   have := (List.pairwise_cons.1 hu).1 (z.id, (z.sb : Int)) (List.mem_map.2 ⟨z, hz, rfl⟩)
   simp only at this; omega
  simp only [kN]
  rcases List.mem_cons.1 hx with rfl | hx
  ·rw [mget_del_same, hr, kN_none hy]
   simp; omega
  ·rw [mget_del_ne (fun e => hy x hx e.symm), ih (List.pairwise_cons.1 hu).2 hx]
   omega
def pagesN : List Asp -> Nat
 | [] => 0
 | x :: r => x.ps.length + pagesN r
theorem kN_end (l : List Sp) : kN [] l = pagesN (l.map Sp.a) := by
 induction l with
 | nil => rfl
 | cons x r ih => simp only [kN, List.map_cons, pagesN, ih]; rfl
theorem pagesN_le {l : List Asp} (h : ∀ x ∈ l, x.ps.length <= 1024) : pagesN l <= l.length * 1024 := by
 induction l with
 | nil => simp [pagesN]
 | cons x r ih =>
  have h2 := h x (by simp)
  have h3 := ih (fun y hy => h y (by simp [hy]))
  simp only [pagesN, List.length_cons]; omega
theorem kN_le (l : List Sp) (rest : Pl) : kN rest l <= pagesN (l.map Sp.a) := by
 induction l with
 | nil => simp [kN]
 | cons x r ih => simp only [kN, List.map_cons, pagesN, Sp.a]; split <;> omega
def KyS (w : World) (s : St) (r : Nat) (rest : Pl) (wr : World) : Prop := Rg elP wr s.bS r (spm s.sp) rest /\ rest.Sublist (spm s.sp) /\ StAt wr s /\ Below w.heap.size w wr /\ w.heap.size <= r
set_option maxRecDepth 20000 in
theorem keys_any {w s} (h : Whole w s) : Calls Tryz.prog 55 #[.pointer (some ⟨s.p, 0, none⟩)] w fun e w' => e = .returned (.int .i64 (pagesN (ab s).sp : Int)) /\ Below w.heap.size w w' := by
 have c0 := h.at'.c0
 have hmx : pagesN (ab s).sp <= 15360 := by have h1 := pagesN_le (fun x hx => h.inv.plen hx); have := h.inv.len; omega
 have hk := fun rest => kN_le s.sp rest
 have H := Hid.mk h
 clear h
 generalize hT : pagesN (ab s).sp = T at *
 have HT : Hid (pagesN (s.sp.map Sp.a) = T) := hT
 clear hT
 replace hk : Hid (∀ rest, kN rest s.sp <= T) := fun rest => by rw [<- HT.out]; exact hk rest
 go_enter Tryz.func55, Tryz.ntmps55
 go_upto_region 5 with (first | (at_range; refine wp_range _ rfl _ 128 127 rfl Tryz.underlying128 H.out.at'.hS rfl ?_; intro w1 r1 b1 z1))
 go_frame
 have S0 : KyS w s w.heap.size (spm s.sp) w1 := ⟨r1, List.Sublist.refl _, H.out.at'.call b1, b1, Nat.le_refl _⟩
 replace S0 := Hid.mk S0
 clear r1 b1 z1 c0
 have hst : Hid (kN (spm s.sp) s.sp = 0) := kN_start _ _ (fun x hx => by
  rw [spm_get, Option.isSome_map]
  unfold gsp
  rw [List.find?_isSome]
  exact ⟨x, hx, by simp⟩)
 generalize hr : w.heap.size = r at *
 replace hr := Hid.mk hr
 go_loopw [3] (fun a wr => ∃ rest, a = .int .i64 (kN rest s.sp : Int) /\ KyS w s r rest wr) (fun _ wr => wr.rangeLeft s.bS r)
 case atStart => exact ⟨_, by rw [hst.out]; rfl, S0.out⟩
 case round =>
  clear S0
  obtain ⟨rest, rfl, hs⟩ := hrel
  have HS := Hid.mk hs
  clear hs
  go_wp2_with (first | (at_next; refine wp_nextP _ rfl _ rfl HS.out.1 rfl ?_ ?_))
  ·intro hd
   subst hd
   go_wp2_with fail
   go_ret
   refine ⟨?_, ?_⟩
   ·rw [<- HT.out, <- kN_end]; rfl
   ·exact HS.out.2.2.2.1
  ·intro k g w2 hm hk2 hrg hlt hgr hsz hen
   obtain ⟨x, hx, ex⟩ := List.mem_map.1 (HS.out.2.1.subset hm)
   simp only [Prod.mk.injEq, Int.ofNat_inj] at ex
   obtain ⟨rfl, rfl⟩ := ex
   have hu := H.out.at'.hS.up
   have hxr : (mget rest x.id).isSome = true := by rw [mem_mget (up_sub hu HS.out.2.1) hm]; rfl
   have hst := kN_step hu hx hxr
   have g2 : StAt w2 s := HS.out.2.2.1.step H.out.at' rfl hgr HS.out.2.2.2.2
   have X2 := g2.hsp x hx
   have p2 := X2.pb
   have l2 := fun ty => X2.2.len Tryz.underlying129 ty
   have b2 : Below w.heap.size w w2 := HS.out.2.2.2.1.grown hgr (HS.out.2.2.2.1.size) (fun j hj => by cases hj; exact HS.out.2.2.2.2)
   have hle := hk.out (mdel rest x.id)
   have hw : IntKind.i64.wrap ((kN rest s.sp : Int) + (x.ps.length : Int)) = (kN (mdel rest x.id) s.sp : Int) := by rw [wrap_id (by omega) (by omega), hst]; omega
   generalize (kN rest s.sp : Int) = n1 at *
   generalize (x.ps : Pl).length = n2 at *
   have HG := Hid.mk (And.intro g2 (And.intro hrg (And.intro hlt b2)))
   clear g2 X2 hrg hlt hgr hsz hu hst hle hm b2
   go_wp2_with fail
   exact ⟨⟨_, rfl, HG.out.2.1, (mdel_sub _ _).trans HS.out.2.1, HG.out.1, HG.out.2.2.2, HS.out.2.2.2.2⟩, HG.out.2.2.1⟩
/-! no state -/
end Go.Proofs.YtcmmhfjnhlaepabGreatDoor.S8
namespace Go.Proofs.YtcmmhfjnhlaepabGreatDoor.S8
open Go Go.RowKit Go.Maps Gp Pg We
section
variable {ops : Array Oper} {rest : List Oper} {o : Oper} {a : Act} {Q : Exit -> Act -> World -> Prop}
end
def rI (l : List Int) : Rws := l.map fun i => [.int .i64 i]
theorem rI_flat (l : List Int) : (rI l).flatten = l.map (Value.int .i64) := by
 induction l with
 | nil => rfl
 | cons a l ih => simp only [rI, List.map_cons, List.flatten_cons] at *; rw [ih]; rfl
theorem rI_len (l : List Int) : (rI l).length = l.length := by simp [rI]
theorem _root_.Go.Proofs.YtcmmhfjnhlaepabGreatDoor.We.Ow.ints {w : World} {B v} {l : List Int} {n : Nat} (hn : n = l.length) (h : w.ownsRow B 3 1 v n (l.map (Value.int .i64))) : Ow w B 3 1 v (rI l) := by
 subst hn
 refine ⟨by rw [rI_flat, rI_len]; exact h, fun r hr => ?_, fun r hr u hu => ?_⟩
 ·obtain ⟨i, _, rfl⟩ := List.mem_map.1 hr; rfl
 ·obtain ⟨i, _, rfl⟩ := List.mem_map.1 hr
  rw [List.mem_singleton.1 hu]; rfl
theorem _root_.Go.Proofs.YtcmmhfjnhlaepabGreatDoor.We.Ow.intAt {w : World} {B a n cap} {l : List Int} (h : Ow w B 3 1 (.slice a n cap) (rI l)) {j : Nat} (hj : j < l.length) : ∃ g, a = some ⟨g, 0, none⟩ /\ B <= g /\ g < w.heap.size /\ w.cell? ⟨g, j, none⟩ = some (.int .i64 (l.getD j 0)) := by
 obtain ⟨g, rfl, hB, hl, hc⟩ := h.at (j := j) (by rw [rI_len]; exact hj)
 refine ⟨g, rfl, hB, hl, ?_⟩
 have := hc 0 (by omega)
 rw [show j * 1 + 0 = j by omega] at this
 rw [this]
 simp [rI, List.getD_eq_getElem?_getD, hj]
theorem riseP {R : Rdr} {w : World} {b : Nat} {m : Pl} (h : Mp R w b m) (hn : m.length < 1000000) :
  Calls Tryz.prog 126 #[.map (some b)] w fun e w' => ∃ a cap, e = .returned (.slice a m.length cap) /\ Ow w' w.heap.size 3 1 (.slice a m.length cap) (rI (m.map (·.1))) /\ Below w.heap.size w w' := by
 refine (risingP_any h hn).mono ?_
 rintro e w' ⟨v, rfl, o1, b1⟩
 have i1 := Ow.ints (by simp) o1
 obtain ⟨a, c, rfl⟩ := i1.form
 have le : (rI (m.map fun x => x.1)).length = m.length := by simp [rI]
 rw [le] at i1 |-
 exact ⟨a, c, rfl, i1, b1⟩
theorem riseU {R : Rdr} {w : World} {b : Nat} {m : Pl} (h : Mp R w b m) (hn : m.length < 1000000) :
  Calls Tryz.prog 128 #[.map (some b)] w fun e w' => ∃ a cap, e = .returned (.slice a m.length cap) /\ Ow w' w.heap.size 3 1 (.slice a m.length cap) (rI (m.map (·.1))) /\ Below w.heap.size w w' := by
 refine (risingU_any h hn).mono ?_
 rintro e w' ⟨v, rfl, o1, b1⟩
 have i1 := Ow.ints (by simp) o1
 obtain ⟨a, c, rfl⟩ := i1.form
 have le : (rI (m.map fun x => x.1)).length = m.length := by simp [rI]
 rw [le] at i1 |-
 exact ⟨a, c, rfl, i1, b1⟩
theorem riseI {R : Rdr} {w : World} {b : Nat} {m : Pl} (h : Mp R w b m) (hn : m.length < 1000000) :
  Calls Tryz.prog 129 #[.map (some b)] w fun e w' => ∃ a cap, e = .returned (.slice a m.length cap) /\ Ow w' w.heap.size 3 1 (.slice a m.length cap) (rI (m.map (·.1))) /\ Below w.heap.size w w' := by
 refine (risingI_any h hn).mono ?_
 rintro e w' ⟨v, rfl, o1, b1⟩
 have i1 := Ow.ints (by simp) o1
 obtain ⟨a, c, rfl⟩ := i1.form
 have le : (rI (m.map fun x => x.1)).length = m.length := by simp [rI]
 rw [le] at i1 |-
 exact ⟨a, c, rfl, i1, b1⟩
set_option maxRecDepth 100000 in
theorem ei218 : EI 170 218 4 32 := ⟨Tryz.underlying170, ⟨_, _, rfl, rfl, rfl, rfl, rfl⟩, by decide, by decide⟩
set_option maxRecDepth 100000 in
theorem ei47 : EI 108 47 6 48 := ⟨Tryz.underlying108, ⟨_, _, rfl, rfl, rfl, rfl, rfl⟩, by decide, by decide⟩
end Go.Proofs.YtcmmhfjnhlaepabGreatDoor.S8
namespace Go.Proofs.YtcmmhfjnhlaepabGreatDoor.S8
open Go Go.RowKit Go.Maps Gp Pg We
def svC (id q n : Int) (sl : Bool) : Array Value := #[.int .i64 id, .int .i64 q, .int .i64 n, .bool sl]
def sv (id q n : Int) (sl : Bool) : Value := .agg (svC id q n sl)
theorem info218 : (Tryz.prog.info? 218).map (·.size) = some 4 := by kernel_rfl
theorem sp_result {fn : Func} {p u : Tmp} (h : fn.results = #[.cell p 218, .tmp u]) {tmps : Array Value} {w : World} {g : Nat} {cs : Array Value} (hp : tmps.getD p undef = .pointer (some ⟨g, 0, none⟩)) (hs : cs.size = 4) (hg : w.heap[g]? = some (.cells cs 218 (0, 0))) :
  (results fn tmps).run Tryz.prog w = .ok (.tuple #[.agg cs, tmps.getD u undef]) w := by
 rw [results_cell_tmp h, hp]
 have q := run_loadVar_row (P := Tryz.prog) w g 218 218 cs (0, 0) _ hg Tryz.underlying218 rfl (by rw [hs]; exact info218)
 simp only [asAddr, Sem.run_pure, Result.andThen, q]
set_option maxRecDepth 20000 in
theorem space_some {w s} (h : StAt w s) {x : Sp} (hi : K64 x.id) (hg : gsp s.sp x.id = some x) :
  Calls Tryz.prog 162 #[.pointer (some ⟨s.p, 0, none⟩), .int .i64 x.id] w fun e w' => e = .returned (.tuple #[sv x.id x.q (x.ps.length : Int) x.sl, .bool true]) /\ Below w.heap.size w w' := by
 have c0 := h.c0
 have l0 := fun o => (h.alloc o).aSp hi hg
 have hpl := h.lt
 have hX := h.hsp x (gsp_some hg).1
 have q0 := hX.q
 have q1 := hX.sl
 have q2 := hX.pb
 have hxl := hX.lt
 have ln := fun o ty => (hX.2.alloc o).drew.len Tryz.underlying129 ty
 clear h hg hX
 generalize (x.ps : Pl).length = n at *
 go_enter Tryz.func162, Tryz.ntmps162
 go_upto_region 4 with fail
 go_region
 go_wp2_with fail
 refine bodyPost_ret (sp_result rfl rfl (cs := svC x.id x.q n x.sl) rfl ?_) rfl ⟨rfl, ?_⟩
 ·exact heap_alloc_new _ _
 ·exact ((Below.refl _ w).alloc (Nat.le_refl _) _).drew
end Go.Proofs.YtcmmhfjnhlaepabGreatDoor.S8
namespace Go.Proofs.YtcmmhfjnhlaepabGreatDoor.S8
open Go Go.RowKit Go.Maps Gp Pg We
def svR (x : Asp) : List Value := (svC x.id x.q (x.ps.length : Int) x.sl).toList
theorem take_snoc {α : Type} (l : List α) (j : Nat) (d : α) (h : j < l.length) : l.take (j + 1) = l.take j ++ [l.getD j d] := by
 rw [List.take_succ_eq_append_getElem h]
 simp [List.getD_eq_getElem?_getD, h]
structure SpsS (w : World) (s : St) (vi v : Value) (k : Nat) (wr : World) : Prop where
 ids : Ow wr w.heap.size 3 1 vi (rI ((ab s).sp.map (·.id)))
 out : Ow wr w.heap.size 218 4 v (((ab s).sp.take k).map svR)
 st : StAt wr s
 below : Below w.heap.size w wr
 apart : ∀ g, vi.ownBlock = some g -> v.ownBlock ≠ some g
theorem gr3 {wr w2 w3 : World} {o : Obj} {u : Option Nat} (b : Below wr.heap.size wr w2) (g : (w2.alloc o).grownBy w3 u) : wr.grownBy w3 u := by
 have g1 := World.grownBy_alloc w2 o u
 exact ⟨(g.os.trans g1.os).trans b.os, (g.tape.trans g1.tape).trans b.tape, (g.output.trans g1.output).trans b.output, Nat.le_trans (Nat.le_trans b.size g1.size) g.size, fun k hk hne => ((g.block k (Nat.lt_of_lt_of_le (Nat.lt_of_lt_of_le hk b.size) g1.size) hne).trans (g1.block k (Nat.lt_of_lt_of_le hk b.size) hne)).trans (b.block k hk)⟩
theorem SpsS.next {w : World} {s : St} {vi v v3 : Value} {k : Nat} {wr w3 : World} (h : SpsS w s vi v k wr) (hs : StAt w s) (gr : wr.grownBy w3 v.ownBlock) (o3 : Ow w3 w.heap.size 218 4 v3 (((ab s).sp.take (k + 1)).map svR)) (p3 : v3.ownBlock = v.ownBlock \/ ∃ g, v3.ownBlock = some g /\ wr.heap.size <= g) : SpsS w s vi v3 (k + 1) w3 := by
 refine ⟨h.ids.kept gr ?_, o3, h.st.frame fun i hi => gr.block i (h.st.foot_lt i hi) (fun e => ?_), h.below.grown gr h.below.size (fun j hj => (h.out.lt j hj).1), fun g hg => ?_⟩
 ·cases e : vi.ownBlock with
  | none => exact .inl rfl
  | some g => exact .inr (fun e2 => h.apart g e e2.symm)
 ·have := (h.out.lt i e.symm).1
  have := hs.foot_lt i hi
  omega
 ·rcases p3 with p | ⟨g', p, q⟩
  ·rw [p]; exact h.apart g hg
  ·rw [p]
   intro e
   cases e
   have := (h.ids.lt g hg).2
   omega
theorem spm_ids (l : List Sp) : (spm l).map (·.1) = (l.map Sp.a).map (·.id) := by
 unfold spm
 rw [List.map_map, List.map_map]
 rfl
set_option maxRecDepth 20000 in
theorem spaces_any {w s} (h : Whole w s) : Calls Tryz.prog 122 #[.pointer (some ⟨s.p, 0, none⟩)] w fun e w' => ∃ v, e = .returned v /\ Ow w' w.heap.size 218 4 v ((ab s).sp.map svR) /\ Below w.heap.size w w' := by
 have c0 := h.at'.c0
 have hl15 := h.inv.len
 have hlm : (spm s.sp).length = s.sp.length := by simp [spm]
 have hri := riseP h.at'.hS (by rw [hlm]; simp only [ab, List.length_map] at hl15; omega)
 rw [hlm, spm_ids] at hri
 have H := Hid.mk h
 have HR := Hid.mk hri
 clear h hri hlm
 go_enter Tryz.func122, Tryz.ntmps122
 go_upto_region 5 with (first | (go_at_call 126; refine HR.out.mono ?_; rintro e w1 ⟨ia, ic, rfl, i1, b1⟩))
 have S0 : SpsS w s (.slice ia s.sp.length ic) (.slice none 0 0) 0 w1 := ⟨i1, Ow.nil _ _ _ _, H.out.at'.call b1, b1, fun _ _ h => by cases h⟩
 replace S0 := Hid.mk S0
 have hl2 : s.sp.length <= 15 := by simpa [ab] using hl15
 clear i1 b1 c0 hl15
 generalize hn : s.sp.length = n at *
 replace hn := Hid.mk hn
 go_loopw [3, 16] (fun v i wr => ∃ k : Nat, k <= n /\ i = .int .i64 k /\ SpsS w s (.slice ia n ic) v k wr) (fun _ i _ => n - (intOf i).toNat)
 case atStart => exact ⟨0, Nat.zero_le _, rfl, S0.out⟩
 case round =>
  clear S0
  obtain ⟨k, hk, rfl, hs⟩ := hrel
  by_cases hkn : k < n
  ·have hkl : k < s.sp.length := by have := hn.out; omega
   obtain ⟨g, rfl, hgB, hgl, cg⟩ := hs.ids.intAt (j := k) (by simp only [ab, List.length_map]; exact hkl)
   have hx := List.getElem_mem hkl
   generalize hxe : s.sp[k] = x at hx
   have hxv : (List.map (fun x => x.id) (ab s).sp).getD k 0 = x.id := by
    simp only [ab, List.map_map]
    rw [List.getD_eq_getElem?_getD, List.getElem?_map, List.getElem?_eq_getElem hkl, hxe]; rfl
   rw [hxv] at cg
   have hgx : gsp s.sp x.id = some x := by
    have h1 : (gsp s.sp x.id).isSome = true := by unfold gsp; rw [List.find?_isSome]; exact ⟨x, hx, by simp⟩
    obtain ⟨y, hy⟩ := Option.isSome_iff_exists.1 h1
    rw [hy, up_one hs.st.hS.up (gsp_some hy).1 hx (gsp_some hy).2]
   have hsp := space_some hs.st (k15 (H.out.inv.ids _ (ab_mem hx))) hgx
   have htk : ((ab s).sp.take (k + 1)).map svR = ((ab s).sp.take k).map svR ++ [(svC x.id x.q (x.ps.length : Int) x.sl).toList] := by
    rw [take_snoc (ab s).sp k x.a (by simp only [ab, List.length_map]; exact hkl), List.map_append]
    simp only [ab, List.getD_eq_getElem?_getD, List.getElem?_map, List.getElem?_eq_getElem hkl, hxe]
    rfl
   have hrl : (((ab s).sp.take k).map svR).length < 1000000 := by rw [List.length_map, List.length_take]; omega
   generalize (x.ps.length : Int) = m at *
   have HP := Hid.mk hsp
   have HS := Hid.mk (And.intro hs (And.intro htk hrl))
   clear hsp hs htk hrl hgx hxv hxe hkl
   go_wp2_with (first
    | (go_at_call 162; refine HP.out.mono ?_; rintro e w2 ⟨rfl, b2⟩; unfold sv svC)
    | (at_builtin; refine wp_app ei218 rfl _ _ rfl ((HS.out.1.out.call b2).alloc _) (Nat.le_trans (Nat.le_trans HS.out.1.below.size b2.size) (by rw [size_alloc]; omega)) (svC x.id x.q m x.sl) rfl (by first | rfl | (simp only [size_alloc]; rfl)) rfl (by simp [svC, Value.oneCell']) HS.out.2.2 ?_; intro v3 w3 o3 g3 p3))
   rw [<- HS.out.2.1] at o3
   exact ⟨⟨k + 1, by omega, by go_num, HS.out.1.next H.out.at' (gr3 b2 g3) o3 (p3.imp id (fun ⟨g, q1, q2⟩ => ⟨g, q1, Nat.le_trans b2.size (Nat.le_trans (by rw [size_alloc]; omega) q2)⟩))⟩, by simp [intOf]; omega⟩
  ·have hk2 : k = n := by omega
   subst hk2
   have HS := Hid.mk hs
   clear hs
   go_wp2_with fail
   go_ret
   have o5 := HS.out.out
   rw [List.take_of_length_le (by simp only [ab, List.length_map]; have := hn.out; omega)] at o5
   exact ⟨_, rfl, o5, HS.out.below⟩
end Go.Proofs.YtcmmhfjnhlaepabGreatDoor.S8
namespace Go.Proofs.YtcmmhfjnhlaepabGreatDoor.S8
open Go Go.RowKit Go.Maps Gp Pg We
def Hold (B : Nat) (w0 : World) (P : Nat) (t : Ab) (w : World) : Prop := ∃ s, s.p = P /\ Whole w s /\ ab s = t /\ Below B w0 w /\ B <= w0.heap.size /\ ∀ i ∈ foot s, B <= i
def noAb : Ab := ⟨[], [], []⟩
theorem whole_new {w : World} {g : Nat} (h : StAt w (newSt g)) : Whole w (newSt g) := by
 refine ⟨h, ⟨?_, ?_, ?_, ?_, ?_, ?_, ?_, ?_, ?_⟩, ⟨fun a => ?_, fun a => ?_, fun a => ?_⟩⟩
 all_goals try (intro x hx; cases hx)
 ·exact List.Pairwise.nil
 ·exact List.Pairwise.nil
 ·exact List.Pairwise.nil
 ·simp [newSt, ab, cntA, mget]
 ·simp [newSt, ab, cntA]
 ·simp [newSt, ab, cntA]
theorem newW_any (w : World) : Calls Tryz.prog 67 #[] w fun e w' => e = .returned (.pointer (some ⟨w.heap.size + 4, 0, none⟩)) /\ Whole w' (newSt w.heap.size) /\ Below w.heap.size w w' :=
 (new_any w).mono fun _ _ h => ⟨h.1, whole_new h.2.1, h.2.2⟩
theorem foot_new (g : Nat) : ∀ i ∈ foot (newSt g), g <= i := by
 intro i hi
 simp [foot, maps, newSt] at hi
 omega
theorem hold_new {B : Nat} {w0 w : World} (b : Below B w0 w) (hB : B <= w0.heap.size) : Calls Tryz.prog 67 #[] w fun e w' => e = .returned (.pointer (some ⟨w.heap.size + 4, 0, none⟩)) /\ Hold B w0 (w.heap.size + 4) noAb w' := by
 refine (newW_any w).mono ?_
 rintro e w' ⟨rfl, h1, h2⟩
 exact ⟨rfl, newSt w.heap.size, rfl, h1, rfl, b.trans (h2.mono (Nat.le_trans hB b.size)), hB, fun i hi => Nat.le_trans (Nat.le_trans hB b.size) (foot_new _ i hi)⟩
theorem Hold.call {B : Nat} {w0 w w' : World} {P t} (h : Hold B w0 P t w) (q : Below w.heap.size w w') : Hold B w0 P t w' := by
 obtain ⟨s, h1, h2, h3, h4, h5, h6⟩ := h
 exact ⟨s, h1, h2.call q, h3, h4.trans (q.mono (Nat.le_trans h5 h4.size)), h5, h6⟩
theorem Hold.below {B : Nat} {w0 w : World} {P t} (h : Hold B w0 P t w) : Below B w0 w := by
 obtain ⟨s, h1, h2, h3, h4, h5, h6⟩ := h
 exact h4
theorem hold_apply {B : Nat} {w0 w : World} {P t} (h : Hold B w0 P t w) (K S Pg A T N : Int) : Calls Tryz.prog 48 #[.pointer (some ⟨P, 0, none⟩), rv K S Pg A T N] w fun e w' => e = .returned (.int .i64 (apA t K S Pg A T N).2) /\ Hold B w0 P (apA t K S Pg A T N).1 w' := by
 obtain ⟨s, rfl, h2, rfl, h4, h5, h6⟩ := h
 refine (apply_any h2 K S Pg A T N).mono ?_
 rintro e w' ⟨rfl, s', g1, g2, g3⟩
 exact ⟨rfl, s', g3.home, g1, g2, g3.below h4 (Nat.le_trans h5 h4.size) h6, h5, g3.high (Nat.le_trans h5 h4.size) h6⟩
theorem hold_get {B : Nat} {w0 w : World} {P t} (h : Hold B w0 P t w) {id page : Int} (hi : K64 id) (hp : K64 page) : Calls Tryz.prog 39 #[.pointer (some ⟨P, 0, none⟩), .int .i64 id, .int .i64 page] w fun e w' => e = .returned (.tuple #[.int .i64 ((getA t id page).getD 0), .bool (getA t id page).isSome]) /\ w = w' := by
 obtain ⟨s, rfl, h2, rfl, h4, h5, h6⟩ := h
 exact get_any h2.at' hi hp
theorem hold_live {B : Nat} {w0 w : World} {P t} (h : Hold B w0 P t w) : ∃ m, RefsIs m (cntA t.sp) /\ Up m /\ Calls Tryz.prog 54 #[.pointer (some ⟨P, 0, none⟩)] w fun e w' => e = .returned (.int .i64 (m.length : Int)) /\ w = w' := by
 obtain ⟨s, rfl, h2, rfl, h4, h5, h6⟩ := h
 exact ⟨s.refs, h2.refs, h2.at'.hR.up, live_any h2.at'⟩
theorem hold_keys {B : Nat} {w0 w : World} {P t} (h : Hold B w0 P t w) : Calls Tryz.prog 55 #[.pointer (some ⟨P, 0, none⟩)] w fun e w' => e = .returned (.int .i64 (pagesN t.sp : Int)) /\ Below w.heap.size w w' := by
 obtain ⟨s, rfl, h2, rfl, h4, h5, h6⟩ := h
 exact keys_any h2
theorem hold_spaces {B : Nat} {w0 w : World} {P t} (h : Hold B w0 P t w) : Calls Tryz.prog 122 #[.pointer (some ⟨P, 0, none⟩)] w fun e w' => ∃ a cap, e = .returned (.slice a t.sp.length cap) /\ Ow w' w.heap.size 218 4 (.slice a t.sp.length cap) (t.sp.map svR) /\ Below w.heap.size w w' := by
 obtain ⟨s, rfl, h2, rfl, h4, h5, h6⟩ := h
 refine (spaces_any h2).mono ?_
 rintro e w' ⟨v, rfl, o, b⟩
 obtain ⟨a, c, rfl⟩ := o.form
 rw [List.length_map] at o |-
 exact ⟨a, c, rfl, o, b⟩
/-! a page that two spaces have -/
def t1 : Ab := ⟨[⟨1, 4, false, []⟩], [], []⟩
def t2 : Ab := ⟨[⟨1, 4, false, [(0, 5)]⟩], [], []⟩
def t3 : Ab := ⟨[⟨1, 4, false, [(0, 5)]⟩, ⟨2, 4, false, [(0, 5)]⟩], [], []⟩
end Go.Proofs.YtcmmhfjnhlaepabGreatDoor.S8
namespace Go.Proofs.YtcmmhfjnhlaepabGreatDoor.S8
open Go Go.RowKit Gp Pg We
def _root_.Go.Proofs.YtcmmhfjnhlaepabGreatDoor.Gp.R6.wf (r : R6) : Prop := (Lit.int .i64 r.1).wf = true /\ (Lit.int .i64 r.2.1).wf = true /\ (Lit.int .i64 r.2.2.1).wf = true /\ (Lit.int .i64 r.2.2.2.1).wf = true /\ (Lit.int .i64 r.2.2.2.2.1).wf = true /\ (Lit.int .i64 r.2.2.2.2.2).wf = true
def _root_.Go.Proofs.YtcmmhfjnhlaepabGreatDoor.Gp.R6.at (w : World) (g o : Nat) (r : R6) : Prop := w.cell? ⟨g, o, none⟩ = some (.int .i64 r.1) /\ w.cell? ⟨g, o + 1, none⟩ = some (.int .i64 r.2.1) /\ w.cell? ⟨g, o + 2, none⟩ = some (.int .i64 r.2.2.1) ∧
 w.cell? ⟨g, o + 3, none⟩ = some (.int .i64 r.2.2.2.1) /\ w.cell? ⟨g, o + 4, none⟩ = some (.int .i64 r.2.2.2.2.1) /\ w.cell? ⟨g, o + 5, none⟩ = some (.int .i64 r.2.2.2.2.2)
def RecsF (w : World) (a : Option Addr) (n : Nat) (f : Nat -> R6) : Prop := ∀ i, i < n -> ∃ g o, a = some ⟨g, o, none⟩ /\ g < w.heap.size /\ (f i).at w g (o + i * 6) /\ (f i).wf
def apR (t : Ab) (r : R6) : Ab × Int := apA t r.1 r.2.1 r.2.2.1 r.2.2.2.1 r.2.2.2.2.1 r.2.2.2.2.2
end Go.Proofs.YtcmmhfjnhlaepabGreatDoor.S8
namespace Go.Proofs.YtcmmhfjnhlaepabGreatDoor.S8
open Go Go.RowKit Go.Maps Gp Pg We
def HoldZ (B : Nat) (w0 : World) (P : Nat) (t : Ab) (Z : List Nat) (w : World) : Prop :=
 ∃ s, s.p = P /\ Whole w s /\ ab s = t /\ Below B w0 w /\ B <= w0.heap.size /\ (∀ i ∈ foot s, B <= i) /\ ∀ z ∈ Z, (B <= z /\ z < w.heap.size) /\ z ∉ foot s
theorem HoldZ.hold {B : Nat} {w0 w : World} {P t Z} (h : HoldZ B w0 P t Z w) : Hold B w0 P t w := by
 obtain ⟨s, h1, h2, h3, h4, h5, h6, h7⟩ := h
 exact ⟨s, h1, h2, h3, h4, h5, h6⟩
theorem HoldZ.call {B : Nat} {w0 w w' : World} {P t Z} (h : HoldZ B w0 P t Z w) (q : Below w.heap.size w w') : HoldZ B w0 P t Z w' := by
 obtain ⟨s, h1, h2, h3, h4, h5, h6, h7⟩ := h
 exact ⟨s, h1, h2.call q, h3, h4.trans (q.mono (Nat.le_trans h5 h4.size)), h5, h6, fun z hz => ⟨⟨(h7 z hz).1.1, Nat.lt_of_lt_of_le (h7 z hz).1.2 q.size⟩, (h7 z hz).2⟩⟩
theorem HoldZ.more {B : Nat} {w0 w : World} {P t Z} (h : HoldZ B w0 P t Z w) (o : Obj) : HoldZ B w0 P t (w.heap.size :: Z) (w.alloc o) := by
 obtain ⟨s, h1, h2, h3, h4, h5, h6, h7⟩ := h
 refine ⟨s, h1, h2.call ((Below.refl _ w).alloc (Nat.le_refl _) o), h3, h4.alloc (Nat.le_trans h5 h4.size) o, h5, h6, fun z hz => ?_⟩
 rcases List.mem_cons.1 hz with rfl | hz
 ·exact ⟨⟨Nat.le_trans h5 h4.size, by rw [size_alloc]; omega⟩, fun hm => Nat.lt_irrefl _ (h2.at'.foot_lt _ hm)⟩
 ·exact ⟨⟨(h7 z hz).1.1, by rw [size_alloc]; have := (h7 z hz).1.2; omega⟩, (h7 z hz).2⟩
theorem newZ {B : Nat} {w0 w : World} {Z : List Nat} (b : Below B w0 w) (hB : B <= w0.heap.size) (hZ : ∀ z ∈ Z, B <= z /\ z < w.heap.size) : Calls Tryz.prog 67 #[] w fun e w' => e = .returned (.pointer (some ⟨w.heap.size + 4, 0, none⟩)) /\ HoldZ B w0 (w.heap.size + 4) noAb Z w' /\ Below w.heap.size w w' := by
 refine (newW_any w).mono ?_
 rintro e w' ⟨rfl, h1, h2⟩
 exact ⟨rfl, ⟨newSt w.heap.size, rfl, h1, rfl, b.trans (h2.mono (Nat.le_trans hB b.size)), hB, fun i hi => Nat.le_trans (Nat.le_trans hB b.size) (foot_new _ i hi), fun z hz => ⟨⟨(hZ z hz).1, Nat.lt_of_lt_of_le (hZ z hz).2 h2.size⟩, fun hm => by have := foot_new _ _ hm; have := (hZ z hz).2; omega⟩⟩, h2⟩
theorem applyZ {B : Nat} {w0 w : World} {P t Z} (h : HoldZ B w0 P t Z w) (r : R6) : Calls Tryz.prog 48 #[.pointer (some ⟨P, 0, none⟩), rv r.1 r.2.1 r.2.2.1 r.2.2.2.1 r.2.2.2.2.1 r.2.2.2.2.2] w fun e w' => e = .returned (.int .i64 (apR t r).2) /\ HoldZ B w0 P (apR t r).1 Z w' /\ (∀ z ∈ Z, w'.heap[z]? = w.heap[z]?) /\ Below B w w' := by
 obtain ⟨s, rfl, h2, rfl, h4, h5, h6, h7⟩ := h
 refine (apply_any h2 _ _ _ _ _ _).mono ?_
 rintro e w' ⟨rfl, s', g1, g2, g3⟩
 refine ⟨rfl, ⟨s', g3.home, g1, g2, g3.below h4 (Nat.le_trans h5 h4.size) h6, h5, g3.high (Nat.le_trans h5 h4.size) h6, fun z hz => ⟨⟨(h7 z hz).1.1, Nat.lt_of_lt_of_le (h7 z hz).1.2 g3.size⟩, fun hm => ?_⟩⟩, fun z hz => g3.block z (h7 z hz).1.2 (h7 z hz).2, g3.below (Below.refl _ w) (Nat.le_trans h5 h4.size) h6⟩
 rcases g3.own z hm with q | q
 ·exact (h7 z hz).2 q
 ·have := (h7 z hz).1.2
  omega
end Go.Proofs.YtcmmhfjnhlaepabGreatDoor.S8
