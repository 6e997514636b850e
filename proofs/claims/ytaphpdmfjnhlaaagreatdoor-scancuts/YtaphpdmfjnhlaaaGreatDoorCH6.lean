/-
  The answer's state: four lists in slices; what it tells of them (find, Get, Refs, Pages). No condition. The answer's state with a page, and without: the walks of with and without. No condition. The answer's state with one space, bad block or count more, and without a page: the walks of made, bad, worn and without. No condition. The answer's made, bad, worn, dropped. No condition.
-/
import Derived.Test.YtaphpdmfjnhlaaaGreatDoorCH5
import Derived.Laws.ResultCell
namespace Go.Proofs.YtaphpdmfjnhlaaaGreatDoor.S8
open Go Go.RowKit Go.Maps Gp Pg We
theorem below_al (w : World) (o : Obj) : Below w.heap.size w (w.alloc o):=(Below.refl _ w).alloc (Nat.le_refl _) o
def Bel (w W : World) : Prop:=Below w.heap.size w W
abbrev S3:=Int × Int × Bool
abbrev L3:=Int × Int × Int
def rS (x : S3) : List Value := [.int .i64 x.1,.int .i64 x.2.1,.bool x.2.2]
def rL (x : L3) : List Value := [.int .i64 x.1,.int .i64 x.2.1,.int .i64 x.2.2]
def rP (x : Int × Int) : List Value := [.int .i64 x.1,.int .i64 x.2]
structure Rs where
 sp : List S3
 lv : List L3
 bad : List Int
 worn : Pl
structure RAt (w : World) (B : Nat) (v0 v1 v2 v3 : Value) (m : Rs) : Prop where
 sp : Ow w B 106 3 v0 (m.sp.map rS)
 lv : Ow w B 113 3 v1 (m.lv.map rL)
 bad : Ow w B 3 1 v2 (rI m.bad)
 worn : Ow w B 162 2 v3 (m.worn.map rP)
theorem RAt.call {w w' : World} {B v0 v1 v2 v3 m} (h : RAt w B v0 v1 v2 v3 m) (b : Below w.heap.size w w') : RAt w' B v0 v1 v2 v3 m:=⟨h.sp.call b,h.lv.call b,h.bad.call b,h.worn.call b⟩
theorem RAt.alloc {w : World} {B v0 v1 v2 v3 m} (h : RAt w B v0 v1 v2 v3 m) (o : Obj) : RAt (w.alloc o) B v0 v1 v2 v3 m:=⟨h.sp.alloc o,h.lv.alloc o,h.bad.alloc o,h.worn.alloc o⟩
def Box4 (w : World) (g : Nat) (v0 v1 v2 v3 : Value) : Prop:=w.heap[g]? = some (.cells #[v0,v1,v2,v3] 38 (0,0))
theorem Box4.lt {w g v0 v1 v2 v3} (h : Box4 w g v0 v1 v2 v3) : g < w.heap.size:=(Array.getElem?_eq_some_iff.1 h).1
theorem Box4.call {w w' : World} {g v0 v1 v2 v3} (h : Box4 w g v0 v1 v2 v3) (b : Below w.heap.size w w') : Box4 w' g v0 v1 v2 v3:=(b.block g h.lt).trans h
theorem Box4.alloc {w : World} {g v0 v1 v2 v3} (h : Box4 w g v0 v1 v2 v3) (o : Obj) : Box4 (w.alloc o) g v0 v1 v2 v3:=(Below.heap_alloc w o g h.lt).trans h
theorem Box4.cells {w g v0 v1 v2 v3} (h : Box4 w g v0 v1 v2 v3) : w.cell? ⟨g,0,none⟩ = some v0/\w.cell? ⟨g,1,none⟩ = some v1/\w.cell? ⟨g,2,none⟩ = some v2/\w.cell? ⟨g,3,none⟩ = some v3:=by
 refine ⟨?_,?_,?_,?_⟩ <;> (rw [cell_of_row w g _ _ 38 _ h]; rfl)
theorem Box4.fz {w g v0 v1 v2 v3} (h : Box4 w g v0 v1 v2 v3) (j : Nat) : w.frozen? ⟨g,j,none⟩ = false:=frozen_of_row w g j _ 38 h
theorem Box4.fresh (w : World) (v0 v1 v2 v3 : Value) : Box4 (w.alloc (.cells #[v0,v1,v2,v3] 38)) w.heap.size v0 v1 v2 v3:=heap_alloc_new _ _
theorem _root_.Go.Proofs.YtaphpdmfjnhlaaaGreatDoor.We.Ow.at3 {w : World} {B e a n cap} {l : List L3} (h : Ow w B e 3 (.slice a n cap) (l.map rL)) {j : Nat} (hj : j < l.length) : ∃ g,a = some ⟨g,0,none⟩/\B <= g/\g < w.heap.size/\w.cell? ⟨g,j * 3,none⟩ = some (.int .i64 (l.getD j (0,0,0)).1)/\w.cell? ⟨g,j * 3 + 1,none⟩ = some (.int .i64 (l.getD j (0,0,0)).2.1)/\w.cell? ⟨g,j * 3 + 2,none⟩ = some (.int .i64 (l.getD j (0,0,0)).2.2):=by
 obtain ⟨g,rfl,hB,hl,hc⟩:=h.at (j:=j) (by rw [List.length_map]; exact hj)
 have e : (l.map rL).getD j [] = rL (l.getD j (0,0,0)):=by simp [List.getD_eq_getElem?_getD,hj]
 rw [e] at hc
 exact ⟨g,rfl,hB,hl,hc 0 (by omega),hc 1 (by omega),hc 2 (by omega)⟩
theorem _root_.Go.Proofs.YtaphpdmfjnhlaaaGreatDoor.We.Ow.at3s {w : World} {B e a n cap} {l : List S3} (h : Ow w B e 3 (.slice a n cap) (l.map rS)) {j : Nat} (hj : j < l.length) : ∃ g,a = some ⟨g,0,none⟩/\B <= g/\g < w.heap.size/\w.cell? ⟨g,j * 3,none⟩ = some (.int .i64 (l.getD j (0,0,false)).1)/\w.cell? ⟨g,j * 3 + 1,none⟩ = some (.int .i64 (l.getD j (0,0,false)).2.1)/\w.cell? ⟨g,j * 3 + 2,none⟩ = some (.bool (l.getD j (0,0,false)).2.2):=by
 obtain ⟨g,rfl,hB,hl,hc⟩:=h.at (j:=j) (by rw [List.length_map]; exact hj)
 have e : (l.map rS).getD j [] = rS (l.getD j (0,0,false)):=by simp [List.getD_eq_getElem?_getD,hj]
 rw [e] at hc
 exact ⟨g,rfl,hB,hl,hc 0 (by omega),hc 1 (by omega),hc 2 (by omega)⟩
theorem _root_.Go.Proofs.YtaphpdmfjnhlaaaGreatDoor.We.Ow.at2 {w : World} {B e a n cap} {l : Pl} (h : Ow w B e 2 (.slice a n cap) (l.map rP)) {j : Nat} (hj : j < l.length) : ∃ g,a = some ⟨g,0,none⟩/\B <= g/\g < w.heap.size/\w.cell? ⟨g,j * 2,none⟩ = some (.int .i64 (l.getD j (0,0)).1)/\w.cell? ⟨g,j * 2 + 1,none⟩ = some (.int .i64 (l.getD j (0,0)).2):=by
 obtain ⟨g,rfl,hB,hl,hc⟩:=h.at (j:=j) (by rw [List.length_map]; exact hj)
 have e : (l.map rP).getD j [] = rP (l.getD j (0,0)):=by simp [List.getD_eq_getElem?_getD,hj]
 rw [e] at hc
 exact ⟨g,rfl,hB,hl,hc 0 (by omega),hc 1 (by omega)⟩
theorem dropC {α : Type} (l : List α) (j : Nat) (d : α) (h : j < l.length) : l.drop j = l.getD j d :: l.drop (j + 1):=by
 rw [List.drop_eq_getElem_cons h]
 simp [List.getD_eq_getElem?_getD,h]
def fndGo (id : Int) : List S3 -> Nat -> Int
 | [],_ => -1
 | y :: r,k => if y.1 = id then (k : Int) else fndGo id r (k + 1)
set_option maxRecDepth 20000 in
theorem rfind_any {w : World} {B v0 v1 v2 v3 m} (h : RAt w B v0 v1 v2 v3 m) (hn : m.sp.length < 1000000) (id : Int) : Calls Tryz.prog 126 #[.agg #[v0,v1,v2,v3],.int .i64 id] w fun e w' => e = .returned (.int .i64 (fndGo id m.sp 0))/\Below w.heap.size w w':=by
 obtain ⟨a0,c0,rfl⟩:=h.sp.form
 rw [List.length_map] at h |-
 generalize hR : fndGo id m.sp 0 = R0
 have H:=Hid.mk h
 clear h
 go_enter Tryz.func126,Tryz.ntmps126
 go_upto_region 2 with fail
 have x0:=Box4.fresh w (.slice a0 m.sp.length c0) v1 v2 v3
 have h1:=H.out.sp.alloc (.cells #[.slice a0 m.sp.length c0,v1,v2,v3] 38)
 have b1 : Bel w _:=below_al w (.cells #[.slice a0 m.sp.length c0,v1,v2,v3] 38)
 obtain ⟨k0,k1,k2,k3⟩:=x0.cells
 generalize w.alloc (.cells #[.slice a0 m.sp.length c0,v1,v2,v3] 38) = W at *
 have H1:=Hid.mk (And.intro h1 b1)
 clear h1 b1 x0
 generalize w.heap.size = G at *
 generalize hl : m.sp = l at *
 clear hl
 go_loopw [5] (fun i wr => ∃ k : Nat,k <= l.length/\i = .int .i64 k/\fndGo id (l.drop k) k = R0/\W = wr) (fun i _ => l.length - (intOf i).toNat)
 case atStart => exact ⟨0,Nat.zero_le _,rfl,by simpa using hR,rfl⟩
 case round =>
  obtain ⟨k,hk,rfl,hgo,rfl⟩:=hrel
  by_cases hkn : k < l.length
  ·obtain ⟨g,rfl,hgB,hgl,d0,d1,d2⟩:=H1.out.1.at3s hkn
   rw [dropC l k (0,0,false) hkn,fndGo] at hgo
   generalize l.getD k (0,0,false) = y at *
   by_cases e : y.1 = id
   ·rw [if_pos e] at hgo
    subst hgo
    rw [e] at d0
    go_wp2_with fail
    go_ret
    exact ⟨rfl,H1.out.2⟩
   ·rw [if_neg e] at hgo
    have HG:=Hid.mk hgo
    clear hgo
    have eb : (y.1 == id) = false:=by simp [e]
    clear e
    generalize y.1 = y1 at *
    go_wp2_with fail
    exact ⟨⟨k + 1,by omega,by go_num,HG.out,by first | rfl | trivial⟩,by simp [intOf]; omega⟩
  ·have hk2 : k = l.length:=by omega
   rw [hk2,List.drop_length,fndGo] at hgo
   subst hgo
   subst hk2
   go_wp2_with fail
   go_ret
   exact ⟨rfl,H1.out.2⟩
/-! counts -/
def cL (a : Int) (l : List L3) : Nat:=(l.filter fun y => decide (y.2.2 = a)).length
theorem cL_snoc (a : Int) (l : List L3) (k : Nat) (h : k < l.length) : cL a (l.take (k + 1)) = cL a (l.take k) + (if (l.getD k (0,0,0)).2.2 = a then 1 else 0):=by
 unfold cL
 rw [take_snoc l k (0,0,0) h,List.filter_append,List.length_append]
 congr 1
 rw [List.filter_cons]
 split <;> simp_all
theorem cL_le (a : Int) (l : List L3) (k : Nat) : cL a (l.take k) <= k:=Nat.le_trans (List.length_filter_le _ _) (by rw [List.length_take]; omega)
set_option maxRecDepth 20000 in
theorem rrefs_any {w : World} {B v0 v1 v2 v3 m} (h : RAt w B v0 v1 v2 v3 m) (hn : m.lv.length < 1000000) (id : Int) : Calls Tryz.prog 47 #[.agg #[v0,v1,v2,v3],.int .i64 id] w fun e w' => e = .returned (.int .i64 (cL id m.lv : Int))/\Below w.heap.size w w':=by
 obtain ⟨a1,c1,rfl⟩:=h.lv.form
 rw [List.length_map] at h |-
 generalize hR : cL id m.lv = R0
 have H:=Hid.mk h
 clear h
 go_enter Tryz.func47,Tryz.ntmps47
 go_upto_region 3 with fail
 have x0:=Box4.fresh w v0 (.slice a1 m.lv.length c1) v2 v3
 have h1:=H.out.lv.alloc (.cells #[v0,.slice a1 m.lv.length c1,v2,v3] 38)
 have b1 : Bel w _:=below_al w (.cells #[v0,.slice a1 m.lv.length c1,v2,v3] 38)
 obtain ⟨k0,k1,k2,k3⟩:=x0.cells
 generalize w.alloc (.cells #[v0,.slice a1 m.lv.length c1,v2,v3] 38) = W at *
 have H1:=Hid.mk (And.intro h1 b1)
 clear h1 b1 x0
 generalize w.heap.size = G at *
 generalize m.lv = l at *
 go_loopw [5,6] (fun n i wr => ∃ k : Nat,k <= l.length/\i = .int .i64 k/\n = .int .i64 (cL id (l.take k) : Int)/\W = wr) (fun _ i _ => l.length - (intOf i).toNat)
 case atStart => exact ⟨0,Nat.zero_le _,rfl,rfl,rfl⟩
 case round =>
  obtain ⟨k,hk,rfl,rfl,rfl⟩:=hrel
  by_cases hkn : k < l.length
  ·obtain ⟨g,rfl,hgB,hgl,d0,d1,d2⟩:=H1.out.1.at3 hkn
   have hs:=cL_snoc id l k hkn
   have hle:=cL_le id l k
   generalize (l.getD k (0,0,0)).1 = y1 at *
   generalize (l.getD k (0,0,0)).2.1 = y2 at *
   generalize (l.getD k (0,0,0)).2.2 = y3 at *
   generalize cL id (l.take k) = n0 at *
   by_cases e : y3 = id
   ·rw [if_pos e] at hs
    subst e
    have HG:=Hid.mk hs
    clear hs
    go_wp2_with fail
    exact ⟨⟨k + 1,by omega,by go_num,by rw [HG.out]; go_num,by first | rfl | trivial⟩,by simp [intOf]; omega⟩
   ·rw [if_neg e] at hs
    have HG:=Hid.mk hs
    have eb : (y3 == id) = false:=by simp [e]
    clear hs e
    go_wp2_with fail
    exact ⟨⟨k + 1,by omega,by go_num,by rw [HG.out]; rfl,by first | rfl | trivial⟩,by simp [intOf]; omega⟩
  ·have hk2 : k = l.length:=by omega
   subst hk2
   rw [List.take_length,hR]
   go_wp2_with fail
   go_ret
   exact ⟨rfl,H1.out.2⟩
def pL (a : Int) (l : List L3) : Nat:=(l.filter fun y => decide (y.1 = a)).length
theorem pL_snoc (a : Int) (l : List L3) (k : Nat) (h : k < l.length) : pL a (l.take (k + 1)) = pL a (l.take k) + (if (l.getD k (0,0,0)).1 = a then 1 else 0):=by
 unfold pL
 rw [take_snoc l k (0,0,0) h,List.filter_append,List.length_append]
 congr 1
 rw [List.filter_cons]
 split <;> simp_all
theorem pL_le (a : Int) (l : List L3) (k : Nat) : pL a (l.take k) <= k:=Nat.le_trans (List.length_filter_le _ _) (by rw [List.length_take]; omega)
set_option maxRecDepth 20000 in
theorem rpages_any {w : World} {B v0 v1 v2 v3 m} (h : RAt w B v0 v1 v2 v3 m) (hn : m.lv.length < 1000000) (id : Int) : Calls Tryz.prog 45 #[.agg #[v0,v1,v2,v3],.int .i64 id] w fun e w' => e = .returned (.int .i64 (pL id m.lv : Int))/\Below w.heap.size w w':=by
 obtain ⟨a1,c1,rfl⟩:=h.lv.form
 rw [List.length_map] at h |-
 generalize hR : pL id m.lv = R0
 have H:=Hid.mk h
 clear h
 go_enter Tryz.func45,Tryz.ntmps45
 go_upto_region 3 with fail
 have x0:=Box4.fresh w v0 (.slice a1 m.lv.length c1) v2 v3
 have h1:=H.out.lv.alloc (.cells #[v0,.slice a1 m.lv.length c1,v2,v3] 38)
 have b1 : Bel w _:=below_al w (.cells #[v0,.slice a1 m.lv.length c1,v2,v3] 38)
 obtain ⟨k0,k1,k2,k3⟩:=x0.cells
 generalize w.alloc (.cells #[v0,.slice a1 m.lv.length c1,v2,v3] 38) = W at *
 have H1:=Hid.mk (And.intro h1 b1)
 clear h1 b1 x0
 generalize w.heap.size = G at *
 generalize m.lv = l at *
 go_loopw [5,6] (fun n i wr => ∃ k : Nat,k <= l.length/\i = .int .i64 k/\n = .int .i64 (pL id (l.take k) : Int)/\W = wr) (fun _ i _ => l.length - (intOf i).toNat)
 case atStart => exact ⟨0,Nat.zero_le _,rfl,rfl,rfl⟩
 case round =>
  obtain ⟨k,hk,rfl,rfl,rfl⟩:=hrel
  by_cases hkn : k < l.length
  ·obtain ⟨g,rfl,hgB,hgl,d0,d1,d2⟩:=H1.out.1.at3 hkn
   have hs:=pL_snoc id l k hkn
   have hle:=pL_le id l k
   generalize (l.getD k (0,0,0)).1 = y1 at *
   generalize (l.getD k (0,0,0)).2.1 = y2 at *
   generalize (l.getD k (0,0,0)).2.2 = y3 at *
   generalize pL id (l.take k) = n0 at *
   by_cases e : y1 = id
   ·rw [if_pos e] at hs
    subst e
    have HG:=Hid.mk hs
    clear hs
    go_wp2_with fail
    exact ⟨⟨k + 1,by omega,by go_num,by rw [HG.out]; go_num,by first | rfl | trivial⟩,by simp [intOf]; omega⟩
   ·rw [if_neg e] at hs
    have HG:=Hid.mk hs
    have eb : (y1 == id) = false:=by simp [e]
    clear hs e
    go_wp2_with fail
    exact ⟨⟨k + 1,by omega,by go_num,by rw [HG.out]; rfl,by first | rfl | trivial⟩,by simp [intOf]; omega⟩
  ·have hk2 : k = l.length:=by omega
   subst hk2
   rw [List.take_length,hR]
   go_wp2_with fail
   go_ret
   exact ⟨rfl,H1.out.2⟩
def gL (id page : Int) : List L3 -> Option Int
 | [] => none
 | y :: r => if y.1 = id/\y.2.1 = page then some y.2.2 else gL id page r
set_option maxRecDepth 20000 in
theorem rget_any {w : World} {B v0 v1 v2 v3 m} (h : RAt w B v0 v1 v2 v3 m) (hn : m.lv.length < 1000000) (id page : Int) : Calls Tryz.prog 127 #[.agg #[v0,v1,v2,v3],.int .i64 id,.int .i64 page] w fun e w' => e = .returned (.tuple #[.int .i64 ((gL id page m.lv).getD 0),.bool (gL id page m.lv).isSome])/\Below w.heap.size w w':=by
 obtain ⟨a1,c1,rfl⟩:=h.lv.form
 rw [List.length_map] at h |-
 generalize hR : gL id page m.lv = R0
 have H:=Hid.mk h
 clear h
 go_enter Tryz.func127,Tryz.ntmps127
 go_upto_region 2 with fail
 have x0:=Box4.fresh w v0 (.slice a1 m.lv.length c1) v2 v3
 have h1:=H.out.lv.alloc (.cells #[v0,.slice a1 m.lv.length c1,v2,v3] 38)
 have b1 : Bel w _:=below_al w (.cells #[v0,.slice a1 m.lv.length c1,v2,v3] 38)
 generalize w.alloc (.cells #[v0,.slice a1 m.lv.length c1,v2,v3] 38) = W at *
 have H1:=Hid.mk (And.intro x0 (And.intro h1 b1))
 clear h1 b1 x0
 generalize w.heap.size = G at *
 generalize m.lv = l at *
 go_loopw [8,9] (fun i _ wr => ∃ k : Nat,k <= l.length/\i = .int .i64 k/\gL id page (l.drop k) = R0/\Box4 wr G v0 (.slice a1 l.length c1) v2 v3/\Ow wr B 113 3 (.slice a1 l.length c1) (l.map rL)/\Bel w wr) (fun i _ _ => l.length - (intOf i).toNat)
 case atStart => exact ⟨0,Nat.zero_le _,rfl,by simpa using hR,H1.out⟩
 case round =>
  obtain ⟨k,hk,rfl,hgo,hx,ho,hb⟩:=hrel
  obtain ⟨k0,k1,k2,k3⟩:=hx.cells
  have hxl:=hx.lt
  by_cases hkn : k < l.length
  ·obtain ⟨g,rfl,hgB,hgl,d0,d1,d2⟩:=ho.at3 hkn
   rw [dropC l k (0,0,0) hkn,gL] at hgo
   have HS:=Hid.mk (And.intro hx (And.intro ho hb))
   clear hx ho hb
   generalize l.getD k (0,0,0) = y at *
   obtain ⟨y1,y2,y3⟩:=y
   simp only at d0 d1 d2 hgo
   have N1 : Hid (∀ o,Box4 (wr.alloc o) G v0 (.slice (some ⟨g,0,none⟩) l.length c1) v2 v3/\Ow (wr.alloc o) B 113 3 (.slice (some ⟨g,0,none⟩) l.length c1) (l.map rL)/\Bel w (wr.alloc o)):=fun o => ⟨HS.out.1.alloc o,HS.out.2.1.alloc o,Below.alloc HS.out.2.2 (Below.size HS.out.2.2) o⟩
   by_cases e1 : y1 = id
   ·by_cases e2 : y2 = page
    ·rw [if_pos ⟨e1,e2⟩] at hgo
     subst hgo
     subst e1
     subst e2
     go_wp2_with fail
     go_ret2
     exact ⟨rfl,(N1.out _).2.2⟩
    ·rw [if_neg (fun q => e2 q.2)] at hgo
     have HG:=Hid.mk hgo
     have eb : (y2 == page) = false:=by simp [e2]
     clear hgo e2
     subst e1
     go_wp2_with fail
     exact ⟨⟨k + 1,by omega,by go_num,HG.out,N1.out _⟩,by simp [intOf]; omega⟩
   ·rw [if_neg (fun q => e1 q.1)] at hgo
    have HG:=Hid.mk hgo
    have eb : (y1 == id) = false:=by simp [e1]
    clear hgo e1
    go_wp2_with fail
    exact ⟨⟨k + 1,by omega,by go_num,HG.out,N1.out _⟩,by simp [intOf]; omega⟩
  ·have hk2 : k = l.length:=by omega
   rw [hk2,List.drop_length,gL] at hgo
   subst hgo
   subst hk2
   have HS:=Hid.mk hb
   clear hb hx ho
   go_wp2_with fail
   go_ret2
   exact ⟨rfl,HS.out⟩
end Go.Proofs.YtaphpdmfjnhlaaaGreatDoor.S8
namespace Go.Proofs.YtaphpdmfjnhlaaaGreatDoor.S8
open Go Go.RowKit Go.Maps Gp Pg We
theorem cells38 : (Tryz.prog.info? 38).map (·.size) = some 4:=by kernel_rfl
theorem st_result {fn : Func} {p : Tmp} (h : fn.results = #[.cell p 38]) {tmps : Array Value} {w : World} {g : Nat} {v0 v1 v2 v3 : Value} (hp : tmps.getD p undef = .pointer (some ⟨g,0,none⟩)) (hg : Box4 w g v0 v1 v2 v3) :
  (results fn tmps).run Tryz.prog w = .ok (.agg #[v0,v1,v2,v3]) w :=
 results_cell_row h tmps w g 38 #[v0,v1,v2,v3] (0,0) _ hp hg Tryz.underlying38 rfl cells38
def Kp (w w' : World) (a b : Nat) : Prop:=w'.os = w.os/\w'.tape = w.tape/\w'.output = w.output/\w'.heap.size = w.heap.size /\ ∀ i,i ≠ a -> i ≠ b -> w'.heap[i]? = w.heap[i]?
theorem kp_set (w : World) (a b g j : Nat) (hg : g = a \/ g = b) (v : Value) : Kp w (w.setCell ⟨g,j,none⟩ v) a b:=by
 refine ⟨rfl,rfl,rfl,by simp [World.setCell],fun i h1 h2 => heap_setCell_other w _ i v ?_⟩
 intro e
 rcases hg with h | h
 ·exact h1 (e.trans h)
 ·exact h2 (e.trans h)
theorem kp_trans {w1 w2 w3 : World} {a b : Nat} (h : Kp w1 w2 a b) (k : Kp w2 w3 a b) : Kp w1 w3 a b :=
 ⟨k.1.trans h.1,k.2.1.trans h.2.1,k.2.2.1.trans h.2.2.1,k.2.2.2.1.trans h.2.2.2.1,fun i h1 h2 => (k.2.2.2.2 i h1 h2).trans (h.2.2.2.2 i h1 h2)⟩
def set4 (w : World) (g : Nat) (v0 v1 v2 v3 : Value) : World:=(((w.setCell ⟨g,0,none⟩ v0).setCell ⟨g,1,none⟩ v1).setCell ⟨g,2,none⟩ v2).setCell ⟨g,3,none⟩ v3
theorem set4_box {w : World} {g : Nat} {z0 z1 z2 z3 : Value} (h : Box4 w g z0 z1 z2 z3) (v0 v1 v2 v3 : Value) : Box4 (set4 w g v0 v1 v2 v3) g v0 v1 v2 v3:=by
 unfold set4 Box4
 have h1:=heap_setCell_same w g 0 _ 38 v0 h
 have h2:=heap_setCell_same _ g 1 _ 38 v1 h1
 have h3:=heap_setCell_same _ g 2 _ 38 v2 h2
 exact heap_setCell_same _ g 3 _ 38 v3 h3
theorem set4_kp (w : World) (a g : Nat) (v0 v1 v2 v3 : Value) : Kp w (set4 w g v0 v1 v2 v3) a g :=
 kp_trans (kp_trans (kp_trans (kp_set _ _ _ _ _ (.inr rfl) _) (kp_set _ _ _ _ _ (.inr rfl) _)) (kp_set _ _ _ _ _ (.inr rfl) _)) (kp_set _ _ _ _ _ (.inr rfl) _)
theorem kp_bel {w w5 w6 : World} {a b : Nat} (h : Bel w w5) (k : Kp w5 w6 a b) (ha : w.heap.size <= a) (hb : w.heap.size <= b) : Below w.heap.size w w6:=by
 have h' : Below w.heap.size w w5:=h
 exact ⟨k.1.trans h'.os,k.2.1.trans h'.tape,k.2.2.1.trans h'.output,by rw [k.2.2.2.1]; exact h'.size,fun i hi => (k.2.2.2.2 i (by omega) (by omega)).trans (h'.block i hi)⟩
theorem _root_.Go.Proofs.YtaphpdmfjnhlaaaGreatDoor.We.Ow.kp {w w' : World} {B e sz v rows a b} (h : Ow w B e sz v rows) (k : Kp w w' a b) (ha : v.ownBlock ≠ some a) (hb : v.ownBlock ≠ some b) : Ow w' B e sz v rows :=
 h.same fun g hg => k.2.2.2.2 g (fun e => ha (e ▸ hg)) (fun e => hb (e ▸ hg))
theorem bel_app {W0 wr wr1 w3 : World} {B e sz v rows} (h : Ow wr B e sz v rows) (hB : W0.heap.size <= B) (b : Bel W0 wr) (b1 : Bel wr wr1) (g : wr1.grownBy w3 v.ownBlock) : Bel W0 w3:=by
 have b2 : Below W0.heap.size W0 wr1:=below3 b b1
 exact b2.grown g b2.size (fun k hk => Nat.le_trans hB (h.lt k hk).1)
theorem Bel.refl (w : World) : Bel w w:=Below.refl _ w
theorem Bel.trans {a b c : World} (h : Bel a b) (k : Bel b c) : Bel a c:=below3 h k
theorem Bel.alloc {a b : World} (h : Bel a b) (o : Obj) : Bel a (b.alloc o):=Below.alloc h (Below.size h) o
def wI (x : L3) : Bool -> List L3 -> List L3
 | i,[] => if i then [] else [x]
 | i,y :: r => (if !i && (decide (x.1 < y.1) || (decide (y.1 = x.1) && decide (x.2.1 <= y.2.1))) then [x] else []) ++ (if decide (y.1 ≠ x.1) || decide (y.2.1 ≠ x.2.1) then [y] else []) ++ wI x (i || (decide (x.1 < y.1) || (decide (y.1 = x.1) && decide (x.2.1 <= y.2.1)))) r
theorem with_lenT (x : L3) (l : List L3) : (wI x true l).length <= l.length:=by
 induction l with
 | nil => simp [wI]
 | cons z t ih =>
  unfold wI
  simp only [Bool.not_true,Bool.false_and,Bool.false_eq_true,if_false,List.nil_append,Bool.true_or,List.length_append,List.length_cons]
  split <;> simp <;> omega
theorem with_len (x : L3) (l : List L3) : (wI x false l).length <= l.length + 1:=by
 induction l with
 | nil => simp [wI]
 | cons z t ih =>
  unfold wI
  rw [List.length_append,List.length_append,List.length_cons]
  have hT:=with_lenT x t
  cases hc : (decide (x.1 < z.1) || (decide (z.1 = x.1) && decide (x.2.1 <= z.2.1))) with
  | false =>
   simp only [Bool.and_false,Bool.false_eq_true,if_false,Bool.or_false,List.length_nil]
   split <;> simp <;> omega
  | true =>
   simp only [Bool.not_false,Bool.and_true,if_true,Bool.or_true,List.length_singleton]
   split <;> simp <;> omega
theorem wI_case (x y : L3) (i c kp : Bool) (r : List L3) (hc : (decide (x.1 < y.1) || (decide (y.1 = x.1) && decide (x.2.1 <= y.2.1))) = c) (hk : (decide (y.1 ≠ x.1) || decide (y.2.1 ≠ x.2.1)) = kp) : wI x i (y :: r) = (if !i && c then [x] else []) ++ (if kp then [y] else []) ++ wI x (i || c) r:=by
 unfold wI
 rw [hc,hk]
 cases r <;> rfl
structure WiS (W0 : World) (G : Nat) (v : Value) (outL : List L3) (wr : World) : Prop where
 out : Ow wr (G + 3) 113 3 v (outL.map rL)
 bel : Bel W0 wr
 z : W0.heap.size = G + 3
theorem WiS.app {W0 G v v3 outL wr wr1 w3} {y : L3} (h : WiS W0 G v outL wr) (b1 : Bel wr wr1) (g : wr1.grownBy w3 v.ownBlock) (o : Ow w3 (G + 3) 113 3 v3 (outL.map rL ++ [#[Value.int .i64 y.1,.int .i64 y.2.1,.int .i64 y.2.2].toList])) : WiS W0 G v3 (outL ++ [y]) w3 :=
 ⟨by rw [List.map_append]; exact o,bel_app h.out (by rw [h.z]; exact Nat.le_refl _) h.bel b1 g,h.z⟩
theorem WiS.al {W0 G v outL wr} (h : WiS W0 G v outL wr) (o : Obj) : WiS W0 G v outL (wr.alloc o):=⟨h.out.alloc o,h.bel.alloc o,h.z⟩
theorem WiS.le {W0 G v outL wr} (h : WiS W0 G v outL wr) : G + 3 <= wr.heap.size:=by have:=h.z; have:=Below.size h.bel; omega
theorem y_kept {wr w3 : World} {B : Nat} {v : Value} {rows : Rws} {a b c : Int} (g3 : (wr.alloc (.cells #[.int .i64 a,.int .i64 b,.int .i64 c] 113)).grownBy w3 v.ownBlock) (o : Ow wr B 113 3 v rows) :
  w3.cell? ⟨wr.heap.size,0,none⟩ = some (.int .i64 a)/\w3.cell? ⟨wr.heap.size,1,none⟩ = some (.int .i64 b)/\w3.cell? ⟨wr.heap.size,2,none⟩ = some (.int .i64 c):=by
 have h:=heap_alloc_new wr (.cells #[.int .i64 a,.int .i64 b,.int .i64 c] 113)
 have h2:=(g3.block wr.heap.size (by rw [size_alloc]; omega) (fun e => Nat.lt_irrefl _ (o.lt _ e.symm).2)).trans h
 refine ⟨?_,?_,?_⟩ <;> (rw [cell_of_row w3 _ _ _ 113 _ h2]; rfl)
def IsSl (v : Value) : Prop := ∃ a n c,v = .slice a n c
theorem _root_.Go.Proofs.YtaphpdmfjnhlaaaGreatDoor.We.Ow.isSl {w : World} {B e sz v rows} (h : Ow w B e sz v rows) : IsSl v:=by
 obtain ⟨a,c,rfl⟩:=h.form
 exact ⟨_,_,_,rfl⟩
theorem end_sp {w W0 wr : World} {B gR Bo : Nat} {v0 v1 v2 v3 v z0 z1 z2 z3 : Value} {m : Rs} {R0 : List S3} (hB : B <= w.heap.size) (H : RAt w B v0 v1 v2 v3 m) (b0 : Bel w W0) (_s0 : Box4 W0 w.heap.size v0 v1 v2 v3) (q0 : Box4 W0 gR z0 z1 z2 z3) (hgR : w.heap.size < gR/\gR < Bo) (bel : Bel W0 wr) (out : Ow wr Bo 106 3 v (R0.map rS)) :
  Box4 (set4 (wr.setCell ⟨w.heap.size,0,none⟩ v) gR v v1 v2 v3) gR v v1 v2 v3/\RAt (set4 (wr.setCell ⟨w.heap.size,0,none⟩ v) gR v v1 v2 v3) B v v1 v2 v3 { m with sp:=R0 }/\(∀ g,v.ownBlock = some g -> w.heap.size <= g)/\Below w.heap.size w (set4 (wr.setCell ⟨w.heap.size,0,none⟩ v) gR v v1 v2 v3):=by
 have k1 : Kp wr (wr.setCell ⟨w.heap.size,0,none⟩ v) w.heap.size gR:=kp_set _ _ _ _ _ (.inl rfl) _
 have k2:=kp_trans k1 (set4_kp _ w.heap.size gR v v1 v2 v3)
 have q1 : Box4 (wr.setCell ⟨w.heap.size,0,none⟩ v) gR z0 z1 z2 z3:=(heap_setCell_other _ _ _ _ (by show gR ≠ w.heap.size; omega)).trans (q0.call bel)
 exact ⟨set4_box q1 _ _ _ _,⟨(out.lower (by omega)).kp k2 (fun e => by have:=(out.lt _ e).1; omega) (fun e => by have:=(out.lt _ e).1; omega),
  ((H.lv.call b0).call bel).kp k2 (fun e => by have:=(H.lv.lt _ e).2; omega) (fun e => by have:=(H.lv.lt _ e).2; omega),
  ((H.bad.call b0).call bel).kp k2 (fun e => by have:=(H.bad.lt _ e).2; omega) (fun e => by have:=(H.bad.lt _ e).2; omega),
  ((H.worn.call b0).call bel).kp k2 (fun e => by have:=(H.worn.lt _ e).2; omega) (fun e => by have:=(H.worn.lt _ e).2; omega)⟩,fun g hg => by have:=(out.lt _ hg).1; omega,kp_bel (b0.trans bel) k2 (Nat.le_refl _) (by omega)⟩
theorem end_lv {w W0 wr : World} {B gR Bo : Nat} {v0 v1 v2 v3 v z0 z1 z2 z3 : Value} {m : Rs} {R0 : List L3} (hB : B <= w.heap.size) (H : RAt w B v0 v1 v2 v3 m) (b0 : Bel w W0) (_s0 : Box4 W0 w.heap.size v0 v1 v2 v3) (q0 : Box4 W0 gR z0 z1 z2 z3) (hgR : w.heap.size < gR/\gR < Bo) (bel : Bel W0 wr) (out : Ow wr Bo 113 3 v (R0.map rL)) :
  Box4 (set4 (wr.setCell ⟨w.heap.size,1,none⟩ v) gR v0 v v2 v3) gR v0 v v2 v3/\RAt (set4 (wr.setCell ⟨w.heap.size,1,none⟩ v) gR v0 v v2 v3) B v0 v v2 v3 { m with lv:=R0 }/\(∀ g,v.ownBlock = some g -> w.heap.size <= g)/\Below w.heap.size w (set4 (wr.setCell ⟨w.heap.size,1,none⟩ v) gR v0 v v2 v3):=by
 have k1 : Kp wr (wr.setCell ⟨w.heap.size,1,none⟩ v) w.heap.size gR:=kp_set _ _ _ _ _ (.inl rfl) _
 have k2:=kp_trans k1 (set4_kp _ w.heap.size gR v0 v v2 v3)
 have q1 : Box4 (wr.setCell ⟨w.heap.size,1,none⟩ v) gR z0 z1 z2 z3:=(heap_setCell_other _ _ _ _ (by show gR ≠ w.heap.size; omega)).trans (q0.call bel)
 exact ⟨set4_box q1 _ _ _ _,⟨((H.sp.call b0).call bel).kp k2 (fun e => by have:=(H.sp.lt _ e).2; omega) (fun e => by have:=(H.sp.lt _ e).2; omega),
  (out.lower (by omega)).kp k2 (fun e => by have:=(out.lt _ e).1; omega) (fun e => by have:=(out.lt _ e).1; omega),
  ((H.bad.call b0).call bel).kp k2 (fun e => by have:=(H.bad.lt _ e).2; omega) (fun e => by have:=(H.bad.lt _ e).2; omega),
  ((H.worn.call b0).call bel).kp k2 (fun e => by have:=(H.worn.lt _ e).2; omega) (fun e => by have:=(H.worn.lt _ e).2; omega)⟩,fun g hg => by have:=(out.lt _ hg).1; omega,kp_bel (b0.trans bel) k2 (Nat.le_refl _) (by omega)⟩
theorem end_bad {w W0 wr : World} {B gR Bo : Nat} {v0 v1 v2 v3 v z0 z1 z2 z3 : Value} {m : Rs} {R0 : List Int} (hB : B <= w.heap.size) (H : RAt w B v0 v1 v2 v3 m) (b0 : Bel w W0) (_s0 : Box4 W0 w.heap.size v0 v1 v2 v3) (q0 : Box4 W0 gR z0 z1 z2 z3) (hgR : w.heap.size < gR/\gR < Bo) (bel : Bel W0 wr) (out : Ow wr Bo 3 1 v (rI R0)) :
  Box4 (set4 (wr.setCell ⟨w.heap.size,2,none⟩ v) gR v0 v1 v v3) gR v0 v1 v v3/\RAt (set4 (wr.setCell ⟨w.heap.size,2,none⟩ v) gR v0 v1 v v3) B v0 v1 v v3 { m with bad:=R0 }/\(∀ g,v.ownBlock = some g -> w.heap.size <= g)/\Below w.heap.size w (set4 (wr.setCell ⟨w.heap.size,2,none⟩ v) gR v0 v1 v v3):=by
 have k1 : Kp wr (wr.setCell ⟨w.heap.size,2,none⟩ v) w.heap.size gR:=kp_set _ _ _ _ _ (.inl rfl) _
 have k2:=kp_trans k1 (set4_kp _ w.heap.size gR v0 v1 v v3)
 have q1 : Box4 (wr.setCell ⟨w.heap.size,2,none⟩ v) gR z0 z1 z2 z3:=(heap_setCell_other _ _ _ _ (by show gR ≠ w.heap.size; omega)).trans (q0.call bel)
 exact ⟨set4_box q1 _ _ _ _,⟨((H.sp.call b0).call bel).kp k2 (fun e => by have:=(H.sp.lt _ e).2; omega) (fun e => by have:=(H.sp.lt _ e).2; omega),
  ((H.lv.call b0).call bel).kp k2 (fun e => by have:=(H.lv.lt _ e).2; omega) (fun e => by have:=(H.lv.lt _ e).2; omega),
  (out.lower (by omega)).kp k2 (fun e => by have:=(out.lt _ e).1; omega) (fun e => by have:=(out.lt _ e).1; omega),
  ((H.worn.call b0).call bel).kp k2 (fun e => by have:=(H.worn.lt _ e).2; omega) (fun e => by have:=(H.worn.lt _ e).2; omega)⟩,fun g hg => by have:=(out.lt _ hg).1; omega,kp_bel (b0.trans bel) k2 (Nat.le_refl _) (by omega)⟩
theorem end_worn {w W0 wr : World} {B gR Bo : Nat} {v0 v1 v2 v3 v z0 z1 z2 z3 : Value} {m : Rs} {R0 : Pl} (hB : B <= w.heap.size) (H : RAt w B v0 v1 v2 v3 m) (b0 : Bel w W0) (_s0 : Box4 W0 w.heap.size v0 v1 v2 v3) (q0 : Box4 W0 gR z0 z1 z2 z3) (hgR : w.heap.size < gR/\gR < Bo) (bel : Bel W0 wr) (out : Ow wr Bo 162 2 v (R0.map rP)) :
  Box4 (set4 (wr.setCell ⟨w.heap.size,3,none⟩ v) gR v0 v1 v2 v) gR v0 v1 v2 v/\RAt (set4 (wr.setCell ⟨w.heap.size,3,none⟩ v) gR v0 v1 v2 v) B v0 v1 v2 v { m with worn:=R0 }/\(∀ g,v.ownBlock = some g -> w.heap.size <= g)/\Below w.heap.size w (set4 (wr.setCell ⟨w.heap.size,3,none⟩ v) gR v0 v1 v2 v):=by
 have k1 : Kp wr (wr.setCell ⟨w.heap.size,3,none⟩ v) w.heap.size gR:=kp_set _ _ _ _ _ (.inl rfl) _
 have k2:=kp_trans k1 (set4_kp _ w.heap.size gR v0 v1 v2 v)
 have q1 : Box4 (wr.setCell ⟨w.heap.size,3,none⟩ v) gR z0 z1 z2 z3:=(heap_setCell_other _ _ _ _ (by show gR ≠ w.heap.size; omega)).trans (q0.call bel)
 exact ⟨set4_box q1 _ _ _ _,⟨((H.sp.call b0).call bel).kp k2 (fun e => by have:=(H.sp.lt _ e).2; omega) (fun e => by have:=(H.sp.lt _ e).2; omega),
  ((H.lv.call b0).call bel).kp k2 (fun e => by have:=(H.lv.lt _ e).2; omega) (fun e => by have:=(H.lv.lt _ e).2; omega),
  ((H.bad.call b0).call bel).kp k2 (fun e => by have:=(H.bad.lt _ e).2; omega) (fun e => by have:=(H.bad.lt _ e).2; omega),
  (out.lower (by omega)).kp k2 (fun e => by have:=(out.lt _ e).1; omega) (fun e => by have:=(out.lt _ e).1; omega)⟩,fun g hg => by have:=(out.lt _ hg).1; omega,kp_bel (b0.trans bel) k2 (Nat.le_refl _) (by omega)⟩
set_option maxRecDepth 20000 in
set_option maxHeartbeats 4000000 in
theorem rwith_any {w : World} {B v0 v1 v2 v3 m} (h : RAt w B v0 v1 v2 v3 m) (hn : m.lv.length < 100000) (hB : B <= w.heap.size) (x : L3) : Calls Tryz.prog 131 #[.agg #[v0,v1,v2,v3],.agg #[.int .i64 x.1,.int .i64 x.2.1,.int .i64 x.2.2]] w fun e w' => ∃ v,e = .returned (.agg #[v0,v,v2,v3])/\RAt w' B v0 v v2 v3 { m with lv:=wI x false m.lv }/\(∀ g,v.ownBlock = some g -> w.heap.size <= g)/\Below w.heap.size w w':=by
 obtain ⟨a0,n0,c0,rfl⟩:=h.sp.isSl
 obtain ⟨a2,n2,c2,rfl⟩:=h.bad.isSl
 obtain ⟨a3,n3,c3,rfl⟩:=h.worn.isSl
 obtain ⟨a1,c1,rfl⟩:=h.lv.form
 rw [List.length_map] at h |-
 obtain ⟨x1,x2,x3⟩:=x
 simp only
 generalize hR : wI (x1,x2,x3) false m.lv = R0
 have hRl : R0.length <= m.lv.length + 1:=by rw [<- hR]; exact with_len _ _
 have H:=Hid.mk h
 clear h
 go_enter Tryz.func131,Tryz.ntmps131
 go_upto_region 1 with fail
 have e0 : ((w.alloc (.cells #[(.slice a0 n0 c0),.slice a1 m.lv.length c1,(.slice a2 n2 c2),(.slice a3 n3 c3)] 38)).alloc (.cells #[.int .i64 x1,.int .i64 x2,.int .i64 x3] 113)).heap.size = w.heap.size + 1 + 1:=by rw [size_alloc,size_alloc]
 have s0:=((Box4.fresh w (.slice a0 n0 c0) (.slice a1 m.lv.length c1) (.slice a2 n2 c2) (.slice a3 n3 c3)).alloc (.cells #[.int .i64 x1,.int .i64 x2,.int .i64 x3] 113)).alloc (.cells #[.slice none 0 0,.slice none 0 0,.slice none 0 0,.slice none 0 0] 38)
 have q0:=Box4.fresh ((w.alloc (.cells #[(.slice a0 n0 c0),.slice a1 m.lv.length c1,(.slice a2 n2 c2),(.slice a3 n3 c3)] 38)).alloc (.cells #[.int .i64 x1,.int .i64 x2,.int .i64 x3] 113)) (.slice none 0 0) (.slice none 0 0) (.slice none 0 0) (.slice none 0 0)
 rw [e0] at q0
 have r0 : ((w.alloc (.cells #[(.slice a0 n0 c0),.slice a1 m.lv.length c1,(.slice a2 n2 c2),(.slice a3 n3 c3)] 38)).alloc (.cells #[.int .i64 x1,.int .i64 x2,.int .i64 x3] 113)).heap[w.heap.size + 1]? = some (.cells #[.int .i64 x1,.int .i64 x2,.int .i64 x3] 113 (0,0)):=by
  have:=heap_alloc_new (w.alloc (.cells #[(.slice a0 n0 c0),.slice a1 m.lv.length c1,(.slice a2 n2 c2),(.slice a3 n3 c3)] 38)) (.cells #[.int .i64 x1,.int .i64 x2,.int .i64 x3] 113)
  rw [size_alloc] at this
  exact this
 have t0:=(Below.heap_alloc _ (.cells #[.slice none 0 0,.slice none 0 0,.slice none 0 0,.slice none 0 0] 38) _ (by rw [e0]; omega)).trans r0
 have b0 : Bel w _:=(Bel.alloc (Bel.alloc (Bel.alloc (Bel.refl w) (.cells #[(.slice a0 n0 c0),.slice a1 m.lv.length c1,(.slice a2 n2 c2),(.slice a3 n3 c3)] 38)) (.cells #[.int .i64 x1,.int .i64 x2,.int .i64 x3] 113)) (.cells #[.slice none 0 0,.slice none 0 0,.slice none 0 0,.slice none 0 0] 38))
 have h0:=H.out.call b0
 have z0 : (((w.alloc (.cells #[(.slice a0 n0 c0),.slice a1 m.lv.length c1,(.slice a2 n2 c2),(.slice a3 n3 c3)] 38)).alloc (.cells #[.int .i64 x1,.int .i64 x2,.int .i64 x3] 113)).alloc (.cells #[.slice none 0 0,.slice none 0 0,.slice none 0 0,.slice none 0 0] 38)).heap.size = w.heap.size + 3:=by rw [size_alloc,e0]
 generalize (((w.alloc (.cells #[(.slice a0 n0 c0),.slice a1 m.lv.length c1,(.slice a2 n2 c2),(.slice a3 n3 c3)] 38)).alloc (.cells #[.int .i64 x1,.int .i64 x2,.int .i64 x3] 113)).alloc (.cells #[.slice none 0 0,.slice none 0 0,.slice none 0 0,.slice none 0 0] 38)) = W0 at *
 clear r0 e0
 have o0:=Ow.made W0 (B:=w.heap.size + 3) (by omega) 113 3
 rw [z0] at o0
 have S0 : WiS W0 w.heap.size (.slice (some ⟨w.heap.size + 3,0,none⟩) 0 0) [] (W0.alloc (.cells #[] 113)):=⟨o0,(Bel.refl W0).alloc _,z0⟩
 replace S0:=Hid.mk S0
 have C0 : Hid (∀ wr,Bel W0 wr -> wr.cell? ⟨w.heap.size,1,none⟩ = some (.slice a1 m.lv.length c1)/\wr.cell? ⟨w.heap.size + 1,0,none⟩ = some (.int .i64 x1)/\wr.cell? ⟨w.heap.size + 1,1,none⟩ = some (.int .i64 x2)/\wr.cell? ⟨w.heap.size + 1,2,none⟩ = some (.int .i64 x3)/\Ow wr B 113 3 (.slice a1 m.lv.length c1) (m.lv.map rL)):=fun wr b => by
  have u:=(Below.block b _ (by omega)).trans t0
  refine ⟨(s0.call b).cells.2.1,?_,?_,?_,h0.lv.call b⟩ <;> (rw [cell_of_row wr _ _ _ 113 _ u]; rfl)
 have E0:=Hid.mk (And.intro h0 (And.intro s0 (And.intro q0 b0)))
 clear h0 s0 q0 b0 t0 o0
 generalize hG : w.heap.size = G at *
 replace hG:=Hid.mk hG
 generalize hl : m.lv = l at *
 replace hl:=Hid.mk hl
 have hg3 : G + 3 <= W0.heap.size:=by omega
 go_upto_region 3 with fail
 go_loopw [5,6,7,8] (fun v b i _ wr => ∃ (k : Nat) (inn : Bool) (outL : List L3),k <= l.length/\b = .bool inn/\i = .int .i64 k/\outL ++ wI (x1,x2,x3) inn (l.drop k) = R0/\WiS W0 G v outL wr) (fun _ _ i _ _ => l.length - (intOf i).toNat)
 case atStart => exact ⟨0,false,[],Nat.zero_le _,rfl,rfl,by simpa using hR,S0.out⟩
 case round =>
  clear S0
  obtain ⟨k,inn,outL,hk,rfl,rfl,hgo,hs⟩:=hrel
  obtain ⟨k1,j0,j1,j2,hlv⟩:=C0.out wr hs.bel
  have hol : outL.length <= R0.length:=by rw [<- hgo,List.length_append]; omega
  have hwG : G + 3 <= wr.heap.size:=hs.le
  have hwG0 : G < wr.heap.size:=by omega
  have hwG1 : G + 1 < wr.heap.size:=by omega
  by_cases hkn : k < l.length
  ·obtain ⟨g,rfl,hgB,hgl,d0,d1,d2⟩:=hlv.at3 hkn
   rw [dropC l k (0,0,0) hkn] at hgo
   generalize l.getD k (0,0,0) = y at *
   obtain ⟨y1,y2,y3⟩:=y
   simp only at d0 d1 d2
   have HS:=Hid.mk (And.intro hs hol)
   clear hs hol hlv
   have hlen : outL.length < 900000:=by have:=HS.out.2; omega
   cases inn
   ·rcases Int.lt_trichotomy x1 y1 with hr1 | hr1 | hr1
    ·have h5:=wI_case (x1,x2,x3) (y1,y2,y3) false true true (l.drop (k + 1)) (by first | (simp; done) | (simp; omega)) (by first | (simp; done) | (simp; omega))
     rw [h5] at hgo
     have HG : Hid (outL ++ ([(x1,x2,x3)] ++ [(y1,y2,y3)] ++ wI (x1,x2,x3) true (l.drop (k + 1))) = R0):=hgo
     clear h5 hgo
     have f1 : decide (x1 < y1) = true:=by first | (simp; done) | (simp; omega)
     have f2 : (y1 == x1) = false:=by first | (simp; done) | (simp; omega)
     have f3 : (y1 != x1) = true:=by first | (simp; done) | (simp; omega)
     clear hr1
     go_wp2_with (first | (at_builtin; refine wp_app ei113 rfl _ _ rfl (HS.out.1.out.alloc _) (by rw [size_alloc]; omega) #[.int .i64 x1,.int .i64 x2,.int .i64 x3] rfl (by first | rfl | (simp only [size_alloc]; rfl)) rfl (by simp [Value.oneCell']) (by rw [List.length_map]; omega) ?_; intro v3 w3 o3 g3 p3; have N3:=HS.out.1.app (y:=(x1,x2,x3)) ((Bel.refl wr).alloc _) g3 o3; obtain ⟨kk1,jj0,jj1,jj2,hlv3⟩:=C0.out w3 N3.bel; have ycell:=y_kept (a:=y1) (b:=y2) (c:=y3) g3 HS.out.1.out) | (at_builtin; refine wp_app ei113 rfl _ _ rfl (N3.out) (N3.le) #[.int .i64 y1,.int .i64 y2,.int .i64 y3] rfl (by first | rfl | (simp only [size_alloc]; rfl)) rfl (by simp [Value.oneCell']) (by rw [List.length_map]; (rw [List.length_append,List.length_singleton]; omega)) ?_; intro v4 w4 o4 g4 p4))
     exact ⟨⟨k + 1,true,outL ++ [(x1,x2,x3)] ++ [(y1,y2,y3)],by omega,rfl,by go_num,by have:=HG.out; simpa [List.append_assoc] using this,N3.app (y:=(y1,y2,y3)) (Bel.refl w3) g4 o4⟩,by simp [intOf]; omega⟩
    ·rcases Int.lt_trichotomy x2 y2 with hr2 | hr2 | hr2
     ·have h5:=wI_case (x1,x2,x3) (y1,y2,y3) false true true (l.drop (k + 1)) (by first | (simp; done) | (simp; omega)) (by first | (simp; done) | (simp; omega))
      rw [h5] at hgo
      have HG : Hid (outL ++ ([(x1,x2,x3)] ++ [(y1,y2,y3)] ++ wI (x1,x2,x3) true (l.drop (k + 1))) = R0):=hgo
      clear h5 hgo
      have f1 : decide (x1 < y1) = false:=by first | (simp; done) | (simp; omega)
      have f2 : (y1 == x1) = true:=by first | (simp; done) | (simp; omega)
      have f3 : (y1 != x1) = false:=by first | (simp; done) | (simp; omega)
      have f6 : decide (x2 <= y2) = true:=by first | (simp; done) | (simp; omega)
      have f7 : (y2 != x2) = true:=by first | (simp; done) | (simp; omega)
      clear hr1 hr2
      go_wp2_with (first | (at_builtin; refine wp_app ei113 rfl _ _ rfl (HS.out.1.out.alloc _) (by rw [size_alloc]; omega) #[.int .i64 x1,.int .i64 x2,.int .i64 x3] rfl (by first | rfl | (simp only [size_alloc]; rfl)) rfl (by simp [Value.oneCell']) (by rw [List.length_map]; omega) ?_; intro v3 w3 o3 g3 p3; have N3:=HS.out.1.app (y:=(x1,x2,x3)) ((Bel.refl wr).alloc _) g3 o3; obtain ⟨kk1,jj0,jj1,jj2,hlv3⟩:=C0.out w3 N3.bel; have ycell:=y_kept (a:=y1) (b:=y2) (c:=y3) g3 HS.out.1.out) | (at_builtin; refine wp_app ei113 rfl _ _ rfl (N3.out) (N3.le) #[.int .i64 y1,.int .i64 y2,.int .i64 y3] rfl (by first | rfl | (simp only [size_alloc]; rfl)) rfl (by simp [Value.oneCell']) (by rw [List.length_map]; (rw [List.length_append,List.length_singleton]; omega)) ?_; intro v4 w4 o4 g4 p4))
      exact ⟨⟨k + 1,true,outL ++ [(x1,x2,x3)] ++ [(y1,y2,y3)],by omega,rfl,by go_num,by have:=HG.out; simpa [List.append_assoc] using this,N3.app (y:=(y1,y2,y3)) (Bel.refl w3) g4 o4⟩,by simp [intOf]; omega⟩
     ·have h5:=wI_case (x1,x2,x3) (y1,y2,y3) false true false (l.drop (k + 1)) (by first | (simp; done) | (simp; omega)) (by first | (simp; done) | (simp; omega))
      rw [h5] at hgo
      have HG : Hid (outL ++ ([(x1,x2,x3)] ++ [] ++ wI (x1,x2,x3) true (l.drop (k + 1))) = R0):=hgo
      clear h5 hgo
      have f1 : decide (x1 < y1) = false:=by first | (simp; done) | (simp; omega)
      have f2 : (y1 == x1) = true:=by first | (simp; done) | (simp; omega)
      have f3 : (y1 != x1) = false:=by first | (simp; done) | (simp; omega)
      have f6 : decide (x2 <= y2) = true:=by first | (simp; done) | (simp; omega)
      have f7 : (y2 != x2) = false:=by first | (simp; done) | (simp; omega)
      clear hr1 hr2
      go_wp2_with (first | (at_builtin; refine wp_app ei113 rfl _ _ rfl (HS.out.1.out.alloc _) (by rw [size_alloc]; omega) #[.int .i64 x1,.int .i64 x2,.int .i64 x3] rfl (by first | rfl | (simp only [size_alloc]; rfl)) rfl (by simp [Value.oneCell']) (by rw [List.length_map]; omega) ?_; intro v3 w3 o3 g3 p3; have N3:=HS.out.1.app (y:=(x1,x2,x3)) ((Bel.refl wr).alloc _) g3 o3; obtain ⟨kk1,jj0,jj1,jj2,hlv3⟩:=C0.out w3 N3.bel; have ycell:=y_kept (a:=y1) (b:=y2) (c:=y3) g3 HS.out.1.out))
      exact ⟨⟨k + 1,true,outL ++ [(x1,x2,x3)],by omega,rfl,by go_num,by have:=HG.out; simpa [List.append_assoc] using this,N3⟩,by simp [intOf]; omega⟩
     ·have h5:=wI_case (x1,x2,x3) (y1,y2,y3) false false true (l.drop (k + 1)) (by first | (simp; done) | (simp; omega)) (by first | (simp; done) | (simp; omega))
      rw [h5] at hgo
      have HG : Hid (outL ++ ([] ++ [(y1,y2,y3)] ++ wI (x1,x2,x3) false (l.drop (k + 1))) = R0):=hgo
      clear h5 hgo
      have f1 : decide (x1 < y1) = false:=by first | (simp; done) | (simp; omega)
      have f2 : (y1 == x1) = true:=by first | (simp; done) | (simp; omega)
      have f3 : (y1 != x1) = false:=by first | (simp; done) | (simp; omega)
      have f6 : decide (x2 <= y2) = false:=by first | (simp; done) | (simp; omega)
      have f7 : (y2 != x2) = true:=by first | (simp; done) | (simp; omega)
      clear hr1 hr2
      go_wp2_with (first | (at_builtin; refine wp_app ei113 rfl _ _ rfl (HS.out.1.out.alloc _) (by rw [size_alloc]; omega) #[.int .i64 y1,.int .i64 y2,.int .i64 y3] rfl (by first | rfl | (simp only [size_alloc]; rfl)) rfl (by simp [Value.oneCell']) (by rw [List.length_map]; omega) ?_; intro v4 w4 o4 g4 p4))
      exact ⟨⟨k + 1,false,outL ++ [(y1,y2,y3)],by omega,rfl,by go_num,by have:=HG.out; simpa [List.append_assoc] using this,HS.out.1.app (y:=(y1,y2,y3)) ((Bel.refl wr).alloc _) g4 o4⟩,by simp [intOf]; omega⟩
    ·have h5:=wI_case (x1,x2,x3) (y1,y2,y3) false false true (l.drop (k + 1)) (by first | (simp; done) | (simp; omega)) (by first | (simp; done) | (simp; omega))
     rw [h5] at hgo
     have HG : Hid (outL ++ ([] ++ [(y1,y2,y3)] ++ wI (x1,x2,x3) false (l.drop (k + 1))) = R0):=hgo
     clear h5 hgo
     have f1 : decide (x1 < y1) = false:=by first | (simp; done) | (simp; omega)
     have f2 : (y1 == x1) = false:=by first | (simp; done) | (simp; omega)
     have f3 : (y1 != x1) = true:=by first | (simp; done) | (simp; omega)
     clear hr1
     go_wp2_with (first | (at_builtin; refine wp_app ei113 rfl _ _ rfl (HS.out.1.out.alloc _) (by rw [size_alloc]; omega) #[.int .i64 y1,.int .i64 y2,.int .i64 y3] rfl (by first | rfl | (simp only [size_alloc]; rfl)) rfl (by simp [Value.oneCell']) (by rw [List.length_map]; omega) ?_; intro v4 w4 o4 g4 p4))
     exact ⟨⟨k + 1,false,outL ++ [(y1,y2,y3)],by omega,rfl,by go_num,by have:=HG.out; simpa [List.append_assoc] using this,HS.out.1.app (y:=(y1,y2,y3)) ((Bel.refl wr).alloc _) g4 o4⟩,by simp [intOf]; omega⟩
   ·rcases Int.lt_trichotomy x1 y1 with hr1 | hr1 | hr1
    ·have h5:=wI_case (x1,x2,x3) (y1,y2,y3) true true true (l.drop (k + 1)) (by first | (simp; done) | (simp; omega)) (by first | (simp; done) | (simp; omega))
     rw [h5] at hgo
     have HG : Hid (outL ++ ([] ++ [(y1,y2,y3)] ++ wI (x1,x2,x3) true (l.drop (k + 1))) = R0):=hgo
     clear h5 hgo
     have f1 : decide (x1 < y1) = true:=by first | (simp; done) | (simp; omega)
     have f2 : (y1 == x1) = false:=by first | (simp; done) | (simp; omega)
     have f3 : (y1 != x1) = true:=by first | (simp; done) | (simp; omega)
     clear hr1
     go_wp2_with (first | (at_builtin; refine wp_app ei113 rfl _ _ rfl (HS.out.1.out.alloc _) (by rw [size_alloc]; omega) #[.int .i64 y1,.int .i64 y2,.int .i64 y3] rfl (by first | rfl | (simp only [size_alloc]; rfl)) rfl (by simp [Value.oneCell']) (by rw [List.length_map]; omega) ?_; intro v4 w4 o4 g4 p4))
     exact ⟨⟨k + 1,true,outL ++ [(y1,y2,y3)],by omega,rfl,by go_num,by have:=HG.out; simpa [List.append_assoc] using this,HS.out.1.app (y:=(y1,y2,y3)) ((Bel.refl wr).alloc _) g4 o4⟩,by simp [intOf]; omega⟩
    ·rcases Int.lt_trichotomy x2 y2 with hr2 | hr2 | hr2
     ·have h5:=wI_case (x1,x2,x3) (y1,y2,y3) true true true (l.drop (k + 1)) (by first | (simp; done) | (simp; omega)) (by first | (simp; done) | (simp; omega))
      rw [h5] at hgo
      have HG : Hid (outL ++ ([] ++ [(y1,y2,y3)] ++ wI (x1,x2,x3) true (l.drop (k + 1))) = R0):=hgo
      clear h5 hgo
      have f1 : decide (x1 < y1) = false:=by first | (simp; done) | (simp; omega)
      have f2 : (y1 == x1) = true:=by first | (simp; done) | (simp; omega)
      have f3 : (y1 != x1) = false:=by first | (simp; done) | (simp; omega)
      have f6 : decide (x2 <= y2) = true:=by first | (simp; done) | (simp; omega)
      have f7 : (y2 != x2) = true:=by first | (simp; done) | (simp; omega)
      clear hr1 hr2
      go_wp2_with (first | (at_builtin; refine wp_app ei113 rfl _ _ rfl (HS.out.1.out.alloc _) (by rw [size_alloc]; omega) #[.int .i64 y1,.int .i64 y2,.int .i64 y3] rfl (by first | rfl | (simp only [size_alloc]; rfl)) rfl (by simp [Value.oneCell']) (by rw [List.length_map]; omega) ?_; intro v4 w4 o4 g4 p4))
      exact ⟨⟨k + 1,true,outL ++ [(y1,y2,y3)],by omega,rfl,by go_num,by have:=HG.out; simpa [List.append_assoc] using this,HS.out.1.app (y:=(y1,y2,y3)) ((Bel.refl wr).alloc _) g4 o4⟩,by simp [intOf]; omega⟩
     ·have h5:=wI_case (x1,x2,x3) (y1,y2,y3) true true false (l.drop (k + 1)) (by first | (simp; done) | (simp; omega)) (by first | (simp; done) | (simp; omega))
      rw [h5] at hgo
      have HG : Hid (outL ++ ([] ++ [] ++ wI (x1,x2,x3) true (l.drop (k + 1))) = R0):=hgo
      clear h5 hgo
      have f1 : decide (x1 < y1) = false:=by first | (simp; done) | (simp; omega)
      have f2 : (y1 == x1) = true:=by first | (simp; done) | (simp; omega)
      have f3 : (y1 != x1) = false:=by first | (simp; done) | (simp; omega)
      have f6 : decide (x2 <= y2) = true:=by first | (simp; done) | (simp; omega)
      have f7 : (y2 != x2) = false:=by first | (simp; done) | (simp; omega)
      clear hr1 hr2
      go_wp2_with fail
      exact ⟨⟨k + 1,true,outL,by omega,rfl,by go_num,by have:=HG.out; simpa [List.append_assoc] using this,HS.out.1.al _⟩,by simp [intOf]; omega⟩
     ·have h5:=wI_case (x1,x2,x3) (y1,y2,y3) true false true (l.drop (k + 1)) (by first | (simp; done) | (simp; omega)) (by first | (simp; done) | (simp; omega))
      rw [h5] at hgo
      have HG : Hid (outL ++ ([] ++ [(y1,y2,y3)] ++ wI (x1,x2,x3) true (l.drop (k + 1))) = R0):=hgo
      clear h5 hgo
      have f1 : decide (x1 < y1) = false:=by first | (simp; done) | (simp; omega)
      have f2 : (y1 == x1) = true:=by first | (simp; done) | (simp; omega)
      have f3 : (y1 != x1) = false:=by first | (simp; done) | (simp; omega)
      have f6 : decide (x2 <= y2) = false:=by first | (simp; done) | (simp; omega)
      have f7 : (y2 != x2) = true:=by first | (simp; done) | (simp; omega)
      clear hr1 hr2
      go_wp2_with (first | (at_builtin; refine wp_app ei113 rfl _ _ rfl (HS.out.1.out.alloc _) (by rw [size_alloc]; omega) #[.int .i64 y1,.int .i64 y2,.int .i64 y3] rfl (by first | rfl | (simp only [size_alloc]; rfl)) rfl (by simp [Value.oneCell']) (by rw [List.length_map]; omega) ?_; intro v4 w4 o4 g4 p4))
      exact ⟨⟨k + 1,true,outL ++ [(y1,y2,y3)],by omega,rfl,by go_num,by have:=HG.out; simpa [List.append_assoc] using this,HS.out.1.app (y:=(y1,y2,y3)) ((Bel.refl wr).alloc _) g4 o4⟩,by simp [intOf]; omega⟩
    ·have h5:=wI_case (x1,x2,x3) (y1,y2,y3) true false true (l.drop (k + 1)) (by first | (simp; done) | (simp; omega)) (by first | (simp; done) | (simp; omega))
     rw [h5] at hgo
     have HG : Hid (outL ++ ([] ++ [(y1,y2,y3)] ++ wI (x1,x2,x3) true (l.drop (k + 1))) = R0):=hgo
     clear h5 hgo
     have f1 : decide (x1 < y1) = false:=by first | (simp; done) | (simp; omega)
     have f2 : (y1 == x1) = false:=by first | (simp; done) | (simp; omega)
     have f3 : (y1 != x1) = true:=by first | (simp; done) | (simp; omega)
     clear hr1
     go_wp2_with (first | (at_builtin; refine wp_app ei113 rfl _ _ rfl (HS.out.1.out.alloc _) (by rw [size_alloc]; omega) #[.int .i64 y1,.int .i64 y2,.int .i64 y3] rfl (by first | rfl | (simp only [size_alloc]; rfl)) rfl (by simp [Value.oneCell']) (by rw [List.length_map]; omega) ?_; intro v4 w4 o4 g4 p4))
     exact ⟨⟨k + 1,true,outL ++ [(y1,y2,y3)],by omega,rfl,by go_num,by have:=HG.out; simpa [List.append_assoc] using this,HS.out.1.app (y:=(y1,y2,y3)) ((Bel.refl wr).alloc _) g4 o4⟩,by simp [intOf]; omega⟩
  ·have hk2 : k = l.length:=by omega
   subst hk2
   rw [List.drop_length,wI] at hgo
   obtain ⟨va,vn,vc,rfl⟩:=hs.out.isSl
   have HS:=Hid.mk (And.intro hs hol)
   clear hs hol hlv
   have hlen : outL.length < 900000:=by have:=HS.out.2; omega
   obtain ⟨f0,s0,q0,b0⟩:=E0.out
   have hwG2 : G + 1 + 1 < wr.heap.size:=by omega
   have CC : Hid (∀ w5,Bel W0 w5 -> (w5.cell? ⟨G,0,none⟩ = some (.slice a0 n0 c0)/\w5.cell? ⟨G,1,none⟩ = some (.slice a1 l.length c1)/\w5.cell? ⟨G,2,none⟩ = some (.slice a2 n2 c2)/\w5.cell? ⟨G,3,none⟩ = some (.slice a3 n3 c3))/\(w5.cell? ⟨G + 1 + 1,0,none⟩ = some (.slice none 0 0)/\w5.cell? ⟨G + 1 + 1,1,none⟩ = some (.slice none 0 0)/\w5.cell? ⟨G + 1 + 1,2,none⟩ = some (.slice none 0 0)/\w5.cell? ⟨G + 1 + 1,3,none⟩ = some (.slice none 0 0))/\(∀ j,w5.frozen? ⟨G,j,none⟩ = false) /\ ∀ j,w5.frozen? ⟨G + 1 + 1,j,none⟩ = false):=fun w5 b => ⟨(s0.call b).cells,(q0.call b).cells,fun j => (s0.call b).fz j,fun j => (q0.call b).fz j⟩
   have fin : Hid (∀ (v : Value) (w5 : World) (L : List L3),Bel W0 w5 -> Ow w5 (G + 3) 113 3 v (L.map rL) -> Box4 (set4 (w5.setCell ⟨G,1,none⟩ v) (G + 1 + 1) (.slice a0 n0 c0) v (.slice a2 n2 c2) (.slice a3 n3 c3)) (G + 1 + 1) (.slice a0 n0 c0) v (.slice a2 n2 c2) (.slice a3 n3 c3)/\RAt (set4 (w5.setCell ⟨G,1,none⟩ v) (G + 1 + 1) (.slice a0 n0 c0) v (.slice a2 n2 c2) (.slice a3 n3 c3)) B (.slice a0 n0 c0) v (.slice a2 n2 c2) (.slice a3 n3 c3) { m with lv:=L }/\(∀ g,v.ownBlock = some g -> w.heap.size <= g)/\Below w.heap.size w (set4 (w5.setCell ⟨G,1,none⟩ v) (G + 1 + 1) (.slice a0 n0 c0) v (.slice a2 n2 c2) (.slice a3 n3 c3))):=fun v w5 L b o => by
    have e:=hG.out
    subst e
    exact end_lv hB H.out b0 s0 q0 (by omega) b o
   clear f0 s0 q0 b0 E0 k1 j0 j1 j2
   obtain ⟨⟨m00,m01,m02,m03⟩,⟨m20,m21,m22,m23⟩,fr,fs⟩:=CC.out wr HS.out.1.bel
   have x1':=C0.out wr HS.out.1.bel
   obtain ⟨_,j0,j1,j2,_⟩:=x1'
   have fr1:=fr 1
   have g0:=fs 0
   have g1:=fs 1
   have g2:=fs 2
   have g3:=fs 3
   clear fr fs
   cases inn
   ·rw [if_neg (by simp)] at hgo
    subst hgo
    go_upto_region 12 with (first | (at_builtin; refine wp_app ei113 rfl _ _ rfl HS.out.1.out (HS.out.1.le) #[.int .i64 x1,.int .i64 x2,.int .i64 x3] rfl (by first | rfl | (simp only [size_alloc]; rfl)) rfl (by simp [Value.oneCell']) (by rw [List.length_map]; omega) ?_; intro v5 w5 o5 g5 p5))
    have N5:=HS.out.1.app (y:=(x1,x2,x3)) (Bel.refl wr) g5 o5
    obtain ⟨va5,vn5,vc5,rfl⟩:=N5.out.isSl
    obtain ⟨⟨t00,t01,t02,t03⟩,⟨t20,t21,t22,t23⟩,tr,ts⟩:=CC.out w5 N5.bel
    have tr1:=tr 1
    have s0:=ts 0
    have s1:=ts 1
    have s2:=ts 2
    have s3:=ts 3
    replace N5:=Hid.mk N5
    clear tr ts o5 g5 p5 m00 m01 m02 m03 m20 m21 m22 m23 fr1 g0 g1 g2 g3 j0 j1 j2
    go_wp2_with fail
    refine bodyPost_ret (st_result rfl rfl (fin.out _ _ _ N5.out.bel N5.out.out).1) rfl ?_
    have q:=(fin.out _ _ _ N5.out.bel N5.out.out).2
    exact ⟨_,rfl,q⟩
   ·rw [if_pos rfl,List.append_nil] at hgo
    subst hgo
    go_wp2_with fail
    refine bodyPost_ret (st_result rfl rfl (fin.out _ _ _ HS.out.1.bel HS.out.1.out).1) rfl ?_
    have q:=(fin.out _ _ _ HS.out.1.bel HS.out.1.out).2
    exact ⟨_,rfl,q⟩
end Go.Proofs.YtaphpdmfjnhlaaaGreatDoor.S8
namespace Go.Proofs.YtaphpdmfjnhlaaaGreatDoor.S8
open Go Go.RowKit Go.Maps Gp Pg We
def gI {α : Type} (c k : α -> Bool) (x : α) : Bool -> List α -> List α
 | i,[] => if i then [] else [x]
 | i,y :: r => (if !i && c y then [x] else []) ++ (if k y then [y] else []) ++ gI c k x (i || c y) r
theorem gI_case {α : Type} (c k : α -> Bool) (x y : α) (i cb kb : Bool) (r : List α) (hc : c y = cb) (hk : k y = kb) : gI c k x i (y :: r) = (if !i && cb then [x] else []) ++ (if kb then [y] else []) ++ gI c k x (i || cb) r:=by
 rw [gI,hc,hk]
theorem gI_lenT {α : Type} (c k : α -> Bool) (x : α) (l : List α) : (gI c k x true l).length <= l.length:=by
 induction l with
 | nil => simp [gI]
 | cons z t ih =>
  unfold gI
  simp only [Bool.not_true,Bool.false_and,Bool.false_eq_true,if_false,List.nil_append,Bool.true_or,List.length_append,List.length_cons]
  split <;> simp <;> omega
theorem gI_len {α : Type} (c k : α -> Bool) (x : α) (l : List α) : (gI c k x false l).length <= l.length + 1:=by
 induction l with
 | nil => simp [gI]
 | cons z t ih =>
  unfold gI
  rw [List.length_append,List.length_append,List.length_cons]
  have hT:=gI_lenT c k x t
  cases hc : c z with
  | false =>
   simp only [Bool.and_false,Bool.false_eq_true,if_false,Bool.or_false,List.length_nil]
   split <;> simp <;> omega
  | true =>
   simp only [Bool.not_false,Bool.and_true,if_true,Bool.or_true,List.length_singleton]
   split <;> simp <;> omega
structure WbS (W0 : World) (Bo e sz : Nat) (v : Value) (rows : Rws) (wr : World) : Prop where
 out : Ow wr Bo e sz v rows
 bel : Bel W0 wr
 z : W0.heap.size = Bo
theorem WbS.app {W0 Bo e sz v v3 rows wr wr1 w3} {cs : List Value} (h : WbS W0 Bo e sz v rows wr) (b1 : Bel wr wr1) (g : wr1.grownBy w3 v.ownBlock) (o : Ow w3 Bo e sz v3 (rows ++ [cs])) : WbS W0 Bo e sz v3 (rows ++ [cs]) w3 :=
 ⟨o,bel_app h.out (by rw [h.z]; exact Nat.le_refl _) h.bel b1 g,h.z⟩
theorem WbS.al {W0 Bo e sz v rows wr} (h : WbS W0 Bo e sz v rows wr) (o : Obj) : WbS W0 Bo e sz v rows (wr.alloc o):=⟨h.out.alloc o,h.bel.alloc o,h.z⟩
theorem WbS.dr {W0 Bo e sz v rows wr} (h : WbS W0 Bo e sz v rows wr) (n : Nat) : WbS W0 Bo e sz v rows (wr.drewN n):=⟨⟨h.out.own,h.out.len,h.out.one⟩,⟨h.bel.os,h.bel.tape,h.bel.output,h.bel.size,h.bel.block⟩,h.z⟩
theorem WbS.le {W0 Bo e sz v rows wr} (h : WbS W0 Bo e sz v rows wr) : Bo <= wr.heap.size:=by have:=h.z; have:=Below.size h.bel; omega
theorem cells_kept {wr w3 : World} {B e0 sz e : Nat} {v : Value} {rows : Rws} {cs : Array Value} (g3 : (wr.alloc (.cells cs e)).grownBy w3 v.ownBlock) (o : Ow wr B e0 sz v rows) : w3.heap[wr.heap.size]? = some (.cells cs e (0,0)) :=
 (g3.block wr.heap.size (by rw [size_alloc]; omega) (fun e => Nat.lt_irrefl _ (o.lt _ e.symm).2)).trans (heap_alloc_new wr (.cells cs e))
set_option maxRecDepth 20000 in
set_option maxHeartbeats 4000000 in
theorem rwithout_any {w : World} {B v0 v1 v2 v3 m} (h : RAt w B v0 v1 v2 v3 m) (hn : m.lv.length < 100000) (hB : B <= w.heap.size) (id page : Int) : Calls Tryz.prog 132 #[.agg #[v0,v1,v2,v3],.int .i64 id,.int .i64 page] w fun e w' => ∃ v,e = .returned (.agg #[v0,v,v2,v3])/\RAt w' B v0 v v2 v3 { m with lv:=m.lv.filter (fun y : L3 => decide (y.1 ≠ id \/ 0 <= page/\y.2.1 ≠ page)) }/\(∀ g,v.ownBlock = some g -> w.heap.size <= g)/\Below w.heap.size w w':=by
 obtain ⟨a0,n0,c0,rfl⟩:=h.sp.isSl
 obtain ⟨a2,n2,c2,rfl⟩:=h.bad.isSl
 obtain ⟨a3,n3,c3,rfl⟩:=h.worn.isSl
 obtain ⟨a1,c1,rfl⟩:=h.lv.form
 rw [List.length_map] at h |-
 generalize hR : List.filter (fun y : L3 => decide (y.1 ≠ id \/ 0 <= page/\y.2.1 ≠ page)) m.lv = R0
 have hRl : R0.length <= m.lv.length + 1:=by rw [<- hR]; exact Nat.le_trans (List.length_filter_le _ _) (Nat.le_succ _)
 have H:=Hid.mk h
 clear h
 go_enter Tryz.func132,Tryz.ntmps132
 go_upto_region 1 with fail
 have e0 : (w.alloc (.cells #[.slice a0 n0 c0,.slice a1 m.lv.length c1,.slice a2 n2 c2,.slice a3 n3 c3] 38)).heap.size = w.heap.size + 1:=by rw [size_alloc]
 have s0:=(Box4.fresh w (.slice a0 n0 c0) (.slice a1 m.lv.length c1) (.slice a2 n2 c2) (.slice a3 n3 c3)).alloc (.cells #[.slice none 0 0,.slice none 0 0,.slice none 0 0,.slice none 0 0] 38)
 have q0:=Box4.fresh (w.alloc (.cells #[.slice a0 n0 c0,.slice a1 m.lv.length c1,.slice a2 n2 c2,.slice a3 n3 c3] 38)) (.slice none 0 0) (.slice none 0 0) (.slice none 0 0) (.slice none 0 0)
 rw [e0] at q0
 have b0 : Bel w ((w.alloc (.cells #[.slice a0 n0 c0,.slice a1 m.lv.length c1,.slice a2 n2 c2,.slice a3 n3 c3] 38)).alloc (.cells #[.slice none 0 0,.slice none 0 0,.slice none 0 0,.slice none 0 0] 38)):=((Bel.refl w).alloc _).alloc _
 have h0:=H.out.call b0
 have z0 : ((w.alloc (.cells #[.slice a0 n0 c0,.slice a1 m.lv.length c1,.slice a2 n2 c2,.slice a3 n3 c3] 38)).alloc (.cells #[.slice none 0 0,.slice none 0 0,.slice none 0 0,.slice none 0 0] 38)).heap.size = w.heap.size + 2:=by rw [size_alloc,e0]
 generalize ((w.alloc (.cells #[.slice a0 n0 c0,.slice a1 m.lv.length c1,.slice a2 n2 c2,.slice a3 n3 c3] 38)).alloc (.cells #[.slice none 0 0,.slice none 0 0,.slice none 0 0,.slice none 0 0] 38)) = W0 at *
 clear e0
 have o0:=Ow.made W0 (B:=w.heap.size + 2) (by omega) 113 3
 rw [z0] at o0
 have S0 : WbS W0 (w.heap.size + 2) 113 3 (.slice (some ⟨w.heap.size + 2,0,none⟩) 0 0) [] (W0.alloc (.cells #[] 113)):=⟨o0,(Bel.refl W0).alloc _,z0⟩
 replace S0:=Hid.mk S0
 have C0 : Hid (∀ wr,Bel W0 wr -> wr.cell? ⟨w.heap.size,1,none⟩ = some (.slice a1 m.lv.length c1)/\Ow wr B 113 3 (.slice a1 m.lv.length c1) (m.lv.map rL)):=fun wr b => by
  exact ⟨(s0.call b).cells.2.1,h0.lv.call b⟩
 have E0:=Hid.mk (And.intro h0 (And.intro s0 (And.intro q0 b0)))
 clear h0 s0 q0 b0 o0
 generalize hG : w.heap.size = G at *
 replace hG:=Hid.mk hG
 generalize hl : m.lv = l at *
 replace hl:=Hid.mk hl
 have hg3 : G + 2 <= W0.heap.size:=by omega
 go_upto_region 3 with fail
 go_loopw [7,8,9] (fun v i _ wr => ∃ (k : Nat) (outL : List L3),k <= l.length/\i = .int .i64 k/\outL ++ List.filter (fun y : L3 => decide (y.1 ≠ id \/ 0 <= page/\y.2.1 ≠ page)) (l.drop k) = R0/\WbS W0 (G + 2) 113 3 v (outL.map rL) wr) (fun _ i _ _ => l.length - (intOf i).toNat)
 case atStart => exact ⟨0,[],Nat.zero_le _,rfl,by simpa using hR,S0.out⟩
 case round =>
  clear S0
  obtain ⟨k,outL,hk,rfl,hgo,hs⟩:=hrel
  obtain ⟨k1,hlv⟩:=C0.out wr hs.bel
  have hol : outL.length <= R0.length:=by rw [<- hgo,List.length_append]; omega
  have hwG : G + 2 <= wr.heap.size:=hs.le
  have hwG0 : G < wr.heap.size:=by omega
  have hwG1 : G + 1 < wr.heap.size:=by omega
  by_cases hkn : k < l.length
  ·obtain ⟨g,rfl,hgB,hgl,d0,d1,d2⟩:=hlv.at3 hkn
   rw [dropC l k (0,0,0) hkn] at hgo
   generalize l.getD k (0,0,0) = y at *
   obtain ⟨y1,y2,y3⟩:=y
   simp only at d0 d1 d2
   have HS:=Hid.mk (And.intro hs hol)
   clear hs hol hlv
   have hlen : outL.length < 900000:=by have:=HS.out.2; omega
   by_cases h1 : y1 = id
   ·by_cases h2 : 0 <= page
    ·by_cases h3 : y2 = page
     ·rw [List.filter_cons,if_neg (by simp; omega)] at hgo
      have HG:=Hid.mk hgo
      clear hgo
      have f1 : (y1 != id) = false:=by first | (simp; done) | (simp; omega)
      have f2 : decide (0 <= page) = true:=by first | (simp; done) | (simp; omega)
      have f3 : (y2 != page) = false:=by first | (simp; done) | (simp; omega)
      clear h1 h2 h3
      go_wp2_with fail
      exact ⟨⟨k + 1,outL,by omega,by go_num,HG.out,HS.out.1.al _⟩,by simp [intOf]; omega⟩
     ·rw [List.filter_cons,if_pos (by simp; omega)] at hgo
      have HG:=Hid.mk hgo
      clear hgo
      have f1 : (y1 != id) = false:=by first | (simp; done) | (simp; omega)
      have f2 : decide (0 <= page) = true:=by first | (simp; done) | (simp; omega)
      have f3 : (y2 != page) = true:=by first | (simp; done) | (simp; omega)
      clear h1 h2 h3
      go_wp2_with (first | (at_builtin; refine wp_app ei113 rfl _ _ rfl (HS.out.1.out.alloc _) (by rw [size_alloc]; omega) #[.int .i64 y1,.int .i64 y2,.int .i64 y3] rfl (by first | rfl | (simp only [size_alloc]; rfl)) rfl (by simp [Value.oneCell']) (by rw [List.length_map]; omega) ?_; intro v4 w4 o4 g4 p4))
      have N4:=HS.out.1.app ((Bel.refl wr).alloc _) g4 o4
      exact ⟨⟨k + 1,outL ++ [(y1,y2,y3)],by omega,by go_num,by have:=HG.out; simpa [List.append_assoc] using this,by rw [List.map_append]; exact N4⟩,by simp [intOf]; omega⟩
    ·rw [List.filter_cons,if_neg (by simp; omega)] at hgo
     have HG:=Hid.mk hgo
     clear hgo
     have f1 : (y1 != id) = false:=by first | (simp; done) | (simp; omega)
     have f2 : decide (0 <= page) = false:=by first | (simp; done) | (simp; omega)
     clear h1 h2
     go_wp2_with fail
     exact ⟨⟨k + 1,outL,by omega,by go_num,HG.out,HS.out.1.al _⟩,by simp [intOf]; omega⟩
   ·rw [List.filter_cons,if_pos (by simp; omega)] at hgo
    have HG:=Hid.mk hgo
    clear hgo
    have f1 : (y1 != id) = true:=by first | (simp; done) | (simp; omega)
    clear h1
    go_wp2_with (first | (at_builtin; refine wp_app ei113 rfl _ _ rfl (HS.out.1.out.alloc _) (by rw [size_alloc]; omega) #[.int .i64 y1,.int .i64 y2,.int .i64 y3] rfl (by first | rfl | (simp only [size_alloc]; rfl)) rfl (by simp [Value.oneCell']) (by rw [List.length_map]; omega) ?_; intro v4 w4 o4 g4 p4))
    have N4:=HS.out.1.app ((Bel.refl wr).alloc _) g4 o4
    exact ⟨⟨k + 1,outL ++ [(y1,y2,y3)],by omega,by go_num,by have:=HG.out; simpa [List.append_assoc] using this,by rw [List.map_append]; exact N4⟩,by simp [intOf]; omega⟩
  ·have hk2 : k = l.length:=by omega
   subst hk2
   rw [List.drop_length,List.filter_nil] at hgo
   obtain ⟨va,vn,vc,rfl⟩:=hs.out.isSl
   have HS:=Hid.mk (And.intro hs hol)
   clear hs hol hlv
   have hlen : outL.length < 900000:=by have:=HS.out.2; omega
   obtain ⟨f0,s0,q0,b0⟩:=E0.out
   have hwG2 : G + 1 < wr.heap.size:=by omega
   have CC : Hid (∀ w5,Bel W0 w5 -> (w5.cell? ⟨G,0,none⟩ = some (.slice a0 n0 c0)/\w5.cell? ⟨G,1,none⟩ = some (.slice a1 l.length c1)/\w5.cell? ⟨G,2,none⟩ = some (.slice a2 n2 c2)/\w5.cell? ⟨G,3,none⟩ = some (.slice a3 n3 c3))/\(w5.cell? ⟨G + 1,0,none⟩ = some (.slice none 0 0)/\w5.cell? ⟨G + 1,1,none⟩ = some (.slice none 0 0)/\w5.cell? ⟨G + 1,2,none⟩ = some (.slice none 0 0)/\w5.cell? ⟨G + 1,3,none⟩ = some (.slice none 0 0))/\(∀ j,w5.frozen? ⟨G,j,none⟩ = false) /\ ∀ j,w5.frozen? ⟨G + 1,j,none⟩ = false):=fun w5 b => ⟨(s0.call b).cells,(q0.call b).cells,fun j => (s0.call b).fz j,fun j => (q0.call b).fz j⟩
   have fin : Hid (∀ (v : Value) (w5 : World) (L : List L3),Bel W0 w5 -> Ow w5 (G + 2) 113 3 v (L.map rL) -> Box4 (set4 (w5.setCell ⟨G,1,none⟩ v) (G + 1) (.slice a0 n0 c0) v (.slice a2 n2 c2) (.slice a3 n3 c3)) (G + 1) (.slice a0 n0 c0) v (.slice a2 n2 c2) (.slice a3 n3 c3)/\RAt (set4 (w5.setCell ⟨G,1,none⟩ v) (G + 1) (.slice a0 n0 c0) v (.slice a2 n2 c2) (.slice a3 n3 c3)) B (.slice a0 n0 c0) v (.slice a2 n2 c2) (.slice a3 n3 c3) { m with lv:=L }/\(∀ g,v.ownBlock = some g -> w.heap.size <= g)/\Below w.heap.size w (set4 (w5.setCell ⟨G,1,none⟩ v) (G + 1) (.slice a0 n0 c0) v (.slice a2 n2 c2) (.slice a3 n3 c3))):=fun v w5 L b o => by
    have e:=hG.out
    subst e
    exact end_lv hB H.out b0 s0 q0 (by omega) b o
   clear f0 s0 q0 b0 E0 k1
   obtain ⟨⟨m00,m01,m02,m03⟩,⟨m20,m21,m22,m23⟩,fr,fs⟩:=CC.out wr HS.out.1.bel
   have fr1:=fr 1
   have g0:=fs 0
   have g1:=fs 1
   have g2:=fs 2
   have g3:=fs 3
   clear fr fs
   rw [List.append_nil] at hgo
   subst hgo
   go_wp2_with fail
   refine bodyPost_ret (st_result rfl rfl (fin.out _ _ _ HS.out.1.bel HS.out.1.out).1) rfl ?_
   have q:=(fin.out _ _ _ HS.out.1.bel HS.out.1.out).2
   exact ⟨_,rfl,q⟩
end Go.Proofs.YtaphpdmfjnhlaaaGreatDoor.S8
namespace Go.Proofs.YtaphpdmfjnhlaaaGreatDoor.S8
open Go Go.RowKit Go.Maps Gp Pg We
set_option maxRecDepth 20000 in
set_option maxHeartbeats 4000000 in
theorem rmade_any {w : World} {B v0 v1 v2 v3 m} (h : RAt w B v0 v1 v2 v3 m) (hn : m.sp.length < 100000) (hB : B <= w.heap.size) (x1 x2 : Int) (x3 : Bool) : Calls Tryz.prog 128 #[.agg #[v0,v1,v2,v3],.agg #[.int .i64 x1,.int .i64 x2,.bool x3]] w fun e w' => ∃ v,e = .returned (.agg #[v,v1,v2,v3])/\RAt w' B v v1 v2 v3 { m with sp:=gI (fun y : S3 => decide (x1 < y.1)) (fun y : S3 => decide (y.1 ≠ x1)) (x1,x2,x3) false m.sp }/\(∀ g,v.ownBlock = some g -> w.heap.size <= g)/\Below w.heap.size w w':=by
 obtain ⟨a1,n1,c1,rfl⟩:=h.lv.isSl
 obtain ⟨a2,n2,c2,rfl⟩:=h.bad.isSl
 obtain ⟨a3,n3,c3,rfl⟩:=h.worn.isSl
 obtain ⟨a0,c0,rfl⟩:=h.sp.form
 rw [List.length_map] at h |-
 generalize hR : gI (fun y : S3 => decide (x1 < y.1)) (fun y : S3 => decide (y.1 ≠ x1)) (x1,x2,x3) false m.sp = R0
 have hRl : R0.length <= m.sp.length + 1:=by rw [<- hR]; exact gI_len _ _ _ _
 have H:=Hid.mk h
 clear h
 go_enter Tryz.func128,Tryz.ntmps128
 go_upto_region 1 with fail
 have e0 : ((w.alloc (.cells #[.slice a0 m.sp.length c0,.slice a1 n1 c1,.slice a2 n2 c2,.slice a3 n3 c3] 38)).alloc (.cells #[.int .i64 x1,.int .i64 x2,.bool x3] 106)).heap.size = w.heap.size + 1 + 1:=by rw [size_alloc,size_alloc]
 have s0:=((Box4.fresh w (.slice a0 m.sp.length c0) (.slice a1 n1 c1) (.slice a2 n2 c2) (.slice a3 n3 c3)).alloc (.cells #[.int .i64 x1,.int .i64 x2,.bool x3] 106)).alloc (.cells #[.slice none 0 0,.slice none 0 0,.slice none 0 0,.slice none 0 0] 38)
 have q0:=Box4.fresh ((w.alloc (.cells #[.slice a0 m.sp.length c0,.slice a1 n1 c1,.slice a2 n2 c2,.slice a3 n3 c3] 38)).alloc (.cells #[.int .i64 x1,.int .i64 x2,.bool x3] 106)) (.slice none 0 0) (.slice none 0 0) (.slice none 0 0) (.slice none 0 0)
 rw [e0] at q0
 have r0 : ((w.alloc (.cells #[.slice a0 m.sp.length c0,.slice a1 n1 c1,.slice a2 n2 c2,.slice a3 n3 c3] 38)).alloc (.cells #[.int .i64 x1,.int .i64 x2,.bool x3] 106)).heap[w.heap.size + 1]? = some (.cells #[.int .i64 x1,.int .i64 x2,.bool x3] 106 (0,0)):=by
  have:=heap_alloc_new (w.alloc (.cells #[.slice a0 m.sp.length c0,.slice a1 n1 c1,.slice a2 n2 c2,.slice a3 n3 c3] 38)) (.cells #[.int .i64 x1,.int .i64 x2,.bool x3] 106)
  rw [size_alloc] at this
  exact this
 have t0:=(Below.heap_alloc _ (.cells #[.slice none 0 0,.slice none 0 0,.slice none 0 0,.slice none 0 0] 38) _ (by rw [e0]; omega)).trans r0
 have b0 : Bel w (((w.alloc (.cells #[.slice a0 m.sp.length c0,.slice a1 n1 c1,.slice a2 n2 c2,.slice a3 n3 c3] 38)).alloc (.cells #[.int .i64 x1,.int .i64 x2,.bool x3] 106)).alloc (.cells #[.slice none 0 0,.slice none 0 0,.slice none 0 0,.slice none 0 0] 38)):=(((Bel.refl w).alloc _).alloc _).alloc _
 have h0:=H.out.call b0
 have z0 : (((w.alloc (.cells #[.slice a0 m.sp.length c0,.slice a1 n1 c1,.slice a2 n2 c2,.slice a3 n3 c3] 38)).alloc (.cells #[.int .i64 x1,.int .i64 x2,.bool x3] 106)).alloc (.cells #[.slice none 0 0,.slice none 0 0,.slice none 0 0,.slice none 0 0] 38)).heap.size = w.heap.size + 3:=by rw [size_alloc,e0]
 generalize (((w.alloc (.cells #[.slice a0 m.sp.length c0,.slice a1 n1 c1,.slice a2 n2 c2,.slice a3 n3 c3] 38)).alloc (.cells #[.int .i64 x1,.int .i64 x2,.bool x3] 106)).alloc (.cells #[.slice none 0 0,.slice none 0 0,.slice none 0 0,.slice none 0 0] 38)) = W0 at *
 clear r0 e0
 have o0:=Ow.made W0 (B:=w.heap.size + 3) (by omega) 106 3
 rw [z0] at o0
 have S0 : WbS W0 (w.heap.size + 3) 106 3 (.slice (some ⟨w.heap.size + 3,0,none⟩) 0 0) [] (W0.alloc (.cells #[] 106)):=⟨o0,(Bel.refl W0).alloc _,z0⟩
 replace S0:=Hid.mk S0
 have C0 : Hid (∀ wr,Bel W0 wr -> wr.cell? ⟨w.heap.size,0,none⟩ = some (.slice a0 m.sp.length c0)/\wr.cell? ⟨w.heap.size + 1,0,none⟩ = some (.int .i64 x1)/\wr.cell? ⟨w.heap.size + 1,1,none⟩ = some (.int .i64 x2)/\wr.cell? ⟨w.heap.size + 1,2,none⟩ = some (.bool x3)/\Ow wr B 106 3 (.slice a0 m.sp.length c0) (m.sp.map rS)):=fun wr b => by
  have u:=(Below.block b _ (by omega)).trans t0
  refine ⟨(s0.call b).cells.1,?_,?_,?_,h0.sp.call b⟩ <;> (rw [cell_of_row wr _ _ _ 106 _ u]; rfl)
 have E0:=Hid.mk (And.intro h0 (And.intro s0 (And.intro q0 b0)))
 clear h0 s0 q0 b0 o0 t0
 generalize hG : w.heap.size = G at *
 replace hG:=Hid.mk hG
 generalize hl : m.sp = l at *
 replace hl:=Hid.mk hl
 have hg3 : G + 3 <= W0.heap.size:=by omega
 go_upto_region 3 with fail
 go_loopw [5,6,7] (fun v vb i wr => ∃ (k : Nat) (inn : Bool) (outL : List S3),k <= l.length/\vb = .bool inn/\i = .int .i64 k/\outL ++ gI (fun y : S3 => decide (x1 < y.1)) (fun y : S3 => decide (y.1 ≠ x1)) (x1,x2,x3) inn (l.drop k) = R0/\WbS W0 (G + 3) 106 3 v (outL.map rS) wr) (fun _ _ i _ => l.length - (intOf i).toNat)
 case atStart => exact ⟨0,false,[],Nat.zero_le _,rfl,rfl,by simpa using hR,S0.out⟩
 case round =>
  clear S0
  obtain ⟨k,inn,outL,hk,rfl,rfl,hgo,hs⟩:=hrel
  obtain ⟨k1,j0,j1,j2,hlv⟩:=C0.out wr hs.bel
  have hol : outL.length <= R0.length:=by rw [<- hgo,List.length_append]; omega
  have hwG : G + 3 <= wr.heap.size:=hs.le
  have hwG0 : G < wr.heap.size:=by omega
  have hwG1 : G + 1 < wr.heap.size:=by omega
  by_cases hkn : k < l.length
  ·obtain ⟨g,rfl,hgB,hgl,d0,d1,d2⟩:=hlv.at3s hkn
   rw [dropC l k (0,0,false) hkn] at hgo
   obtain ⟨y,hyv⟩ : ∃ y,l.getD k (0,0,false) = y:=⟨_,rfl⟩
   rw [hyv] at d0 d1 d2 hgo
   obtain ⟨y1,y2,y3⟩:=y
   simp only at d0 d1 d2
   replace hyv:=Hid.mk hyv
   have HS:=Hid.mk (And.intro hs hol)
   clear hs hol hlv
   have hlen : outL.length < 900000:=by have:=HS.out.2; omega
   cases inn
   ·rcases Int.lt_trichotomy x1 y1 with hr | hr | hr
    ·have h5:=gI_case (fun y : S3 => decide (x1 < y.1)) (fun y : S3 => decide (y.1 ≠ x1)) (x1,x2,x3) (y1,y2,y3) false true true (l.drop (k + 1)) (by first | (simp; done) | (simp; omega)) (by first | (simp; done) | (simp; omega))
     have hgo2 : outL ++ ([(x1,x2,x3)] ++ [(y1,y2,y3)] ++ gI (fun y : S3 => decide (x1 < y.1)) (fun y : S3 => decide (y.1 ≠ x1)) (x1,x2,x3) true (l.drop (k + 1))) = R0:=by rw [h5] at hgo; exact hgo
     have HG:=Hid.mk hgo2
     clear h5 hgo hgo2
     have f1 : decide (x1 < y1) = true:=by first | (simp; done) | (simp; omega)
     have f2 : (y1 != x1) = true:=by first | (simp; done) | (simp; omega)
     clear hr
     go_upto_region 5 with fail
     go_quiet (fail)
     go_upto_region 7 with (first | (at_builtin; refine wp_app ei106 rfl _ _ rfl ((HS.out.1.dr _).out) ((HS.out.1.dr _).le) #[.int .i64 x1,.int .i64 x2,.bool x3] rfl (by first | rfl | (simp only [size_alloc]; rfl)) rfl (by simp [Value.oneCell']) (by rw [List.length_map]; omega) ?_; intro v3 w3 o3 g3 p3))
     have N3:=(HS.out.1.dr _).app (Bel.refl _) g3 o3
     obtain ⟨kk1,jj0,jj1,jj2,hlv3⟩:=C0.out w3 N3.bel
     obtain ⟨g3x,e3x,_,_,dd0,dd1,dd2⟩:=hlv3.at3s hkn
     cases e3x
     rw [hyv.out] at dd0 dd1 dd2
     simp only at dd0 dd1 dd2
     clear hlv3 p3
     have hw3 : G + 3 <= w3.heap.size:=N3.le
     have hw30 : G < w3.heap.size:=by omega
     have hw31 : G + 1 < w3.heap.size:=by omega
     replace N3:=Hid.mk N3
     clear o3 g3
     go_quiet (fail)
     go_wp2_with (first | (at_builtin; refine wp_app ei106 rfl _ _ rfl ((N3.out.dr _).out) ((N3.out.dr _).le) #[.int .i64 y1,.int .i64 y2,.bool y3] rfl (by first | rfl | (simp only [size_alloc]; rfl)) rfl (by simp [Value.oneCell']) (by (rw [List.length_append,List.length_map,List.length_singleton]; omega)) ?_; intro v4 w4 o4 g4 p4))
     have N4:=(N3.out.dr _).app (Bel.refl _) g4 o4
     exact ⟨⟨k + 1,true,outL ++ [(x1,x2,x3)] ++ [(y1,y2,y3)],by omega,rfl,by go_num,by have:=HG.out; simpa [List.append_assoc] using this,by rw [List.map_append,List.map_append]; exact N4⟩,by simp [intOf]; omega⟩
    ·have h5:=gI_case (fun y : S3 => decide (x1 < y.1)) (fun y : S3 => decide (y.1 ≠ x1)) (x1,x2,x3) (y1,y2,y3) false false false (l.drop (k + 1)) (by first | (simp; done) | (simp; omega)) (by first | (simp; done) | (simp; omega))
     have hgo2 : outL ++ ([] ++ [] ++ gI (fun y : S3 => decide (x1 < y.1)) (fun y : S3 => decide (y.1 ≠ x1)) (x1,x2,x3) false (l.drop (k + 1))) = R0:=by rw [h5] at hgo; exact hgo
     have HG:=Hid.mk hgo2
     clear h5 hgo hgo2
     have f1 : decide (x1 < y1) = false:=by first | (simp; done) | (simp; omega)
     have f2 : (y1 != x1) = false:=by first | (simp; done) | (simp; omega)
     clear hr
     go_upto_region 5 with fail
     go_quiet (fail)
     go_upto_region 7 with fail
     go_quiet (fail)
     go_wp2_with fail
     exact ⟨⟨k + 1,false,outL,by omega,rfl,by go_num,by have:=HG.out; simpa [List.append_assoc] using this,HS.out.1.dr _⟩,by simp [intOf]; omega⟩
    ·have h5:=gI_case (fun y : S3 => decide (x1 < y.1)) (fun y : S3 => decide (y.1 ≠ x1)) (x1,x2,x3) (y1,y2,y3) false false true (l.drop (k + 1)) (by first | (simp; done) | (simp; omega)) (by first | (simp; done) | (simp; omega))
     have hgo2 : outL ++ ([] ++ [(y1,y2,y3)] ++ gI (fun y : S3 => decide (x1 < y.1)) (fun y : S3 => decide (y.1 ≠ x1)) (x1,x2,x3) false (l.drop (k + 1))) = R0:=by rw [h5] at hgo; exact hgo
     have HG:=Hid.mk hgo2
     clear h5 hgo hgo2
     have f1 : decide (x1 < y1) = false:=by first | (simp; done) | (simp; omega)
     have f2 : (y1 != x1) = true:=by first | (simp; done) | (simp; omega)
     clear hr
     go_upto_region 5 with fail
     go_quiet (fail)
     go_upto_region 7 with fail
     go_quiet (fail)
     go_wp2_with (first | (at_builtin; refine wp_app ei106 rfl _ _ rfl ((HS.out.1.dr _).out) ((HS.out.1.dr _).le) #[.int .i64 y1,.int .i64 y2,.bool y3] rfl (by first | rfl | (simp only [size_alloc]; rfl)) rfl (by simp [Value.oneCell']) (by rw [List.length_map]; omega) ?_; intro v4 w4 o4 g4 p4))
     have N4:=(HS.out.1.dr _).app (Bel.refl _) g4 o4
     exact ⟨⟨k + 1,false,outL ++ [(y1,y2,y3)],by omega,rfl,by go_num,by have:=HG.out; simpa [List.append_assoc] using this,by rw [List.map_append]; exact N4⟩,by simp [intOf]; omega⟩
   ·rcases Int.lt_trichotomy x1 y1 with hr | hr | hr
    ·have h5:=gI_case (fun y : S3 => decide (x1 < y.1)) (fun y : S3 => decide (y.1 ≠ x1)) (x1,x2,x3) (y1,y2,y3) true true true (l.drop (k + 1)) (by first | (simp; done) | (simp; omega)) (by first | (simp; done) | (simp; omega))
     have hgo2 : outL ++ ([] ++ [(y1,y2,y3)] ++ gI (fun y : S3 => decide (x1 < y.1)) (fun y : S3 => decide (y.1 ≠ x1)) (x1,x2,x3) true (l.drop (k + 1))) = R0:=by rw [h5] at hgo; exact hgo
     have HG:=Hid.mk hgo2
     clear h5 hgo hgo2
     have f1 : decide (x1 < y1) = true:=by first | (simp; done) | (simp; omega)
     have f2 : (y1 != x1) = true:=by first | (simp; done) | (simp; omega)
     clear hr
     go_upto_region 5 with fail
     go_quiet (fail)
     go_upto_region 7 with fail
     go_quiet (fail)
     go_wp2_with (first | (at_builtin; refine wp_app ei106 rfl _ _ rfl ((HS.out.1.dr _).out) ((HS.out.1.dr _).le) #[.int .i64 y1,.int .i64 y2,.bool y3] rfl (by first | rfl | (simp only [size_alloc]; rfl)) rfl (by simp [Value.oneCell']) (by rw [List.length_map]; omega) ?_; intro v4 w4 o4 g4 p4))
     have N4:=(HS.out.1.dr _).app (Bel.refl _) g4 o4
     exact ⟨⟨k + 1,true,outL ++ [(y1,y2,y3)],by omega,rfl,by go_num,by have:=HG.out; simpa [List.append_assoc] using this,by rw [List.map_append]; exact N4⟩,by simp [intOf]; omega⟩
    ·have h5:=gI_case (fun y : S3 => decide (x1 < y.1)) (fun y : S3 => decide (y.1 ≠ x1)) (x1,x2,x3) (y1,y2,y3) true false false (l.drop (k + 1)) (by first | (simp; done) | (simp; omega)) (by first | (simp; done) | (simp; omega))
     have hgo2 : outL ++ ([] ++ [] ++ gI (fun y : S3 => decide (x1 < y.1)) (fun y : S3 => decide (y.1 ≠ x1)) (x1,x2,x3) true (l.drop (k + 1))) = R0:=by rw [h5] at hgo; exact hgo
     have HG:=Hid.mk hgo2
     clear h5 hgo hgo2
     have f1 : decide (x1 < y1) = false:=by first | (simp; done) | (simp; omega)
     have f2 : (y1 != x1) = false:=by first | (simp; done) | (simp; omega)
     clear hr
     go_upto_region 5 with fail
     go_quiet (fail)
     go_upto_region 7 with fail
     go_quiet (fail)
     go_wp2_with fail
     exact ⟨⟨k + 1,true,outL,by omega,rfl,by go_num,by have:=HG.out; simpa [List.append_assoc] using this,HS.out.1.dr _⟩,by simp [intOf]; omega⟩
    ·have h5:=gI_case (fun y : S3 => decide (x1 < y.1)) (fun y : S3 => decide (y.1 ≠ x1)) (x1,x2,x3) (y1,y2,y3) true false true (l.drop (k + 1)) (by first | (simp; done) | (simp; omega)) (by first | (simp; done) | (simp; omega))
     have hgo2 : outL ++ ([] ++ [(y1,y2,y3)] ++ gI (fun y : S3 => decide (x1 < y.1)) (fun y : S3 => decide (y.1 ≠ x1)) (x1,x2,x3) true (l.drop (k + 1))) = R0:=by rw [h5] at hgo; exact hgo
     have HG:=Hid.mk hgo2
     clear h5 hgo hgo2
     have f1 : decide (x1 < y1) = false:=by first | (simp; done) | (simp; omega)
     have f2 : (y1 != x1) = true:=by first | (simp; done) | (simp; omega)
     clear hr
     go_upto_region 5 with fail
     go_quiet (fail)
     go_upto_region 7 with fail
     go_quiet (fail)
     go_wp2_with (first | (at_builtin; refine wp_app ei106 rfl _ _ rfl ((HS.out.1.dr _).out) ((HS.out.1.dr _).le) #[.int .i64 y1,.int .i64 y2,.bool y3] rfl (by first | rfl | (simp only [size_alloc]; rfl)) rfl (by simp [Value.oneCell']) (by rw [List.length_map]; omega) ?_; intro v4 w4 o4 g4 p4))
     have N4:=(HS.out.1.dr _).app (Bel.refl _) g4 o4
     exact ⟨⟨k + 1,true,outL ++ [(y1,y2,y3)],by omega,rfl,by go_num,by have:=HG.out; simpa [List.append_assoc] using this,by rw [List.map_append]; exact N4⟩,by simp [intOf]; omega⟩
  ·have hk2 : k = l.length:=by omega
   subst hk2
   rw [List.drop_length,gI] at hgo
   obtain ⟨va,vn,vc,rfl⟩:=hs.out.isSl
   have HS:=Hid.mk (And.intro hs hol)
   clear hs hol hlv
   have hlen : outL.length < 900000:=by have:=HS.out.2; omega
   obtain ⟨f0,s0,q0,b0⟩:=E0.out
   have hwG2 : G + 1 + 1 < wr.heap.size:=by omega
   have CC : Hid (∀ w5,Bel W0 w5 -> (w5.cell? ⟨G,0,none⟩ = some (.slice a0 l.length c0)/\w5.cell? ⟨G,1,none⟩ = some (.slice a1 n1 c1)/\w5.cell? ⟨G,2,none⟩ = some (.slice a2 n2 c2)/\w5.cell? ⟨G,3,none⟩ = some (.slice a3 n3 c3))/\(w5.cell? ⟨G + 1 + 1,0,none⟩ = some (.slice none 0 0)/\w5.cell? ⟨G + 1 + 1,1,none⟩ = some (.slice none 0 0)/\w5.cell? ⟨G + 1 + 1,2,none⟩ = some (.slice none 0 0)/\w5.cell? ⟨G + 1 + 1,3,none⟩ = some (.slice none 0 0))/\(∀ j,w5.frozen? ⟨G,j,none⟩ = false) /\ ∀ j,w5.frozen? ⟨G + 1 + 1,j,none⟩ = false):=fun w5 b => ⟨(s0.call b).cells,(q0.call b).cells,fun j => (s0.call b).fz j,fun j => (q0.call b).fz j⟩
   have fin : Hid (∀ (v : Value) (w5 : World) (L : List S3),Bel W0 w5 -> Ow w5 (G + 3) 106 3 v (L.map rS) -> Box4 (set4 (w5.setCell ⟨G,0,none⟩ v) (G + 1 + 1) v (.slice a1 n1 c1) (.slice a2 n2 c2) (.slice a3 n3 c3)) (G + 1 + 1) v (.slice a1 n1 c1) (.slice a2 n2 c2) (.slice a3 n3 c3)/\RAt (set4 (w5.setCell ⟨G,0,none⟩ v) (G + 1 + 1) v (.slice a1 n1 c1) (.slice a2 n2 c2) (.slice a3 n3 c3)) B v (.slice a1 n1 c1) (.slice a2 n2 c2) (.slice a3 n3 c3) { m with sp:=L }/\(∀ g,v.ownBlock = some g -> w.heap.size <= g)/\Below w.heap.size w (set4 (w5.setCell ⟨G,0,none⟩ v) (G + 1 + 1) v (.slice a1 n1 c1) (.slice a2 n2 c2) (.slice a3 n3 c3))):=fun v w5 L b o => by
    have e:=hG.out
    subst e
    exact end_sp hB H.out b0 s0 q0 (by omega) b o
   clear f0 s0 q0 b0 E0 k1 j0 j1 j2
   obtain ⟨⟨m00,m01,m02,m03⟩,⟨m20,m21,m22,m23⟩,fr,fs⟩:=CC.out wr HS.out.1.bel
   obtain ⟨_,j0,j1,j2,_⟩:=C0.out wr HS.out.1.bel
   have fr1:=fr 0
   have g0:=fs 0
   have g1:=fs 1
   have g2:=fs 2
   have g3:=fs 3
   clear fr fs
   cases inn
   ·rw [if_neg (by simp)] at hgo
    subst hgo
    go_upto_region 11 with (first | (at_builtin; refine wp_app ei106 rfl _ _ rfl HS.out.1.out (HS.out.1.le) #[.int .i64 x1,.int .i64 x2,.bool x3] rfl (by first | rfl | (simp only [size_alloc]; rfl)) rfl (by simp [Value.oneCell']) (by rw [List.length_map]; omega) ?_; intro v5 w5 o5 g5 p5))
    have N5:=HS.out.1.app (Bel.refl wr) g5 o5
    obtain ⟨va5,vn5,vc5,rfl⟩:=N5.out.isSl
    obtain ⟨⟨t00,t01,t02,t03⟩,⟨t20,t21,t22,t23⟩,tr,ts⟩:=CC.out w5 N5.bel
    have tr1:=tr 0
    have s0:=ts 0
    have s1:=ts 1
    have s2:=ts 2
    have s3:=ts 3
    have N6 : WbS W0 (G + 3) 106 3 (.slice va5 vn5 vc5) ((outL ++ [(x1,x2,x3)]).map rS) w5:=by rw [List.map_append]; exact N5
    replace N5:=Hid.mk N6
    clear N6 tr ts o5 g5 p5 m00 m01 m02 m03 m20 m21 m22 m23 fr1 g0 g1 g2 g3 j0 j1 j2
    go_wp2_with fail
    refine bodyPost_ret (st_result rfl rfl (fin.out _ _ _ N5.out.bel N5.out.out).1) rfl ?_
    have q:=(fin.out _ _ _ N5.out.bel N5.out.out).2
    exact ⟨_,rfl,q⟩
   ·rw [if_pos rfl,List.append_nil] at hgo
    subst hgo
    go_wp2_with fail
    refine bodyPost_ret (st_result rfl rfl (fin.out _ _ _ HS.out.1.bel HS.out.1.out).1) rfl ?_
    have q:=(fin.out _ _ _ HS.out.1.bel HS.out.1.out).2
    exact ⟨_,rfl,q⟩
set_option maxRecDepth 20000 in
set_option maxHeartbeats 4000000 in
theorem rbad_any {w : World} {B v0 v1 v2 v3 m} (h : RAt w B v0 v1 v2 v3 m) (hn : m.bad.length < 100000) (hB : B <= w.heap.size) (b : Int) : Calls Tryz.prog 129 #[.agg #[v0,v1,v2,v3],.int .i64 b] w fun e w' => ∃ v,e = .returned (.agg #[v0,v1,v,v3])/\RAt w' B v0 v1 v v3 { m with bad:=gI (fun y : Int => decide (b <= y)) (fun y : Int => decide (y ≠ b)) b false m.bad }/\(∀ g,v.ownBlock = some g -> w.heap.size <= g)/\Below w.heap.size w w':=by
 obtain ⟨a0,n0,c0,rfl⟩:=h.sp.isSl
 obtain ⟨a1,n1,c1,rfl⟩:=h.lv.isSl
 obtain ⟨a3,n3,c3,rfl⟩:=h.worn.isSl
 obtain ⟨a2,c2,rfl⟩:=h.bad.form
 rw [rI_len] at h |-
 generalize hR : gI (fun y : Int => decide (b <= y)) (fun y : Int => decide (y ≠ b)) b false m.bad = R0
 have hRl : R0.length <= m.bad.length + 1:=by rw [<- hR]; exact gI_len _ _ _ _
 have H:=Hid.mk h
 clear h
 go_enter Tryz.func129,Tryz.ntmps129
 go_upto_region 1 with fail
 have e0 : (w.alloc (.cells #[.slice a0 n0 c0,.slice a1 n1 c1,.slice a2 m.bad.length c2,.slice a3 n3 c3] 38)).heap.size = w.heap.size + 1:=by rw [size_alloc]
 have s0:=(Box4.fresh w (.slice a0 n0 c0) (.slice a1 n1 c1) (.slice a2 m.bad.length c2) (.slice a3 n3 c3)).alloc (.cells #[.slice none 0 0,.slice none 0 0,.slice none 0 0,.slice none 0 0] 38)
 have q0:=Box4.fresh (w.alloc (.cells #[.slice a0 n0 c0,.slice a1 n1 c1,.slice a2 m.bad.length c2,.slice a3 n3 c3] 38)) (.slice none 0 0) (.slice none 0 0) (.slice none 0 0) (.slice none 0 0)
 rw [e0] at q0
 have b0 : Bel w ((w.alloc (.cells #[.slice a0 n0 c0,.slice a1 n1 c1,.slice a2 m.bad.length c2,.slice a3 n3 c3] 38)).alloc (.cells #[.slice none 0 0,.slice none 0 0,.slice none 0 0,.slice none 0 0] 38)):=((Bel.refl w).alloc _).alloc _
 have h0:=H.out.call b0
 have z0 : ((w.alloc (.cells #[.slice a0 n0 c0,.slice a1 n1 c1,.slice a2 m.bad.length c2,.slice a3 n3 c3] 38)).alloc (.cells #[.slice none 0 0,.slice none 0 0,.slice none 0 0,.slice none 0 0] 38)).heap.size = w.heap.size + 2:=by rw [size_alloc,e0]
 generalize ((w.alloc (.cells #[.slice a0 n0 c0,.slice a1 n1 c1,.slice a2 m.bad.length c2,.slice a3 n3 c3] 38)).alloc (.cells #[.slice none 0 0,.slice none 0 0,.slice none 0 0,.slice none 0 0] 38)) = W0 at *
 clear e0
 have o0:=Ow.made W0 (B:=w.heap.size + 2) (by omega) 3 1
 rw [z0] at o0
 have S0 : WbS W0 (w.heap.size + 2) 3 1 (.slice (some ⟨w.heap.size + 2,0,none⟩) 0 0) [] (W0.alloc (.cells #[] 3)):=⟨o0,(Bel.refl W0).alloc _,z0⟩
 replace S0:=Hid.mk S0
 have C0 : Hid (∀ wr,Bel W0 wr -> wr.cell? ⟨w.heap.size,2,none⟩ = some (.slice a2 m.bad.length c2)/\Ow wr B 3 1 (.slice a2 m.bad.length c2) (m.bad.map (fun i : Int => [Value.int .i64 i]))):=fun wr b => by
  exact ⟨(s0.call b).cells.2.2.1,h0.bad.call b⟩
 have E0:=Hid.mk (And.intro h0 (And.intro s0 (And.intro q0 b0)))
 clear h0 s0 q0 b0 o0
 generalize hG : w.heap.size = G at *
 replace hG:=Hid.mk hG
 generalize hl : m.bad = l at *
 replace hl:=Hid.mk hl
 have hg3 : G + 2 <= W0.heap.size:=by omega
 go_upto_region 3 with fail
 go_loopw [5,6,7] (fun v vb i wr => ∃ (k : Nat) (inn : Bool) (outL : List Int),k <= l.length/\vb = .bool inn/\i = .int .i64 k/\outL ++ gI (fun y : Int => decide (b <= y)) (fun y : Int => decide (y ≠ b)) b inn (l.drop k) = R0/\WbS W0 (G + 2) 3 1 v (outL.map (fun i : Int => [Value.int .i64 i])) wr) (fun _ _ i _ => l.length - (intOf i).toNat)
 case atStart => exact ⟨0,false,[],Nat.zero_le _,rfl,rfl,by simpa using hR,S0.out⟩
 case round =>
  clear S0
  obtain ⟨k,inn,outL,hk,rfl,rfl,hgo,hs⟩:=hrel
  obtain ⟨k1,hlv⟩:=C0.out wr hs.bel
  have hol : outL.length <= R0.length:=by rw [<- hgo,List.length_append]; omega
  have hwG : G + 2 <= wr.heap.size:=hs.le
  have hwG0 : G < wr.heap.size:=by omega
  have hwG1 : G + 1 < wr.heap.size:=by omega
  by_cases hkn : k < l.length
  ·obtain ⟨g,rfl,hgB,hgl,d0⟩:=hlv.intAt hkn
   rw [dropC l k 0 hkn] at hgo
   obtain ⟨y,hyv⟩ : ∃ y,l.getD k 0 = y:=⟨_,rfl⟩
   rw [hyv] at d0 hgo
   replace hyv:=Hid.mk hyv
   have HS:=Hid.mk (And.intro hs hol)
   clear hs hol hlv
   have hlen : outL.length < 900000:=by have:=HS.out.2; omega
   cases inn
   ·rcases Int.lt_trichotomy b y with hr | hr | hr
    ·have h5:=gI_case (fun y : Int => decide (b <= y)) (fun y : Int => decide (y ≠ b)) b y false true true (l.drop (k + 1)) (by first | (simp; done) | (simp; omega)) (by first | (simp; done) | (simp; omega))
     have hgo2 : outL ++ ([b] ++ [y] ++ gI (fun y : Int => decide (b <= y)) (fun y : Int => decide (y ≠ b)) b true (l.drop (k + 1))) = R0:=by rw [h5] at hgo; exact hgo
     have HG:=Hid.mk hgo2
     clear h5 hgo hgo2
     have f1 : decide (b <= y) = true:=by first | (simp; done) | (simp; omega)
     have f2 : (y != b) = true:=by first | (simp; done) | (simp; omega)
     clear hr
     go_upto_region 7 with (first | (at_builtin; refine wp_app ei3 rfl _ _ rfl (HS.out.1.out) (HS.out.1.le) #[.int .i64 b] rfl (by first | rfl | (simp only [size_alloc]; rfl)) rfl (by simp [Value.oneCell']) (by rw [List.length_map]; omega) ?_; intro v3 w3 o3 g3 p3))
     have N3:=HS.out.1.app (Bel.refl _) g3 o3
     obtain ⟨kk1,hlv3⟩:=C0.out w3 N3.bel
     obtain ⟨g3x,e3x,_,_,dd0⟩:=hlv3.intAt hkn
     cases e3x
     rw [hyv.out] at dd0
     clear hlv3 p3
     have hw3 : G + 2 <= w3.heap.size:=N3.le
     have hw30 : G < w3.heap.size:=by omega
     have hw31 : G + 1 < w3.heap.size:=by omega
     replace N3:=Hid.mk N3
     clear o3 g3
     go_wp2_with (first | (at_builtin; refine wp_app ei3 rfl _ _ rfl (N3.out.out) (N3.out.le) #[.int .i64 y] rfl (by first | rfl | (simp only [size_alloc]; rfl)) rfl (by simp [Value.oneCell']) (by (rw [List.length_append,List.length_map,List.length_singleton]; omega)) ?_; intro v4 w4 o4 g4 p4))
     have N4:=N3.out.app (Bel.refl _) g4 o4
     exact ⟨⟨k + 1,true,outL ++ [b] ++ [y],by omega,rfl,by go_num,by have:=HG.out; simpa [List.append_assoc] using this,by rw [List.map_append,List.map_append]; exact N4⟩,by simp [intOf]; omega⟩
    ·have h5:=gI_case (fun y : Int => decide (b <= y)) (fun y : Int => decide (y ≠ b)) b y false true false (l.drop (k + 1)) (by first | (simp; done) | (simp; omega)) (by first | (simp; done) | (simp; omega))
     have hgo2 : outL ++ ([b] ++ [] ++ gI (fun y : Int => decide (b <= y)) (fun y : Int => decide (y ≠ b)) b true (l.drop (k + 1))) = R0:=by rw [h5] at hgo; exact hgo
     have HG:=Hid.mk hgo2
     clear h5 hgo hgo2
     have f1 : decide (b <= y) = true:=by first | (simp; done) | (simp; omega)
     have f2 : (y != b) = false:=by first | (simp; done) | (simp; omega)
     clear hr
     go_upto_region 7 with (first | (at_builtin; refine wp_app ei3 rfl _ _ rfl (HS.out.1.out) (HS.out.1.le) #[.int .i64 b] rfl (by first | rfl | (simp only [size_alloc]; rfl)) rfl (by simp [Value.oneCell']) (by rw [List.length_map]; omega) ?_; intro v3 w3 o3 g3 p3))
     have N3:=HS.out.1.app (Bel.refl _) g3 o3
     obtain ⟨kk1,hlv3⟩:=C0.out w3 N3.bel
     obtain ⟨g3x,e3x,_,_,dd0⟩:=hlv3.intAt hkn
     cases e3x
     rw [hyv.out] at dd0
     clear hlv3 p3
     have hw3 : G + 2 <= w3.heap.size:=N3.le
     have hw30 : G < w3.heap.size:=by omega
     have hw31 : G + 1 < w3.heap.size:=by omega
     replace N3:=Hid.mk N3
     clear o3 g3
     go_wp2_with fail
     exact ⟨⟨k + 1,true,outL ++ [b],by omega,rfl,by go_num,by have:=HG.out; simpa [List.append_assoc] using this,by rw [List.map_append]; exact N3.out⟩,by simp [intOf]; omega⟩
    ·have h5:=gI_case (fun y : Int => decide (b <= y)) (fun y : Int => decide (y ≠ b)) b y false false true (l.drop (k + 1)) (by first | (simp; done) | (simp; omega)) (by first | (simp; done) | (simp; omega))
     have hgo2 : outL ++ ([] ++ [y] ++ gI (fun y : Int => decide (b <= y)) (fun y : Int => decide (y ≠ b)) b false (l.drop (k + 1))) = R0:=by rw [h5] at hgo; exact hgo
     have HG:=Hid.mk hgo2
     clear h5 hgo hgo2
     have f1 : decide (b <= y) = false:=by first | (simp; done) | (simp; omega)
     have f2 : (y != b) = true:=by first | (simp; done) | (simp; omega)
     clear hr
     go_wp2_with (first | (at_builtin; refine wp_app ei3 rfl _ _ rfl (HS.out.1.out) (HS.out.1.le) #[.int .i64 y] rfl (by first | rfl | (simp only [size_alloc]; rfl)) rfl (by simp [Value.oneCell']) (by rw [List.length_map]; omega) ?_; intro v4 w4 o4 g4 p4))
     have N4:=HS.out.1.app (Bel.refl _) g4 o4
     exact ⟨⟨k + 1,false,outL ++ [y],by omega,rfl,by go_num,by have:=HG.out; simpa [List.append_assoc] using this,by rw [List.map_append]; exact N4⟩,by simp [intOf]; omega⟩
   ·rcases Int.lt_trichotomy b y with hr | hr | hr
    ·have h5:=gI_case (fun y : Int => decide (b <= y)) (fun y : Int => decide (y ≠ b)) b y true true true (l.drop (k + 1)) (by first | (simp; done) | (simp; omega)) (by first | (simp; done) | (simp; omega))
     have hgo2 : outL ++ ([] ++ [y] ++ gI (fun y : Int => decide (b <= y)) (fun y : Int => decide (y ≠ b)) b true (l.drop (k + 1))) = R0:=by rw [h5] at hgo; exact hgo
     have HG:=Hid.mk hgo2
     clear h5 hgo hgo2
     have f1 : decide (b <= y) = true:=by first | (simp; done) | (simp; omega)
     have f2 : (y != b) = true:=by first | (simp; done) | (simp; omega)
     clear hr
     go_wp2_with (first | (at_builtin; refine wp_app ei3 rfl _ _ rfl (HS.out.1.out) (HS.out.1.le) #[.int .i64 y] rfl (by first | rfl | (simp only [size_alloc]; rfl)) rfl (by simp [Value.oneCell']) (by rw [List.length_map]; omega) ?_; intro v4 w4 o4 g4 p4))
     have N4:=HS.out.1.app (Bel.refl _) g4 o4
     exact ⟨⟨k + 1,true,outL ++ [y],by omega,rfl,by go_num,by have:=HG.out; simpa [List.append_assoc] using this,by rw [List.map_append]; exact N4⟩,by simp [intOf]; omega⟩
    ·have h5:=gI_case (fun y : Int => decide (b <= y)) (fun y : Int => decide (y ≠ b)) b y true true false (l.drop (k + 1)) (by first | (simp; done) | (simp; omega)) (by first | (simp; done) | (simp; omega))
     have hgo2 : outL ++ ([] ++ [] ++ gI (fun y : Int => decide (b <= y)) (fun y : Int => decide (y ≠ b)) b true (l.drop (k + 1))) = R0:=by rw [h5] at hgo; exact hgo
     have HG:=Hid.mk hgo2
     clear h5 hgo hgo2
     have f1 : decide (b <= y) = true:=by first | (simp; done) | (simp; omega)
     have f2 : (y != b) = false:=by first | (simp; done) | (simp; omega)
     clear hr
     go_wp2_with fail
     exact ⟨⟨k + 1,true,outL,by omega,rfl,by go_num,by have:=HG.out; simpa [List.append_assoc] using this,HS.out.1⟩,by simp [intOf]; omega⟩
    ·have h5:=gI_case (fun y : Int => decide (b <= y)) (fun y : Int => decide (y ≠ b)) b y true false true (l.drop (k + 1)) (by first | (simp; done) | (simp; omega)) (by first | (simp; done) | (simp; omega))
     have hgo2 : outL ++ ([] ++ [y] ++ gI (fun y : Int => decide (b <= y)) (fun y : Int => decide (y ≠ b)) b true (l.drop (k + 1))) = R0:=by rw [h5] at hgo; exact hgo
     have HG:=Hid.mk hgo2
     clear h5 hgo hgo2
     have f1 : decide (b <= y) = false:=by first | (simp; done) | (simp; omega)
     have f2 : (y != b) = true:=by first | (simp; done) | (simp; omega)
     clear hr
     go_wp2_with (first | (at_builtin; refine wp_app ei3 rfl _ _ rfl (HS.out.1.out) (HS.out.1.le) #[.int .i64 y] rfl (by first | rfl | (simp only [size_alloc]; rfl)) rfl (by simp [Value.oneCell']) (by rw [List.length_map]; omega) ?_; intro v4 w4 o4 g4 p4))
     have N4:=HS.out.1.app (Bel.refl _) g4 o4
     exact ⟨⟨k + 1,true,outL ++ [y],by omega,rfl,by go_num,by have:=HG.out; simpa [List.append_assoc] using this,by rw [List.map_append]; exact N4⟩,by simp [intOf]; omega⟩
  ·have hk2 : k = l.length:=by omega
   subst hk2
   rw [List.drop_length,gI] at hgo
   obtain ⟨va,vn,vc,rfl⟩:=hs.out.isSl
   have HS:=Hid.mk (And.intro hs hol)
   clear hs hol hlv
   have hlen : outL.length < 900000:=by have:=HS.out.2; omega
   obtain ⟨f0,s0,q0,b0⟩:=E0.out
   have hwG2 : G + 1 < wr.heap.size:=by omega
   have CC : Hid (∀ w5,Bel W0 w5 -> (w5.cell? ⟨G,0,none⟩ = some (.slice a0 n0 c0)/\w5.cell? ⟨G,1,none⟩ = some (.slice a1 n1 c1)/\w5.cell? ⟨G,2,none⟩ = some (.slice a2 l.length c2)/\w5.cell? ⟨G,3,none⟩ = some (.slice a3 n3 c3))/\(w5.cell? ⟨G + 1,0,none⟩ = some (.slice none 0 0)/\w5.cell? ⟨G + 1,1,none⟩ = some (.slice none 0 0)/\w5.cell? ⟨G + 1,2,none⟩ = some (.slice none 0 0)/\w5.cell? ⟨G + 1,3,none⟩ = some (.slice none 0 0))/\(∀ j,w5.frozen? ⟨G,j,none⟩ = false) /\ ∀ j,w5.frozen? ⟨G + 1,j,none⟩ = false):=fun w5 b => ⟨(s0.call b).cells,(q0.call b).cells,fun j => (s0.call b).fz j,fun j => (q0.call b).fz j⟩
   have fin : Hid (∀ (v : Value) (w5 : World) (L : List Int),Bel W0 w5 -> Ow w5 (G + 2) 3 1 v (L.map (fun i : Int => [Value.int .i64 i])) -> Box4 (set4 (w5.setCell ⟨G,2,none⟩ v) (G + 1) (.slice a0 n0 c0) (.slice a1 n1 c1) v (.slice a3 n3 c3)) (G + 1) (.slice a0 n0 c0) (.slice a1 n1 c1) v (.slice a3 n3 c3)/\RAt (set4 (w5.setCell ⟨G,2,none⟩ v) (G + 1) (.slice a0 n0 c0) (.slice a1 n1 c1) v (.slice a3 n3 c3)) B (.slice a0 n0 c0) (.slice a1 n1 c1) v (.slice a3 n3 c3) { m with bad:=L }/\(∀ g,v.ownBlock = some g -> w.heap.size <= g)/\Below w.heap.size w (set4 (w5.setCell ⟨G,2,none⟩ v) (G + 1) (.slice a0 n0 c0) (.slice a1 n1 c1) v (.slice a3 n3 c3))):=fun v w5 L b o => by
    have e:=hG.out
    subst e
    exact end_bad hB H.out b0 s0 q0 (by omega) b o
   clear f0 s0 q0 b0 E0 k1
   obtain ⟨⟨m00,m01,m02,m03⟩,⟨m20,m21,m22,m23⟩,fr,fs⟩:=CC.out wr HS.out.1.bel
   have fr1:=fr 2
   have g0:=fs 0
   have g1:=fs 1
   have g2:=fs 2
   have g3:=fs 3
   clear fr fs
   cases inn
   ·rw [if_neg (by simp)] at hgo
    subst hgo
    go_upto_region 11 with (first | (at_builtin; refine wp_app ei3 rfl _ _ rfl HS.out.1.out (HS.out.1.le) #[.int .i64 b] rfl (by first | rfl | (simp only [size_alloc]; rfl)) rfl (by simp [Value.oneCell']) (by rw [List.length_map]; omega) ?_; intro v5 w5 o5 g5 p5))
    have N5:=HS.out.1.app (Bel.refl wr) g5 o5
    obtain ⟨va5,vn5,vc5,rfl⟩:=N5.out.isSl
    obtain ⟨⟨t00,t01,t02,t03⟩,⟨t20,t21,t22,t23⟩,tr,ts⟩:=CC.out w5 N5.bel
    have tr1:=tr 2
    have s0:=ts 0
    have s1:=ts 1
    have s2:=ts 2
    have s3:=ts 3
    have N6 : WbS W0 (G + 2) 3 1 (.slice va5 vn5 vc5) ((outL ++ [b]).map (fun i : Int => [Value.int .i64 i])) w5:=by rw [List.map_append]; exact N5
    replace N5:=Hid.mk N6
    clear N6 tr ts o5 g5 p5 m00 m01 m02 m03 m20 m21 m22 m23 fr1 g0 g1 g2 g3
    go_wp2_with fail
    refine bodyPost_ret (st_result rfl rfl (fin.out _ _ _ N5.out.bel N5.out.out).1) rfl ?_
    have q:=(fin.out _ _ _ N5.out.bel N5.out.out).2
    exact ⟨_,rfl,q⟩
   ·rw [if_pos rfl,List.append_nil] at hgo
    subst hgo
    go_wp2_with fail
    refine bodyPost_ret (st_result rfl rfl (fin.out _ _ _ HS.out.1.bel HS.out.1.out).1) rfl ?_
    have q:=(fin.out _ _ _ HS.out.1.bel HS.out.1.out).2
    exact ⟨_,rfl,q⟩
def hitW (b n : Int) (l : Pl) : Bool:=l.any fun y => decide (y.1 = b) && decide (n < y.2)
theorem hitW_cons (b n : Int) (y : Int × Int) (l : Pl) : hitW b n (y :: l) = ((decide (y.1 = b) && decide (n < y.2)) || hitW b n l):=rfl
theorem end_same {w W0 wr : World} {B gR Bo : Nat} {v0 v1 v2 v3 z0 z1 z2 z3 : Value} {m : Rs} (H : RAt w B v0 v1 v2 v3 m) (b0 : Bel w W0) (q0 : Box4 W0 gR z0 z1 z2 z3) (hgR : w.heap.size < gR/\gR < Bo) (bel : Bel W0 wr) :
  Box4 (set4 wr gR v0 v1 v2 v3) gR v0 v1 v2 v3/\RAt (set4 wr gR v0 v1 v2 v3) B v0 v1 v2 v3 m/\Below w.heap.size w (set4 wr gR v0 v1 v2 v3):=by
 have k2:=set4_kp wr w.heap.size gR v0 v1 v2 v3
 exact ⟨set4_box (q0.call bel) _ _ _ _,⟨((H.sp.call b0).call bel).kp k2 (fun e => by have:=(H.sp.lt _ e).2; omega) (fun e => by have:=(H.sp.lt _ e).2; omega),
  ((H.lv.call b0).call bel).kp k2 (fun e => by have:=(H.lv.lt _ e).2; omega) (fun e => by have:=(H.lv.lt _ e).2; omega),
  ((H.bad.call b0).call bel).kp k2 (fun e => by have:=(H.bad.lt _ e).2; omega) (fun e => by have:=(H.bad.lt _ e).2; omega),
  ((H.worn.call b0).call bel).kp k2 (fun e => by have:=(H.worn.lt _ e).2; omega) (fun e => by have:=(H.worn.lt _ e).2; omega)⟩,kp_bel (b0.trans bel) k2 (Nat.le_refl _) (by omega)⟩
set_option maxRecDepth 20000 in
set_option maxHeartbeats 4000000 in
theorem rworn_any {w : World} {B v0 v1 v2 v3 m} (h : RAt w B v0 v1 v2 v3 m) (hn : m.worn.length < 100000) (hB : B <= w.heap.size) (b n : Int) : Calls Tryz.prog 130 #[.agg #[v0,v1,v2,v3],.int .i64 b,.int .i64 n] w fun e w' => ∃ v,e = .returned (.agg #[v0,v1,v2,v])/\RAt w' B v0 v1 v2 v { m with worn:=(if hitW b n m.worn = true then m.worn else gI (fun y : Int × Int => decide (b <= y.1)) (fun y : Int × Int => decide (y.1 ≠ b)) (b,n) false m.worn) }/\(∀ g,v.ownBlock = some g -> w.heap.size <= g \/ v3.ownBlock = some g)/\Below w.heap.size w w':=by
 obtain ⟨a0,n0,c0,rfl⟩:=h.sp.isSl
 obtain ⟨a1,n1,c1,rfl⟩:=h.lv.isSl
 obtain ⟨a2,n2,c2,rfl⟩:=h.bad.isSl
 obtain ⟨a3,c3,rfl⟩:=h.worn.form
 rw [List.length_map] at h |-
 generalize hH : hitW b n m.worn = h0
 generalize hR : gI (fun y : Int × Int => decide (b <= y.1)) (fun y : Int × Int => decide (y.1 ≠ b)) (b,n) false m.worn = R0
 have hRl : R0.length <= m.worn.length + 1:=by rw [<- hR]; exact gI_len _ _ _ _
 have H:=Hid.mk h
 clear h
 go_enter Tryz.func130,Tryz.ntmps130
 go_upto_region 1 with fail
 have e0 : (w.alloc (.cells #[.slice a0 n0 c0,.slice a1 n1 c1,.slice a2 n2 c2,.slice a3 m.worn.length c3] 38)).heap.size = w.heap.size + 1:=by rw [size_alloc]
 have s0:=(Box4.fresh w (.slice a0 n0 c0) (.slice a1 n1 c1) (.slice a2 n2 c2) (.slice a3 m.worn.length c3)).alloc (.cells #[.slice none 0 0,.slice none 0 0,.slice none 0 0,.slice none 0 0] 38)
 have q0:=Box4.fresh (w.alloc (.cells #[.slice a0 n0 c0,.slice a1 n1 c1,.slice a2 n2 c2,.slice a3 m.worn.length c3] 38)) (.slice none 0 0) (.slice none 0 0) (.slice none 0 0) (.slice none 0 0)
 rw [e0] at q0
 have b0 : Bel w ((w.alloc (.cells #[.slice a0 n0 c0,.slice a1 n1 c1,.slice a2 n2 c2,.slice a3 m.worn.length c3] 38)).alloc (.cells #[.slice none 0 0,.slice none 0 0,.slice none 0 0,.slice none 0 0] 38)):=((Bel.refl w).alloc _).alloc _
 have h0:=H.out.call b0
 have z0 : ((w.alloc (.cells #[.slice a0 n0 c0,.slice a1 n1 c1,.slice a2 n2 c2,.slice a3 m.worn.length c3] 38)).alloc (.cells #[.slice none 0 0,.slice none 0 0,.slice none 0 0,.slice none 0 0] 38)).heap.size = w.heap.size + 2:=by rw [size_alloc,e0]
 generalize ((w.alloc (.cells #[.slice a0 n0 c0,.slice a1 n1 c1,.slice a2 n2 c2,.slice a3 m.worn.length c3] 38)).alloc (.cells #[.slice none 0 0,.slice none 0 0,.slice none 0 0,.slice none 0 0] 38)) = W0 at *
 clear e0
 have o0:=Ow.made W0 (B:=w.heap.size + 2) (by omega) 162 2
 rw [z0] at o0
 have S0 : WbS W0 (w.heap.size + 2) 162 2 (.slice (some ⟨w.heap.size + 2,0,none⟩) 0 0) [] (W0.alloc (.cells #[] 162)):=⟨o0,(Bel.refl W0).alloc _,z0⟩
 replace S0:=Hid.mk S0
 have C0 : Hid (∀ wr,Bel W0 wr -> wr.cell? ⟨w.heap.size,3,none⟩ = some (.slice a3 m.worn.length c3)/\Ow wr B 162 2 (.slice a3 m.worn.length c3) (m.worn.map rP)):=fun wr b => by
  exact ⟨(s0.call b).cells.2.2.2,h0.worn.call b⟩
 have E0:=Hid.mk (And.intro h0 (And.intro s0 (And.intro q0 b0)))
 clear h0 s0 q0 b0 o0
 generalize hG : w.heap.size = G at *
 replace hG:=Hid.mk hG
 generalize hl : m.worn = l at *
 replace hl:=Hid.mk hl
 have hg3 : G + 2 <= W0.heap.size:=by omega
 go_upto_region 3 with fail
 go_loopw [7,8,9,10] (fun v vb i _ wr => ∃ (k : Nat) (inn : Bool) (outL : Pl),k <= l.length/\vb = .bool inn/\i = .int .i64 k/\hitW b n (l.drop k) = h0/\outL ++ gI (fun y : Int × Int => decide (b <= y.1)) (fun y : Int × Int => decide (y.1 ≠ b)) (b,n) inn (l.drop k) = R0/\WbS W0 (G + 2) 162 2 v (outL.map rP) wr) (fun _ _ i _ _ => l.length - (intOf i).toNat)
 case atStart => exact ⟨0,false,[],Nat.zero_le _,rfl,rfl,by simpa using hH,by simpa using hR,S0.out⟩
 case round =>
  clear S0
  obtain ⟨k,inn,outL,hk,rfl,rfl,hh,hgo,hs⟩:=hrel
  obtain ⟨k1,hlv⟩:=C0.out wr hs.bel
  have hol : outL.length <= R0.length:=by rw [<- hgo,List.length_append]; omega
  have hwG : G + 2 <= wr.heap.size:=hs.le
  have hwG0 : G < wr.heap.size:=by omega
  have hwG1 : G + 1 < wr.heap.size:=by omega
  by_cases hkn : k < l.length
  ·obtain ⟨g,rfl,hgB,hgl,d0,d1⟩:=hlv.at2 hkn
   rw [dropC l k (0,0) hkn] at hgo hh
   generalize l.getD k (0,0) = y at *
   obtain ⟨y1,y2⟩:=y
   simp only at d0 d1
   have HS:=Hid.mk (And.intro hs hol)
   clear hs hol hlv
   have hlen : outL.length < 900000:=by have:=HS.out.2; omega
   cases inn
   ·rcases Int.lt_trichotomy b y1 with hr | hr | hr
    ·rw [hitW_cons,show (decide ((y1,y2).1 = b) && decide (n < (y1,y2).2)) = false by simp; omega,Bool.false_or] at hh
     have HH:=Hid.mk hh
     clear hh
     have f4 : (y1 == b) = false:=by simp; omega
     have h5:=gI_case (fun y : Int × Int => decide (b <= y.1)) (fun y : Int × Int => decide (y.1 ≠ b)) (b,n) (y1,y2) false true true (l.drop (k + 1)) (by first | (simp; done) | (simp; omega)) (by first | (simp; done) | (simp; omega))
     have hgo2 : outL ++ ([(b,n)] ++ [(y1,y2)] ++ gI (fun y : Int × Int => decide (b <= y.1)) (fun y : Int × Int => decide (y.1 ≠ b)) (b,n) true (l.drop (k + 1))) = R0:=by rw [h5] at hgo; exact hgo
     have HG:=Hid.mk hgo2
     clear h5 hgo hgo2
     have f1 : decide (b <= y1) = true:=by first | (simp; done) | (simp; omega)
     have f2 : (y1 != b) = true:=by first | (simp; done) | (simp; omega)
     clear hr
     go_upto_region 10 with (first | (at_builtin; refine wp_app ei162 rfl _ _ rfl (HS.out.1.out.alloc _) (by rw [size_alloc]; omega) #[.int .i64 b,.int .i64 n] rfl (by first | rfl | (simp only [size_alloc]; rfl)) rfl (by simp [Value.oneCell']) (by rw [List.length_map]; omega) ?_; intro v3 w3 o3 g3 p3))
     have N3:=HS.out.1.app ((Bel.refl wr).alloc _) g3 o3
     obtain ⟨kk1,hlv3⟩:=C0.out w3 N3.bel
     have yk:=cells_kept g3 HS.out.1.out
     have yc0 : w3.cell? ⟨wr.heap.size,0,none⟩ = some (.int .i64 y1):=by rw [cell_of_row w3 _ _ _ 162 _ yk]; rfl
     have yc1 : w3.cell? ⟨wr.heap.size,1,none⟩ = some (.int .i64 y2):=by rw [cell_of_row w3 _ _ _ 162 _ yk]; rfl
     have hwl : wr.heap.size < w3.heap.size:=(Array.getElem?_eq_some_iff.1 yk).1
     clear yk
     clear hlv3 p3
     have hw3 : G + 2 <= w3.heap.size:=N3.le
     have hw30 : G < w3.heap.size:=by omega
     have hw31 : G + 1 < w3.heap.size:=by omega
     replace N3:=Hid.mk N3
     clear o3 g3
     go_wp2_with (first | (at_builtin; refine wp_app ei162 rfl _ _ rfl (N3.out.out) (N3.out.le) #[.int .i64 y1,.int .i64 y2] rfl (by first | rfl | (simp only [size_alloc]; rfl)) rfl (by simp [Value.oneCell']) (by (rw [List.length_append,List.length_map,List.length_singleton]; omega)) ?_; intro v4 w4 o4 g4 p4))
     have N4:=N3.out.app (Bel.refl _) g4 o4
     exact ⟨⟨k + 1,true,outL ++ [(b,n)] ++ [(y1,y2)],by omega,rfl,by go_num,HH.out,by have:=HG.out; simpa [List.append_assoc] using this,by rw [List.map_append,List.map_append]; exact N4⟩,by simp [intOf]; omega⟩
    ·have f4 : (y1 == b) = true:=by simp; omega
     by_cases hit : n < y2
     ·rw [hitW_cons,show (decide ((y1,y2).1 = b) && decide (n < (y1,y2).2)) = true by simp; omega,Bool.true_or] at hh
      have f5 : decide (n < y2) = true:=decide_eq_true hit
      obtain ⟨f0,s0,q0,b0⟩:=E0.out
      have hwG2 : G + 1 < wr.heap.size:=by omega
      obtain ⟨m00,m01,m02,m03⟩:=(s0.call HS.out.1.bel).cells
      obtain ⟨m20,m21,m22,m23⟩:=(q0.call HS.out.1.bel).cells
      have g0:=(q0.call HS.out.1.bel).fz 0
      have g1:=(q0.call HS.out.1.bel).fz 1
      have g2:=(q0.call HS.out.1.bel).fz 2
      have g3:=(q0.call HS.out.1.bel).fz 3
      have fin : Hid (∀ w5,Bel W0 w5 -> Box4 (set4 w5 (G + 1) (.slice a0 n0 c0) (.slice a1 n1 c1) (.slice a2 n2 c2) (.slice (some ⟨g,0,none⟩) l.length c3)) (G + 1) (.slice a0 n0 c0) (.slice a1 n1 c1) (.slice a2 n2 c2) (.slice (some ⟨g,0,none⟩) l.length c3)/\RAt (set4 w5 (G + 1) (.slice a0 n0 c0) (.slice a1 n1 c1) (.slice a2 n2 c2) (.slice (some ⟨g,0,none⟩) l.length c3)) B (.slice a0 n0 c0) (.slice a1 n1 c1) (.slice a2 n2 c2) (.slice (some ⟨g,0,none⟩) l.length c3) m/\Below w.heap.size w (set4 w5 (G + 1) (.slice a0 n0 c0) (.slice a1 n1 c1) (.slice a2 n2 c2) (.slice (some ⟨g,0,none⟩) l.length c3))):=fun w5 b => by
       have e:=hG.out
       subst e
       exact end_same (Bo:=w.heap.size + 2) H.out b0 q0 (by omega) b
      subst hh
      clear f0 s0 q0 b0 E0 k1 hit hr hgo
      go_wp2_with fail
      have q:=fin.out wr HS.out.1.bel
      refine bodyPost_ret (st_result rfl rfl (q.1.alloc _)) rfl ?_
      refine ⟨_,rfl,?_,fun g hg => .inr hg,q.2.2.alloc q.2.2.size _⟩
      exact q.2.1.alloc _
     have f5 : decide (n < y2) = false:=decide_eq_false hit
     rw [hitW_cons,show (decide ((y1,y2).1 = b) && decide (n < (y1,y2).2)) = false by simp; omega,Bool.false_or] at hh
     have HH:=Hid.mk hh
     clear hh hit
     have h5:=gI_case (fun y : Int × Int => decide (b <= y.1)) (fun y : Int × Int => decide (y.1 ≠ b)) (b,n) (y1,y2) false true false (l.drop (k + 1)) (by first | (simp; done) | (simp; omega)) (by first | (simp; done) | (simp; omega))
     have hgo2 : outL ++ ([(b,n)] ++ [] ++ gI (fun y : Int × Int => decide (b <= y.1)) (fun y : Int × Int => decide (y.1 ≠ b)) (b,n) true (l.drop (k + 1))) = R0:=by rw [h5] at hgo; exact hgo
     have HG:=Hid.mk hgo2
     clear h5 hgo hgo2
     have f1 : decide (b <= y1) = true:=by first | (simp; done) | (simp; omega)
     have f2 : (y1 != b) = false:=by first | (simp; done) | (simp; omega)
     clear hr
     go_upto_region 10 with (first | (at_builtin; refine wp_app ei162 rfl _ _ rfl (HS.out.1.out.alloc _) (by rw [size_alloc]; omega) #[.int .i64 b,.int .i64 n] rfl (by first | rfl | (simp only [size_alloc]; rfl)) rfl (by simp [Value.oneCell']) (by rw [List.length_map]; omega) ?_; intro v3 w3 o3 g3 p3))
     have N3:=HS.out.1.app ((Bel.refl wr).alloc _) g3 o3
     obtain ⟨kk1,hlv3⟩:=C0.out w3 N3.bel
     have yk:=cells_kept g3 HS.out.1.out
     have yc0 : w3.cell? ⟨wr.heap.size,0,none⟩ = some (.int .i64 y1):=by rw [cell_of_row w3 _ _ _ 162 _ yk]; rfl
     have yc1 : w3.cell? ⟨wr.heap.size,1,none⟩ = some (.int .i64 y2):=by rw [cell_of_row w3 _ _ _ 162 _ yk]; rfl
     have hwl : wr.heap.size < w3.heap.size:=(Array.getElem?_eq_some_iff.1 yk).1
     clear yk
     clear hlv3 p3
     have hw3 : G + 2 <= w3.heap.size:=N3.le
     have hw30 : G < w3.heap.size:=by omega
     have hw31 : G + 1 < w3.heap.size:=by omega
     replace N3:=Hid.mk N3
     clear o3 g3
     go_wp2_with fail
     exact ⟨⟨k + 1,true,outL ++ [(b,n)],by omega,rfl,by go_num,HH.out,by have:=HG.out; simpa [List.append_assoc] using this,by rw [List.map_append]; exact N3.out⟩,by simp [intOf]; omega⟩
    ·rw [hitW_cons,show (decide ((y1,y2).1 = b) && decide (n < (y1,y2).2)) = false by simp; omega,Bool.false_or] at hh
     have HH:=Hid.mk hh
     clear hh
     have f4 : (y1 == b) = false:=by simp; omega
     have h5:=gI_case (fun y : Int × Int => decide (b <= y.1)) (fun y : Int × Int => decide (y.1 ≠ b)) (b,n) (y1,y2) false false true (l.drop (k + 1)) (by first | (simp; done) | (simp; omega)) (by first | (simp; done) | (simp; omega))
     have hgo2 : outL ++ ([] ++ [(y1,y2)] ++ gI (fun y : Int × Int => decide (b <= y.1)) (fun y : Int × Int => decide (y.1 ≠ b)) (b,n) false (l.drop (k + 1))) = R0:=by rw [h5] at hgo; exact hgo
     have HG:=Hid.mk hgo2
     clear h5 hgo hgo2
     have f1 : decide (b <= y1) = false:=by first | (simp; done) | (simp; omega)
     have f2 : (y1 != b) = true:=by first | (simp; done) | (simp; omega)
     clear hr
     go_wp2_with (first | (at_builtin; refine wp_app ei162 rfl _ _ rfl (HS.out.1.out.alloc _) (by rw [size_alloc]; omega) #[.int .i64 y1,.int .i64 y2] rfl (by first | rfl | (simp only [size_alloc]; rfl)) rfl (by simp [Value.oneCell']) (by rw [List.length_map]; omega) ?_; intro v4 w4 o4 g4 p4))
     have N4:=HS.out.1.app ((Bel.refl wr).alloc _) g4 o4
     exact ⟨⟨k + 1,false,outL ++ [(y1,y2)],by omega,rfl,by go_num,HH.out,by have:=HG.out; simpa [List.append_assoc] using this,by rw [List.map_append]; exact N4⟩,by simp [intOf]; omega⟩
   ·rcases Int.lt_trichotomy b y1 with hr | hr | hr
    ·rw [hitW_cons,show (decide ((y1,y2).1 = b) && decide (n < (y1,y2).2)) = false by simp; omega,Bool.false_or] at hh
     have HH:=Hid.mk hh
     clear hh
     have f4 : (y1 == b) = false:=by simp; omega
     have h5:=gI_case (fun y : Int × Int => decide (b <= y.1)) (fun y : Int × Int => decide (y.1 ≠ b)) (b,n) (y1,y2) true true true (l.drop (k + 1)) (by first | (simp; done) | (simp; omega)) (by first | (simp; done) | (simp; omega))
     have hgo2 : outL ++ ([] ++ [(y1,y2)] ++ gI (fun y : Int × Int => decide (b <= y.1)) (fun y : Int × Int => decide (y.1 ≠ b)) (b,n) true (l.drop (k + 1))) = R0:=by rw [h5] at hgo; exact hgo
     have HG:=Hid.mk hgo2
     clear h5 hgo hgo2
     have f1 : decide (b <= y1) = true:=by first | (simp; done) | (simp; omega)
     have f2 : (y1 != b) = true:=by first | (simp; done) | (simp; omega)
     clear hr
     go_wp2_with (first | (at_builtin; refine wp_app ei162 rfl _ _ rfl (HS.out.1.out.alloc _) (by rw [size_alloc]; omega) #[.int .i64 y1,.int .i64 y2] rfl (by first | rfl | (simp only [size_alloc]; rfl)) rfl (by simp [Value.oneCell']) (by rw [List.length_map]; omega) ?_; intro v4 w4 o4 g4 p4))
     have N4:=HS.out.1.app ((Bel.refl wr).alloc _) g4 o4
     exact ⟨⟨k + 1,true,outL ++ [(y1,y2)],by omega,rfl,by go_num,HH.out,by have:=HG.out; simpa [List.append_assoc] using this,by rw [List.map_append]; exact N4⟩,by simp [intOf]; omega⟩
    ·have f4 : (y1 == b) = true:=by simp; omega
     by_cases hit : n < y2
     ·rw [hitW_cons,show (decide ((y1,y2).1 = b) && decide (n < (y1,y2).2)) = true by simp; omega,Bool.true_or] at hh
      have f5 : decide (n < y2) = true:=decide_eq_true hit
      obtain ⟨f0,s0,q0,b0⟩:=E0.out
      have hwG2 : G + 1 < wr.heap.size:=by omega
      obtain ⟨m00,m01,m02,m03⟩:=(s0.call HS.out.1.bel).cells
      obtain ⟨m20,m21,m22,m23⟩:=(q0.call HS.out.1.bel).cells
      have g0:=(q0.call HS.out.1.bel).fz 0
      have g1:=(q0.call HS.out.1.bel).fz 1
      have g2:=(q0.call HS.out.1.bel).fz 2
      have g3:=(q0.call HS.out.1.bel).fz 3
      have fin : Hid (∀ w5,Bel W0 w5 -> Box4 (set4 w5 (G + 1) (.slice a0 n0 c0) (.slice a1 n1 c1) (.slice a2 n2 c2) (.slice (some ⟨g,0,none⟩) l.length c3)) (G + 1) (.slice a0 n0 c0) (.slice a1 n1 c1) (.slice a2 n2 c2) (.slice (some ⟨g,0,none⟩) l.length c3)/\RAt (set4 w5 (G + 1) (.slice a0 n0 c0) (.slice a1 n1 c1) (.slice a2 n2 c2) (.slice (some ⟨g,0,none⟩) l.length c3)) B (.slice a0 n0 c0) (.slice a1 n1 c1) (.slice a2 n2 c2) (.slice (some ⟨g,0,none⟩) l.length c3) m/\Below w.heap.size w (set4 w5 (G + 1) (.slice a0 n0 c0) (.slice a1 n1 c1) (.slice a2 n2 c2) (.slice (some ⟨g,0,none⟩) l.length c3))):=fun w5 b => by
       have e:=hG.out
       subst e
       exact end_same (Bo:=w.heap.size + 2) H.out b0 q0 (by omega) b
      subst hh
      clear f0 s0 q0 b0 E0 k1 hit hr hgo
      go_wp2_with fail
      have q:=fin.out wr HS.out.1.bel
      refine bodyPost_ret (st_result rfl rfl (q.1.alloc _)) rfl ?_
      refine ⟨_,rfl,?_,fun g hg => .inr hg,q.2.2.alloc q.2.2.size _⟩
      exact q.2.1.alloc _
     have f5 : decide (n < y2) = false:=decide_eq_false hit
     rw [hitW_cons,show (decide ((y1,y2).1 = b) && decide (n < (y1,y2).2)) = false by simp; omega,Bool.false_or] at hh
     have HH:=Hid.mk hh
     clear hh hit
     have h5:=gI_case (fun y : Int × Int => decide (b <= y.1)) (fun y : Int × Int => decide (y.1 ≠ b)) (b,n) (y1,y2) true true false (l.drop (k + 1)) (by first | (simp; done) | (simp; omega)) (by first | (simp; done) | (simp; omega))
     have hgo2 : outL ++ ([] ++ [] ++ gI (fun y : Int × Int => decide (b <= y.1)) (fun y : Int × Int => decide (y.1 ≠ b)) (b,n) true (l.drop (k + 1))) = R0:=by rw [h5] at hgo; exact hgo
     have HG:=Hid.mk hgo2
     clear h5 hgo hgo2
     have f1 : decide (b <= y1) = true:=by first | (simp; done) | (simp; omega)
     have f2 : (y1 != b) = false:=by first | (simp; done) | (simp; omega)
     clear hr
     go_wp2_with fail
     exact ⟨⟨k + 1,true,outL,by omega,rfl,by go_num,HH.out,by have:=HG.out; simpa [List.append_assoc] using this,HS.out.1.al _⟩,by simp [intOf]; omega⟩
    ·rw [hitW_cons,show (decide ((y1,y2).1 = b) && decide (n < (y1,y2).2)) = false by simp; omega,Bool.false_or] at hh
     have HH:=Hid.mk hh
     clear hh
     have f4 : (y1 == b) = false:=by simp; omega
     have h5:=gI_case (fun y : Int × Int => decide (b <= y.1)) (fun y : Int × Int => decide (y.1 ≠ b)) (b,n) (y1,y2) true false true (l.drop (k + 1)) (by first | (simp; done) | (simp; omega)) (by first | (simp; done) | (simp; omega))
     have hgo2 : outL ++ ([] ++ [(y1,y2)] ++ gI (fun y : Int × Int => decide (b <= y.1)) (fun y : Int × Int => decide (y.1 ≠ b)) (b,n) true (l.drop (k + 1))) = R0:=by rw [h5] at hgo; exact hgo
     have HG:=Hid.mk hgo2
     clear h5 hgo hgo2
     have f1 : decide (b <= y1) = false:=by first | (simp; done) | (simp; omega)
     have f2 : (y1 != b) = true:=by first | (simp; done) | (simp; omega)
     clear hr
     go_wp2_with (first | (at_builtin; refine wp_app ei162 rfl _ _ rfl (HS.out.1.out.alloc _) (by rw [size_alloc]; omega) #[.int .i64 y1,.int .i64 y2] rfl (by first | rfl | (simp only [size_alloc]; rfl)) rfl (by simp [Value.oneCell']) (by rw [List.length_map]; omega) ?_; intro v4 w4 o4 g4 p4))
     have N4:=HS.out.1.app ((Bel.refl wr).alloc _) g4 o4
     exact ⟨⟨k + 1,true,outL ++ [(y1,y2)],by omega,rfl,by go_num,HH.out,by have:=HG.out; simpa [List.append_assoc] using this,by rw [List.map_append]; exact N4⟩,by simp [intOf]; omega⟩
  ·have hk2 : k = l.length:=by omega
   subst hk2
   have hh2 : false = h0:=by rw [List.drop_length] at hh; exact hh
   subst hh2
   rw [List.drop_length,gI] at hgo
   obtain ⟨va,vn,vc,rfl⟩:=hs.out.isSl
   have HS:=Hid.mk (And.intro hs hol)
   clear hs hol hlv
   have hlen : outL.length < 900000:=by have:=HS.out.2; omega
   obtain ⟨f0,s0,q0,b0⟩:=E0.out
   have hwG2 : G + 1 < wr.heap.size:=by omega
   have CC : Hid (∀ w5,Bel W0 w5 -> (w5.cell? ⟨G,0,none⟩ = some (.slice a0 n0 c0)/\w5.cell? ⟨G,1,none⟩ = some (.slice a1 n1 c1)/\w5.cell? ⟨G,2,none⟩ = some (.slice a2 n2 c2)/\w5.cell? ⟨G,3,none⟩ = some (.slice a3 l.length c3))/\(w5.cell? ⟨G + 1,0,none⟩ = some (.slice none 0 0)/\w5.cell? ⟨G + 1,1,none⟩ = some (.slice none 0 0)/\w5.cell? ⟨G + 1,2,none⟩ = some (.slice none 0 0)/\w5.cell? ⟨G + 1,3,none⟩ = some (.slice none 0 0))/\(∀ j,w5.frozen? ⟨G,j,none⟩ = false) /\ ∀ j,w5.frozen? ⟨G + 1,j,none⟩ = false):=fun w5 b => ⟨(s0.call b).cells,(q0.call b).cells,fun j => (s0.call b).fz j,fun j => (q0.call b).fz j⟩
   have fin : Hid (∀ (v : Value) (w5 : World) (L : Pl),Bel W0 w5 -> Ow w5 (G + 2) 162 2 v (L.map rP) -> Box4 (set4 (w5.setCell ⟨G,3,none⟩ v) (G + 1) (.slice a0 n0 c0) (.slice a1 n1 c1) (.slice a2 n2 c2) v) (G + 1) (.slice a0 n0 c0) (.slice a1 n1 c1) (.slice a2 n2 c2) v/\RAt (set4 (w5.setCell ⟨G,3,none⟩ v) (G + 1) (.slice a0 n0 c0) (.slice a1 n1 c1) (.slice a2 n2 c2) v) B (.slice a0 n0 c0) (.slice a1 n1 c1) (.slice a2 n2 c2) v { m with worn:=L }/\(∀ g,v.ownBlock = some g -> w.heap.size <= g)/\Below w.heap.size w (set4 (w5.setCell ⟨G,3,none⟩ v) (G + 1) (.slice a0 n0 c0) (.slice a1 n1 c1) (.slice a2 n2 c2) v)):=fun v w5 L b o => by
    have e:=hG.out
    subst e
    exact end_worn hB H.out b0 s0 q0 (by omega) b o
   clear f0 s0 q0 b0 E0 k1
   obtain ⟨⟨m00,m01,m02,m03⟩,⟨m20,m21,m22,m23⟩,fr,fs⟩:=CC.out wr HS.out.1.bel
   have fr1:=fr 3
   have g0:=fs 0
   have g1:=fs 1
   have g2:=fs 2
   have g3:=fs 3
   clear fr fs
   cases inn
   ·rw [if_neg (by simp)] at hgo
    subst hgo
    go_upto_region 14 with (first | (at_builtin; refine wp_app ei162 rfl _ _ rfl HS.out.1.out (HS.out.1.le) #[.int .i64 b,.int .i64 n] rfl (by first | rfl | (simp only [size_alloc]; rfl)) rfl (by simp [Value.oneCell']) (by rw [List.length_map]; omega) ?_; intro v5 w5 o5 g5 p5))
    have N5:=HS.out.1.app (Bel.refl wr) g5 o5
    obtain ⟨va5,vn5,vc5,rfl⟩:=N5.out.isSl
    obtain ⟨⟨t00,t01,t02,t03⟩,⟨t20,t21,t22,t23⟩,tr,ts⟩:=CC.out w5 N5.bel
    have tr1:=tr 3
    have s0:=ts 0
    have s1:=ts 1
    have s2:=ts 2
    have s3:=ts 3
    have N6 : WbS W0 (G + 2) 162 2 (.slice va5 vn5 vc5) ((outL ++ [(b,n)]).map rP) w5:=by rw [List.map_append]; exact N5
    replace N5:=Hid.mk N6
    clear N6 tr ts o5 g5 p5 m00 m01 m02 m03 m20 m21 m22 m23 fr1 g0 g1 g2 g3
    go_wp2_with fail
    refine bodyPost_ret (st_result rfl rfl (fin.out _ _ _ N5.out.bel N5.out.out).1) rfl ?_
    have q:=(fin.out _ _ _ N5.out.bel N5.out.out).2
    exact ⟨_,rfl,q.1,fun g hg => .inl (q.2.1 g hg),q.2.2⟩
   ·rw [if_pos rfl,List.append_nil] at hgo
    subst hgo
    go_wp2_with fail
    refine bodyPost_ret (st_result rfl rfl (fin.out _ _ _ HS.out.1.bel HS.out.1.out).1) rfl ?_
    have q:=(fin.out _ _ _ HS.out.1.bel HS.out.1.out).2
    exact ⟨_,rfl,q.1,fun g hg => .inl (q.2.1 g hg),q.2.2⟩
set_option maxRecDepth 20000 in
set_option maxHeartbeats 4000000 in
theorem rdropped_any {w : World} {B v0 v1 v2 v3 m} (h : RAt w B v0 v1 v2 v3 m) (hn : m.sp.length < 100000) (hB : B <= w.heap.size) (hn2 : m.lv.length < 100000) (id : Int) : Calls Tryz.prog 133 #[.agg #[v0,v1,v2,v3],.int .i64 id] w fun e w' => ∃ v u,e = .returned (.agg #[v,u,v2,v3])/\RAt w' B v u v2 v3 { m with sp:=m.sp.filter (fun y : S3 => decide (y.1 ≠ id)),lv:=m.lv.filter (fun y : L3 => decide (y.1 ≠ id \/ (0 : Int) <= -1/\y.2.1 ≠ -1)) }/\(∀ g,v.ownBlock = some g -> w.heap.size <= g)/\(∀ g,u.ownBlock = some g -> w.heap.size <= g)/\Below w.heap.size w w':=by
 obtain ⟨a1,n1,c1,rfl⟩:=h.lv.isSl
 obtain ⟨a2,n2,c2,rfl⟩:=h.bad.isSl
 obtain ⟨a3,n3,c3,rfl⟩:=h.worn.isSl
 obtain ⟨a0,c0,rfl⟩:=h.sp.form
 rw [List.length_map] at h |-
 generalize hR : List.filter (fun y : S3 => decide (y.1 ≠ id)) m.sp = R0
 have hRl : R0.length <= m.sp.length + 1:=by rw [<- hR]; exact Nat.le_trans (List.length_filter_le _ _) (Nat.le_succ _)
 have H:=Hid.mk h
 clear h
 go_enter Tryz.func133,Tryz.ntmps133
 go_upto_region 1 with fail
 have e0 : (w.alloc (.cells #[.slice a0 m.sp.length c0,.slice a1 n1 c1,.slice a2 n2 c2,.slice a3 n3 c3] 38)).heap.size = w.heap.size + 1:=by rw [size_alloc]
 have s0:=(Box4.fresh w (.slice a0 m.sp.length c0) (.slice a1 n1 c1) (.slice a2 n2 c2) (.slice a3 n3 c3)).alloc (.cells #[.slice none 0 0,.slice none 0 0,.slice none 0 0,.slice none 0 0] 38)
 have q0:=Box4.fresh (w.alloc (.cells #[.slice a0 m.sp.length c0,.slice a1 n1 c1,.slice a2 n2 c2,.slice a3 n3 c3] 38)) (.slice none 0 0) (.slice none 0 0) (.slice none 0 0) (.slice none 0 0)
 rw [e0] at q0
 have b0 : Bel w ((w.alloc (.cells #[.slice a0 m.sp.length c0,.slice a1 n1 c1,.slice a2 n2 c2,.slice a3 n3 c3] 38)).alloc (.cells #[.slice none 0 0,.slice none 0 0,.slice none 0 0,.slice none 0 0] 38)):=((Bel.refl w).alloc _).alloc _
 have h0:=H.out.call b0
 have z0 : ((w.alloc (.cells #[.slice a0 m.sp.length c0,.slice a1 n1 c1,.slice a2 n2 c2,.slice a3 n3 c3] 38)).alloc (.cells #[.slice none 0 0,.slice none 0 0,.slice none 0 0,.slice none 0 0] 38)).heap.size = w.heap.size + 2:=by rw [size_alloc,e0]
 generalize ((w.alloc (.cells #[.slice a0 m.sp.length c0,.slice a1 n1 c1,.slice a2 n2 c2,.slice a3 n3 c3] 38)).alloc (.cells #[.slice none 0 0,.slice none 0 0,.slice none 0 0,.slice none 0 0] 38)) = W0 at *
 clear e0
 have o0:=Ow.made W0 (B:=w.heap.size + 2) (by omega) 106 3
 rw [z0] at o0
 have S0 : WbS W0 (w.heap.size + 2) 106 3 (.slice (some ⟨w.heap.size + 2,0,none⟩) 0 0) [] (W0.alloc (.cells #[] 106)):=⟨o0,(Bel.refl W0).alloc _,z0⟩
 replace S0:=Hid.mk S0
 have C0 : Hid (∀ wr,Bel W0 wr -> wr.cell? ⟨w.heap.size,0,none⟩ = some (.slice a0 m.sp.length c0)/\Ow wr B 106 3 (.slice a0 m.sp.length c0) (m.sp.map rS)):=fun wr b => by
  exact ⟨(s0.call b).cells.1,h0.sp.call b⟩
 have E0:=Hid.mk (And.intro h0 (And.intro s0 (And.intro q0 b0)))
 clear h0 s0 q0 b0 o0
 generalize hG : w.heap.size = G at *
 replace hG:=Hid.mk hG
 generalize hl : m.sp = l at *
 replace hl:=Hid.mk hl
 have hg3 : G + 2 <= W0.heap.size:=by omega
 go_upto_region 3 with fail
 go_loopw [5,6] (fun v i wr => ∃ (k : Nat) (outL : List S3),k <= l.length/\i = .int .i64 k/\outL ++ List.filter (fun y : S3 => decide (y.1 ≠ id)) (l.drop k) = R0/\WbS W0 (G + 2) 106 3 v (outL.map rS) wr) (fun _ i _ => l.length - (intOf i).toNat)
 case atStart => exact ⟨0,[],Nat.zero_le _,rfl,by simpa using hR,S0.out⟩
 case round =>
  clear S0
  obtain ⟨k,outL,hk,rfl,hgo,hs⟩:=hrel
  obtain ⟨k1,hlv⟩:=C0.out wr hs.bel
  have hol : outL.length <= R0.length:=by rw [<- hgo,List.length_append]; omega
  have hwG : G + 2 <= wr.heap.size:=hs.le
  have hwG0 : G < wr.heap.size:=by omega
  have hwG1 : G + 1 < wr.heap.size:=by omega
  by_cases hkn : k < l.length
  ·obtain ⟨g,rfl,hgB,hgl,d0,d1,d2⟩:=hlv.at3s hkn
   rw [dropC l k (0,0,false) hkn] at hgo
   generalize l.getD k (0,0,false) = y at *
   obtain ⟨y1,y2,y3⟩:=y
   simp only at d0 d1 d2
   have HS:=Hid.mk (And.intro hs hol)
   clear hs hol hlv
   have hlen : outL.length < 900000:=by have:=HS.out.2; omega
   by_cases h1 : y1 = id
   ·rw [List.filter_cons,if_neg (by simp; omega)] at hgo
    have HG:=Hid.mk hgo
    have f1 : (y1 != id) = false:=by first | (simp; done) | (simp; omega)
    clear hgo h1
    go_wp2_with fail
    exact ⟨⟨k + 1,outL,by omega,by go_num,HG.out,HS.out.1⟩,by simp [intOf]; omega⟩
   ·rw [List.filter_cons,if_pos (by simp; omega)] at hgo
    have HG:=Hid.mk hgo
    have f1 : (y1 != id) = true:=by first | (simp; done) | (simp; omega)
    clear hgo h1
    go_wp2_with (first | (at_builtin; refine wp_app ei106 rfl _ _ rfl (HS.out.1.out) (HS.out.1.le) #[.int .i64 y1,.int .i64 y2,.bool y3] rfl (by first | rfl | (simp only [size_alloc]; rfl)) rfl (by simp [Value.oneCell']) (by rw [List.length_map]; omega) ?_; intro v4 w4 o4 g4 p4))
    have N4:=HS.out.1.app (Bel.refl _) g4 o4
    exact ⟨⟨k + 1,outL ++ [(y1,y2,y3)],by omega,by go_num,by have:=HG.out; simpa [List.append_assoc] using this,by rw [List.map_append]; exact N4⟩,by simp [intOf]; omega⟩
  ·have hk2 : k = l.length:=by omega
   subst hk2
   rw [List.drop_length,List.filter_nil] at hgo
   obtain ⟨va,vn,vc,rfl⟩:=hs.out.isSl
   have HS:=Hid.mk (And.intro hs hol)
   clear hs hol hlv
   have hlen : outL.length < 900000:=by have:=HS.out.2; omega
   obtain ⟨f0,s0,q0,b0⟩:=E0.out
   have hwG2 : G + 1 < wr.heap.size:=by omega
   have CC : Hid (∀ w5,Bel W0 w5 -> (w5.cell? ⟨G,0,none⟩ = some (.slice a0 l.length c0)/\w5.cell? ⟨G,1,none⟩ = some (.slice a1 n1 c1)/\w5.cell? ⟨G,2,none⟩ = some (.slice a2 n2 c2)/\w5.cell? ⟨G,3,none⟩ = some (.slice a3 n3 c3))/\(w5.cell? ⟨G + 1,0,none⟩ = some (.slice none 0 0)/\w5.cell? ⟨G + 1,1,none⟩ = some (.slice none 0 0)/\w5.cell? ⟨G + 1,2,none⟩ = some (.slice none 0 0)/\w5.cell? ⟨G + 1,3,none⟩ = some (.slice none 0 0))/\(∀ j,w5.frozen? ⟨G,j,none⟩ = false) /\ ∀ j,w5.frozen? ⟨G + 1,j,none⟩ = false):=fun w5 b => ⟨(s0.call b).cells,(q0.call b).cells,fun j => (s0.call b).fz j,fun j => (q0.call b).fz j⟩
   obtain ⟨⟨m00,m01,m02,m03⟩,⟨m20,m21,m22,m23⟩,fr,fs⟩:=CC.out wr HS.out.1.bel
   have fr0:=fr 0
   clear fr fs
   rw [List.append_nil] at hgo
   subst hgo
   have hG0:=hG.out
   have k1' : Kp wr (wr.setCell ⟨G,0,none⟩ (.slice va vn vc)) G G:=kp_set _ _ _ _ _ (.inl rfl) _
   have R1 : RAt (wr.setCell ⟨G,0,none⟩ (.slice va vn vc)) B (.slice va vn vc) (.slice a1 n1 c1) (.slice a2 n2 c2) (.slice a3 n3 c3) { m with sp:=outL }:=⟨(HS.out.1.out.lower (by omega)).kp k1' (fun e => by have:=(HS.out.1.out.lt _ e).1; omega) (fun e => by have:=(HS.out.1.out.lt _ e).1; omega),
    ((H.out.lv.call b0).call HS.out.1.bel).kp k1' (fun e => by have:=(H.out.lv.lt _ e).2; omega) (fun e => by have:=(H.out.lv.lt _ e).2; omega),
    ((H.out.bad.call b0).call HS.out.1.bel).kp k1' (fun e => by have:=(H.out.bad.lt _ e).2; omega) (fun e => by have:=(H.out.bad.lt _ e).2; omega),
    ((H.out.worn.call b0).call HS.out.1.bel).kp k1' (fun e => by have:=(H.out.worn.lt _ e).2; omega) (fun e => by have:=(H.out.worn.lt _ e).2; omega)⟩
   have q1 : Box4 (wr.setCell ⟨G,0,none⟩ (.slice va vn vc)) (G + 1) (.slice none 0 0) (.slice none 0 0) (.slice none 0 0) (.slice none 0 0):=(heap_setCell_other _ _ _ _ (by show G + 1 ≠ G; omega)).trans (q0.call HS.out.1.bel)
   have s1 : Box4 (wr.setCell ⟨G,0,none⟩ (.slice va vn vc)) G (.slice va vn vc) (.slice a1 n1 c1) (.slice a2 n2 c2) (.slice a3 n3 c3):=by
    have:=heap_setCell_same wr G 0 _ 38 (.slice va vn vc) (s0.call HS.out.1.bel)
    exact this
   have b1 : Below w.heap.size w (wr.setCell ⟨G,0,none⟩ (.slice va vn vc)):=kp_bel (b0.trans HS.out.1.bel) k1' (by omega) (by omega)
   have ov : ∀ g,(Value.slice va vn vc).ownBlock = some g -> w.heap.size <= g:=fun g hg => by have:=(HS.out.1.out.lt _ hg).1; omega
   clear f0 s0 q0 b0 E0 k1 k1' hG0
   go_upto_region 8 with fail
   obtain ⟨t00,t01,t02,t03⟩:=s1.cells
   have hs6 : (wr.setCell ⟨G,0,none⟩ (.slice va vn vc)).heap.size = wr.heap.size:=by simp [World.setCell]
   generalize wr.setCell ⟨G,0,none⟩ (.slice va vn vc) = W6 at *
   have hwo:=rwithout_any R1 (by exact hn2) (by have:=b1.size; have:=hG.out; omega) id (-1)
   have HW:=Hid.mk (And.intro hwo (And.intro R1 (And.intro q1 (And.intro b1 ov))))
   clear hwo R1 q1 b1 ov s1 m00 m01 m02 m03 m20 m21 m22 m23 fr0
   have h60 : G + 1 < W6.heap.size:=by omega
   go_wp2_with (first | (go_at_call 132; refine HW.out.1.mono ?_; rintro e w7 ⟨u7,rfl,R7,o7,b7⟩; obtain ⟨ua,un,uc,rfl⟩:=R7.lv.isSl; have Q7:=HW.out.2.2.1.call b7; obtain ⟨z20,z21,z22,z23⟩:=Q7.cells; have y0:=Q7.fz 0; have y1:=Q7.fz 1; have y2:=Q7.fz 2; have y3:=Q7.fz 3; replace Q7:=Hid.mk Q7))
   have q7:=set4_box Q7.out (.slice va vn vc) (.slice ua un uc) (.slice a2 n2 c2) (.slice a3 n3 c3)
   have kk:=set4_kp w7 (G + 1) (G + 1) (.slice va vn vc) (.slice ua un uc) (.slice a2 n2 c2) (.slice a3 n3 c3)
   have hG0:=hG.out
   refine bodyPost_ret (st_result rfl rfl q7) rfl ⟨_,_,rfl,?_,HW.out.2.2.2.2,fun g hg => Nat.le_trans HW.out.2.2.2.1.size (o7 g hg),?_⟩
   ·exact ⟨R7.sp.kp kk (fun e => by have:=(HS.out.1.out.lt _ e).1; omega) (fun e => by have:=(HS.out.1.out.lt _ e).1; omega),
     R7.lv.kp kk (fun e => by have:=o7 _ e; omega) (fun e => by have:=o7 _ e; omega),
     R7.bad.kp kk (fun e => by have:=(H.out.bad.lt _ e).2; omega) (fun e => by have:=(H.out.bad.lt _ e).2; omega),
     R7.worn.kp kk (fun e => by have:=(H.out.worn.lt _ e).2; omega) (fun e => by have:=(H.out.worn.lt _ e).2; omega)⟩
   ·have b8 : Bel w w7:=below3 HW.out.2.2.2.1 b7
    exact kp_bel b8 kk (by omega) (by omega)
end Go.Proofs.YtaphpdmfjnhlaaaGreatDoor.S8
