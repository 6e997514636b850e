/-
  Those of records that can be done behind a state, and the state behind them: the walk of the laws' own good. No condition.
-/
import Derived.Test.YtaphpdmfjnhlaaaGreatDoorCN2
import Derived.Test.YtaphpdmfjnhlaaaGreatDoorCH9
import Derived.Laws.MakeOwn
import Derived.Deep.CutRange
namespace Go.Proofs.YtaphpdmfjnhlaaaGreatDoor
open Go Go.RowKit
theorem calls_some {P : Program} {f args w R} (h : Calls P f args w R) : ∃ e w',R e w':=by
 obtain ⟨e,w',_,hR,_⟩:=h []
 exact ⟨e,w',hR⟩
theorem whole_plays (l : List Gp.R6) : ∀ (t0 t1 : S8.Ab),(∃ w s,S8.Whole w s/\S8.ab s = t0) -> S8.plays t0 l t1 -> ∃ w s,S8.Whole w s/\S8.ab s = t1:=by
 induction l with
 | nil =>
  intro t0 t1 h hp
  obtain rfl : t0 = t1:=hp
  exact h
 | cons r l ih =>
  rintro t0 t1 ⟨w,s,hw,rfl⟩ ⟨_,hp⟩
  obtain ⟨e,w',_,s',h1,h2,_⟩:=calls_some (S8.apply_any hw r.1 r.2.1 r.2.2.1 r.2.2.2.1 r.2.2.2.2.1 r.2.2.2.2.2)
  exact ih _ t1 ⟨w',s',h1,h2⟩ hp
theorem inv_ap {t : S8.Ab} (h : S8.InvA t) (r : Gp.R6) : S8.InvA (S8.apR t r).1:=by
 obtain ⟨_,w1,_,h1,_⟩:=calls_some (S8.newW_any (⟨#[],fun _ _ => 0,0,default,default⟩ : World))
 obtain ⟨w2,s2,h2,rfl⟩:=whole_plays (S8.dumpA t) S8.noAb t ⟨w1,_,h1,rfl⟩ (S8.plays_dump h)
 obtain ⟨e,w',_,s',h3,h4,_⟩:=calls_some (S8.apply_any h2 r.1 r.2.1 r.2.2.1 r.2.2.2.1 r.2.2.2.2.1 r.2.2.2.2.2)
 have:=h3.inv
 rw [h4] at this
 exact this
theorem inv_no : S8.InvA S8.noAb:=by
 refine ⟨?_,?_,?_,?_,?_,?_,?_,?_,?_⟩
 all_goals try (intro x hx; cases hx)
 all_goals exact List.Pairwise.nil
def gdF (f : Nat -> Gp.R6) : Nat -> S8.Ab -> List Gp.R6 × S8.Ab
 | 0,t => ([],t)
 | n + 1,t => if Gp.R6.may (f n) = true/\(S8.apR (gdF f n t).2 (f n)).2 = 0 then ((gdF f n t).1 ++ [f n],(S8.apR (gdF f n t).2 (f n)).1) else gdF f n t
theorem gdF_len (f : Nat -> Gp.R6) (n : Nat) (t : S8.Ab) : (gdF f n t).1.length <= n:=by
 induction n with
 | zero => exact Nat.le_refl _
 | succ n ih =>
  rw [gdF]
  split
  ·rw [List.length_append,List.length_singleton]; omega
  ·omega
theorem gdF_may (f : Nat -> Gp.R6) (n : Nat) (t : S8.Ab) : ∀ r ∈ (gdF f n t).1,Gp.R6.may r = true:=by
 induction n with
 | zero => intro r hr; cases hr
 | succ n ih =>
  rw [gdF]
  split
  ·rename_i h
   intro r hr
   rcases List.mem_append.1 hr with q | q
   ·exact ih r q
   ·rw [List.mem_singleton.1 q]
    exact h.1
  ·exact ih
theorem gdF_plays (f : Nat -> Gp.R6) (n : Nat) (t : S8.Ab) : S8.plays t (gdF f n t).1 (gdF f n t).2:=by
 induction n with
 | zero => exact rfl
 | succ n ih =>
  rw [gdF]
  split
  ·rename_i h
   exact S8.plays_app ih ⟨h.2,rfl⟩
  ·exact ih
theorem gdF_inv (f : Nat -> Gp.R6) (n : Nat) {t : S8.Ab} (h : S8.InvA t) : S8.InvA (gdF f n t).2:=by
 induction n with
 | zero => exact h
 | succ n ih =>
  rw [gdF]
  split
  ·exact inv_ap ih _
  ·exact ih
structure GdS (w : World) (B b5 b7 : Nat) (z0 z1 z2 z3 : Value) (v : Value) (rws : List Gp.R6) (t : S8.Ab) (v0 v1 v2 v3 : Value) (wr : World) : Prop where
 out : We.Ow wr w.heap.size 87 6 v (rws.map S8.rR)
 box : S8.Box4 wr b7 v0 v1 v2 v3
 res : S8.Box4 wr b5 (.slice none 0 0) (.slice none 0 0) (.slice none 0 0) (.slice none 0 0)
 at' : S8.RAt wr B v0 v1 v2 v3 (S8.rs t)
 inv : S8.InvA t
 below : Below w.heap.size w wr
 ne : b5 ≠ b7
 lo : w.heap.size <= b5/\w.heap.size <= b7
 o0 : S8.Own2 w z0 v0
 o1 : S8.Own2 w z1 v1
 o2 : S8.Own2 w z2 v2
 o3 : S8.Own2 w z3 v3
theorem GdS.call {w B b5 b7 z0 z1 z2 z3 v rws t v0 v1 v2 v3} {wr w2 : World} (h : GdS w B b5 b7 z0 z1 z2 z3 v rws t v0 v1 v2 v3 wr) (b : Below wr.heap.size wr w2) : GdS w B b5 b7 z0 z1 z2 z3 v rws t v0 v1 v2 v3 w2 :=
 ⟨h.out.call b,h.box.call b,h.res.call b,h.at'.call b,h.inv,below3 h.below b,h.ne,h.lo,h.o0,h.o1,h.o2,h.o3⟩
theorem gd_1 {w W : World} {B b5 : Nat} {v0 v1 v2 v3 : Value} {t : S8.Ab} (hb : Below w.heap.size w W) (X5 : S8.Box4 W b5 (.slice none 0 0) (.slice none 0 0) (.slice none 0 0) (.slice none 0 0)) (R : S8.RAt W B v0 v1 v2 v3 (S8.rs t)) (hi : S8.InvA t) (hlo : w.heap.size <= b5) :
  GdS w B b5 (W.heap.size + 1) v0 v1 v2 v3 (.slice (some ⟨W.heap.size,0,none⟩) 0 0) [] t v0 v1 v2 v3 ((W.alloc (.cells #[] 87)).alloc (.cells #[v0,v1,v2,v3] 38)).drew:=by
 have b1:=Pg.below_one W (.cells #[] 87)
 have b2:=Pg.below_one (W.alloc (.cells #[] 87)) (.cells #[v0,v1,v2,v3] 38)
 have b3:=(below3 b1 b2).drew
 have hx:=X5.lt
 have hz:=hb.size
 refine ⟨((We.Ow.made W hz 87 6).call b2).drew,?_,X5.call b3,R.call b3,hi,below3 hb b3,by omega,⟨hlo,by omega⟩,S8.Own2.refl _ _,S8.Own2.refl _ _,S8.Own2.refl _ _,S8.Own2.refl _ _⟩
 have:=S8.Box4.fresh (W.alloc (.cells #[] 87)) v0 v1 v2 v3
 rw [size_alloc] at this
 exact this
theorem gd_2 {w W : World} {B b5 : Nat} {v0 v1 v2 v3 : Value} {t : S8.Ab} (hb : Below w.heap.size w W) (X5 : S8.Box4 W b5 (.slice none 0 0) (.slice none 0 0) (.slice none 0 0) (.slice none 0 0)) (R : S8.RAt W B v0 v1 v2 v3 (S8.rs t)) (hi : S8.InvA t) (hlo : w.heap.size <= b5) :
  GdS w B b5 W.heap.size v0 v1 v2 v3 (.slice (some ⟨W.heap.size + 1,0,none⟩) 0 0) [] t v0 v1 v2 v3 ((W.alloc (.cells #[v0,v1,v2,v3] 38)).alloc (.cells #[] 87)).drew:=by
 have b1:=Pg.below_one W (.cells #[v0,v1,v2,v3] 38)
 have b2:=Pg.below_one (W.alloc (.cells #[v0,v1,v2,v3] 38)) (.cells #[] 87)
 have b3:=(below3 b1 b2).drew
 have hx:=X5.lt
 have hz:=hb.size
 refine ⟨?_,(S8.Box4.fresh W v0 v1 v2 v3).call b2.drew,X5.call b3,R.call b3,hi,below3 hb b3,by omega,⟨hlo,hz⟩,S8.Own2.refl _ _,S8.Own2.refl _ _,S8.Own2.refl _ _,S8.Own2.refl _ _⟩
 have:=(We.Ow.made (W.alloc (.cells #[v0,v1,v2,v3] 38)) (B:=w.heap.size) (Nat.le_trans hz b1.size) 87 6).drew
 rw [size_alloc] at this
 exact this
structure NxG (B : Nat) (wr : World) (v0 v1 v2 v3 : Value) (t' : S8.Ab) (g9 : Nat) (u0 u1 u2 u3 : Value) (wx : World) : Prop where
 box : S8.Box4 wx g9 u0 u1 u2 u3
 at' : S8.RAt wx B u0 u1 u2 u3 (S8.rs t')
 bel : Below wr.heap.size wr wx
 lo : wr.heap.size <= g9
 o0 : S8.Own2 wr v0 u0
 o1 : S8.Own2 wr v1 u1
 o2 : S8.Own2 wr v2 u2
 o3 : S8.Own2 wr v3 u3
theorem own2_al {wr w1 : World} (b : Below wr.heap.size wr w1) {v u : Value} (h : S8.Own2 w1 v u) : S8.Own2 wr v u:=fun g hg => by
 rcases h g hg with q | q
 ·exact .inl q
 ·exact .inr (Nat.le_trans b.size q)
theorem nxg_1 {B : Nat} {wr w5 : World} {v0 v1 v2 v3 u0 u1 u2 u3 : Value} {t' : S8.Ab} (b : Below wr.drew.heap.size wr.drew w5) (R : S8.RAt w5 B u0 u1 u2 u3 (S8.rs t')) (o0 : S8.Own2 wr.drew v0 u0) (o1 : S8.Own2 wr.drew v1 u1) (o2 : S8.Own2 wr.drew v2 u2) (o3 : S8.Own2 wr.drew v3 u3) :
  NxG B wr v0 v1 v2 v3 t' w5.heap.size u0 u1 u2 u3 (w5.alloc (.cells #[u0,u1,u2,u3] 38)):=by
 have bd : Below wr.heap.size wr w5:=below3 (Below.refl _ wr).drew b
 exact ⟨S8.Box4.fresh w5 _ _ _ _,R.alloc _,below3 bd (Pg.below_one w5 _),bd.size,o0,o1,o2,o3⟩
theorem nxg_2 {B : Nat} {t0 : S8.Rs} {wr w5 : World} {v0 v1 v2 v3 u0 u1 u2 u3 : Value} {t' : S8.Ab} (b : Below (wr.alloc (.cells #[.slice none 0 0,.slice none 0 0,.slice none 0 0,.slice none 0 0] 38)).drew.heap.size (wr.alloc (.cells #[.slice none 0 0,.slice none 0 0,.slice none 0 0,.slice none 0 0] 38)).drew w5) (R : S8.RAt w5 B u0 u1 u2 u3 (S8.rs t'))
  (hv : S8.RAt wr B v0 v1 v2 v3 t0) (o0 : S8.Own2 (wr.alloc (.cells #[.slice none 0 0,.slice none 0 0,.slice none 0 0,.slice none 0 0] 38)).drew v0 u0) (o1 : S8.Own2 (wr.alloc (.cells #[.slice none 0 0,.slice none 0 0,.slice none 0 0,.slice none 0 0] 38)).drew v1 u1) (o2 : S8.Own2 (wr.alloc (.cells #[.slice none 0 0,.slice none 0 0,.slice none 0 0,.slice none 0 0] 38)).drew v2 u2) (o3 : S8.Own2 (wr.alloc (.cells #[.slice none 0 0,.slice none 0 0,.slice none 0 0,.slice none 0 0] 38)).drew v3 u3) :
  NxG B wr v0 v1 v2 v3 t' wr.heap.size u0 u1 u2 u3 (S8.set4 w5 wr.heap.size u0 u1 u2 u3):=by
 have bA:=(Pg.below_one wr (.cells #[.slice none 0 0,.slice none 0 0,.slice none 0 0,.slice none 0 0] 38)).drew
 have hlt : wr.heap.size < (wr.alloc (.cells #[.slice none 0 0,.slice none 0 0,.slice none 0 0,.slice none 0 0] 38)).heap.size:=by rw [size_alloc]; omega
 have hsz : wr.heap.size < (wr.alloc (.cells #[.slice none 0 0,.slice none 0 0,.slice none 0 0,.slice none 0 0] 38)).drew.heap.size:=hlt
 have X5 : S8.Box4 w5 wr.heap.size (.slice none 0 0) (.slice none 0 0) (.slice none 0 0) (.slice none 0 0):=(b.block wr.heap.size hlt).trans (heap_alloc_new wr _)
 have k:=S8.set4_kp w5 wr.heap.size wr.heap.size u0 u1 u2 u3
 have bl:=S8.kp_bel (below3 bA b) k (Nat.le_refl _) (Nat.le_refl _)
 have nb : ∀ {v u : Value},(∀ g,v.ownBlock = some g -> g < wr.heap.size) -> S8.Own2 (wr.alloc (.cells #[.slice none 0 0,.slice none 0 0,.slice none 0 0,.slice none 0 0] 38)).drew v u -> u.ownBlock ≠ some wr.heap.size:=fun hv q e => by
  rcases q _ e with q | q
  ·have:=hv _ q; omega
  ·omega
 have n0:=nb (fun g hg => (hv.sp.lt g hg).2) o0
 have n1:=nb (fun g hg => (hv.lv.lt g hg).2) o1
 have n2:=nb (fun g hg => (hv.bad.lt g hg).2) o2
 have n3:=nb (fun g hg => (hv.worn.lt g hg).2) o3
 exact ⟨S8.set4_box X5 _ _ _ _,⟨R.sp.kp k n0 n0,R.lv.kp k n1 n1,R.bad.kp k n2 n2,R.worn.kp k n3 n3⟩,bl,Nat.le_refl _,own2_al bA o0,own2_al bA o1,own2_al bA o2,own2_al bA o3⟩
theorem own2_trans {w w1 : World} (hw : w.heap.size <= w1.heap.size) {z v u : Value} (h : S8.Own2 w z v) (k : S8.Own2 w1 v u) : S8.Own2 w z u:=fun g hg => by
 rcases k g hg with q | q
 ·exact h g q
 ·exact .inr (Nat.le_trans hw q)
theorem set4_other (w : World) (b g : Nat) (hne : g ≠ b) (v0 v1 v2 v3 : Value) : (S8.set4 w b v0 v1 v2 v3).heap[g]? = w.heap[g]? := by
 unfold S8.set4
 rw [heap_setCell_other _ ⟨b,3,none⟩ g _ hne,heap_setCell_other _ ⟨b,2,none⟩ g _ hne,heap_setCell_other _ ⟨b,1,none⟩ g _ hne,heap_setCell_other _ ⟨b,0,none⟩ g _ hne]
theorem GdS.put {w B b5 b7 z0 z1 z2 z3 v rws t v0 v1 v2 v3 t' g9 u0 u1 u2 u3} {w1 wc w4 : World} (h : GdS w B b5 b7 z0 z1 z2 z3 v rws t v0 v1 v2 v3 w1) (hN : NxG B w1 v0 v1 v2 v3 t' g9 u0 u1 u2 u3 wc) (hi : S8.InvA t') {r : Gp.R6} {v4 : Value}
  (o4 : We.Ow w4 w.heap.size 87 6 v4 (rws.map S8.rR ++ [(S8.cR r).toList])) (g4 : wc.grownBy w4 v.ownBlock) (p4 : v4.ownBlock = v.ownBlock \/ ∃ g,v4.ownBlock = some g/\wc.heap.size <= g) :
  GdS w B b5 b7 z0 z1 z2 z3 v4 (rws ++ [r]) t' u0 u1 u2 u3 (S8.set4 w4 b7 u0 u1 u2 u3):=by
 have hc:=h.call hN.bel
 have n7 : v.ownBlock ≠ some b7:=ow_ne_cell (Ow.from8 hc.out) hc.box (by decide)
 have n5 : v.ownBlock ≠ some b5:=ow_ne_cell (Ow.from8 hc.out) hc.res (by decide)
 have l7:=hc.box.lt
 have l5:=hc.res.lt
 have m7 : v4.ownBlock ≠ some b7:=fun e => by
  rcases p4 with q | ⟨g,q,hg⟩
  ·exact n7 (by rw [<- q]; exact e)
  ·rw [e] at q
   have : b7 = g:=by simpa using q
   omega
 have box4 : S8.Box4 w4 b7 v0 v1 v2 v3:=(g4.block b7 l7 (fun e => n7 e.symm)).trans hc.box
 have rat : ∀ {e sz : Nat} {u : Value} {rows : We.Rws},We.Ow wc B e sz u rows -> e ≠ 87 -> e ≠ 38 -> We.Ow (S8.set4 w4 b7 u0 u1 u2 u3) B e sz u rows:=fun {e sz u rows} ho he he2 => by
  have a1 : ∀ g,u.ownBlock = some g -> v.ownBlock ≠ some g:=ow_ne (Ow.from8 ho) (Ow.from8 hc.out) he
  have a2 : u.ownBlock ≠ some b7:=ow_ne_cell (Ow.from8 ho) hc.box he2
  refine ho.same (fun g hg => (set4_other w4 b7 g (fun q => a2 (by rw [<- q]; exact hg)) _ _ _ _).trans (g4.block g (ho.lt g hg).2 (fun q => a1 g hg q.symm)))
 have bl : Below w.heap.size w (S8.set4 w4 b7 u0 u1 u2 u3):=by
  have b1 : Below w.heap.size w w4:=hc.below.grown g4 hc.below.size (fun g hg => (hc.out.lt g hg).1)
  unfold S8.set4
  exact (((b1.setCell h.lo.2 _).setCell h.lo.2 _).setCell h.lo.2 _).setCell h.lo.2 _
 refine ⟨?_,S8.set4_box box4 _ _ _ _,?_,⟨rat hN.at'.sp (by decide) (by decide),rat hN.at'.lv (by decide) (by decide),rat hN.at'.bad (by decide) (by decide),rat hN.at'.worn (by decide) (by decide)⟩,hi,bl,h.ne,h.lo,own2_trans h.below.size h.o0 hN.o0,own2_trans h.below.size h.o1 hN.o1,own2_trans h.below.size h.o2 hN.o2,own2_trans h.below.size h.o3 hN.o3⟩
 ·rw [List.map_append]
  exact o4.same (fun g hg => set4_other w4 b7 g (fun q => m7 (by rw [<- q]; exact hg)) _ _ _ _)
 ·exact (set4_other w4 b7 b5 h.ne _ _ _ _).trans ((g4.block b5 l5 (fun e => n5 e.symm)).trans hc.res)
def Gd8 (g o g9 : Nat) (K S P A T N : Int) (x0 x1 x2 x3 : Value) (w' : World) : Prop:=(w'.cell? ⟨g,o,none⟩ = some (.int .i64 K)/\w'.cell? ⟨g,o + 1,none⟩ = some (.int .i64 S)/\w'.cell? ⟨g,o + 2,none⟩ = some (.int .i64 P)/\w'.cell? ⟨g,o + 3,none⟩ = some (.int .i64 A)/\w'.cell? ⟨g,o + 4,none⟩ = some (.int .i64 T)/\w'.cell? ⟨g,o + 5,none⟩ = some (.int .i64 N))/\w'.cell? ⟨g9,0,none⟩ = some x0/\w'.cell? ⟨g9,1,none⟩ = some x1/\w'.cell? ⟨g9,2,none⟩ = some x2/\w'.cell? ⟨g9,3,none⟩ = some x3
theorem gd8F {g o g9 : Nat} {K S P A T N : Int} {x0 x1 x2 x3 : Value} {w' : World} (h : Gd8 g o g9 K S P A T N x0 x1 x2 x3 w') : (w'.cell? ⟨g,o,none⟩ = some (.int .i64 K)/\w'.cell? ⟨g,o + 1,none⟩ = some (.int .i64 S)/\w'.cell? ⟨g,o + 2,none⟩ = some (.int .i64 P)/\w'.cell? ⟨g,o + 3,none⟩ = some (.int .i64 A)/\w'.cell? ⟨g,o + 4,none⟩ = some (.int .i64 T)/\w'.cell? ⟨g,o + 5,none⟩ = some (.int .i64 N))/\w'.cell? ⟨g9,0,none⟩ = some x0/\w'.cell? ⟨g9,1,none⟩ = some x1/\w'.cell? ⟨g9,2,none⟩ = some x2/\w'.cell? ⟨g9,3,none⟩ = some x3:=h
def Bx4 (g : Nat) (x0 x1 x2 x3 : Value) (w' : World) : Prop:=w'.cell? ⟨g,0,none⟩ = some x0/\w'.cell? ⟨g,1,none⟩ = some x1/\w'.cell? ⟨g,2,none⟩ = some x2/\w'.cell? ⟨g,3,none⟩ = some x3
theorem bx4F {g : Nat} {x0 x1 x2 x3 : Value} {w' : World} (h : Bx4 g x0 x1 x2 x3 w') : w'.cell? ⟨g,0,none⟩ = some x0/\w'.cell? ⟨g,1,none⟩ = some x1/\w'.cell? ⟨g,2,none⟩ = some x2/\w'.cell? ⟨g,3,none⟩ = some x3:=h
theorem gd_result {fn : Func} {p u : Tmp} (h : fn.results = #[.tmp u,.cell p 38]) {tmps : Array Value} {w : World} {g : Nat} {v0 v1 v2 v3 : Value} (hp : tmps.getD p undef = .pointer (some ⟨g,0,none⟩)) (hg : (loadVar 38 ⟨g,0,none⟩).run Tryz.prog w = .ok (.agg #[v0,v1,v2,v3]) w) :
  (results fn tmps).run Tryz.prog w = .ok (.tuple #[tmps.getD u undef,.agg #[v0,v1,v2,v3]]) w:=by
 have hp' : tmps[p]?.getD undef = .pointer (some ⟨g,0,none⟩):=by simpa using hp
 simp only [results,h]
 simp [Result.andThen,hp',asAddr,hg]
set_option maxRecDepth 20000 in
set_option maxHeartbeats 8000000 in
theorem good_any (xa : Option Addr) (xl xc : Nat) (xf : Nat -> Gp.R6) (w : World) (hx : Gp.RecsF w xa xl xf) {B : Nat} {v0 v1 v2 v3 : Value} {t : S8.Ab} (hr : S8.RAt w B v0 v1 v2 v3 (S8.rs t)) (hB : B <= w.heap.size) (hi : S8.InvA t) :
  Calls Tryz.prog 15 #[.slice xa xl xc,.agg #[v0,v1,v2,v3]] w fun e w' => ∃ v u0 u1 u2 u3,e = .returned (.tuple #[v,.agg #[u0,u1,u2,u3]])/\We.Ow w' w.heap.size 87 6 v ((gdF xf (min xl 6) t).1.map S8.rR) ∧
   S8.RAt w' B u0 u1 u2 u3 (S8.rs (gdF xf (min xl 6) t).2)/\Below w.heap.size w w'/\S8.Own2 w v0 u0/\S8.Own2 w v1 u1/\S8.Own2 w v2 u2/\S8.Own2 w v3 u3:=by
 obtain ⟨a0,m0,c0,rfl⟩:=hr.sp.isSl
 obtain ⟨a1,m1,c1,rfl⟩:=hr.lv.isSl
 obtain ⟨a2,m2,c2,rfl⟩:=hr.bad.isSl
 obtain ⟨a3,m3,c3,rfl⟩:=hr.worn.isSl
 have HX:=Hid.mk (And.intro hx (And.intro hr (And.intro hB hi)))
 clear hx hr hB hi
 go_enter Tryz.func15,Tryz.ntmps15
 go_upto_region 1 with fail
 have bA:=Pg.below_one w (.cells #[.slice a0 m0 c0,.slice a1 m1 c1,.slice a2 m2 c2,.slice a3 m3 c3] 38)
 have bB:=Pg.below_one (w.alloc (.cells #[.slice a0 m0 c0,.slice a1 m1 c1,.slice a2 m2 c2,.slice a3 m3 c3] 38)) (.cells #[.slice none 0 0,.slice none 0 0,.slice none 0 0,.slice none 0 0] 38)
 have X3:=(S8.Box4.fresh w (.slice a0 m0 c0) (.slice a1 m1 c1) (.slice a2 m2 c2) (.slice a3 m3 c3)).call bB
 have X5:=S8.Box4.fresh (w.alloc (.cells #[.slice a0 m0 c0,.slice a1 m1 c1,.slice a2 m2 c2,.slice a3 m3 c3] 38)) (.slice none 0 0) (.slice none 0 0) (.slice none 0 0) (.slice none 0 0)
 have H1:=Hid.mk (And.intro X3 (And.intro X5 (And.intro (below3 bA bB) (HX.out.2.1.call (below3 bA bB)))))
 have hlo : Hid (w.heap.size <= (w.alloc (.cells #[.slice a0 m0 c0,.slice a1 m1 c1,.slice a2 m2 c2,.slice a3 m3 c3] 38)).heap.size):=Hid.mk bA.size
 clear X3 X5 bA bB
 generalize hb5 : (w.alloc (.cells #[.slice a0 m0 c0,.slice a1 m1 c1,.slice a2 m2 c2,.slice a3 m3 c3] 38)).heap.size = b5 at *
 generalize ((w.alloc (.cells #[.slice a0 m0 c0,.slice a1 m1 c1,.slice a2 m2 c2,.slice a3 m3 c3] 38)).alloc (.cells #[.slice none 0 0,.slice none 0 0,.slice none 0 0,.slice none 0 0] 38)) = W at *
 rw [size_alloc] at hb5
 rw [hb5]
 generalize hb3 : w.heap.size = b3 at *
 replace hb3:=Hid.mk hb3
 clear hb5
 obtain ⟨k0,k1,k2,k3⟩:=H1.out.1.cells
 have kS : Hid (∀ w',Below W.heap.size W w' -> Below W.heap.size W w'/\(w'.cell? ⟨b3,0,none⟩ = some (.slice a0 m0 c0)/\w'.cell? ⟨b3,1,none⟩ = some (.slice a1 m1 c1)/\w'.cell? ⟨b3,2,none⟩ = some (.slice a2 m2 c2)/\w'.cell? ⟨b3,3,none⟩ = some (.slice a3 m3 c3))):=fun w' b => ⟨b,(H1.out.1.call b).cells⟩
 go_cut [6,7] from 11 to 12 (fun v6 v7 wx => ∃ b7,v7 = .pointer (some ⟨b7,0,none⟩)/\GdS w B b5 b7 (.slice a0 m0 c0) (.slice a1 m1 c1) (.slice a2 m2 c2) (.slice a3 m3 c3) v6 [] t (.slice a0 m0 c0) (.slice a1 m1 c1) (.slice a2 m2 c2) (.slice a3 m3 c3) wx)
 case first =>
  go_region_held3 (fun w' => Below W.heap.size W w'/\(w'.cell? ⟨b3,0,none⟩ = some (.slice a0 m0 c0)/\w'.cell? ⟨b3,1,none⟩ = some (.slice a1 m1 c1)/\w'.cell? ⟨b3,2,none⟩ = some (.slice a2 m2 c2)/\w'.cell? ⟨b3,3,none⟩ = some (.slice a3 m3 c3)))
   (first | assumption | exact kS.out _ (Below.refl _ W).drew | exact kS.out _ (below3 (And.left (by assumption)) (Pg.below_one _ _)) | exact kS.out _ (Pg.below_one W _).drew | exact kS.out _ (below3 (Pg.below_one W _) (Pg.below_one _ _)).drew | fail)
   (fail)
  all_goals
   go_wp2_with fail
   go_meet
   have hbw:=H1.out.2.2.1
   rw [<- hb3.out] at hbw
   first
    | exact ⟨_,rfl,gd_1 hbw H1.out.2.1 H1.out.2.2.2 HX.out.2.2.2 (by rw [hb3.out]; exact hlo.out)⟩
    | exact ⟨_,rfl,gd_2 hbw H1.out.2.1 H1.out.2.2.2 HX.out.2.2.2 (by rw [hb3.out]; exact hlo.out)⟩
 case rest =>
  obtain ⟨b7,rfl,hS⟩:=hcut
  have HS0:=Hid.mk hS
  clear hS k0 k1 k2 k3 kS H1 hlo
  go_upto_region 3 with fail
  go_loopw [6,8] (fun v i wr => ∃ (k : Nat) (u0 u1 u2 u3 : Value),k <= 6/\k <= xl/\i = .int .i64 k/\GdS w B b5 b7 (.slice a0 m0 c0) (.slice a1 m1 c1) (.slice a2 m2 c2) (.slice a3 m3 c3) v (gdF xf k t).1 (gdF xf k t).2 u0 u1 u2 u3 wr) (fun _ i _ => 6 - (intOf i).toNat)
  case atStart => exact ⟨0,_,_,_,_,by omega,Nat.zero_le _,rfl,HS0.out⟩
  case round =>
   clear HS0
   obtain ⟨k,u0,u1,u2,u3,hk6,hkl,rfl,hs⟩:=hrel
   by_cases hgo : k < xl/\k < 6
   ·obtain ⟨hg1,hg2⟩:=hgo
    have hk1 : (k : Int) < (xl : Int):=by omega
    have hk2 : (k : Int) < 6:=by omega
    obtain ⟨g,o,rfl,hgl,q0,q1,q2,q3,q4,q5⟩:=HX.out.1.below hs.below k hg1
    have hst : gdF xf (k + 1) t = if Gp.R6.may (xf k) = true/\(S8.apR (gdF xf k t).2 (xf k)).2 = 0 then ((gdF xf k t).1 ++ [xf k],(S8.apR (gdF xf k t).2 (xf k)).1) else gdF xf k t:=rfl
    have hln:=gdF_len xf k t
    generalize xf k = r at *
    generalize gdF xf k t = p at *
    obtain ⟨Kr,S,Pq,A,T,Nn⟩:=r
    dsimp only at q0 q1 q2 q3 q4 q5
    have hck:=Hid.mk (fun w => Gp.refCheckB_any Kr S Pq A T Nn w)
    have hmb : Gp.R6.may (Kr,S,Pq,A,T,Nn) = Gp.mayB Kr S Pq A T Nn:=rfl
    rw [hmb] at hst
    clear hmb
    cases hmay : Gp.mayB Kr S Pq A T Nn with
    | false =>
     rw [hmay] at hck
     rw [hmay,if_neg (fun q => by cases q.1)] at hst
     have HS:=Hid.mk (And.intro hs hst)
     clear hs hst hmay
     unfold Gp.rv at hck
     go_wp2_with (first | (go_at_call 49; refine (hck.out _).mono ?_; rintro e w1 ⟨rfl,b1⟩))
     exact ⟨⟨k + 1,u0,u1,u2,u3,by omega,by omega,by go_num,by rw [HS.out.2]; exact HS.out.1.call b1⟩,by simp [intOf]; omega⟩
    | true =>
     rw [hmay] at hck hst
     clear hmay
     unfold Gp.rv at hck
     obtain ⟨e0,f0,h0,rfl⟩:=hs.at'.sp.isSl
     obtain ⟨e1,f1,h1,rfl⟩:=hs.at'.lv.isSl
     obtain ⟨e2,f2,h2,rfl⟩:=hs.at'.bad.isSl
     obtain ⟨e3,f3,h3,rfl⟩:=hs.at'.worn.isSl
     have HS:=Hid.mk hs
     clear hs
     go_upto_region 6 with (first | (go_at_call 49; refine (hck.out _).mono ?_; rintro e w1 ⟨rfl,b1⟩))
     have hs:=HS.out.call b1
     clear HS hck
     have hinv:=hs.inv
     have hBw : B <= w1.heap.size:=by have:=hs.below.size; have h3:=HX.out.2.2.1; rw [<- hb3.out] at h3; omega
     have C10 : ∀ W,Below w1.heap.size w1 W -> Calls Tryz.prog 50 #[.agg #[.slice e0 f0 h0,.slice e1 f1 h1,.slice e2 f2 h2,.slice e3 f3 h3],.agg #[.int .i64 Kr,.int .i64 S,.int .i64 Pq,.int .i64 A,.int .i64 T,.int .i64 Nn]] W (S8.DoR W B (.slice e0 f0 h0) (.slice e1 f1 h1) (.slice e2 f2 h2) (.slice e3 f3 h3) (S8.rs (S8.apR p.2 (Kr,S,Pq,A,T,Nn)).1,(S8.apR p.2 (Kr,S,Pq,A,T,Nn)).2)):=fun W b => by
      have q:=S8.rapply_any (hs.call b).at' (Nat.le_trans hBw b.size) (S8.lens_rs hinv) Kr S Pq A T Nn
      rw [S8.ap_same hinv] at q
      exact q
     have hgl1 : g < w1.heap.size:=Nat.lt_of_lt_of_le hgl b1.size
     have kS : Hid (∀ w',Below w1.heap.size w1 w' -> Below w1.heap.size w1 w'/\(w'.cell? ⟨b7,0,none⟩ = some (.slice e0 f0 h0)/\w'.cell? ⟨b7,1,none⟩ = some (.slice e1 f1 h1)/\w'.cell? ⟨b7,2,none⟩ = some (.slice e2 f2 h2)/\w'.cell? ⟨b7,3,none⟩ = some (.slice e3 f3 h3))/\(w'.cell? ⟨g,o + k * 6,none⟩ = some (.int .i64 Kr)/\w'.cell? ⟨g,o + k * 6 + 1,none⟩ = some (.int .i64 S)/\w'.cell? ⟨g,o + k * 6 + 2,none⟩ = some (.int .i64 Pq)/\w'.cell? ⟨g,o + k * 6 + 3,none⟩ = some (.int .i64 A)/\w'.cell? ⟨g,o + k * 6 + 4,none⟩ = some (.int .i64 T)/\w'.cell? ⟨g,o + k * 6 + 5,none⟩ = some (.int .i64 Nn))):=fun w' q =>
      ⟨q,(hs.box.call q).cells,(q.cell (p:=⟨g,o + k * 6,none⟩) hgl1).trans ((b1.cell (p:=⟨g,o + k * 6,none⟩) hgl).trans q0),(q.cell (p:=⟨g,o + k * 6 + 1,none⟩) hgl1).trans ((b1.cell (p:=⟨g,o + k * 6 + 1,none⟩) hgl).trans q1),(q.cell (p:=⟨g,o + k * 6 + 2,none⟩) hgl1).trans ((b1.cell (p:=⟨g,o + k * 6 + 2,none⟩) hgl).trans q2),(q.cell (p:=⟨g,o + k * 6 + 3,none⟩) hgl1).trans ((b1.cell (p:=⟨g,o + k * 6 + 3,none⟩) hgl).trans q3),(q.cell (p:=⟨g,o + k * 6 + 4,none⟩) hgl1).trans ((b1.cell (p:=⟨g,o + k * 6 + 4,none⟩) hgl).trans q4),(q.cell (p:=⟨g,o + k * 6 + 5,none⟩) hgl1).trans ((b1.cell (p:=⟨g,o + k * 6 + 5,none⟩) hgl).trans q5)⟩
     have hivn:=inv_ap hinv (Kr,S,Pq,A,T,Nn)
     generalize (S8.apR p.2 (Kr,S,Pq,A,T,Nn)).2 = E at *
     generalize (S8.apR p.2 (Kr,S,Pq,A,T,Nn)).1 = t' at *
     have HS:=Hid.mk (And.intro hs (And.intro C10 (And.intro hst hivn)))
     clear hs C10 hinv hst hivn q0 q1 q2 q3 q4 q5 b1 hgl
     go_cut [9,10] from 29 to 37 (fun v9 v10 wx => ∃ g9 u0 u1 u2 u3,v9 = .pointer (some ⟨g9,0,none⟩)/\v10 = .int .i64 E/\NxG B w1 (.slice e0 f0 h0) (.slice e1 f1 h1) (.slice e2 f2 h2) (.slice e3 f3 h3) t' g9 u0 u1 u2 u3 wx)
     case first =>
      go_region_held3 (fun w' => Below w1.heap.size w1 w'/\(w'.cell? ⟨b7,0,none⟩ = some (.slice e0 f0 h0)/\w'.cell? ⟨b7,1,none⟩ = some (.slice e1 f1 h1)/\w'.cell? ⟨b7,2,none⟩ = some (.slice e2 f2 h2)/\w'.cell? ⟨b7,3,none⟩ = some (.slice e3 f3 h3))/\(w'.cell? ⟨g,o + k * 6,none⟩ = some (.int .i64 Kr)/\w'.cell? ⟨g,o + k * 6 + 1,none⟩ = some (.int .i64 S)/\w'.cell? ⟨g,o + k * 6 + 2,none⟩ = some (.int .i64 Pq)/\w'.cell? ⟨g,o + k * 6 + 3,none⟩ = some (.int .i64 A)/\w'.cell? ⟨g,o + k * 6 + 4,none⟩ = some (.int .i64 T)/\w'.cell? ⟨g,o + k * 6 + 5,none⟩ = some (.int .i64 Nn)))
       (first | assumption | exact kS.out _ (Below.refl _ w1) | exact kS.out _ (Below.refl _ w1).drew | exact kS.out _ (below3 (And.left (by assumption)) (by assumption)) | exact kS.out _ (below3 (And.left (by assumption)) (Pg.below_one _ _)) | exact kS.out _ (Pg.below_one w1 _).drew | exact kS.out _ (Pg.below_one _ _) | exact kS.out _ (below3 (below3 (Below.refl _ w1).drew (by assumption)) (Pg.below_one _ _)) | exact kS.out (S8.set4 w5 w1.heap.size _ _ _ _) (S8.kp_bel (below3 (Pg.below_one w1 _).drew (by assumption)) (S8.set4_kp w5 w1.heap.size w1.heap.size _ _ _ _) (Nat.le_refl _) (Nat.le_refl _)) | fail)
       (first | (go_at_call 50; refine (HS.out.2.1 _ (And.left (by assumption))).mono ?_; rintro e w5 ⟨u0,u1,u2,u3,rfl,R5,b5,o0,o1,o2,o3⟩; obtain ⟨s0,t0,s0',rfl⟩:=R5.sp.isSl; obtain ⟨s1,t1,s1',rfl⟩:=R5.lv.isSl; obtain ⟨s2,t2,s2',rfl⟩:=R5.bad.isSl; obtain ⟨s3,t3,s3',rfl⟩:=R5.worn.isSl; simp only; try (have X5 : S8.Box4 w5 w1.heap.size (.slice none 0 0) (.slice none 0 0) (.slice none 0 0) (.slice none 0 0):=(b5.block w1.heap.size (by show _ < (w1.alloc _).heap.size; rw [size_alloc]; omega)).trans (heap_alloc_new w1 _); obtain ⟨z0,z1,z2,z3⟩:=X5.cells; have y0:=X5.fz 0; have y1:=X5.fz 1; have y2:=X5.fz 2; have y3:=X5.fz 3)))
      all_goals
       go_wp2_with fail
       go_meet
       first
        | exact ⟨_,_,_,_,_,rfl,rfl,nxg_1 b5 R5 o0 o1 o2 o3⟩
        | exact ⟨_,_,_,_,_,rfl,rfl,nxg_2 b5 R5 HS.out.1.at' o0 o1 o2 o3⟩
     case rest =>
      obtain ⟨g9,u0,u1,u2,u3,rfl,rfl,hN⟩:=hcut
      by_cases hE : E = 0
      ·subst hE
       obtain ⟨s0,t0,s0',rfl⟩:=hN.at'.sp.isSl
       obtain ⟨s1,t1,s1',rfl⟩:=hN.at'.lv.isSl
       obtain ⟨s2,t2,s2',rfl⟩:=hN.at'.bad.isSl
       obtain ⟨s3,t3,s3',rfl⟩:=hN.at'.worn.isSl
       obtain ⟨av,cv,hav⟩:=HS.out.1.out.form
       rw [List.length_map] at hav
       subst hav
       obtain ⟨c7,c8⟩:=(kS.out wc hN.bel).2
       have hc9:=hN.box.cells
       have hgw : g < w.heap.size:=by
        obtain ⟨g',o',e',hg',_⟩:=HX.out.1 k hg1
        cases e'
        exact hg'
       have hgc : Hid (g < wc.heap.size):=Hid.mk (Nat.lt_of_lt_of_le hgl1 hN.bel.size)
       have hg9c : Hid (g9 < wc.heap.size):=Hid.mk hN.box.lt
       have hv9 : Hid ((Value.slice av p.1.length cv).ownBlock ≠ some g9):=Hid.mk (ow_ne_cell (Ow.from8 (HS.out.1.call hN.bel).out) hN.box (by decide))
       have hvg : Hid ((Value.slice av p.1.length cv).ownBlock ≠ some g):=Hid.mk (fun e => by have:=(HS.out.1.out.lt g e).1; omega)
       have h79 : Hid (g9 ≠ b7/\g ≠ b7):=Hid.mk ⟨by have:=HS.out.1.box.lt; have:=hN.lo; omega,by have:=HS.out.1.lo.2; omega⟩
       have kS2 : Hid (∀ w' : World,w'.heap[g]? = wc.heap[g]? -> w'.heap[g9]? = wc.heap[g9]? -> Gd8 g (o + k * 6) g9 Kr S Pq A T Nn (.slice s0 t0 s0') (.slice s1 t1 s1') (.slice s2 t2 s2') (.slice s3 t3 s3') w'):=Hid.mk (fun w' e1 e2 => by
        have f1 : ∀ j,w'.cell? ⟨g,j,none⟩ = wc.cell? ⟨g,j,none⟩:=fun j => by unfold World.cell?; rw [e1]
        have f2 : ∀ j,w'.cell? ⟨g9,j,none⟩ = wc.cell? ⟨g9,j,none⟩:=fun j => by unfold World.cell?; rw [e2]
        unfold Gd8
        simp only [f1,f2]
        exact ⟨c8,hc9⟩)
       have hlp : p.1.length < 1000000:=by omega
       have hX7:=HS.out.1.box.call hN.bel
       have HN:=Hid.mk hN
       clear hN c7 c8 hc9
       go_upto_region 8 with fail
       have hB4 : Hid (∀ w4 : World,wc.drew.grownBy w4 (Value.slice av p.1.length cv).ownBlock -> S8.Box4 w4 b7 (.slice e0 f0 h0) (.slice e1 f1 h1) (.slice e2 f2 h2) (.slice e3 f3 h3)):=Hid.mk (fun w4 q => (q.block b7 hX7.lt (fun e => ow_ne_cell (Ow.from8 (HS.out.1.call HN.out.bel).out) hX7 (by decide) e.symm)).trans hX7)
       refine wp_region_held_drew (S:=fun w' => Gd8 g (o + k * 6) g9 Kr S Pq A T Nn (.slice s0 t0 s0') (.slice s1 t1 s1') (.slice s2 t2 s2') (.slice s3 t3 s3') w') (by kernel_rfl) (kS2.out _ rfl rfl) (fun hHeld => ?_)
       refine tkF 0 (fun _ q => gd8F q) hHeld ?_
       refine tkF 1 (fun _ q => gd8F q) hHeld ?_
       refine tkF 2 (fun _ q => gd8F q) hHeld ?_
       refine tkF 3 (fun _ q => gd8F q) hHeld ?_
       refine tkF 4 (fun _ q => gd8F q) hHeld ?_
       refine tkF 7 (fun _ q => gd8F q) hHeld ?_
       refine wpAnyH_ready (rs := [5]) (by kernel_rfl) (by simp) ?_
       refine arH rfl (fun K hK => ?_) AllReadyH.nil
       go_simp
       refine hK.out _ _ (kS2.out _ (Below.heap_alloc wc _ _ hgc.out) (Below.heap_alloc wc _ _ hg9c.out)) (fun hHeld => ?_)
       clear hK K
       try simp only [Act.put,zA,zB,zC]
       refine wpAnyH_ready (rs := [6]) (by kernel_rfl) (by simp) ?_
       refine arH rfl (fun K hK => ?_) AllReadyH.nil
       refine We.step_app (w:=wc.drew) S8.ei87 (by rfl) _ _ (by rfl) (HS.out.1.call HN.out.bel).out.drew (Nat.le_trans HS.out.1.below.size HN.out.bel.size) (S8.cR (Kr,S,Pq,A,T,Nn)) (by rfl) (by rfl) (by rfl) (S8.cR_one _) (by rw [List.length_map]; exact hlp) ?_
       intro v4 w4 o4 g4 p4
       have X4:=hB4.out w4 g4
       obtain ⟨z0,z1,z2,z3⟩:=X4.cells
       have y0:=X4.fz 0
       have y1:=X4.fz 1
       have y2:=X4.fz 2
       have y3:=X4.fz 3
       have e4g : w4.heap[g]? = wc.heap[g]? := g4.block g hgc.out (fun e => hvg.out e.symm)
       have e49 : w4.heap[g9]? = wc.heap[g9]? := g4.block g9 hg9c.out (fun e => hv9.out e.symm)
       refine hK.out _ _ (kS2.out w4 e4g e49) (fun hHeld => ?_)
       clear hK K
       try simp only [Act.put,zA,zB,zC]
       refine tkF 8 (fun _ q => gd8F q) hHeld ?_
       refine wpAnyH_ready (rs := [9]) (by kernel_rfl) (by simp) ?_
       refine arH rfl (fun K hK => ?_) AllReadyH.nil
       go_simp
       refine hK.out _ _ (kS2.out (S8.set4 w4 b7 (.slice s0 t0 s0') (.slice s1 t1 s1') (.slice s2 t2 s2') (.slice s3 t3 s3')) ((set4_other w4 b7 g h79.out.2 _ _ _ _).trans e4g) ((set4_other w4 b7 g9 h79.out.1 _ _ _ _).trans e49)) (fun hHeld => ?_)
       clear hK K
       try simp only [Act.put,zA,zB,zC]
       refine wpAnyH_done (by kernel_rfl) ?_ _
       clear X4 z0 z1 z2 z3 y0 y1 y2 y3 e4g e49
       have hG:=Hid.mk (HS.out.1.put HN.out HS.out.2.2.2 o4 (We.gdr g4) p4)
       have hst:=HS.out.2.2.1
       rw [if_pos (by simp)] at hst
       replace hst:=Hid.mk hst
       go_wp2_with fail
       exact ⟨⟨k + 1,_,_,_,_,by omega,by omega,by go_num,by rw [hst.out]; exact hG.out⟩,by simp [intOf]; omega⟩
      ·have hEb : (E == 0) = false:=by simpa using hE
       have hst:=HS.out.2.2.1
       rw [if_neg (fun q => hE q.2)] at hst
       have hG:=Hid.mk (And.intro (HS.out.1.call hN.bel) hst)
       clear hN hst
       go_wp2_with fail
       exact ⟨⟨k + 1,_,_,_,_,by omega,by omega,by go_num,by rw [hG.out.2]; exact hG.out.1⟩,by simp [intOf]; omega⟩
   ·have hkm : Hid (k = min xl 6):=Hid.mk (by omega)
    have HS:=Hid.mk hs
    obtain ⟨e0,f0,h0,rfl⟩:=hs.at'.sp.isSl
    obtain ⟨e1,f1,h1,rfl⟩:=hs.at'.lv.isSl
    obtain ⟨e2,f2,h2,rfl⟩:=hs.at'.bad.isSl
    obtain ⟨e3,f3,h3,rfl⟩:=hs.at'.worn.isSl
    obtain ⟨z0,z1,z2,z3⟩:=hs.box.cells
    obtain ⟨y0,y1,y2,y3⟩:=hs.res.cells
    have x0:=hs.res.fz 0
    have x1:=hs.res.fz 1
    have x2:=hs.res.fz 2
    have x3:=hs.res.fz 3
    have h9 : Hid (Bx4 b7 (.slice e0 f0 h0) (.slice e1 f1 h1) (.slice e2 f2 h2) (.slice e3 f3 h3) wr.drew):=Hid.mk ⟨z0,z1,z2,z3⟩
    have hX7 : S8.Box4 (S8.set4 wr.drew b5 (.slice e0 f0 h0) (.slice e1 f1 h1) (.slice e2 f2 h2) (.slice e3 f3 h3)) b7 (.slice e0 f0 h0) (.slice e1 f1 h1) (.slice e2 f2 h2) (.slice e3 f3 h3):=(set4_other wr.drew b5 b7 (fun e => hs.ne e.symm) _ _ _ _).trans hs.box
    have h9b : Hid (Bx4 b7 (.slice e0 f0 h0) (.slice e1 f1 h1) (.slice e2 f2 h2) (.slice e3 f3 h3) (S8.set4 wr.drew b5 (.slice e0 f0 h0) (.slice e1 f1 h1) (.slice e2 f2 h2) (.slice e3 f3 h3))):=Hid.mk hX7.cells
    have hX5:=S8.set4_box (w:=wr.drew) hs.res (.slice e0 f0 h0) (.slice e1 f1 h1) (.slice e2 f2 h2) (.slice e3 f3 h3)
    have hld : Hid ((loadVar 38 ⟨b5,0,none⟩).run Tryz.prog (S8.set4 wr.drew b5 (.slice e0 f0 h0) (.slice e1 f1 h1) (.slice e2 f2 h2) (.slice e3 f3 h3)) = .ok (.agg #[.slice e0 f0 h0,.slice e1 f1 h1,.slice e2 f2 h2,.slice e3 f3 h3]) (S8.set4 wr.drew b5 (.slice e0 f0 h0) (.slice e1 f1 h1) (.slice e2 f2 h2) (.slice e3 f3 h3))):=Hid.mk (by
     obtain ⟨n0,n1,n2,n3⟩:=hX5.cells
     go_simp)
    have hso : ∀ g,g ≠ b5 -> (S8.set4 wr.drew b5 (.slice e0 f0 h0) (.slice e1 f1 h1) (.slice e2 f2 h2) (.slice e3 f3 h3)).heap[g]? = wr.heap[g]? := fun g hg => set4_other wr.drew b5 g hg _ _ _ _
    have hbl : Below w.heap.size w (S8.set4 wr.drew b5 (.slice e0 f0 h0) (.slice e1 f1 h1) (.slice e2 f2 h2) (.slice e3 f3 h3)):=by
     unfold S8.set4
     exact (((hs.below.drew.setCell hs.lo.1 _).setCell hs.lo.1 _).setCell hs.lo.1 _).setCell hs.lo.1 _
    clear hs hX7
    have hRA:=Hid.mk (And.intro hX5 (And.intro hso hbl))
    clear hX5 hso hbl
    rcases (show ¬ k < xl \/ (k < xl /\ ¬ k < 6) by omega) with hc | ⟨hc,hc2⟩
    ·have hcI : ¬ (k : Int) < (xl : Int):=by omega
     go_upto_region 9 with fail
     refine wp_region_held_drew (S:=fun w' => Bx4 b7 (.slice e0 f0 h0) (.slice e1 f1 h1) (.slice e2 f2 h2) (.slice e3 f3 h3) w') (by kernel_rfl) h9.out (fun hHeld => ?_)
     refine tkF 0 (fun _ q => bx4F q) hHeld ?_
     refine tkF 1 (fun _ q => bx4F q) hHeld ?_
     refine tkF 2 (fun _ q => bx4F q) hHeld ?_
     refine wpAnyH_ready (rs := [3]) (by kernel_rfl) (by simp) ?_
     refine arH rfl (fun K hK => ?_) AllReadyH.nil
     go_simp
     refine hK.out _ _ h9b.out (fun hHeld => ?_)
     clear hK K
     try simp only [Act.put,zA,zB,zC]
     refine wpAnyH_done (by kernel_rfl) ?_ _
     go_wp2_with fail
     refine bodyPost_ret (gd_result rfl rfl hld.out) rfl ?_
     have hn5 : ∀ {e sz : Nat} {u : Value} {rows : We.Rws} {B : Nat},We.Ow wr B e sz u rows -> e ≠ 38 -> We.Ow (S8.set4 wr.drew b5 (.slice e0 f0 h0) (.slice e1 f1 h1) (.slice e2 f2 h2) (.slice e3 f3 h3)) B e sz u rows:=fun ho he => ho.same (fun g hg => hRA.out.2.1 g (fun q => ow_ne_cell (Ow.from8 ho) HS.out.res he (by rw [<- q]; exact hg)))
     rw [<- hkm.out]
     exact ⟨_,_,_,_,_,rfl,hn5 HS.out.out (by decide),⟨hn5 HS.out.at'.sp (by decide),hn5 HS.out.at'.lv (by decide),hn5 HS.out.at'.bad (by decide),hn5 HS.out.at'.worn (by decide)⟩,hRA.out.2.2,HS.out.o0,HS.out.o1,HS.out.o2,HS.out.o3⟩
    ·have hcI : (k : Int) < (xl : Int):=by omega
     have hcI2 : ¬ (k : Int) < 6:=by omega
     go_upto_region 9 with fail
     refine wp_region_held_drew (S:=fun w' => Bx4 b7 (.slice e0 f0 h0) (.slice e1 f1 h1) (.slice e2 f2 h2) (.slice e3 f3 h3) w') (by kernel_rfl) h9.out (fun hHeld => ?_)
     refine tkF 0 (fun _ q => bx4F q) hHeld ?_
     refine tkF 1 (fun _ q => bx4F q) hHeld ?_
     refine tkF 2 (fun _ q => bx4F q) hHeld ?_
     refine wpAnyH_ready (rs := [3]) (by kernel_rfl) (by simp) ?_
     refine arH rfl (fun K hK => ?_) AllReadyH.nil
     go_simp
     refine hK.out _ _ h9b.out (fun hHeld => ?_)
     clear hK K
     try simp only [Act.put,zA,zB,zC]
     refine wpAnyH_done (by kernel_rfl) ?_ _
     go_wp2_with fail
     refine bodyPost_ret (gd_result rfl rfl hld.out) rfl ?_
     have hn5 : ∀ {e sz : Nat} {u : Value} {rows : We.Rws} {B : Nat},We.Ow wr B e sz u rows -> e ≠ 38 -> We.Ow (S8.set4 wr.drew b5 (.slice e0 f0 h0) (.slice e1 f1 h1) (.slice e2 f2 h2) (.slice e3 f3 h3)) B e sz u rows:=fun ho he => ho.same (fun g hg => hRA.out.2.1 g (fun q => ow_ne_cell (Ow.from8 ho) HS.out.res he (by rw [<- q]; exact hg)))
     rw [<- hkm.out]
     exact ⟨_,_,_,_,_,rfl,hn5 HS.out.out (by decide),⟨hn5 HS.out.at'.sp (by decide),hn5 HS.out.at'.lv (by decide),hn5 HS.out.at'.bad (by decide),hn5 HS.out.at'.worn (by decide)⟩,hRA.out.2.2,HS.out.o0,HS.out.o1,HS.out.o2,HS.out.o3⟩
end Go.Proofs.YtaphpdmfjnhlaaaGreatDoor
