/-
  Groups that are written one behind the other: the walk of the laws' own 'written'. Condition: the table's cells hold what the text lays.
-/
import Derived.Test.YtaphpdmfjnhlaaaGreatDoorCWri
namespace Go.Proofs.YtaphpdmfjnhlaaaGreatDoor
open Go Go.RowKit
set_option maxRecDepth 100000
theorem wr_result {fn : Func} {p u v : Tmp} (h : fn.results = #[.cell p 38,.tmp u,.tmp v]) {tmps : Array Value} {w : World} {g : Nat} {v0 v1 v2 v3 : Value} (hp : tmps.getD p undef = .pointer (some ⟨g,0,none⟩)) (hg : (loadVar 38 ⟨g,0,none⟩).run Tryz.prog w = .ok (.agg #[v0,v1,v2,v3]) w) :
  (results fn tmps).run Tryz.prog w = .ok (.tuple #[.agg #[v0,v1,v2,v3],tmps.getD u undef,tmps.getD v undef]) w:=by
 have hp' : tmps[p]?.getD undef = .pointer (some ⟨g,0,none⟩):=by simpa using hp
 simp only [results,h]
 simp [Result.andThen,hp',asAddr,hg]
theorem load4 {w : World} {g : Nat} {a0 a1 a2 a3 : Option Addr} {n0 n1 n2 n3 c0 c1 c2 c3 : Nat} (h : S8.Box4 w g (.slice a0 n0 c0) (.slice a1 n1 c1) (.slice a2 n2 c2) (.slice a3 n3 c3)) : (loadVar 38 ⟨g,0,none⟩).run Tryz.prog w = .ok (.agg #[.slice a0 n0 c0,.slice a1 n1 c1,.slice a2 n2 c2,.slice a3 n3 c3]) w:=by
 obtain ⟨k0,k1,k2,k3⟩:=h.cells
 go_simp
theorem may_ap {t : S8.Ab} {r : Gp.R6} (h : (S8.apR t r).2 = 0) : Gp.R6.may r = true:=by
 cases hm : Gp.mayB r.1 r.2.1 r.2.2.1 r.2.2.2.1 r.2.2.2.2.1 r.2.2.2.2.2 with
 | true => exact Gp.mayB_iff.2 (Gp.mayB_iff.1 hm)
 | false =>
  exfalso
  unfold S8.apR S8.apA at h
  rw [if_pos hm] at h
  exact absurd h (by show ¬ (1 : Int) = 0; decide)
theorem may_plays (l : List Gp.R6) : ∀ (t t' : S8.Ab),S8.plays t l t' -> ∀ r ∈ l,Gp.R6.may r = true:=by
 induction l with
 | nil => intro t t' _ r hr; cases hr
 | cons x l ih =>
  rintro t t' ⟨h1,h2⟩ r hr
  rcases List.mem_cons.1 hr with rfl | hr
  ·exact may_ap h1
  ·exact ih _ _ h2 r hr
theorem dump_may {t : S8.Ab} (h : S8.InvA t) : (∀ r ∈ S8.dumpR (S8.rs t),Gp.R6.may r = true)/\(S8.dumpR (S8.rs t)).length <= 20000/\S8.plays S8.noAb (S8.dumpR (S8.rs t)) t:=by
 rw [S8.dump_same h]
 have hp:=S8.plays_dump h
 refine ⟨may_plays _ _ _ hp,?_,hp⟩
 have h1:=S8.du_len h t.sp.length t.bad.length t.worn.length
 rw [S8.du_all,List.length_map] at h1
 omega
theorem wp_first : Wp (fun _ => Gp.puts []) (fun _ => (3,1,0,1)) 0 1 0 1 [] (fun _ => []) (fun _ => S8.noAb):=by
 have hp : Gp.packGo (64 : Nat) (([] : List Gp.R6).map Gp.R6.put) [] ⟨#[]⟩ = [Gp.puts []]:=pack_few [] (fun r hr => by cases hr) (by simp)
 refine ⟨by omega,by omega,by omega,fun i hi => absurd hi (by omega),fun i hi => ⟨by decide,by decide⟩,by rw [hp]; rfl,fun j hj => ?_,fun r hr => absurd hr (by simp),rfl,fun j hj => absurd hj (by omega)⟩
 obtain rfl : j = 0:=by omega
 rw [hp]
 exact ⟨rfl,rfl⟩
theorem first_TQ : ∀ i,i < [Gp.puts []].length -> (fun _ => Gp.puts []) (0 + i) = [Gp.puts []].getD i ⟨#[]⟩/\(fun _ => ((3,1,0,1) : Tg)) (0 + i) = (3,sqN ((3 : Nat) : Int) 1 i,i,[Gp.puts []].length)
 | 0,_ => ⟨rfl,rfl⟩
 | i + 1,h => absurd h (by simp)
def WnS (w0 : World) (A : Wl) (bb p z b4 b7 k : Nat) (nx e : Int) (wr : World) : Prop :=
 (e = 0 /\ ∃ A' X' T Q c0 m kk s recs rows st u0 u1 u2 u3,nx = ((s + 1 + kk : Nat) : Int)/\kk <= k/\s + kk <= k + 1/\WtS w0 A bb p z b4 b7 A' X' T Q c0 m kk s recs rows st u0 u1 u2 u3 wr) ∨
 (e = 130/\Below w0.heap.size w0 wr/\w0.heap.size <= b4/\S8.Box4 wr b4 (.slice none 0 0) (.slice none 0 0) (.slice none 0 0) (.slice none 0 0) /\ ∃ t u0 u1 u2 u3,S8.Box4 wr b7 u0 u1 u2 u3/\S8.RAt wr w0.heap.size u0 u1 u2 u3 (S8.rs t)/\S8.InvA t)
structure NxW (B : Nat) (wr : World) (v0 v1 v2 v3 : Value) (rws : List Gp.R6) (t' : S8.Ab) (v : Value) (g9 : Nat) (u0 u1 u2 u3 : Value) (wx : World) : Prop where
 nx : NxG B wr v0 v1 v2 v3 t' g9 u0 u1 u2 u3 wx
 out : We.Ow wx wr.heap.size 87 6 v (rws.map S8.rR)
theorem nxw_1 {B : Nat} {wr w5 : World} {v v0 v1 v2 v3 u0 u1 u2 u3 : Value} {rws : List Gp.R6} {t' : S8.Ab} (o : We.Ow w5 wr.drew.heap.size 87 6 v (rws.map S8.rR)) (R : S8.RAt w5 B u0 u1 u2 u3 (S8.rs t')) (b : Below wr.drew.heap.size wr.drew w5) (o0 : S8.Own2 wr.drew v0 u0) (o1 : S8.Own2 wr.drew v1 u1) (o2 : S8.Own2 wr.drew v2 u2) (o3 : S8.Own2 wr.drew v3 u3) :
  NxW B wr v0 v1 v2 v3 rws t' v w5.heap.size u0 u1 u2 u3 (w5.alloc (.cells #[u0,u1,u2,u3] 38)):=⟨nxg_1 b R o0 o1 o2 o3,We.Ow.alloc (w:=w5) (B:=wr.heap.size) o _⟩
theorem nxw_2 {B : Nat} {t0 : S8.Rs} {wr w5 : World} {v v0 v1 v2 v3 u0 u1 u2 u3 : Value} {rws : List Gp.R6} {t' : S8.Ab} (o : We.Ow w5 (wr.alloc (.cells #[.slice none 0 0,.slice none 0 0,.slice none 0 0,.slice none 0 0] 38)).drew.heap.size 87 6 v (rws.map S8.rR)) (R : S8.RAt w5 B u0 u1 u2 u3 (S8.rs t')) (b : Below (wr.alloc (.cells #[.slice none 0 0,.slice none 0 0,.slice none 0 0,.slice none 0 0] 38)).drew.heap.size (wr.alloc (.cells #[.slice none 0 0,.slice none 0 0,.slice none 0 0,.slice none 0 0] 38)).drew w5)
  (hv : S8.RAt wr B v0 v1 v2 v3 t0) (o0 : S8.Own2 (wr.alloc (.cells #[.slice none 0 0,.slice none 0 0,.slice none 0 0,.slice none 0 0] 38)).drew v0 u0) (o1 : S8.Own2 (wr.alloc (.cells #[.slice none 0 0,.slice none 0 0,.slice none 0 0,.slice none 0 0] 38)).drew v1 u1) (o2 : S8.Own2 (wr.alloc (.cells #[.slice none 0 0,.slice none 0 0,.slice none 0 0,.slice none 0 0] 38)).drew v2 u2) (o3 : S8.Own2 (wr.alloc (.cells #[.slice none 0 0,.slice none 0 0,.slice none 0 0,.slice none 0 0] 38)).drew v3 u3) :
  NxW B wr v0 v1 v2 v3 rws t' v wr.heap.size u0 u1 u2 u3 (S8.set4 w5 wr.heap.size u0 u1 u2 u3):=by
 have hlt : wr.heap.size < (wr.alloc (.cells #[.slice none 0 0,.slice none 0 0,.slice none 0 0,.slice none 0 0] 38)).drew.heap.size:=by show _ < (wr.alloc _).heap.size; rw [size_alloc]; omega
 refine ⟨nxg_2 b R hv o0 o1 o2 o3,(We.Ow.same o (fun g hg => set4_other w5 wr.heap.size g (fun e => ?_) _ _ _ _)).lower (Nat.le_of_lt hlt)⟩
 have:=(o.lt g hg).1
 omega
structure PutS (w0 : World) (b4 b7 g9 : Nat) (A6 : Wl) (X6 : Wx) (t' : S8.Ab) (u0 u1 u2 u3 : Value) (w6 : World) : Prop where
 nine : S8.Box4 w6 g9 u0 u1 u2 u3
 seven : ∃ v0 v1 v2 v3,S8.Box4 w6 b7 v0 v1 v2 v3
 run : Run w0 A6 X6 (S8.set4 w6 b7 u0 u1 u2 u3)
 box : S8.Box4 (S8.set4 w6 b7 u0 u1 u2 u3) b7 u0 u1 u2 u3
 res : S8.Box4 (S8.set4 w6 b7 u0 u1 u2 u3) b4 (.slice none 0 0) (.slice none 0 0) (.slice none 0 0) (.slice none 0 0)
 at' : S8.RAt (S8.set4 w6 b7 u0 u1 u2 u3) w0.heap.size u0 u1 u2 u3 (S8.rs t')
 away : Away A6 X6.C.B [b4,b7] [u0,u1,u2,u3]
theorem WtS.put {w0 : World} {A : Wl} {bb p z b4 b7 : Nat} {A' : Wl} {X' : Wx} {T : Nat -> ByteArray} {Q : Nat -> Tg} {c0 m kk s : Nat} {recs : List Gp.R6} {rows : Nat -> List Gp.R6} {st : Nat -> S8.Ab} {v0 v1 v2 v3 : Value} {wr wx w6 : World} (h : WtS w0 A bb p z b4 b7 A' X' T Q c0 m kk s recs rows st v0 v1 v2 v3 wr) {t' : S8.Ab} {g9 : Nat} {u0 u1 u2 u3 : Value} (hN : NxG w0.heap.size wr v0 v1 v2 v3 t' g9 u0 u1 u2 u3 wx) {A6 : Wl} {X6 : Wx} (n6 : Nxt A' A6 X'.C.B wx w6) (R6 : Run w0 A6 X6 w6) (gB : X6.C.B = X'.C.B) :
  PutS w0 b4 b7 g9 A6 X6 t' u0 u1 u2 u3 w6:=by
 have hl : ∀ i,A'.own X'.C.B i -> i < wr.heap.size:=fun i hi => h.run.wtr.lt i hi
 have hc:=h.call hN.bel
 have hsz:=hN.bel.size
 have no : ∀ {v u : Value},v ∈ [v0,v1,v2,v3] -> S8.Own2 wr v u -> ∀ i,A'.own X'.C.B i -> u.ownBlock ≠ some i:=fun hv ho i hi e => by
  rcases ho i e with q | q
  ·exact (h.away i hi).2 _ hv q
  ·have:=hl i hi; omega
 have keep : ∀ {e sz : Nat} {v u : Value} {rows : We.Rws},v ∈ [v0,v1,v2,v3] -> S8.Own2 wr v u -> We.Ow wx w0.heap.size e sz u rows -> e ≠ 38 -> We.Ow (S8.set4 w6 b7 u0 u1 u2 u3) w0.heap.size e sz u rows:=fun {e sz v u rows} hv ho hw he =>
  hw.same (fun g hg => (set4_other w6 b7 g (fun q => ow_ne_cell (Ow.from8 hw) hc.box he (by rw [<- q]; exact hg)) _ _ _ _).trans (n6.kp.block g (hw.lt g hg).2 (fun q => no hv ho g q hg)))
 have b6 : S8.Box4 w6 b7 v0 v1 v2 v3:=box_next hc.away n6 (by simp) hc.box
 have a6 : Away A6 X'.C.B [b4,b7] [u0,u1,u2,u3]:=fun i hi => by
  rcases n6.own i hi with q | q
  ·refine ⟨(hc.away i q).1,fun u hu => ?_⟩
   simp only [List.mem_cons,List.not_mem_nil,or_false] at hu
   rcases hu with rfl | rfl | rfl | rfl
   ·exact no (by simp) hN.o0 i q
   ·exact no (by simp) hN.o1 i q
   ·exact no (by simp) hN.o2 i q
   ·exact no (by simp) hN.o3 i q
  ·have hlt:=hc.lts.1
   refine ⟨fun b hb => by have:=hlt b hb; omega,fun u hu e => ?_⟩
   simp only [List.mem_cons,List.not_mem_nil,or_false] at hu
   rcases hu with rfl | rfl | rfl | rfl
   ·have:=(hN.at'.sp.lt i e).2; omega
   ·have:=(hN.at'.lv.lt i e).2; omega
   ·have:=(hN.at'.bad.lt i e).2; omega
   ·have:=(hN.at'.worn.lt i e).2; omega
 have k7 : Kp (fun i => i = b7) w6 (S8.set4 w6 b7 u0 u1 u2 u3):=by
  unfold S8.set4
  exact ((((Kp.refl (fun i => i = b7) w6).setCell (p:=⟨b7,0,none⟩) rfl _).setCell (p:=⟨b7,1,none⟩) rfl _).setCell (p:=⟨b7,2,none⟩) rfl _).setCell (p:=⟨b7,3,none⟩) rfl _
 have hlo:=h.lo.2
 have hpos:=h.pos
 refine ⟨?_,⟨_,_,_,_,b6⟩,⟨R6.wtr.off k7 (fun i hi => ?_),Kp.below R6.below k7 R6.below.size (fun i hi => by omega),R6.lo,Tab.off R6.tab k7 (by omega)⟩,S8.set4_box b6 _ _ _ _,(set4_other w6 b7 b4 h.ne _ _ _ _).trans (box_next hc.away n6 (by simp) hc.res),⟨keep (by simp) hN.o0 hN.at'.sp (by decide),keep (by simp) hN.o1 hN.at'.lv (by decide),keep (by simp) hN.o2 hN.at'.bad (by decide),keep (by simp) hN.o3 hN.at'.worn (by decide)⟩,by rw [gB]; exact a6⟩
 ·exact (n6.kp.block g9 hN.box.lt (fun q => by have:=hl g9 q; have:=hN.lo; omega)).trans hN.box
 ·subst hi
  exact ⟨fun q => (a6 i (by rw [<- gB]; exact q)).1 i (by simp) rfl,⟨_,_,_,b6⟩⟩
structure WtE (w0 : World) (A : Wl) (bb p z : Nat) (A' : Wl) (X' : Wx) (T : Nat -> ByteArray) (Q : Nat -> Tg) (c0 m kk s : Nat) (recs : List Gp.R6) (rows : Nat -> List Gp.R6) (st : Nat -> S8.Ab) (u0 u1 u2 u3 : Value) (wr : World) : Prop where
 run : Run w0 A' X' wr
 aa : A'.a = A.a
 aL : A'.L = A.L
 geo : Geq X' (begX bb p z [] [])
 cuts : X'.C.cuts = (begX bb p z [] []).C.cuts
 fails : X'.C.fails = (begX bb p z [] []).C.fails
 sq : ∃ a r,a * p + r = c0 + m + kk/\Sq 0 X' a r T Q
 wp : Wp T Q c0 m kk s recs rows st
 at' : S8.RAt wr w0.heap.size u0 u1 u2 u3 (S8.rs (st kk))
 inv : S8.InvA (st kk)
 away : Away A' X'.C.B [] [u0,u1,u2,u3]
theorem WtS.done {w0 : World} {A : Wl} {bb p z b4 b7 : Nat} {A' : Wl} {X' : Wx} {T : Nat -> ByteArray} {Q : Nat -> Tg} {c0 m kk s : Nat} {recs : List Gp.R6} {rows : Nat -> List Gp.R6} {st : Nat -> S8.Ab} {u0 u1 u2 u3 : Value} {wr : World} (h : WtS w0 A bb p z b4 b7 A' X' T Q c0 m kk s recs rows st u0 u1 u2 u3 wr) :
  WtE w0 A bb p z A' X' T Q c0 m kk s recs rows st u0 u1 u2 u3 (S8.set4 wr b4 u0 u1 u2 u3)/\S8.Box4 (S8.set4 wr b4 u0 u1 u2 u3) b4 u0 u1 u2 u3:=by
 have k7 : Kp (fun i => i = b4) wr (S8.set4 wr b4 u0 u1 u2 u3):=by
  unfold S8.set4
  exact ((((Kp.refl (fun i => i = b4) wr).setCell (p:=⟨b4,0,none⟩) rfl _).setCell (p:=⟨b4,1,none⟩) rfl _).setCell (p:=⟨b4,2,none⟩) rfl _).setCell (p:=⟨b4,3,none⟩) rfl _
 have hlo:=h.lo.1
 have hpos:=h.pos
 have keep : ∀ {e sz : Nat} {u : Value} {rows : We.Rws},We.Ow wr w0.heap.size e sz u rows -> e ≠ 38 -> We.Ow (S8.set4 wr b4 u0 u1 u2 u3) w0.heap.size e sz u rows:=fun {e sz u rows} hw he => hw.same (fun g hg => set4_other wr b4 g (fun q => ow_ne_cell (Ow.from8 hw) h.res he (by rw [<- q]; exact hg)) _ _ _ _)
 refine ⟨⟨⟨h.run.wtr.off k7 (fun i hi => ?_),Kp.below h.run.below k7 h.run.below.size (fun i hi => by omega),h.run.lo,Tab.off h.run.tab k7 (by omega)⟩,h.aa,h.aL,h.geo,h.cuts,h.fails,h.sq,h.wp,⟨keep h.at'.sp (by decide),keep h.at'.lv (by decide),keep h.at'.bad (by decide),keep h.at'.worn (by decide)⟩,h.inv,fun i hi => ⟨(fun b hb => absurd hb (by simp)),(h.away i hi).2⟩⟩,S8.set4_box h.res _ _ _ _⟩
 subst hi
 exact ⟨fun q => (h.away i q).1 i (by simp) rfl,⟨_,_,_,h.res⟩⟩
theorem nxv_check (x n : Nat) (h : 1 <= n) : nxv 3 x n = x + 1:=by
 unfold nxv sqN
 rw [if_neg (by omega),if_pos (by decide)]
theorem nxv_jour (x : Nat) : nxv 2 x 1 = x + 1:=by
 unfold nxv sqN
 rw [if_neg (by omega),if_neg (by decide)]
def WnR (w0 : World) (A : Wl) (bb p z : Nat) (e : Ending) (w' : World) : Prop := ∃ (u0 u1 u2 u3 : Value) (nx : Int) (ok : Bool),e = .returned (.tuple #[.agg #[u0,u1,u2,u3],.int .u64 nx,.bool ok])/\Below w0.heap.size w0 w' ∧
   (ok = true -> ∃ A' X' T Q c0 m kk s recs rows st,nx = ((s + 1 + kk : Nat) : Int)/\kk <= 12/\s + kk <= 20/\WtE w0 A bb p z A' X' T Q c0 m kk s recs rows st u0 u1 u2 u3 w')/\(ok = false -> ∃ t,S8.RAt w' w0.heap.size u0 u1 u2 u3 (S8.rs t)/\S8.InvA t)
set_option maxHeartbeats 4000000 in
theorem written_any {w0 : World} {A : Wl} {bb p z : Nat} (hg : 8 <= bb/\bb <= 15/\4 <= p/\p <= 11/\64 <= z/\z <= 127) (w : World) (hR : Run w0 A (begX bb p z [] []) w) (hpos : 0 < w0.heap.size) (xa : Option Addr) (xl xc : Nat) (gs : Nat -> Gr) (hx : GrpF w0 xa xl gs) :
  Calls Tryz.prog 9 #[.pointer (some ⟨A.a,0,none⟩),.slice xa xl xc] w fun e w' => WnR w0 A bb p z e w':=by
 have hbp : bb * p <= 15 * 11:=Nat.mul_le_mul (show bb <= 15 by omega) (show p <= 11 by omega)
 have hbp2 : 32 <= bb * p:=Nat.mul_le_mul (show 8 <= bb by omega) (show 4 <= p by omega)
 have HX:=Hid.mk hx
 have HR:=Hid.mk hR
 clear hx hR
 go_enter Tryz.func9,Tryz.ntmps9
 go_upto_region 2 with fail
 have bA:=Pg.below_one w (.cells #[.slice none 0 0,.slice none 0 0,.slice none 0 0,.slice none 0 0] 38)
 have bB:=Pg.below_one (w.alloc (.cells #[.slice none 0 0,.slice none 0 0,.slice none 0 0,.slice none 0 0] 38)) (.cells #[.slice none 0 0,.slice none 0 0,.slice none 0 0,.slice none 0 0] 38)
 have X4:=(S8.Box4.fresh w (.slice none 0 0) (.slice none 0 0) (.slice none 0 0) (.slice none 0 0)).call bB
 have X7:=S8.Box4.fresh (w.alloc (.cells #[.slice none 0 0,.slice none 0 0,.slice none 0 0,.slice none 0 0] 38)) (.slice none 0 0) (.slice none 0 0) (.slice none 0 0) (.slice none 0 0)
 have R2:=HR.out.call (below3 bA bB)
 have S1:=Sq.beg bb p z [] [] (by omega) (by omega) (by omega) (fun _ => Gp.puts []) (fun _ => (3,1,0,1))
 have hw:=write_any R2.wtr R2.tab S1 0 (by simp) [] none 0 (fun i hi => absurd hi (by simp)) (fun r hr => by cases hr) (by simp) 3 (by omega) 1 (by omega) 64 ⟨by omega,by show 64 <= z; omega⟩ [Gp.puts []] (pack_few [] (fun r hr => by cases hr) (by simp)) first_TQ 0 (0,0) (beg_cuts bb p z (0,0)) (fun i => rfl) (by omega)
 have HW:=Hid.mk hw
 have hlo : Hid (w0.heap.size <= w.heap.size):=Hid.mk HR.out.below.size
 have H2:=Hid.mk (And.intro R2 (And.intro X4 X7))
 have hAl : Hid (∀ i,A.own bb i -> i < w.heap.size):=Hid.mk (fun i hi => HR.out.wtr.lt i hi)
 clear hw S1 R2 X4 X7 bA bB
 generalize hb7 : (w.alloc (.cells #[.slice none 0 0,.slice none 0 0,.slice none 0 0,.slice none 0 0] 38)).heap.size = b7 at *
 generalize ((w.alloc (.cells #[.slice none 0 0,.slice none 0 0,.slice none 0 0,.slice none 0 0] 38)).alloc (.cells #[.slice none 0 0,.slice none 0 0,.slice none 0 0,.slice none 0 0] 38)) = W at *
 rw [size_alloc] at hb7
 rw [hb7]
 generalize hb4 : w.heap.size = b4 at *
 replace hb4:=Hid.mk hb4
 have h47 : Hid (b4 < b7):=Hid.mk (by omega)
 clear hb7
 have hnx : ((nxv 3 1 1 : Nat) : Int) = 2:=rfl
 have hnx' : ((nxv 3 1 [Gp.puts []].length : Nat) : Int) = 2:=rfl
 go_upto_region 5 with (first
  | (go_at_call 17; refine HW.out.mono ?_; rintro e w3 ⟨X3,A3,t3,tb3,n3,g3,cu3,fa3,hcase⟩; rcases hcase with ⟨_,_,⟨v3,rfl,_⟩,a3,r3,ar3,S3⟩ | ⟨h0,_⟩ | ⟨h0,_⟩; rotate_left; exact absurd h0 (by omega); (exfalso; have h00 : bb * p < 0 + 1:=h0; omega)))
 try rw [hnx']
 try rw [hnx]
 have haw : Away A bb [b4,b7] [.slice none 0 0,.slice none 0 0,.slice none 0 0,.slice none 0 0]:=fun i hi => by
  have:=hAl.out i hi
  have:=h47.out
  refine ⟨fun b hb => ?_,fun u hu e => ?_⟩
  ·simp only [List.mem_cons,List.not_mem_nil,or_false] at hb
   omega
  ·simp only [List.mem_cons,List.not_mem_nil,or_false] at hu
   rcases hu with rfl | rfl | rfl | rfl <;> cases e
 have l4:=H2.out.2.1.lt
 have l7:=H2.out.2.2.lt
 have S0 : WtS w0 A bb p z b4 b7 A3 X3 (fun _ => Gp.puts []) (fun _ => (3,1,0,1)) 0 1 0 1 [] (fun _ => []) (fun _ => S8.noAb) (.slice none 0 0) (.slice none 0 0) (.slice none 0 0) (.slice none 0 0) w3:=by
  refine ⟨H2.out.1.next t3 n3,n3.a,n3.L,g3,cu3,fa3,⟨a3,r3,ar3,S3⟩,wp_first,box_next haw n3 (by simp) H2.out.2.2,box_next haw n3 (by simp) H2.out.2.1,rat_no _ _,inv_no,?_,by have:=h47.out; omega,⟨hlo.out,by have:=hlo.out; have:=h47.out; omega⟩,hpos⟩
  have e : X3.C.B = bb:=g3.1
  rw [e]
  refine away_next haw n3 (fun b hb => ?_) (fun u hu g hg => ?_)
  ·simp only [List.mem_cons,List.not_mem_nil,or_false] at hb
   omega
  ·simp only [List.mem_cons,List.not_mem_nil,or_false] at hu
   rcases hu with rfl | rfl | rfl | rfl <;> cases hg
 have HS0:=Hid.mk S0
 clear S0 haw l4 l7 t3 tb3 n3 g3 cu3 fa3 ar3 S3 H2 HW hnx hnx' HR hAl
 go_loopw [8,11,12] (fun nv ev iv wr => ∃ (k : Nat) (nx e : Int),k <= 12/\k <= xl/\iv = .int .i64 k/\nv = .int .u64 nx/\ev = .int .i64 e/\WnS w0 A bb p z b4 b7 k nx e wr) (fun _ _ i _ => 12 - (intOf i).toNat)
 case atStart => exact ⟨0,2,0,by omega,Nat.zero_le _,rfl,rfl,rfl,.inl ⟨rfl,_,_,_,_,_,_,_,_,_,_,_,_,_,_,_,rfl,by omega,by omega,HS0.out⟩⟩
 case round =>
  clear HS0
  obtain ⟨k,nx,e,hk12,hkl,rfl,rfl,rfl,hWn⟩:=hrel
  by_cases hgo : k < xl/\k < 12/\e = 0
  ·obtain ⟨hg1,hg2,rfl⟩:=hgo
   have hk1 : (k : Int) < (xl : Int):=by omega
   have hk2 : (k : Int) < 12:=by omega
   rcases hWn with ⟨_,A',X',T,Q,c0,m,kk,s,recs,rows,st,u0,u1,u2,u3,rfl,hkk,hskk,hS⟩ | ⟨h0,_⟩
   rotate_left
   ·exact absurd h0 (by decide)
   obtain ⟨g,o,rfl,hgl,q0,q1,hrec⟩:=HX.out.below hS.run.below k hg1
   obtain ⟨e0,f0,h0,rfl⟩:=hS.at'.sp.isSl
   obtain ⟨e1,f1,h1,rfl⟩:=hS.at'.lv.isSl
   obtain ⟨e2,f2,h2,rfl⟩:=hS.at'.bad.isSl
   obtain ⟨e3,f3,h3,rfl⟩:=hS.at'.worn.isSl
   obtain ⟨z0,z1,z2,z3⟩:=hS.box.cells
   have HS:=Hid.mk hS
   have hinv:=hS.inv
   have hwl:=hS.lts
   generalize gs k = gr at *
   obtain ⟨gc,ga,gn,gcap,gf⟩:=gr
   dsimp only at q0 q1 hrec
   cases gc with
   | true =>
    obtain ⟨hd1,hd2,hd3⟩:=dump_may hinv
    have hdu:=Hid.mk (S8.rdump_any hS.at' (S8.dump_rs hinv) (S8.lens_rs hinv))
    clear hS hrec
    generalize S8.dumpR (S8.rs (st kk)) = D at *
    replace hd1:=Hid.mk hd1
    replace hd3:=Hid.mk hd3
    obtain ⟨ts,hts⟩ : ∃ ts,Gp.packGo (64 : Nat) (D.map Gp.R6.put) [] ⟨#[]⟩ = ts:=⟨_,rfl⟩
    have hpl:=Gp.packGo_len (64 : Nat) (D.map Gp.R6.put) [] ⟨#[]⟩
    rw [hts,List.length_map] at hpl
    simp only [List.length_nil,Nat.zero_add] at hpl
    replace hts:=Hid.mk hts
    go_wp2_with (first
     | (go_at_call 29; refine hdu.out.mono ?_; rintro e w5 ⟨v5,rfl,o5,b5⟩; obtain ⟨a5,c5,rfl⟩:=o5.form; rw [List.length_map] at o5 |-)
     | (go_at_call 17; refine ((HS.out.call b5).write (by omega) D a5 c5 (recs_ow o5) hd1.out hd2 3 (by omega) (by omega) ts hts.out).mono ?_; rintro e w6 ⟨X6,A6,R6,a6,L6,n6,g6,cu6,fa6,hcase⟩; rcases hcase with ⟨_,⟨v6,rfl⟩,sq6⟩ | ⟨_,x6,rfl⟩))
    ·have hS5:=HS.out.call b5
     have hl5:=hS5.lts
     refine ⟨⟨k + 1,_,0,by omega,by omega,by go_num,rfl,rfl,.inl ⟨rfl,A6,X6,_,_,c0 + m + kk,ts.length,0,s + 1 + kk,D,(fun _ => []),(fun _ => st kk),_,_,_,_,?_,by omega,by omega,⟨R6,a6,L6,g6,cu6,fa6,sq6,HS.out.wp.check D hd1.out hd2 hd3.out (by omega) hts.out,box_next hS5.away n6 (by simp) hS5.box,box_next hS5.away n6 (by simp) hS5.res,rat_next hS5.away n6 hS5.at',hinv,?_,hS5.ne,hS5.lo,hpos⟩⟩⟩,by simp [intOf]; omega⟩
     ·rw [nxv_check _ _ (by omega)]
     ·have e : X6.C.B = X'.C.B:=g6.1.trans HS.out.geo.1.symm
      rw [e]
      exact away_next hS5.away n6 hl5.1 hl5.2
    ·have hS5:=HS.out.call b5
     exact ⟨⟨k + 1,x6,130,by omega,by omega,by go_num,rfl,rfl,.inr ⟨rfl,R6.below,hS5.lo.1,box_next hS5.away n6 (by simp) hS5.res,st kk,_,_,_,_,box_next hS5.away n6 (by simp) hS5.box,rat_next hS5.away n6 hS5.at',hinv⟩⟩,by simp [intOf]; omega⟩
   | false =>
    have hBw : w0.heap.size <= wr.heap.size:=hS.run.below.size
    have C15 : Hid (∀ W,Below wr.heap.size wr W -> Calls Tryz.prog 15 #[.slice ga gn gcap,.agg #[.slice e0 f0 h0,.slice e1 f1 h1,.slice e2 f2 h2,.slice e3 f3 h3]] W fun e w' => ∃ v u0 u1 u2 u3,e = .returned (.tuple #[v,.agg #[u0,u1,u2,u3]])/\We.Ow w' W.heap.size 87 6 v ((gdF gf (min gn 6) (st kk)).1.map S8.rR)/\S8.RAt w' w0.heap.size u0 u1 u2 u3 (S8.rs (gdF gf (min gn 6) (st kk)).2)/\Below W.heap.size W w'/\S8.Own2 W (.slice e0 f0 h0) u0/\S8.Own2 W (.slice e1 f1 h1) u1/\S8.Own2 W (.slice e2 f2 h2) u2/\S8.Own2 W (.slice e3 f3 h3) u3):=Hid.mk (fun W b => good_any ga gn gcap gf W (hrec.below b) (hS.at'.call b) (Nat.le_trans hBw b.size) hinv)
    have hrl:=gdF_len gf (min gn 6) (st kk)
    have hrm:=Hid.mk (gdF_may gf (min gn 6) (st kk))
    have hrp:=Hid.mk (gdF_plays gf (min gn 6) (st kk))
    have hri:=Hid.mk (gdF_inv gf (min gn 6) hinv)
    have kS : Hid (∀ w',Below wr.heap.size wr w' -> Below wr.heap.size wr w'/\(w'.cell? ⟨b7,0,none⟩ = some (.slice e0 f0 h0)/\w'.cell? ⟨b7,1,none⟩ = some (.slice e1 f1 h1)/\w'.cell? ⟨b7,2,none⟩ = some (.slice e2 f2 h2)/\w'.cell? ⟨b7,3,none⟩ = some (.slice e3 f3 h3))/\w'.cell? ⟨g,o + k * 2 + 1,none⟩ = some (.slice ga gn gcap)):=Hid.mk (fun w' q => ⟨q,(hS.box.call q).cells,(q.cell (p:=⟨g,o + k * 2 + 1,none⟩) hgl).trans q1⟩)
    have hRA:=Hid.mk hS.at'
    generalize (gdF gf (min gn 6) (st kk)).1 = rws at *
    generalize (gdF gf (min gn 6) (st kk)).2 = t' at *
    clear hS hrec
    go_upto_region 9 with fail
    clear z0 z1 z2 z3 q0 q1
    go_cut [13,14] from 52 to 61 (fun v13 v14 wx => ∃ g9 u0 u1 u2 u3,v14 = .pointer (some ⟨g9,0,none⟩)/\NxW w0.heap.size wr (.slice e0 f0 h0) (.slice e1 f1 h1) (.slice e2 f2 h2) (.slice e3 f3 h3) rws t' v13 g9 u0 u1 u2 u3 wx)
    case first =>
     go_region_held3 (fun w' => Below wr.heap.size wr w'/\(w'.cell? ⟨b7,0,none⟩ = some (.slice e0 f0 h0)/\w'.cell? ⟨b7,1,none⟩ = some (.slice e1 f1 h1)/\w'.cell? ⟨b7,2,none⟩ = some (.slice e2 f2 h2)/\w'.cell? ⟨b7,3,none⟩ = some (.slice e3 f3 h3))/\w'.cell? ⟨g,o + k * 2 + 1,none⟩ = some (.slice ga gn gcap))
      (first | assumption | exact kS.out _ (Below.refl _ wr) | exact kS.out _ (Below.refl _ wr).drew | exact kS.out _ (below3 (And.left (by assumption)) (by assumption)) | exact kS.out _ (below3 (And.left (by assumption)) (Pg.below_one _ _)) | exact kS.out _ (Pg.below_one wr _).drew | exact kS.out _ (Pg.below_one _ _) | exact kS.out _ (below3 (below3 (Below.refl _ wr).drew (by assumption)) (Pg.below_one _ _)) | exact kS.out (S8.set4 w5 wr.heap.size _ _ _ _) (S8.kp_bel (below3 (Pg.below_one wr _).drew (by assumption)) (S8.set4_kp w5 wr.heap.size wr.heap.size _ _ _ _) (Nat.le_refl _) (Nat.le_refl _)) | fail)
      (first | (go_at_call 15; refine (C15.out _ (And.left (by assumption))).mono ?_; rintro e w5 ⟨v5,u0,u1,u2,u3,rfl,O5,R5,b5,o0,o1,o2,o3⟩; obtain ⟨s0,t0,s0',rfl⟩:=R5.sp.isSl; obtain ⟨s1,t1,s1',rfl⟩:=R5.lv.isSl; obtain ⟨s2,t2,s2',rfl⟩:=R5.bad.isSl; obtain ⟨s3,t3,s3',rfl⟩:=R5.worn.isSl; simp only; try (have X5 : S8.Box4 w5 wr.heap.size (.slice none 0 0) (.slice none 0 0) (.slice none 0 0) (.slice none 0 0):=(b5.block wr.heap.size (by show _ < (wr.alloc _).heap.size; rw [size_alloc]; omega)).trans (heap_alloc_new wr _); obtain ⟨z0,z1,z2,z3⟩:=X5.cells; have y0:=X5.fz 0; have y1:=X5.fz 1; have y2:=X5.fz 2; have y3:=X5.fz 3)))
     all_goals
      go_wp2_with fail
      go_meet
      first
       | exact ⟨_,_,_,_,_,rfl,nxw_1 O5 R5 b5 o0 o1 o2 o3⟩
       | exact ⟨_,_,_,_,_,rfl,nxw_2 O5 R5 b5 hRA.out o0 o1 o2 o3⟩
    case rest =>
     obtain ⟨g9,u0,u1,u2,u3,rfl,hN⟩:=hcut
     obtain ⟨av,cv,hav⟩:=hN.out.form
     rw [List.length_map] at hav
     subst hav
     by_cases hz : rws.length = 0
     ·have hzI : (rws.length : Int) = 0:=by omega
      have hS9:=Hid.mk (HS.out.call hN.nx.bel)
      clear hN
      rw [hz]
      go_wp2_with fail
      exact ⟨⟨k + 1,_,0,by omega,by omega,by go_num,rfl,rfl,.inl ⟨rfl,A',X',T,Q,c0,m,kk,s,recs,rows,st,_,_,_,_,rfl,by omega,by omega,hS9.out⟩⟩,by simp [intOf]; omega⟩
     ·obtain ⟨s0,t0,s0',rfl⟩:=hN.nx.at'.sp.isSl
      obtain ⟨s1,t1,s1',rfl⟩:=hN.nx.at'.lv.isSl
      obtain ⟨s2,t2,s2',rfl⟩:=hN.nx.at'.bad.isSl
      obtain ⟨s3,t3,s3',rfl⟩:=hN.nx.at'.worn.isSl
      have hzI : ¬ (rws.length : Int) = 0:=by omega
      have hzb : ((rws.length : Int) == 0) = false:=by simpa using hzI
      have hwr:=Hid.mk ((HS.out.call hN.nx.bel).write (by omega) rws av cv (recs_ow hN.out) hrm.out (by omega) 2 (by omega) (by omega) [Gp.puts rws] (pack_few rws hrm.out (by omega)))
      have HN:=Hid.mk hN.nx
      clear hN
      go_upto_region 12 with (first
       | (go_at_call 17; refine hwr.out.mono ?_; rintro e w6 ⟨X6,A6,R6,a6,L6,n6,g6,cu6,fa6,hcase⟩; have hP:=HS.out.put HN.out n6 R6 (g6.1.trans HS.out.geo.1.symm); obtain ⟨k0,k1,k2,k3⟩:=hP.nine.cells; obtain ⟨y0,y1,y2,y3,hX7⟩:=hP.seven; obtain ⟨m0,m1,m2,m3⟩:=hX7.cells; have x0:=hX7.fz 0; have x1:=hX7.fz 1; have x2:=hX7.fz 2; have x3:=hX7.fz 3; replace hP:=Hid.mk hP; clear hX7; rcases hcase with ⟨_,⟨v6,rfl⟩,sq6⟩ | ⟨_,xx,rfl⟩))
      ·go_wp2_with fail
       refine ⟨⟨k + 1,_,0,by omega,by omega,by go_num,rfl,rfl,.inl ⟨rfl,A6,X6,_,_,c0,m,kk + 1,s,recs,(fun j => if j = kk then rws else rows j),(fun j => if j = kk + 1 then t' else st j),_,_,_,_,?_,by omega,by omega,⟨hP.out.run,a6,L6,g6,cu6,fa6,?_,HS.out.wp.group rws hrm.out (by omega) (by omega) hrp.out,hP.out.box,hP.out.res,?_,?_,hP.out.away,HS.out.ne,HS.out.lo,hpos⟩⟩⟩,by simp [intOf]; omega⟩
       ·rw [nxv_jour]
        rfl
       ·obtain ⟨a7,r7,ar7,S7⟩:=sq6
        exact ⟨a7,r7,by rw [ar7]; rfl,S7⟩
       ·rw [if_pos rfl]
        exact hP.out.at'
       ·rw [if_pos rfl]
        exact hri.out
      ·go_wp2_with fail
       exact ⟨⟨k + 1,xx,130,by omega,by omega,by go_num,rfl,rfl,.inr ⟨rfl,hP.out.run.below,HS.out.lo.1,hP.out.res,t',_,_,_,_,hP.out.box,hP.out.at',hri.out⟩⟩,by simp [intOf]; omega⟩
  ·rcases hWn with ⟨rfl,A',X',T,Q,c0,m,kk,s,recs,rows,st,u0,u1,u2,u3,rfl,hkk,hskk,hS⟩ | ⟨rfl,hbl,hlo4,hX4,t0,u0,u1,u2,u3,hX7,hAt,hInv⟩
   ·obtain ⟨e0,f0,h0,rfl⟩:=hS.at'.sp.isSl
    obtain ⟨e1,f1,h1,rfl⟩:=hS.at'.lv.isSl
    obtain ⟨e2,f2,h2,rfl⟩:=hS.at'.bad.isSl
    obtain ⟨e3,f3,h3,rfl⟩:=hS.at'.worn.isSl
    obtain ⟨z0,z1,z2,z3⟩:=hS.box.cells
    obtain ⟨y0,y1,y2,y3⟩:=hS.res.cells
    have x0:=hS.res.fz 0
    have x1:=hS.res.fz 1
    have x2:=hS.res.fz 2
    have x3:=hS.res.fz 3
    have HD:=Hid.mk hS.done
    have hld:=Hid.mk (load4 HD.out.2)
    clear hS
    rcases (show ¬ k < xl \/ (k < xl /\ ¬ k < 12) by omega) with hc | ⟨hc,hc2⟩
    ·have hcI : ¬ (k : Int) < (xl : Int):=by omega
     go_wp2_with fail
     refine bodyPost_ret (wr_result rfl rfl hld.out) rfl ?_
     unfold WnR
     exact ⟨_,_,_,_,_,true,rfl,HD.out.1.run.below,fun _ => ⟨A',X',T,Q,c0,m,kk,s,recs,rows,st,rfl,by omega,by omega,HD.out.1⟩,(fun q => absurd q (by decide))⟩
    ·have hcI : (k : Int) < (xl : Int):=by omega
     have hcI2 : ¬ (k : Int) < 12:=by omega
     go_wp2_with fail
     refine bodyPost_ret (wr_result rfl rfl hld.out) rfl ?_
     unfold WnR
     exact ⟨_,_,_,_,_,true,rfl,HD.out.1.run.below,fun _ => ⟨A',X',T,Q,c0,m,kk,s,recs,rows,st,rfl,by omega,by omega,HD.out.1⟩,(fun q => absurd q (by decide))⟩
   ·obtain ⟨e0,f0,h0,rfl⟩:=hAt.sp.isSl
    obtain ⟨e1,f1,h1,rfl⟩:=hAt.lv.isSl
    obtain ⟨e2,f2,h2,rfl⟩:=hAt.bad.isSl
    obtain ⟨e3,f3,h3,rfl⟩:=hAt.worn.isSl
    have keep : ∀ {e sz : Nat} {u : Value} {rows : We.Rws},We.Ow wr w0.heap.size e sz u rows -> e ≠ 38 -> We.Ow (S8.set4 wr b4 (.slice e0 f0 h0) (.slice e1 f1 h1) (.slice e2 f2 h2) (.slice e3 f3 h3)) w0.heap.size e sz u rows:=fun {e sz u rows} hw he => hw.same (fun g hg => set4_other wr b4 g (fun q => ow_ne_cell (Ow.from8 hw) hX4 he (by rw [<- q]; exact hg)) _ _ _ _)
    have HAt : Hid (∃ t,S8.RAt (S8.set4 wr b4 (.slice e0 f0 h0) (.slice e1 f1 h1) (.slice e2 f2 h2) (.slice e3 f3 h3)) w0.heap.size (.slice e0 f0 h0) (.slice e1 f1 h1) (.slice e2 f2 h2) (.slice e3 f3 h3) (S8.rs t)/\S8.InvA t):=Hid.mk ⟨t0,⟨keep hAt.sp (by decide),keep hAt.lv (by decide),keep hAt.bad (by decide),keep hAt.worn (by decide)⟩,hInv⟩
    clear hAt keep hInv
    obtain ⟨z0,z1,z2,z3⟩:=hX7.cells
    obtain ⟨y0,y1,y2,y3⟩:=hX4.cells
    have x0:=hX4.fz 0
    have x1:=hX4.fz 1
    have x2:=hX4.fz 2
    have x3:=hX4.fz 3
    have hld:=Hid.mk (load4 (S8.set4_box hX4 (.slice e0 f0 h0) (.slice e1 f1 h1) (.slice e2 f2 h2) (.slice e3 f3 h3)))
    have HB : Hid (Below w0.heap.size w0 (S8.set4 wr b4 (.slice e0 f0 h0) (.slice e1 f1 h1) (.slice e2 f2 h2) (.slice e3 f3 h3))):=Hid.mk (by
     unfold S8.set4
     exact (((hbl.setCell hlo4 _).setCell hlo4 _).setCell hlo4 _).setCell hlo4 _)
    clear hX4 hX7 hbl
    rcases (show ¬ k < xl \/ (k < xl /\ ¬ k < 12) \/ (k < xl/\k < 12) by omega) with hc | ⟨hc,hc2⟩ | ⟨hc,hc2⟩
    ·have hcI : ¬ (k : Int) < (xl : Int):=by omega
     go_wp2_with fail
     refine bodyPost_ret (wr_result rfl rfl hld.out) rfl ?_
     unfold WnR
     exact ⟨_,_,_,_,_,false,rfl,HB.out,(fun q => absurd q (by decide)),fun _ => HAt.out⟩
    ·have hcI : (k : Int) < (xl : Int):=by omega
     have hcI2 : ¬ (k : Int) < 12:=by omega
     go_wp2_with fail
     refine bodyPost_ret (wr_result rfl rfl hld.out) rfl ?_
     unfold WnR
     exact ⟨_,_,_,_,_,false,rfl,HB.out,(fun q => absurd q (by decide)),fun _ => HAt.out⟩
    ·have hcI : (k : Int) < (xl : Int):=by omega
     have hcI2 : (k : Int) < 12:=by omega
     go_wp2_with fail
     refine bodyPost_ret (wr_result rfl rfl hld.out) rfl ?_
     unfold WnR
     exact ⟨_,_,_,_,_,false,rfl,HB.out,(fun q => absurd q (by decide)),fun _ => HAt.out⟩
end Go.Proofs.YtaphpdmfjnhlaaaGreatDoor
