/-
  ScanCuts, walked. Conditions: the table's cells hold what the text lays; the cut's byte is one.
-/
import Derived.Test.YtaphpdmfjnhlaaaGreatDoorCCts
import Derived.Test.YtaphpdmfjnhlaaaGreatDoorCSmo
namespace Go.Proofs.YtaphpdmfjnhlaaaGreatDoor
open Go Go.RowKit
set_option maxRecDepth 100000
theorem Run.base {w0 : World} {A X} {w w' : World} (h : Run w0 A X w) (k : Kp (A.own X.C.B) w w') : Below w0.heap.size w0 w':=Kp.below h.below k h.below.size (fun i hi => Nat.le_trans h.lo (h.wtr.low i hi))
theorem Run.chipTo {w0 : World} {A X} {w w' : World} (h : Run w0 A X w) {C' : Ch} (hc : Chip w' A.L C') (k : Kp (A.L.own X.C.B) w w') (eB : C'.B = X.C.B) (eP : C'.P = X.C.P) : Run w0 A { X with C:=C' } w' :=
 have k2 : Kp (A.own X.C.B) w w':=k.mono (fun _ hi => .inr (.inl hi))
 ⟨h.wtr.chipTo hc k eB eP,h.base k2,h.lo,Tab.off h.tab k2 h.wtr.zero⟩
theorem cut_one (w : World) (S : Nat -> Prop) (hS : ¬ S w.heap.size) (x y z : Int) : CutsAt (w.alloc (.cells #[.int .i64 x,.int .i64 y,.int .u8 z] 56)) S (some ⟨w.heap.size,0,none⟩) [(x,y,z)]:=by
 intro i hi
 obtain rfl : i = 0:=by simpa using hi
 have h:=heap_alloc_new w (.cells #[.int .i64 x,.int .i64 y,.int .u8 z] 56)
 exact ⟨w.heap.size,0,rfl,by rw [size_alloc]; omega,hS,cell_of_row _ _ 0 _ 56 _ h,cell_of_row _ _ 1 _ 56 _ h,cell_of_row _ _ 2 _ 56 _ h⟩
theorem PgIs.off {C : Ch} {b p : Nat} {g : Option (ByteArray × Tg)} (h : PgIs C b p g) : PgIs { C with off:=false } b p g:=by
 cases g with
 | none => exact h
 | some x => exact h
def Ct3 (w : World) (g : Nat) (x y z : Int) : Prop:=w.heap[g]? = some (.cells #[.int .i64 x,.int .i64 y,.int .u8 z] 56 (0,0))
theorem Ct3.cells {w : World} {g x y z} (h : Ct3 w g x y z) : w.cell? ⟨g,0,none⟩ = some (.int .i64 x)/\w.cell? ⟨g,1,none⟩ = some (.int .i64 y)/\w.cell? ⟨g,2,none⟩ = some (.int .u8 z) :=
 ⟨cell_of_row _ _ 0 _ 56 _ h,cell_of_row _ _ 1 _ 56 _ h,cell_of_row _ _ 2 _ 56 _ h⟩
theorem Ct3.lt {w : World} {g x y z} (h : Ct3 w g x y z) : g < w.heap.size:=(Array.getElem?_eq_some_iff.1 h).1
theorem Ct3.call {w w' : World} {g x y z} (h : Ct3 w g x y z) (b : Below w.heap.size w w') : Ct3 w' g x y z:=(b.block g h.lt).trans h
theorem RecsF_kp {S : Nat -> Prop} {w w' : World} {a n f} (h : Gp.RecsF w a n f) (k : Kp S w w') (hs : ∀ g o,a = some ⟨g,o,none⟩ -> ¬ S g) : Gp.RecsF w' a n f:=by
 intro i hi
 obtain ⟨g,o,ha,hg,c0,c1,c2,c3,c4,c5⟩:=h i hi
 have e : ∀ j,w'.cell? ⟨g,j,none⟩ = w.cell? ⟨g,j,none⟩:=fun j => by unfold World.cell?; rw [k.block g hg (hs g o ha)]
 exact ⟨g,o,ha,Nat.lt_of_lt_of_le hg k.size,(e _).trans c0,(e _).trans c1,(e _).trans c2,(e _).trans c3,(e _).trans c4,(e _).trans c5⟩
theorem Img.same {B w0 G P t nx chk ms mv Z} {w : World} (h : Img B w0 G P t nx chk ms mv Z w) {B' : Nat} {u0 u1 u2 u3 : Value} (hr : S8.RAt w B' u0 u1 u2 u3 (S8.rs t)) : Calls Tryz.prog 12 #[.pointer (some ⟨P,0,none⟩),.agg #[u0,u1,u2,u3]] w fun e w' => e = .returned (.bool true)/\Below w.heap.size w w':=by
 obtain ⟨s,rfl,h2,h3,_⟩:=h.st
 rw [<- h3] at hr
 exact S8.same_any h2 hr
theorem Img.sameB {B w0 G P t nx chk ms mv Z} {w : World} (h : Img B w0 G P t nx chk ms mv Z w) {B' : Nat} {u0 u1 u2 u3 : Value} {t' : S8.Ab} (hr : S8.RAt w B' u0 u1 u2 u3 (S8.rs t')) (hi : S8.InvA t') : Calls Tryz.prog 12 #[.pointer (some ⟨P,0,none⟩),.agg #[u0,u1,u2,u3]] w fun e w' => S8.SmB w e w':=by
 obtain ⟨s,rfl,h2,h3,_⟩:=h.st
 exact S8.same_some h2 hr hi
theorem wnr_sl {w0 : World} {A : Wl} {bb p z : Nat} {e : Ending} {w' : World} (h : WnR w0 A bb p z e w') : ∃ e0 f0 h0 e1 f1 h1 e2 f2 h2 e3 f3 h3 nx ok,e = .returned (.tuple #[.agg #[.slice e0 f0 h0,.slice e1 f1 h1,.slice e2 f2 h2,.slice e3 f3 h3],.int .u64 nx,.bool ok])/\Below w0.heap.size w0 w' ∧
  ∃ t,S8.RAt w' w0.heap.size (.slice e0 f0 h0) (.slice e1 f1 h1) (.slice e2 f2 h2) (.slice e3 f3 h3) (S8.rs t)/\S8.InvA t ∧
  (ok = true -> ∃ A' X' T Q c0 m kk s recs rows st,t = st kk/\nx = ((s + 1 + kk : Nat) : Int)/\kk <= 12/\s + kk <= 20/\WtE w0 A bb p z A' X' T Q c0 m kk s recs rows st (.slice e0 f0 h0) (.slice e1 f1 h1) (.slice e2 f2 h2) (.slice e3 f3 h3) w'):=by
 obtain ⟨u0,u1,u2,u3,nx,ok,rfl,hb,h1,h2⟩:=h
 cases ok with
 | false =>
  obtain ⟨t,hr,hi⟩:=h2 rfl
  obtain ⟨e0,f0,h0,rfl⟩:=hr.sp.isSl
  obtain ⟨e1,f1,h1,rfl⟩:=hr.lv.isSl
  obtain ⟨e2,f2,h2,rfl⟩:=hr.bad.isSl
  obtain ⟨e3,f3,h3,rfl⟩:=hr.worn.isSl
  exact ⟨_,_,_,_,_,_,_,_,_,_,_,_,nx,false,rfl,hb,t,hr,hi,(fun q => absurd q (by decide))⟩
 | true =>
  obtain ⟨A',X',T,Q,c0,m,kk,s,recs,rows,st,q1,q2,q3,hE⟩:=h1 rfl
  obtain ⟨e0,f0,h0,rfl⟩:=hE.at'.sp.isSl
  obtain ⟨e1,f1,h1,rfl⟩:=hE.at'.lv.isSl
  obtain ⟨e2,f2,h2,rfl⟩:=hE.at'.bad.isSl
  obtain ⟨e3,f3,h3,rfl⟩:=hE.at'.worn.isSl
  exact ⟨_,_,_,_,_,_,_,_,_,_,_,_,nx,true,rfl,hb,st kk,hE.at',hE.inv,fun _ => ⟨A',X',T,Q,c0,m,kk,s,recs,rows,st,rfl,q1,q2,q3,hE⟩⟩
structure Two (B g1 g2 : Nat) (t1 t2 : S8.Ab) (u0 u1 u2 u3 v0 v1 v2 v3 : Value) (w : World) : Prop where
 b1 : S8.Box4 w g1 u0 u1 u2 u3
 b2 : S8.Box4 w g2 v0 v1 v2 v3
 r1 : S8.RAt w B u0 u1 u2 u3 (S8.rs t1)
 r2 : S8.RAt w B v0 v1 v2 v3 (S8.rs t2)
section
variable {B g1 g2 : Nat} {t1 t2 : S8.Ab} {u0 u1 u2 u3 v0 v1 v2 v3 : Value} {w w' : World}
theorem Two.call (h : Two B g1 g2 t1 t2 u0 u1 u2 u3 v0 v1 v2 v3 w) (b : Below w.heap.size w w') : Two B g1 g2 t1 t2 u0 u1 u2 u3 v0 v1 v2 v3 w':=⟨h.b1.call b,h.b2.call b,h.r1.call b,h.r2.call b⟩
theorem Two.kp (h : Two B g1 g2 t1 t2 u0 u1 u2 u3 v0 v1 v2 v3 w) {S : Nat -> Prop} (k : Kp S w w') (hn : ∀ i,S i -> (∀ b ∈ [g1,g2],i ≠ b) /\ ∀ u ∈ [u0,u1,u2,u3,v0,v1,v2,v3],u.ownBlock ≠ some i) : Two B g1 g2 t1 t2 u0 u1 u2 u3 v0 v1 v2 v3 w':=by
 have e : ∀ u ∈ [u0,u1,u2,u3,v0,v1,v2,v3],∀ g,u.ownBlock = some g -> g < w.heap.size -> w'.heap[g]? = w.heap[g]? := fun u hu g hg hl => k.block g hl (fun q => (hn g q).2 u hu hg)
 exact ⟨(k.block g1 h.b1.lt (fun q => (hn _ q).1 g1 (by simp) rfl)).trans h.b1,(k.block g2 h.b2.lt (fun q => (hn _ q).1 g2 (by simp) rfl)).trans h.b2,
  ⟨h.r1.sp.same (fun g hg => e u0 (by simp) g hg (h.r1.sp.lt g hg).2),h.r1.lv.same (fun g hg => e u1 (by simp) g hg (h.r1.lv.lt g hg).2),h.r1.bad.same (fun g hg => e u2 (by simp) g hg (h.r1.bad.lt g hg).2),h.r1.worn.same (fun g hg => e u3 (by simp) g hg (h.r1.worn.lt g hg).2)⟩,
  ⟨h.r2.sp.same (fun g hg => e v0 (by simp) g hg (h.r2.sp.lt g hg).2),h.r2.lv.same (fun g hg => e v1 (by simp) g hg (h.r2.lv.lt g hg).2),h.r2.bad.same (fun g hg => e v2 (by simp) g hg (h.r2.bad.lt g hg).2),h.r2.worn.same (fun g hg => e v3 (by simp) g hg (h.r2.worn.lt g hg).2)⟩⟩
theorem Two.lts (h : Two B g1 g2 t1 t2 u0 u1 u2 u3 v0 v1 v2 v3 w) : (∀ b ∈ [g1,g2],b < w.heap.size) /\ ∀ u ∈ [u0,u1,u2,u3,v0,v1,v2,v3],∀ g,u.ownBlock = some g -> g < w.heap.size:=by
 refine ⟨fun b hb => ?_,fun u hu g hg => ?_⟩
 ·simp only [List.mem_cons,List.not_mem_nil,or_false] at hb
  rcases hb with rfl | rfl
  ·exact h.b1.lt
  ·exact h.b2.lt
 ·simp only [List.mem_cons,List.not_mem_nil,or_false] at hu
  rcases hu with rfl | rfl | rfl | rfl | rfl | rfl | rfl | rfl
  ·exact (h.r1.sp.lt g hg).2
  ·exact (h.r1.lv.lt g hg).2
  ·exact (h.r1.bad.lt g hg).2
  ·exact (h.r1.worn.lt g hg).2
  ·exact (h.r2.sp.lt g hg).2
  ·exact (h.r2.lv.lt g hg).2
  ·exact (h.r2.bad.lt g hg).2
  ·exact (h.r2.worn.lt g hg).2
theorem away_two {A : Wl} {Bk : Nat} {W : World} (ha : Away A Bk [] [u0,u1,u2,u3]) (hl : ∀ i,A.own Bk i -> i < g1) (h1 : g1 < W.heap.size) (h2 : W.heap.size <= g2) (o0 : S8.Own2 W u0 v0) (o1 : S8.Own2 W u1 v1) (o2 : S8.Own2 W u2 v2) (o3 : S8.Own2 W u3 v3) : Away A Bk [g1,g2] [u0,u1,u2,u3,v0,v1,v2,v3]:=by
 intro i hi
 have hli:=hl i hi
 have no : ∀ {u v : Value},u ∈ [u0,u1,u2,u3] -> S8.Own2 W u v -> v.ownBlock ≠ some i:=fun hu ho e => by
  rcases ho i e with q | q
  ·exact (ha i hi).2 _ hu q
  ·omega
 refine ⟨fun b hb => ?_,fun u hu => ?_⟩
 ·simp only [List.mem_cons,List.not_mem_nil,or_false] at hb
  omega
 ·simp only [List.mem_cons,List.not_mem_nil,or_false] at hu
  rcases hu with rfl | rfl | rfl | rfl | rfl | rfl | rfl | rfl
  ·exact (ha i hi).2 _ (by simp)
  ·exact (ha i hi).2 _ (by simp)
  ·exact (ha i hi).2 _ (by simp)
  ·exact (ha i hi).2 _ (by simp)
  ·exact no (by simp) o0
  ·exact no (by simp) o1
  ·exact no (by simp) o2
  ·exact no (by simp) o3
end
set_option maxHeartbeats 4000000 in
theorem scanCuts_any (xa : Option Addr) (xl xc : Nat) (gs : Nat -> Gr) (ya : Option Addr) (yl yc : Nat) (yf : Nat -> Gp.R6) (cA cK cF : Int) (w : World) (hx : GrpF w xa xl gs) (hy : Gp.RecsF w ya yl yf) (hcF : 0 <= cF/\cF < 256) (hT : Pg.Tab w) :
  Calls Tryz.prog 4 #[.slice xa xl xc,.slice ya yl yc,.agg #[.int .i64 cA,.int .i64 cK,.int .u8 cF]] w fun e w' => e = .returned (.bool true)/\Below w.heap.size w w':=by
 have b0:=Pg.below_one w (.cells #[.int .i64 cA,.int .i64 cK,.int .u8 cF] 56)
 have HX : Hid (GrpF (w.alloc (.cells #[.int .i64 cA,.int .i64 cK,.int .u8 cF] 56)) xa xl gs/\Gp.RecsF (w.alloc (.cells #[.int .i64 cA,.int .i64 cK,.int .u8 cF] 56)) ya yl yf/\Pg.Tab (w.alloc (.cells #[.int .i64 cA,.int .i64 cK,.int .u8 cF] 56))/\Ct3 (w.alloc (.cells #[.int .i64 cA,.int .i64 cK,.int .u8 cF] 56)) w.heap.size cA cK cF):=⟨hx.below b0,hy.below b0,hT.call b0,heap_alloc_new w _⟩
 have HB0:=Hid.mk b0
 obtain ⟨a7,ha7,ha8⟩:=low cA 3 (by omega)
 replace ha7 : bits .and .i64 cA 3 = (a7 : Int):=ha7
 clear hx hy hT b0
 go_enter Tryz.func4,Tryz.ntmps4
 go_upto_region 1 with fail
 generalize (w.alloc (.cells #[.int .i64 cA,.int .i64 cK,.int .u8 cF] 56)) = W0 at *
 have hbg:=Hid.mk (begun_none 7 7 0 W0 HX.out.2.2.1.1)
 obtain ⟨g5,hg5⟩ : ∃ g,g = w.heap.size:=⟨_,rfl⟩
 rw [<- hg5] at HX
 rw [<- hg5]
 clear hg5
 go_upto_region 2 with (first
  | (go_at_call 7; refine hbg.out.mono ?_; rintro e w1 ⟨b,p,z,A,rfl,h1⟩; have H1:=Hid.mk h1; clear h1))
 have hg:=H1.out.geo
 have hbp : b * p <= 15 * 11:=Nat.mul_le_mul (show b <= 15 by omega) (show p <= 11 by omega)
 have R1:=Run.beg H1.out HX.out.2.2.1
 have haw:=Hid.mk (awake_any w1 R1.tab)
 have HR:=Hid.mk R1
 clear R1 H1 hbg
 go_upto_region 4 with (first
  | (go_at_call 8; refine haw.out.mono ?_; rintro e w2 ⟨rfl,b2⟩))
 have hwn:=Hid.mk (written_any hg w2 (HR.out.call b2) HX.out.2.2.1.1 xa xl xc gs HX.out.1)
 clear HR haw b2
 go_upto_region 5 with (first
  | (go_at_call 9; refine hwn.out.mono ?_; rintro e w3 hw3; obtain ⟨e0,f0,h0,e1,f1,h1,e2,f2,h2,e3,f3,h3,nx,ok,rfl,hb3,tt,hr3,hi3,hok⟩:=wnr_sl hw3; clear hw3))
 have b4:=Pg.below_one w3 (.cells #[.slice e0 f0 h0,.slice e1 f1 h1,.slice e2 f2 h2,.slice e3 f3 h3] 38)
 have X4:=S8.Box4.fresh w3 (.slice e0 f0 h0) (.slice e1 f1 h1) (.slice e2 f2 h2) (.slice e3 f3 h3)
 have HX4:=Hid.mk X4
 have hr4:=hr3.call b4
 have HB4:=Hid.mk (below3 hb3 b4)
 have HLT : Hid (w3.heap.size < (w3.alloc (.cells #[.slice e0 f0 h0,.slice e1 f1 h1,.slice e2 f2 h2,.slice e3 f3 h3] 38)).heap.size):=X4.lt
 have HOK : Hid (ok = true -> ∃ A' X' T Q c0 m kk s recs rows st,tt = st kk/\nx = ((s + 1 + kk : Nat) : Int)/\kk <= 12/\s + kk <= 20/\WtE W0 A b p z A' X' T Q c0 m kk s recs rows st (.slice e0 f0 h0) (.slice e1 f1 h1) (.slice e2 f2 h2) (.slice e3 f3 h3) (w3.alloc (.cells #[.slice e0 f0 h0,.slice e1 f1 h1,.slice e2 f2 h2,.slice e3 f3 h3] 38)) /\ ∀ i,A'.own b i -> i < w3.heap.size):=fun q => by
  obtain ⟨A',X',T,Q,c0,m,kk,s,recs,rows,st,q0,q1,q2,q3,hE⟩:=hok q
  refine ⟨A',X',T,Q,c0,m,kk,s,recs,rows,st,q0,q1,q2,q3,⟨hE.run.call b4,hE.aa,hE.aL,hE.geo,hE.cuts,hE.fails,hE.sq,hE.wp,hE.at'.call b4,hE.inv,hE.away⟩,fun i hi => hE.run.wtr.lt i ?_⟩
  rw [show X'.C.B = b from hE.geo.1]
  exact hi
 have hyr:=HX.out.2.1.below HB4.out
 have HCT:=Hid.mk HX.out.2.2.2
 clear hok hwn hb3 hr3 b4 X4
 generalize (w3.alloc (.cells #[.slice e0 f0 h0,.slice e1 f1 h1,.slice e2 f2 h2,.slice e3 f3 h3] 38)) = W4 at *
 generalize w3.heap.size = g10 at *
 have C15 : Hid (∀ W,Below W4.heap.size W4 W -> Calls Tryz.prog 15 #[.slice ya yl yc,.agg #[.slice e0 f0 h0,.slice e1 f1 h1,.slice e2 f2 h2,.slice e3 f3 h3]] W fun e w' => ∃ v u0 u1 u2 u3,e = .returned (.tuple #[v,.agg #[u0,u1,u2,u3]])/\We.Ow w' W.heap.size 87 6 v ((gdF yf (min yl 6) tt).1.map S8.rR)/\S8.RAt w' W0.heap.size u0 u1 u2 u3 (S8.rs (gdF yf (min yl 6) tt).2)/\Below W.heap.size W w'/\S8.Own2 W (.slice e0 f0 h0) u0/\S8.Own2 W (.slice e1 f1 h1) u1/\S8.Own2 W (.slice e2 f2 h2) u2/\S8.Own2 W (.slice e3 f3 h3) u3):=Hid.mk (fun W b => good_any ya yl yc yf W (hyr.below b) (hr4.call b) (Nat.le_trans HB4.out.size b.size) hi3)
 have hrl:=gdF_len yf (min yl 6) tt
 have hrm:=Hid.mk (gdF_may yf (min yl 6) tt)
 have hrp:=Hid.mk (gdF_plays yf (min yl 6) tt)
 have kS : Hid (∀ w',Below W4.heap.size W4 w' -> Below W4.heap.size W4 w'/\(w'.cell? ⟨g10,0,none⟩ = some (.slice e0 f0 h0)/\w'.cell? ⟨g10,1,none⟩ = some (.slice e1 f1 h1)/\w'.cell? ⟨g10,2,none⟩ = some (.slice e2 f2 h2)/\w'.cell? ⟨g10,3,none⟩ = some (.slice e3 f3 h3))):=Hid.mk (fun w' q => ⟨q,(HX4.out.call q).cells⟩)
 have hRA:=Hid.mk hr4
 have HI:=Hid.mk hi3
 generalize (gdF yf (min yl 6) tt).1 = rws at *
 generalize (gdF yf (min yl 6) tt).2 = t' at *
 clear hr4 hyr HX hi3
 obtain ⟨z0,z1,z2,z3⟩:=HX4.out.cells
 go_upto_region 6 with (first
  | (go_at_call 15; refine (C15.out _ (Below.refl _ W4)).mono ?_; rintro e w5 ⟨v5,u0,u1,u2,u3,rfl,O5,R5,b5,o0,o1,o2,o3⟩; obtain ⟨s0,t0,s0',rfl⟩:=R5.sp.isSl; obtain ⟨s1,t1,s1',rfl⟩:=R5.lv.isSl; obtain ⟨s2,t2,s2',rfl⟩:=R5.bad.isSl; obtain ⟨s3,t3,s3',rfl⟩:=R5.worn.isSl))
 ·obtain ⟨av,cv,hav⟩:=O5.form
  rw [List.length_map] at hav
  subst hav
  have b6:=Pg.below_one w5 (.cells #[.slice s0 t0 s0',.slice s1 t1 s1',.slice s2 t2 s2',.slice s3 t3 s3'] 38)
  have hN : NxW W0.heap.size W4 (.slice e0 f0 h0) (.slice e1 f1 h1) (.slice e2 f2 h2) (.slice e3 f3 h3) rws t' (.slice av rws.length cv) w5.heap.size (.slice s0 t0 s0') (.slice s1 t1 s1') (.slice s2 t2 s2') (.slice s3 t3 s3') (w5.alloc (.cells #[.slice s0 t0 s0',.slice s1 t1 s1',.slice s2 t2 s2',.slice s3 t3 s3'] 38)):=⟨⟨S8.Box4.fresh w5 (.slice s0 t0 s0') (.slice s1 t1 s1') (.slice s2 t2 s2') (.slice s3 t3 s3'),R5.call b6,below3 b5 b6,b5.size,o0,o1,o2,o3⟩,O5.call b6⟩
  clear z0 z1 z2 z3 O5 R5 b5 b6 o0 o1 o2 o3
  generalize (w5.alloc (.cells #[.slice s0 t0 s0',.slice s1 t1 s1',.slice s2 t2 s2',.slice s3 t3 s3'] 38)) = wx at *
  generalize w5.heap.size = g9 at *
  have HN:=Hid.mk hN
  clear hN C15 kS
  cases ok with
  | false =>
   go_wp2_with fail
   go_ret
   exact ⟨rfl,below3 HB0.out (below3 HB4.out HN.out.nx.bel)⟩
  | true =>
   by_cases hz : rws.length = 0
   ·have hzI : (rws.length : Int) = 0:=by omega
    rw [hz]
    go_wp2_with fail
    go_ret
    exact ⟨rfl,below3 HB0.out (below3 HB4.out HN.out.nx.bel)⟩
   have hzI : ¬ (rws.length : Int) = 0:=by omega
   have hzb : ((rws.length : Int) == 0) = false:=by simpa using hzI
   obtain ⟨A',X',T,Q,c0,m,kk,s,recs,rows,st,rfl,rfl,hkk,hsk,hE,hAl⟩:=HOK.out rfl
   have hXP : X'.C.P = p:=hE.geo.2.1
   have hXB : X'.C.B = b:=hE.geo.1
   have hXZ : X'.C.Z = z:=hE.geo.2.2
   have eL8 : A'.L = A.L:=hE.aL
   have eA8 : A'.a = A.a:=hE.aa
   have hAw : Hid (Away A' b [g10,g9] [.slice e0 f0 h0,.slice e1 f1 h1,.slice e2 f2 h2,.slice e3 f3 h3,.slice s0 t0 s0',.slice s1 t1 s1',.slice s2 t2 s2',.slice s3 t3 s3']):=Hid.mk (away_two (W:=W4) (by rw [<- hXB]; exact hE.away) hAl HLT.out HN.out.nx.lo HN.out.nx.o0 HN.out.nx.o1 HN.out.nx.o2 HN.out.nx.o3)
   have hlb : Hid (∀ g o,av = some ⟨g,o,none⟩ -> g10 < g):=fun g o e => Nat.lt_of_lt_of_le HLT.out (HN.out.out.lt g (by rw [e]; rfl)).1
   have HL8 : Hid (∀ i,A'.own b i -> i < g10):=Hid.mk hAl
   have hg10 : Hid (g10 < wx.heap.size):=Nat.lt_of_lt_of_le HLT.out HN.out.nx.bel.size
   have C8:=HCT.out.call (below3 HB4.out HN.out.nx.bel)
   obtain ⟨j0,j1,j2⟩:=C8.cells
   obtain ⟨d0,d1,d2⟩:=(C8.call (Pg.below_one wx (.cells #[.int .i64 cA,.int .i64 cK,.int .u8 cF] 56))).cells
   have hw7 : IntKind.i64.wrap (1 + (a7 : Int)) = ((1 + a7 : Nat) : Int):=by rw [IntKind.wrap_i64]; omega
   have H8:=Hid.mk (And.intro (hE.run.call HN.out.nx.bel) (And.intro (Two.mk (HX4.out.call HN.out.nx.bel) HN.out.nx.box (hE.at'.call HN.out.nx.bel) HN.out.nx.at') (recs_ow HN.out.out)))
   have HSW:=Hid.mk (And.intro hE.sq hE.wp)
   clear C8 hE hAl HOK HN HLT HX4 HCT
   go_upto_region 10 with fail
   obtain ⟨at',hat'⟩ : ∃ n : Nat,n = 1 + a7:=⟨_,rfl⟩
   have hat1 : 1 <= at':=by omega
   have hat8 : at' <= 4:=by omega
   have hatI : (1 + (a7 : Int)) = (at' : Int):=by omega
   rw [hatI]
   clear hw7 hatI hat' ha7 ha8 j0 j1 j2 d0 d1 d2
   have b9:=Pg.below_one wx (.cells #[.int .i64 (at' : Int),.int .i64 cK,.int .u8 cF] 56)
   have C9 : Hid (Ct3 (wx.alloc (.cells #[.int .i64 (at' : Int),.int .i64 cK,.int .u8 cF] 56)) wx.heap.size at' cK cF):=heap_alloc_new wx _
   have H9:=Hid.mk (And.intro (H8.out.1.call b9) (And.intro (H8.out.2.1.call b9) (H8.out.2.2.below b9)))
   obtain ⟨j0,j1,j2⟩:=C9.out.cells
   have hg16 : Hid (wx.heap.size < (wx.alloc (.cells #[.int .i64 (at' : Int),.int .i64 cK,.int .u8 cF] 56)).heap.size):=C9.out.lt
   clear b9 H8
   generalize (wx.alloc (.cells #[.int .i64 (at' : Int),.int .i64 cK,.int .u8 cF] 56)) = W9 at *
   generalize wx.heap.size = g16 at *
   have b10:=Pg.below_one W9 (.cells #[.int .i64 (at' : Int),.int .i64 cK,.int .u8 cF] 56)
   have R10:=H9.out.1.call b10
   have hLown : ∀ i,A'.L.own X'.C.B i -> A'.own b i:=fun i hi => by rw [<- hXB]; exact .inr (.inl hi)
   obtain ⟨mc,mf,nn,kq,hc0,-⟩:=R10.wtr.chip.to0
   have harm:=arm_any hc0 (some ⟨W9.heap.size,0,none⟩) none [((at' : Int),cK,cF)] [] 1 0 (.slice none 0 0) (cut_one W9 _ (fun x => by have:=HL8.out _ (hLown _ x); have:=hg16.out; have:=hg10.out; omega) at' cK cF) (fun i hi => by simp at hi) (by simp) (by simp)
    (fun x hx => by
     rw [List.mem_singleton.1 hx]
     exact ⟨WalkArith.wf_i64 (by dsimp only; omega),hcF⟩) (fun x hx => by cases hx)
   rw [eL8] at harm
   have HARM:=Hid.mk harm
   have H10:=Hid.mk (And.intro R10 (And.intro (H9.out.2.1.call b10) (H9.out.2.2.below b10)))
   clear hc0 harm R10 b10 mc mf nn kq H9
   go_upto_region 11 with (first
    | (go_at_call 16; refine HARM.out.mono ?_; rintro e w11 ⟨rfl,ch11,k11⟩))
   have k11' : Kp (A'.own b) (W9.alloc (.cells #[.int .i64 (at' : Int),.int .i64 cK,.int .u8 cF] 56)) w11:=k11.mono (fun i hi => hLown i (by rw [eL8]; exact hi))
   have R11:=H10.out.1.chipTo (C' := { X'.C with did:=0,cuts:=cutsOf [((at' : Int),cK,cF)],fails:=failsOf [] }) (by rw [eL8]; exact ch11) (by rw [eL8]; exact k11) rfl rfl
   obtain ⟨a8,r8,ar8,Sq8⟩:=HSW.out.1
   have S11:=Sq.arm Sq8 (show a8 * X'.C.P + r8 = c0 + m + kk by rw [hXP]; exact ar8) (cutsOf [((at' : Int),cK,cF)]) (failsOf [])
   have T11:=H10.out.2.1.kp k11' hAw.out
   have rec11:=RecsF_kp H10.out.2.2 k11' (fun g o e x => by have:=hlb.out g o e; have:=HL8.out g x; omega)
   have hwc:=write_cut R11.wtr R11.tab (c0 + m + kk) rfl S11 (by show a8 * X'.C.P + r8 = _; rw [hXP]; exact ar8) HSW.out.2 rws av cv rec11 hrm.out (by omega) (by omega) hrp.out (by omega) (by omega) (by show 64 <= X'.C.Z; rw [hXZ]; omega) at' hat1 cK cF rfl (fun _ => rfl)
   rw [eA8] at hwc
   have HW2:=Hid.mk hwc
   have H11:=Hid.mk (And.intro R11 T11)
   clear ch11 k11 k11' R11 S11 T11 rec11 hwc H10 C9 HARM j0 j1 j2 ar8 Sq8 HSW
   go_upto_region 12 with (first
    | (go_at_call 17; refine HW2.out.mono ?_; rintro e w12 ⟨X12,A12,v12,x12,er,rfl,t12,tb12,nx12,g12,her,hct⟩))
   have hB12 : X12.C.B = b:=g12.1.trans hXB
   have hP12 : X12.C.P = p:=g12.2.1.trans hXP
   have hZ12 : X12.C.Z = z:=g12.2.2.trans hXZ
   have nx12' : Nxt A' A12 b w11 w12:=by have:=nx12; rw [show ({ X' with C := { X'.C with did:=0,cuts:=cutsOf [((at' : Int),cK,cF)],fails:=failsOf [] } } : Wx).C.B = b from hXB] at this; exact this
   have R12:=H11.out.1.next t12 nx12
   have T12:=H11.out.2.kp nx12'.kp hAw.out
   have hAw12 : Hid (Away A12 b [g10,g9] [.slice e0 f0 h0,.slice e1 f1 h1,.slice e2 f2 h2,.slice e3 f3 h3,.slice s0 t0 s0',.slice s1 t1 s1',.slice s2 t2 s2',.slice s3 t3 s3']):=Hid.mk (away_next hAw.out nx12' H11.out.2.lts.1 H11.out.2.lts.2)
   have eL12 : A12.L = A.L:=nx12'.L.trans eL8
   have hpw:=power_any R12.wtr.chip
   rw [eL12] at hpw
   have HPW:=Hid.mk hpw
   have H12:=Hid.mk (And.intro R12 T12)
   replace hct:=Hid.mk hct
   clear hpw R12 T12 t12 tb12 nx12 nx12' g12 HW2 H11
   go_upto_region 13 with (first
    | (go_at_call 18; refine HPW.out.mono ?_; rintro e w13 ⟨rfl,ch13,k13⟩))
   have k13' : Kp (A12.own b) w12 w13:=k13.mono (fun i hi => by rw [<- hB12]; exact .inr (.inl (by rw [eL12]; exact hi)))
   have R13:=H12.out.1.chipTo (C' := { X12.C with off:=false }) (by rw [eL12]; exact ch13) (by rw [eL12]; exact k13) rfl rfl
   have T13:=H12.out.2.kp k13' hAw12.out
   obtain ⟨T2,Q2,kk2,rows2,st2,hWp,hrm2,hpg,hst⟩:=hct.out
   rw [hB12,hP12] at hrm2
   obtain ⟨F,hF⟩:=founds (C := { X12.C with off:=false }) (n:=X12.C.B * X12.C.P) (G:=fun i => if i < c0 + m + kk2 then some (T2 i,Q2 i) else none) (fun i hi => (hpg i hi).off) (by show X12.C.Z <= 65535; rw [hZ12]; omega)
   have hall:=all_any R13.wtr.chip R13.tab rfl F (fun i hi => (hF i hi).1)
   have hFs : FsIs T2 Q2 (c0 + m + kk2) (b * p) F:=fun i hi => (hF i (by rw [hB12,hP12]; exact hi)).2
   rw [show ({ X12 with C := { X12.C with off:=false } } : Wx).C.B = b from hB12,show ({ X12 with C := { X12.C with off:=false } } : Wx).C.P = p from hP12,eL12] at hall
   have HA:=Hid.mk hall
   have HE:=Hid.mk (And.intro hWp hFs)
   have HB13:=Hid.mk (below3 HB0.out R13.below)
   have H13:=Hid.mk T13
   clear hall hF hFs hpg hWp R13 T13 k13 k13' ch13 HPW H12 hct
   go_upto_region 14 with (first
    | (go_at_call 10; refine HA.out.mono ?_; rintro e w14 ⟨v14,rfl,o14,b14⟩; obtain ⟨a14,c14,rfl⟩:=o14.form; rw [List.length_map,fal_len] at o14 |-))
   have hre:=Hid.mk (HE.out.1.rebuild (n:=b * p) hrm2 (by omega) HE.out.2 a14 c14 w14 (o14.lower (Nat.zero_le _)))
   have HB14:=Hid.mk (below3 HB13.out b14)
   have H14:=Hid.mk (H13.out.call b14)
   clear o14 b14 HA HE HB13 H13
   go_upto_region 15 with (first
    | (go_at_call 11; refine hre.out.mono ?_; rintro e w15 ⟨G,P,mv,rfl,hI⟩))
   have bI:=hI.st.hold.below
   have T15:=H14.out.call bI
   have HB15:=Hid.mk (below3 HB14.out bI)
   have C13:=Hid.mk (fun W (b : Below w15.heap.size w15 W) => state_is (hI.call b).box)
   have kS : Hid (∀ w',Below w15.heap.size w15 w' -> Below w15.heap.size w15 w'/\(w'.cell? ⟨g10,0,none⟩ = some (.slice e0 f0 h0)/\w'.cell? ⟨g10,1,none⟩ = some (.slice e1 f1 h1)/\w'.cell? ⟨g10,2,none⟩ = some (.slice e2 f2 h2)/\w'.cell? ⟨g10,3,none⟩ = some (.slice e3 f3 h3))/\(w'.cell? ⟨g9,0,none⟩ = some (.slice s0 t0 s0')/\w'.cell? ⟨g9,1,none⟩ = some (.slice s1 t1 s1')/\w'.cell? ⟨g9,2,none⟩ = some (.slice s2 t2 s2')/\w'.cell? ⟨g9,3,none⟩ = some (.slice s3 t3 s3'))):=Hid.mk (fun w' q => ⟨q,(T15.call q).b1.cells,(T15.call q).b2.cells⟩)
   have C12b:=Hid.mk (fun W (b : Below w15.heap.size w15 W) => (hI.call b).sameB (T15.call b).r1 HI.out)
   have C12t : Hid (st2 kk2 = t' -> ∀ W,Below w15.heap.size w15 W -> Calls Tryz.prog 12 #[.pointer (some ⟨P,0,none⟩),.agg #[.slice s0 t0 s0',.slice s1 t1 s1',.slice s2 t2 s2',.slice s3 t3 s3']] W fun e w' => e = .returned (.bool true)/\Below W.heap.size W w'):=Hid.mk (fun e W b => (hI.call b).same (by rw [e]; exact (T15.call b).r2))
   have C12s : Hid (st2 kk2 = st kk -> ∀ W,Below w15.heap.size w15 W -> Calls Tryz.prog 12 #[.pointer (some ⟨P,0,none⟩),.agg #[.slice e0 f0 h0,.slice e1 f1 h1,.slice e2 f2 h2,.slice e3 f3 h3]] W fun e w' => e = .returned (.bool true)/\Below W.heap.size W w'):=Hid.mk (fun e W b => (hI.call b).same (by rw [e]; exact (T15.call b).r1))
   replace hst:=Hid.mk hst
   clear hI bI T15 H14 hre HB14
   by_cases hz0 : er = 0
   ·subst hz0
    have hst1 : st2 kk2 = t':=by
     rcases hst.out with h | h
     ·exact h
     ·exact absurd rfl h.2
    have C12:=Hid.mk (C12t.out hst1)
    clear C12t C12s C12b hst hst1 her
    go_upto_region 18 with fail
    go_region_held3 (fun w' => Below w15.heap.size w15 w'/\(w'.cell? ⟨g10,0,none⟩ = some (.slice e0 f0 h0)/\w'.cell? ⟨g10,1,none⟩ = some (.slice e1 f1 h1)/\w'.cell? ⟨g10,2,none⟩ = some (.slice e2 f2 h2)/\w'.cell? ⟨g10,3,none⟩ = some (.slice e3 f3 h3))/\(w'.cell? ⟨g9,0,none⟩ = some (.slice s0 t0 s0')/\w'.cell? ⟨g9,1,none⟩ = some (.slice s1 t1 s1')/\w'.cell? ⟨g9,2,none⟩ = some (.slice s2 t2 s2')/\w'.cell? ⟨g9,3,none⟩ = some (.slice s3 t3 s3')))
     (first | assumption | exact kS.out _ (Below.refl _ w15) | exact kS.out _ (Below.refl _ w15).drew | exact kS.out _ (below_drewN (Below.refl _ w15)) | exact kS.out _ (below3 (And.left (by assumption)) (by assumption)) | fail)
     (first | (go_at_call 13; refine (C13.out _ (And.left (by assumption))).mono ?_; rintro e w' ⟨rfl,rfl⟩) | (go_at_call 12; refine (C12.out _ (And.left (by assumption))).mono ?_; rintro e w8 ⟨rfl,b8⟩))
    go_wp2_with fail
    go_ret
    exact ⟨rfl,below3 HB15.out (And.left (by assumption))⟩
   ·replace her : er = 51 \/ er = 130:=by omega
    rcases her with rfl | rfl
    ·go_upto_region 19 with fail
     rcases hst.out with hst1 | ⟨hst1,_⟩
     ·have C12:=Hid.mk (C12t.out hst1)
      refine wp_region_held_drew (S:=fun w' => Below w15.heap.size w15 w'/\(w'.cell? ⟨g10,0,none⟩ = some (.slice e0 f0 h0)/\w'.cell? ⟨g10,1,none⟩ = some (.slice e1 f1 h1)/\w'.cell? ⟨g10,2,none⟩ = some (.slice e2 f2 h2)/\w'.cell? ⟨g10,3,none⟩ = some (.slice e3 f3 h3))/\(w'.cell? ⟨g9,0,none⟩ = some (.slice s0 t0 s0')/\w'.cell? ⟨g9,1,none⟩ = some (.slice s1 t1 s1')/\w'.cell? ⟨g9,2,none⟩ = some (.slice s2 t2 s2')/\w'.cell? ⟨g9,3,none⟩ = some (.slice s3 t3 s3'))) (by kernel_rfl) (kS.out _ (Below.refl _ w15).drew) (fun hHeld => ?_)
      refine tkC 0 hHeld ?_
      refine tkC 2 hHeld ?_
      refine wpAnyH_ready (rs := [1]) (by kernel_rfl) (by simp) ?_
      refine arH rfl (fun K hK => ?_) AllReadyH.nil
      go_simp
      go_at_call 13
      refine (C13.out _ hHeld.1).mono ?_
      rintro e w' ⟨rfl,rfl⟩
      refine hK.out _ _ hHeld (fun hHeld => ?_)
      clear hK K
      try simp only [Act.put,zA,zB,zC]
      refine wpAnyH_ready (rs := [3]) (by kernel_rfl) (by simp) ?_
      refine arH rfl (fun K hK => ?_) AllReadyH.nil
      go_simp
      go_at_call 12
      refine (C12b.out _ hHeld.1).mono ?_
      rintro e w8 ⟨bb,rfl,b8⟩
      refine hK.out _ _ (kS.out _ (below3 hHeld.1 b8)) (fun hHeld => ?_)
      clear hK K
      try simp only [Act.put,zA,zB,zC]
      cases bb with
      | true =>
       refine tkC 4 hHeld ?_
       refine tkJ 5 hHeld ?_
       refine tkJ 6 hHeld ?_
       refine tkJ 7 hHeld ?_
       refine tkJ 8 hHeld ?_
       refine tkC 9 hHeld ?_
       refine tkC 10 hHeld ?_
       refine wpAnyH_done (by kernel_rfl) ?_ _
       go_wp2_with fail
       go_ret
       exact ⟨rfl,below3 HB15.out hHeld.1⟩
      | false =>
       refine tkC 4 hHeld ?_
       refine tkC 5 hHeld ?_
       refine tkC 7 hHeld ?_
       refine wpAnyH_ready (rs := [6]) (by kernel_rfl) (by simp) ?_
       refine arH rfl (fun K hK => ?_) AllReadyH.nil
       go_simp
       go_at_call 13
       refine (C13.out _ hHeld.1).mono ?_
       rintro e w' ⟨rfl,rfl⟩
       refine hK.out _ _ hHeld (fun hHeld => ?_)
       clear hK K
       try simp only [Act.put,zA,zB,zC]
       refine wpAnyH_ready (rs := [8]) (by kernel_rfl) (by simp) ?_
       refine arH rfl (fun K hK => ?_) AllReadyH.nil
       go_simp
       go_at_call 12
       refine (C12.out _ hHeld.1).mono ?_
       rintro e w9 ⟨rfl,b9⟩
       refine hK.out _ _ (kS.out _ (below3 hHeld.1 b9)) (fun hHeld => ?_)
       clear hK K
       try simp only [Act.put,zA,zB,zC]
       refine tkC 9 hHeld ?_
       refine tkC 10 hHeld ?_
       refine wpAnyH_done (by kernel_rfl) ?_ _
       go_wp2_with fail
       go_ret
       exact ⟨rfl,below3 HB15.out hHeld.1⟩
     ·have C12:=Hid.mk (C12s.out hst1)
      refine wp_region_held_drew (S:=fun w' => Below w15.heap.size w15 w'/\(w'.cell? ⟨g10,0,none⟩ = some (.slice e0 f0 h0)/\w'.cell? ⟨g10,1,none⟩ = some (.slice e1 f1 h1)/\w'.cell? ⟨g10,2,none⟩ = some (.slice e2 f2 h2)/\w'.cell? ⟨g10,3,none⟩ = some (.slice e3 f3 h3))/\(w'.cell? ⟨g9,0,none⟩ = some (.slice s0 t0 s0')/\w'.cell? ⟨g9,1,none⟩ = some (.slice s1 t1 s1')/\w'.cell? ⟨g9,2,none⟩ = some (.slice s2 t2 s2')/\w'.cell? ⟨g9,3,none⟩ = some (.slice s3 t3 s3'))) (by kernel_rfl) (kS.out _ (Below.refl _ w15).drew) (fun hHeld => ?_)
      refine tkC 0 hHeld ?_
      refine tkC 2 hHeld ?_
      refine wpAnyH_ready (rs := [1]) (by kernel_rfl) (by simp) ?_
      refine arH rfl (fun K hK => ?_) AllReadyH.nil
      go_simp
      go_at_call 13
      refine (C13.out _ hHeld.1).mono ?_
      rintro e w' ⟨rfl,rfl⟩
      refine hK.out _ _ hHeld (fun hHeld => ?_)
      clear hK K
      try simp only [Act.put,zA,zB,zC]
      refine wpAnyH_ready (rs := [3]) (by kernel_rfl) (by simp) ?_
      refine arH rfl (fun K hK => ?_) AllReadyH.nil
      go_simp
      go_at_call 12
      refine (C12.out _ hHeld.1).mono ?_
      rintro e w8 ⟨rfl,b8⟩
      refine hK.out _ _ (kS.out _ (below3 hHeld.1 b8)) (fun hHeld => ?_)
      clear hK K
      try simp only [Act.put,zA,zB,zC]
      refine tkC 4 hHeld ?_
      refine tkJ 5 hHeld ?_
      refine tkJ 6 hHeld ?_
      refine tkJ 7 hHeld ?_
      refine tkJ 8 hHeld ?_
      refine tkC 9 hHeld ?_
      refine tkC 10 hHeld ?_
      refine wpAnyH_done (by kernel_rfl) ?_ _
      go_wp2_with fail
      go_ret
      exact ⟨rfl,below3 HB15.out hHeld.1⟩
    ·go_upto_region 19 with fail
     rcases hst.out with hst1 | ⟨hst1,_⟩
     ·have C12:=Hid.mk (C12t.out hst1)
      refine wp_region_held_drew (S:=fun w' => Below w15.heap.size w15 w'/\(w'.cell? ⟨g10,0,none⟩ = some (.slice e0 f0 h0)/\w'.cell? ⟨g10,1,none⟩ = some (.slice e1 f1 h1)/\w'.cell? ⟨g10,2,none⟩ = some (.slice e2 f2 h2)/\w'.cell? ⟨g10,3,none⟩ = some (.slice e3 f3 h3))/\(w'.cell? ⟨g9,0,none⟩ = some (.slice s0 t0 s0')/\w'.cell? ⟨g9,1,none⟩ = some (.slice s1 t1 s1')/\w'.cell? ⟨g9,2,none⟩ = some (.slice s2 t2 s2')/\w'.cell? ⟨g9,3,none⟩ = some (.slice s3 t3 s3'))) (by kernel_rfl) (kS.out _ (Below.refl _ w15).drew) (fun hHeld => ?_)
      refine tkC 0 hHeld ?_
      refine tkC 2 hHeld ?_
      refine wpAnyH_ready (rs := [1]) (by kernel_rfl) (by simp) ?_
      refine arH rfl (fun K hK => ?_) AllReadyH.nil
      go_simp
      go_at_call 13
      refine (C13.out _ hHeld.1).mono ?_
      rintro e w' ⟨rfl,rfl⟩
      refine hK.out _ _ hHeld (fun hHeld => ?_)
      clear hK K
      try simp only [Act.put,zA,zB,zC]
      refine wpAnyH_ready (rs := [3]) (by kernel_rfl) (by simp) ?_
      refine arH rfl (fun K hK => ?_) AllReadyH.nil
      go_simp
      go_at_call 12
      refine (C12b.out _ hHeld.1).mono ?_
      rintro e w8 ⟨bb,rfl,b8⟩
      refine hK.out _ _ (kS.out _ (below3 hHeld.1 b8)) (fun hHeld => ?_)
      clear hK K
      try simp only [Act.put,zA,zB,zC]
      cases bb with
      | true =>
       refine tkC 4 hHeld ?_
       refine tkJ 5 hHeld ?_
       refine tkJ 6 hHeld ?_
       refine tkJ 7 hHeld ?_
       refine tkJ 8 hHeld ?_
       refine tkC 9 hHeld ?_
       refine tkC 10 hHeld ?_
       refine wpAnyH_done (by kernel_rfl) ?_ _
       go_wp2_with fail
       go_ret
       exact ⟨rfl,below3 HB15.out hHeld.1⟩
      | false =>
       refine tkC 4 hHeld ?_
       refine tkC 5 hHeld ?_
       refine tkC 7 hHeld ?_
       refine wpAnyH_ready (rs := [6]) (by kernel_rfl) (by simp) ?_
       refine arH rfl (fun K hK => ?_) AllReadyH.nil
       go_simp
       go_at_call 13
       refine (C13.out _ hHeld.1).mono ?_
       rintro e w' ⟨rfl,rfl⟩
       refine hK.out _ _ hHeld (fun hHeld => ?_)
       clear hK K
       try simp only [Act.put,zA,zB,zC]
       refine wpAnyH_ready (rs := [8]) (by kernel_rfl) (by simp) ?_
       refine arH rfl (fun K hK => ?_) AllReadyH.nil
       go_simp
       go_at_call 12
       refine (C12.out _ hHeld.1).mono ?_
       rintro e w9 ⟨rfl,b9⟩
       refine hK.out _ _ (kS.out _ (below3 hHeld.1 b9)) (fun hHeld => ?_)
       clear hK K
       try simp only [Act.put,zA,zB,zC]
       refine tkC 9 hHeld ?_
       refine tkC 10 hHeld ?_
       refine wpAnyH_done (by kernel_rfl) ?_ _
       go_wp2_with fail
       go_ret
       exact ⟨rfl,below3 HB15.out hHeld.1⟩
     ·have C12:=Hid.mk (C12s.out hst1)
      refine wp_region_held_drew (S:=fun w' => Below w15.heap.size w15 w'/\(w'.cell? ⟨g10,0,none⟩ = some (.slice e0 f0 h0)/\w'.cell? ⟨g10,1,none⟩ = some (.slice e1 f1 h1)/\w'.cell? ⟨g10,2,none⟩ = some (.slice e2 f2 h2)/\w'.cell? ⟨g10,3,none⟩ = some (.slice e3 f3 h3))/\(w'.cell? ⟨g9,0,none⟩ = some (.slice s0 t0 s0')/\w'.cell? ⟨g9,1,none⟩ = some (.slice s1 t1 s1')/\w'.cell? ⟨g9,2,none⟩ = some (.slice s2 t2 s2')/\w'.cell? ⟨g9,3,none⟩ = some (.slice s3 t3 s3'))) (by kernel_rfl) (kS.out _ (Below.refl _ w15).drew) (fun hHeld => ?_)
      refine tkC 0 hHeld ?_
      refine tkC 2 hHeld ?_
      refine wpAnyH_ready (rs := [1]) (by kernel_rfl) (by simp) ?_
      refine arH rfl (fun K hK => ?_) AllReadyH.nil
      go_simp
      go_at_call 13
      refine (C13.out _ hHeld.1).mono ?_
      rintro e w' ⟨rfl,rfl⟩
      refine hK.out _ _ hHeld (fun hHeld => ?_)
      clear hK K
      try simp only [Act.put,zA,zB,zC]
      refine wpAnyH_ready (rs := [3]) (by kernel_rfl) (by simp) ?_
      refine arH rfl (fun K hK => ?_) AllReadyH.nil
      go_simp
      go_at_call 12
      refine (C12.out _ hHeld.1).mono ?_
      rintro e w8 ⟨rfl,b8⟩
      refine hK.out _ _ (kS.out _ (below3 hHeld.1 b8)) (fun hHeld => ?_)
      clear hK K
      try simp only [Act.put,zA,zB,zC]
      refine tkC 4 hHeld ?_
      refine tkJ 5 hHeld ?_
      refine tkJ 6 hHeld ?_
      refine tkJ 7 hHeld ?_
      refine tkJ 8 hHeld ?_
      refine tkC 9 hHeld ?_
      refine tkC 10 hHeld ?_
      refine wpAnyH_done (by kernel_rfl) ?_ _
      go_wp2_with fail
      go_ret
      exact ⟨rfl,below3 HB15.out hHeld.1⟩
end Go.Proofs.YtaphpdmfjnhlaaaGreatDoor
