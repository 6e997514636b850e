/-
  ScanFinds, walked. Condition: the table's cells hold what the text lays.
-/
import Derived.Test.YtaphpdmfjnhlaaaGreatDoorFWrn
namespace Go.Proofs.YtaphpdmfjnhlaaaGreatDoor
open Go Go.RowKit
set_option maxRecDepth 100000
theorem wnr_sl {w0 : World} {A : Wl} {bb p z : Nat} {e : Ending} {w' : World} (h : WnR w0 A bb p z e w') : ∃ e0 f0 h0 e1 f1 h1 e2 f2 h2 e3 f3 h3 nx ok,e = .returned (.tuple #[.agg #[.slice e0 f0 h0,.slice e1 f1 h1,.slice e2 f2 h2,.slice e3 f3 h3],.int .u64 nx,.bool ok])/\Below w0.heap.size w0 w' ∧
  (ok = true -> ∃ A' X' T Q c0 m kk s recs rows st,nx = ((s + 1 + kk : Nat) : Int)/\kk <= 12/\s + kk <= 20/\WtE w0 A bb p z A' X' T Q c0 m kk s recs rows st (.slice e0 f0 h0) (.slice e1 f1 h1) (.slice e2 f2 h2) (.slice e3 f3 h3) w'):=by
 obtain ⟨u0,u1,u2,u3,nx,ok,rfl,hb,h1,h2⟩:=h
 cases ok with
 | false =>
  obtain ⟨⟨e0,f0,h0,rfl⟩,⟨e1,f1,h1,rfl⟩,⟨e2,f2,h2,rfl⟩,⟨e3,f3,h3,rfl⟩⟩:=h2 rfl
  exact ⟨_,_,_,_,_,_,_,_,_,_,_,_,nx,false,rfl,hb,(fun q => absurd q (by decide))⟩
 | true =>
  obtain ⟨A',X',T,Q,c0,m,kk,s,recs,rows,st,q1,q2,q3,hE⟩:=h1 rfl
  obtain ⟨e0,f0,h0,rfl⟩:=hE.at'.sp.isSl
  obtain ⟨e1,f1,h1,rfl⟩:=hE.at'.lv.isSl
  obtain ⟨e2,f2,h2,rfl⟩:=hE.at'.bad.isSl
  obtain ⟨e3,f3,h3,rfl⟩:=hE.at'.worn.isSl
  exact ⟨_,_,_,_,_,_,_,_,_,_,_,_,nx,true,rfl,hb,fun _ => ⟨A',X',T,Q,c0,m,kk,s,recs,rows,st,q1,q2,q3,hE⟩⟩
theorem Img.same {B w0 G P t nx chk ms mv Z} {w : World} (h : Img B w0 G P t nx chk ms mv Z w) {B' : Nat} {u0 u1 u2 u3 : Value} (hr : S8.RAt w B' u0 u1 u2 u3 (S8.rs t)) : Calls Tryz.prog 12 #[.pointer (some ⟨P,0,none⟩),.agg #[u0,u1,u2,u3]] w fun e w' => e = .returned (.bool true)/\Below w.heap.size w w':=by
 obtain ⟨s,rfl,h2,h3,_⟩:=h.st
 rw [<- h3] at hr
 exact S8.same_any h2 hr
set_option maxHeartbeats 4000000 in
theorem scanFinds_any (xa : Option Addr) (xl xc : Nat) (gs : Nat -> Gr) (w : World) (hx : GrpF w xa xl gs) (hT : Pg.Tab w) : Calls Tryz.prog 3 #[.slice xa xl xc] w fun e w' => e = .returned (.bool true)/\Below w.heap.size w w':=by
 have hbg:=Hid.mk (begun_none 7 7 0 w hT.1)
 have HT:=Hid.mk (And.intro hT hx)
 clear hT hx
 go_enter Tryz.func3,Tryz.ntmps3
 go_upto_region 2 with (first
  | (go_at_call 7; refine hbg.out.mono ?_; rintro e w1 ⟨b,p,z,A,rfl,h1⟩; have H1:=Hid.mk h1; clear h1))
 have hg:=H1.out.geo
 have hbp : b * p <= 15 * 11:=Nat.mul_le_mul (show b <= 15 by omega) (show p <= 11 by omega)
 have R1:=Run.beg H1.out HT.out.1
 have haw:=Hid.mk (awake_any w1 R1.tab)
 have HR:=Hid.mk R1
 clear R1 H1 hbg
 go_upto_region 4 with (first
  | (go_at_call 8; refine haw.out.mono ?_; rintro e w2 ⟨rfl,b2⟩))
 have hwn:=Hid.mk (written_any hg w2 (HR.out.call b2) HT.out.1.1 xa xl xc gs HT.out.2)
 clear HR haw b2 HT
 go_upto_region 5 with (first
  | (go_at_call 9; refine hwn.out.mono ?_; rintro e w3 hw3; obtain ⟨e0,f0,h0,e1,f1,h1,e2,f2,h2,e3,f3,h3,nx,ok,rfl,hb3,hok⟩:=wnr_sl hw3; clear hw3))
 have b4:=Pg.below_one w3 (.cells #[.slice e0 f0 h0,.slice e1 f1 h1,.slice e2 f2 h2,.slice e3 f3 h3] 38)
 have X6:=S8.Box4.fresh w3 (.slice e0 f0 h0) (.slice e1 f1 h1) (.slice e2 f2 h2) (.slice e3 f3 h3)
 have HB:=Hid.mk (below3 hb3 b4)
 cases ok with
 | false =>
  clear hok hwn hb3 b4 X6
  go_wp2_with fail
  go_ret
  exact ⟨rfl,HB.out⟩
 | true =>
  obtain ⟨A',X',T,Q,c0,m,kk,s,recs,rows,st,rfl,hkk,hsk,hE⟩:=hok rfl
  obtain ⟨a',r',har,hS⟩:=hE.sq
  have R4:=hE.run.call b4
  have hXP : X'.C.P = p:=hE.geo.2.1
  have hXB : X'.C.B = b:=hE.geo.1
  obtain ⟨F,hF,hall⟩:=hS.all R4.wtr R4.tab
  have hroom:=hS.room
  rw [hXP,hXB,har] at hroom
  rw [hXP,har,hXB] at hF
  rw [hXP,hXB,hE.aL] at hall
  have HA:=Hid.mk hall
  have HE:=Hid.mk (And.intro hE.wp (And.intro hF (And.intro (hE.at'.call b4) X6)))
  clear hok hwn hb3 hE hS R4 hall hF har b4 X6
  generalize (w3.alloc (.cells #[.slice e0 f0 h0,.slice e1 f1 h1,.slice e2 f2 h2,.slice e3 f3 h3] 38)) = W4 at *
  generalize w3.heap.size = g6 at *
  go_upto_region 8 with (first
   | (go_at_call 10; refine HA.out.mono ?_; rintro e w6 ⟨v6,rfl,o6,b6⟩; obtain ⟨a6,c6,rfl⟩:=o6.form; rw [List.length_map,fal_len] at o6 |-))
  have hre:=Hid.mk (HE.out.1.rebuild (n:=b * p) hroom (by omega) HE.out.2.1 a6 c6 w6 (o6.lower (Nat.zero_le _)))
  have HB6:=Hid.mk (below3 HB.out b6)
  have HE6:=Hid.mk (And.intro (HE.out.2.2.1.call b6) (HE.out.2.2.2.call b6))
  clear o6 b6 HA HB HE
  go_upto_region 9 with (first
   | (go_at_call 11; refine hre.out.mono ?_; rintro e w7 ⟨G,P,mv,rfl,hI⟩))
  have bI:=hI.st.hold.below
  have hRA:=HE6.out.1.call bI
  have hX7:=HE6.out.2.call bI
  have hB7:=Hid.mk (below3 HB6.out bI)
  have C13:=Hid.mk (fun W (b : Below w7.heap.size w7 W) => state_is (hI.call b).box)
  have C14:=Hid.mk (fun W (b : Below w7.heap.size w7 W) => next_is (hI.call b).box)
  have C12:=Hid.mk (fun W (b : Below w7.heap.size w7 W) => (hI.call b).same (hRA.call b))
  have kS : Hid (∀ w',Below w7.heap.size w7 w' -> Below w7.heap.size w7 w'/\(w'.cell? ⟨g6,0,none⟩ = some (.slice e0 f0 h0)/\w'.cell? ⟨g6,1,none⟩ = some (.slice e1 f1 h1)/\w'.cell? ⟨g6,2,none⟩ = some (.slice e2 f2 h2)/\w'.cell? ⟨g6,3,none⟩ = some (.slice e3 f3 h3))):=Hid.mk (fun w' q => ⟨q,(hX7.call q).cells⟩)
  have hnn : ((s + kk + 1 : Nat) : Int) = ((s + 1 + kk : Nat) : Int):=by omega
  rw [hnn] at C14
  clear hI hRA hX7 bI HE6 hre HB6 hnn
  go_region_held3 (fun w' => Below w7.heap.size w7 w'/\(w'.cell? ⟨g6,0,none⟩ = some (.slice e0 f0 h0)/\w'.cell? ⟨g6,1,none⟩ = some (.slice e1 f1 h1)/\w'.cell? ⟨g6,2,none⟩ = some (.slice e2 f2 h2)/\w'.cell? ⟨g6,3,none⟩ = some (.slice e3 f3 h3)))
   (first | assumption | exact kS.out _ (Below.refl _ w7).drew | exact kS.out _ (below3 (And.left (by assumption)) (by assumption)) | exact kS.out _ (below3 (Below.refl _ w7).drew (by assumption)) | fail)
   (first | (go_at_call 13; refine (C13.out _ (And.left (by assumption))).mono ?_; rintro e w' ⟨rfl,rfl⟩) | (go_at_call 12; refine (C12.out _ (And.left (by assumption))).mono ?_; rintro e w8 ⟨rfl,b8⟩) | (go_at_call 14; refine (C14.out _ (And.left (by assumption))).mono ?_; rintro e w' ⟨rfl,rfl⟩))
  go_wp2_with fail
  go_ret
  exact ⟨rfl,below3 hB7.out (And.left (by assumption))⟩
end Go.Proofs.YtaphpdmfjnhlaaaGreatDoor
