/-
  The laws' own 'awake': a checkpoint of one page, and a journal of one page behind it, are found again. Condition: the table's cells hold what the text lays.
-/
import Derived.Test.YtaphpdmfjnhlaaaGreatDoorCN2
namespace Go.Proofs.YtaphpdmfjnhlaaaGreatDoor
open Go Go.RowKit
set_option maxRecDepth 100000
theorem meta_is {B w0 G P t nx chk ms mv Z} {w : World} (h : Img B w0 G P t nx chk ms mv Z w) (hm : 0 < ms.length/\ms.length <= 1000) : Calls Tryz.prog 24 #[.pointer (some ⟨G,0,none⟩)] w fun e w' => ∃ a c,e = .returned (.slice a ms.length c)/\Below w.heap.size w w':=by
 obtain ⟨c0,c1,c2,c3⟩:=h.box.cells
 obtain ⟨a,c,rfl⟩:=Ints.form h.me
 obtain ⟨g,o,rfl,_⟩:=(Ints.rds h.me) 0 hm.1
 have hc:=Hid.mk (clone_any (Ints.rds h.me) (by omega) c)
 clear h
 go_enter Tryz.func24,Tryz.ntmps24
 go_wp2_with (first | (go_at_call 69; refine hc.out.mono ?_; rintro e w1 ⟨v,rfl,o1,b1⟩; obtain ⟨a1,c1',rfl⟩:=Ints.form o1))
 go_ret
 exact ⟨_,_,rfl,b1⟩
def ra : Gp.R6:=(4,1,0,0,0,5)
def rb : Gp.R6:=(1,1,2,9,0,0)
def aT (i : Nat) : ByteArray:=if i = 0 then Gp.puts [ra] else Gp.puts [rb]
def aQ (i : Nat) : Tg:=if i = 0 then (3,3,0,1) else (2,4,0,1)
def at1 : S8.Ab:=⟨[⟨1,5,false,[]⟩],[],[]⟩
def at2 : S8.Ab:=⟨[⟨1,5,false,[(2,9)]⟩],[],[]⟩
theorem ra_may : Gp.R6.may ra = true:=by decide
theorem rb_may : Gp.R6.may rb = true:=by decide
theorem pack_of (r : Gp.R6) (h : Gp.R6.may r = true) : Gp.packGo (64 : Nat) ([r].map Gp.R6.put) [] ⟨#[]⟩ = [Gp.puts [r]]:=by
 have:=Gp.pack_one (64 : Nat) [r] [] [] (fun x hx => by rw [List.mem_singleton.1 hx]; exact h) (by show (0 : Int) + 9 * 1 <= 64; omega)
 exact this
theorem ap_a : S8.apR S8.noAb ra = (at1,0):=by
 unfold S8.apR S8.apA ra
 rw [show Gp.mayB 4 1 0 0 0 5 = true from by decide]
 rfl
theorem ap_b : S8.apR at1 rb = (at2,0):=by
 unfold S8.apR S8.apA rb
 rw [show Gp.mayB 1 1 2 9 0 0 = true from by decide]
 rfl
theorem aWp : Wp aT aQ 0 1 1 3 [ra] (fun _ => [rb]) (fun j => if j = 0 then at1 else at2):=by
 refine ⟨by omega,by omega,by omega,fun i hi => by omega,fun i hi => ?_,by rw [pack_of ra ra_may]; rfl,fun j hj => ?_,fun r hr => by rw [List.mem_singleton.1 hr]; exact ra_may,?_,fun j hj => ?_⟩
 ·unfold aQ
  split <;> simp
 ·obtain rfl : j = 0:=by omega
  rw [pack_of ra ra_may]
  exact ⟨rfl,rfl⟩
 ·exact ⟨by rw [ap_a],by rw [ap_a]; rfl⟩
 ·obtain rfl : j = 0:=by omega
  refine ⟨rfl,rfl,fun r hr => by rw [List.mem_singleton.1 hr]; exact rb_may,by simp,?_⟩
  exact ⟨by show (S8.apR at1 rb).2 = 0; rw [ap_b],by show (S8.apR at1 rb).1 = at2; rw [ap_b]⟩
theorem recs_new (w : World) (r : Gp.R6) : Gp.RecsF (w.alloc (.cells #[.int .i64 r.1,.int .i64 r.2.1,.int .i64 r.2.2.1,.int .i64 r.2.2.2.1,.int .i64 r.2.2.2.2.1,.int .i64 r.2.2.2.2.2] 87)) (some ⟨w.heap.size,0,none⟩) 1 (fun i => [r].getD i (0,0,0,0,0,0)):=by
 intro i hi
 obtain rfl : i = 0:=by omega
 refine ⟨w.heap.size,0,rfl,by rw [size_alloc]; omega,?_⟩
 refine ⟨?_,?_,?_,?_,?_,?_⟩ <;> (rw [cell_of_row _ _ _ _ 87 _ (heap_alloc_new w _)]; rfl)
theorem aTQ0 : ∀ i,i < [Gp.puts [ra]].length -> aT (0 + i) = [Gp.puts [ra]].getD i ⟨#[]⟩/\aQ (0 + i) = (3,sqN ((3 : Nat) : Int) 3 i,i,[Gp.puts [ra]].length)
 | 0,_ => ⟨rfl,rfl⟩
 | i + 1,h => absurd h (by simp)
theorem aTQ1 : ∀ i,i < [Gp.puts [rb]].length -> aT (1 + i) = [Gp.puts [rb]].getD i ⟨#[]⟩/\aQ (1 + i) = (2,sqN ((2 : Nat) : Int) 4 i,i,[Gp.puts [rb]].length)
 | 0,_ => ⟨rfl,rfl⟩
 | i + 1,h => absurd h (by simp)
theorem Sq.all {D : Nat} {X : Wx} {a r T Q} (h : Sq D X a r T Q) {w : World} {A : Wl} (hw : Wtr w A X) (hT : Pg.Tab w) : ∃ F,FsIs T Q (a * X.C.P + r) (X.C.B * X.C.P) F/\Calls Tryz.prog 10 #[.pointer (some ⟨A.L.a,0,none⟩)] w fun e w' => ∃ v,e = .returned (.tuple #[v,.int .i64 0])/\We.Ow w' w.heap.size 70 8 v ((fal F (X.C.B * X.C.P)).map Fd.row)/\Below w.heap.size w w':=by
 have hg:=hw.chip.geo
 obtain ⟨F,hF⟩:=founds (C:=X.C) (n:=X.C.B * X.C.P) (G:=fun i => if i < a * X.C.P + r then some (T i,Q i) else none) (fun i hi => h.pgs (by omega) hi) (by omega)
 exact ⟨F,fun i hi => (hF i hi).2,all_any hw.chip hT h.fin.off F (fun i hi => (hF i hi).1)⟩
set_option maxHeartbeats 2000000 in
theorem awake_any (w : World) (hT : Pg.Tab w) : Calls Tryz.prog 8 #[] w fun e w' => e = .returned (.bool true)/\Below w.heap.size w w':=by
 have hbg:=Hid.mk (begun_none 0 0 0 w hT.1)
 have HT:=Hid.mk hT
 clear hT
 go_enter Tryz.func8,Tryz.ntmps8
 go_upto_region 4 with (first
  | (go_at_call 7; refine hbg.out.mono ?_; rintro e w1 ⟨b,p,z,A,rfl,h1⟩; have H1:=Hid.mk h1; clear h1))
 have hg:=H1.out.geo
 have hbp : b * p <= 15 * 11:=Nat.mul_le_mul (show b <= 15 by omega) (show p <= 11 by omega)
 have hbp2 : 32 <= b * p:=Nat.mul_le_mul (show 8 <= b by omega) (show 4 <= p by omega)
 have R1:=Run.beg H1.out HT.out
 have S1:=Sq.beg b p z [] [] (by omega) (by omega) (by omega) aT aQ
 have R2:=R1.call (Pg.below_one w1 (.cells #[.int .i64 4,.int .i64 1,.int .i64 0,.int .i64 0,.int .i64 0,.int .i64 5] 87))
 have hw:=write_any R2.wtr R2.tab S1 0 (by simp) [ra] (some ⟨w1.heap.size,0,none⟩) 1 (recs_new w1 ra) (fun r hr => by rw [List.mem_singleton.1 hr]; exact ra_may) (by simp) 3 (by omega) 3 (by omega) 64 ⟨by omega,by show 64 <= z; omega⟩ [Gp.puts [ra]] (pack_of ra ra_may) aTQ0 0 (0,0) (beg_cuts b p z (0,0)) (fun i => rfl) (by omega)
 have HW:=Hid.mk hw
 have HR:=Hid.mk R2
 have hcut : Hid ((begX b p z [] []).C.cuts = (begX b p z [] []).C.cuts):=Hid.mk rfl
 clear hw R1 R2 S1 H1 HT hbg hcut
 go_upto_region 5 with (first
  | (go_at_call 17; refine HW.out.mono ?_; rintro e w3 ⟨X3,A3,t3,tb3,n3,g3,cu3,fa3,hcase⟩; rcases hcase with ⟨_,_,⟨v3,rfl,_⟩,a3,r3,ar3,S3⟩ | ⟨h0,_⟩ | ⟨h0,_⟩; rotate_left; exact absurd h0 (by omega); (exfalso; have h00 : b * p < 0 + 1:=h0; omega); have H3:=Hid.mk (And.intro (HR.out.next t3 n3) (And.intro g3 (And.intro ar3 (And.intro S3 (And.intro cu3 fa3))))); have eA:=n3.a; have eL:=n3.L; clear t3 tb3 n3 g3 ar3 S3 cu3 fa3))
 obtain ⟨R3,g3,ar3,S3,cu3,fa3⟩:=H3.out
 have hP : X3.C.P = p:=g3.2.1
 have hB : X3.C.B = b:=g3.1
 have hZ : X3.C.Z = z:=g3.2.2
 have hPP : (begX b p z [] []).C.P = p:=rfl
 rw [hPP] at ar3
 have R4:=R3.call (Pg.below_one w3 (.cells #[.int .i64 1,.int .i64 1,.int .i64 2,.int .i64 9,.int .i64 0,.int .i64 0] 87))
 have hw2:=write_any R4.wtr R4.tab S3 1 (by rw [hP,ar3]; rfl) [rb] (some ⟨w3.heap.size,0,none⟩) 1 (recs_new w3 rb) (fun r hr => by rw [List.mem_singleton.1 hr]; exact rb_may) (by simp) 2 (by omega) 4 (by omega) 64 ⟨by omega,by rw [hZ]; omega⟩ [Gp.puts [rb]] (pack_of rb rb_may) aTQ1 0 (0,0) (by rw [cu3]; exact beg_cuts b p z (0,0)) (by rw [fa3]; exact fun i => rfl) (by omega)
 rw [eA] at hw2
 have HW2:=Hid.mk hw2
 have HR4:=Hid.mk R4
 have hnx : (nxv 3 3 1 : Int) = 4:=rfl
 have hnx' : (nxv 3 3 [Gp.puts [ra]].length : Int) = 4:=rfl
 try rw [hnx']
 try rw [hnx]
 clear hw2 R4 H3 R3 S3 HW HR cu3 fa3 hPP
 go_upto_region 6 with (first
  | (go_at_call 17; refine HW2.out.mono ?_; rintro e w5 ⟨X5,A5,t5,tb5,n5,g5,cu5,fa5,hcase⟩; rcases hcase with ⟨_,_,⟨v5,rfl,_⟩,a5,r5,ar5,S5⟩ | ⟨h0,_⟩ | ⟨h0,_⟩; rotate_left; exact absurd h0 (by omega); (exfalso; rw [hB,hP] at h0; have h00 : b * p < 1 + 1:=h0; omega); have H5:=Hid.mk (And.intro (HR4.out.next t5 n5) (And.intro g5 (And.intro ar5 S5))); have eL5:=n5.L; clear t5 tb5 n5 g5 ar5 S5 cu5 fa5))
 obtain ⟨R5,g5,ar5,S5⟩:=H5.out
 have hP5 : X5.C.P = p:=g5.2.1.trans hP
 have hB5 : X5.C.B = b:=g5.1.trans hB
 obtain ⟨F,hF,hall⟩:=S5.all R5.wtr R5.tab
 rw [hP] at ar5
 rw [hP5,hB5] at hF hall
 rw [ar5] at hF
 rw [eL5,eL] at hall
 have HA:=Hid.mk hall
 have HF:=Hid.mk hF
 have HB:=Hid.mk R5.below
 clear hall hF R5 S5 H5 ar5 g5 HW2 HR4 hnx hnx' ar3 g3
 go_upto_region 7 with (first
  | (go_at_call 10; refine HA.out.mono ?_; rintro e w6 ⟨v6,rfl,o6,b6⟩; obtain ⟨a6,c6,rfl⟩:=o6.form; rw [List.length_map,fal_len] at o6 |-))
 have hre:=Hid.mk (aWp.rebuild (n:=b * p) (by omega) (by omega) HF.out a6 c6 w6 (o6.lower (Nat.zero_le _)))
 have HB6:=Hid.mk (below3 HB.out b6)
 clear o6 b6 HA HB
 go_upto_region 8 with (first
  | (go_at_call 11; refine hre.out.mono ?_; rintro e w7 ⟨G,P,mv,rfl,hI⟩))
 have HI:=Hid.mk hI
 have hst:=Hid.mk (state_is hI.box)
 have hnxt:=Hid.mk (next_is hI.box)
 have hchk:=Hid.mk (check_is hI.box)
 have hmt:=Hid.mk (meta_is hI ⟨by simp,by simp⟩)
 have hgt:=Hid.mk (S8.hold_get hI.st.hold (id:=1) (page:=2) (by unfold S8.K64; decide) (by unfold S8.K64; decide))
 have hB7:=Hid.mk (below3 HB6.out hI.st.hold.below)
 have hga : S8.getA ((fun j => if j = 0 then at1 else at2) 1) 1 2 = some 9:=rfl
 rw [hga] at hgt
 have hml : ((List.range 1).map (fun j => ((0 + j : Nat) : Int)) ++ (List.range 1).map (fun j => ((0 + 1 + j : Nat) : Int))).length = 2:=rfl
 rw [hml] at hmt
 clear hI hga hml
 go_wp2_with (first
  | (go_at_call 13; refine hst.out.mono ?_; rintro e w' ⟨rfl,rfl⟩)
  | (go_at_call 28; refine hgt.out.mono ?_; rintro e w' ⟨rfl,rfl⟩)
  | (go_at_call 14; refine hnxt.out.mono ?_; rintro e w' ⟨rfl,rfl⟩)
  | (go_at_call 23; refine hchk.out.mono ?_; rintro e w' ⟨rfl,rfl⟩)
  | (go_at_call 24; refine hmt.out.mono ?_; rintro e w8 ⟨a8,c8,rfl,b8⟩))
 go_ret
 exact ⟨rfl,below3 hB7.out b8⟩
end Go.Proofs.YtaphpdmfjnhlaaaGreatDoor
