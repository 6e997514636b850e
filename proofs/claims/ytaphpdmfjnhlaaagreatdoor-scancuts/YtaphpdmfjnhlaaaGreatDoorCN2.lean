/-
  What is found on a chip, as it is put together: its block, its state, where pages stand that tell it. The walk of do: records of pages are done, and where these stand is noted. Condition: texts of whole records that may be, which the state does not refuse. The walk of do: records of pages are done, and where these stand is noted. Condition: texts of whole records that may be, which the state does not refuse. What pages come to that were found: the walk of Rebuild, and what an image tells. Conditions: at most 200 pages; the newest checkpoint's texts and the journal's (at most 19 groups of one page each, in the order of their places) hold whole records that may be and that the state does not refuse. Pages as they are found on a chip, and what a checkpoint and the journal behind it come to. Pure, but for what Look says of a page. No condition.
-/
import Derived.Test.YtaphpdmfjnhlaaaGreatDoorCN1
import Derived.Test.YtaphpdmfjnhlaaaGreatDoorCK8
import Derived.Test.YtaphpdmfjnhlaaaGreatDoorCH9
import Derived.Test.YtaphpdmfjnhlaaaGreatDoorCH8
import Derived.Test.YtaphpdmfjnhlaaaGreatDoorCH5
namespace Go.Proofs.YtaphpdmfjnhlaaaGreatDoor
open Go Go.RowKit
theorem Ow.to8 {w : World} {B e sz v rows} (h : We.Ow w B e sz v rows) : We.Ow w B e sz v rows:=⟨h.own,h.len,h.one⟩
theorem Ow.from8 {w : World} {B e sz v rows} (h : We.Ow w B e sz v rows) : We.Ow w B e sz v rows:=⟨h.own,h.len,h.one⟩
theorem ei30s : We.EI 30 3 1 8:=⟨ei30.under,ei30.info,ei30.pos,ei30.top⟩
def ImB (w : World) (G P : Nat) (nx chk : Int) (mv : Value) : Prop:=w.heap[G]? = some (.cells #[.pointer (some ⟨P,0,none⟩),.int .u64 nx,.int .u64 chk,mv] 98 (0,0))
theorem ImB.cells {w : World} {G P nx chk mv} (h : ImB w G P nx chk mv) : w.cell? ⟨G,0,none⟩ = some (.pointer (some ⟨P,0,none⟩))/\w.cell? ⟨G,1,none⟩ = some (.int .u64 nx)/\w.cell? ⟨G,2,none⟩ = some (.int .u64 chk)/\w.cell? ⟨G,3,none⟩ = some mv:=by
 refine ⟨?_,?_,?_,?_⟩ <;> (rw [cell_of_row w G _ _ 98 _ h]; rfl)
theorem ImB.lt {w : World} {G P nx chk mv} (h : ImB w G P nx chk mv) : G < w.heap.size:=(Array.getElem?_eq_some_iff.1 h).1
theorem ImB.set {w : World} {G P nx chk mv} (h : ImB w G P nx chk mv) (mv' : Value) : ImB (w.setCell ⟨G,3,none⟩ mv') G P nx chk mv':=by
 unfold ImB
 rw [heap_setCell_same w G 3 _ 98 _ h]
 rfl
structure Img (B : Nat) (w0 : World) (G P : Nat) (t : S8.Ab) (nx chk : Int) (ms : List Int) (mv : Value) (Z : List Nat) (w : World) : Prop where
 st : S8.HoldZ B w0 P t (G :: (mv.ownBlock.toList ++ Z)) w
 box : ImB w G P nx chk mv
 me : Ints w B mv ms
 ne : mv.ownBlock ≠ some G
 nz : ∀ z ∈ Z,z ≠ G/\mv.ownBlock ≠ some z
theorem Img.call {B w0 G P t nx chk ms mv Z} {w w' : World} (h : Img B w0 G P t nx chk ms mv Z w) (b : Below w.heap.size w w') : Img B w0 G P t nx chk ms mv Z w' :=
 ⟨h.st.call b,(b.block G h.box.lt).trans h.box,We.Ow.call h.me b,h.ne,h.nz⟩
theorem Img.drew {B w0 G P t nx chk ms mv Z} {w : World} (h : Img B w0 G P t nx chk ms mv Z w) : Img B w0 G P t nx chk ms mv Z w.drew:=h.call (Below.refl _ w).drew
theorem Img.more {B w0 G P t nx chk ms mv Z} {w w' : World} (h : Img B w0 G P t nx chk ms mv Z w) (b : Below w.heap.size w w') {Z' : List Nat} (hz : ∀ z ∈ Z',z ∈ Z \/ (w.heap.size <= z/\z < w'.heap.size)) : Img B w0 G P t nx chk ms mv Z' w':=by
 have hG:=h.box.lt
 have hm : ∀ g,mv.ownBlock = some g -> g < w.heap.size:=fun g hg => (We.Ow.lt h.me g hg).2
 refine ⟨?_,(b.block G hG).trans h.box,We.Ow.call h.me b,h.ne,fun z q => ?_⟩
 ·obtain ⟨s,h1,h2,h3,h4,h5,h6,h7⟩:=h.st
  refine ⟨s,h1,h2.call b,h3,h4.trans (b.mono (Nat.le_trans h5 h4.size)),h5,h6,fun z q => ?_⟩
  have hold : z ∈ G :: (mv.ownBlock.toList ++ Z) -> (B <= z/\z < w'.heap.size)/\z ∉ S8.foot s:=fun q => ⟨⟨(h7 z q).1.1,Nat.lt_of_lt_of_le (h7 z q).1.2 b.size⟩,(h7 z q).2⟩
  rcases List.mem_cons.1 q with e | q
  ·exact hold (by rw [e]; simp)
  ·rcases List.mem_append.1 q with q | q
   ·exact hold (by simp [q])
   ·rcases hz z q with q | q
    ·exact hold (by simp [q])
    ·exact ⟨⟨Nat.le_trans (Nat.le_trans h5 h4.size) q.1,q.2⟩,fun hm => by have:=h2.at'.foot_lt _ hm; omega⟩
 ·rcases hz z q with q | q
  ·exact h.nz z q
  ·exact ⟨by omega,fun e => by have:=hm z e; omega⟩
theorem Img.apply {B w0 G P t nx chk ms mv Z} {w : World} (h : Img B w0 G P t nx chk ms mv Z w) (r : Gp.R6) : Calls Tryz.prog 78 #[.pointer (some ⟨P,0,none⟩),Gp.rv r.1 r.2.1 r.2.2.1 r.2.2.2.1 r.2.2.2.2.1 r.2.2.2.2.2] w fun e w' =>
  e = .returned (.int .i64 (S8.apR t r).2)/\Img B w0 G P (S8.apR t r).1 nx chk ms mv Z w'/\(∀ z ∈ Z,w'.heap[z]? = w.heap[z]?)/\(w'.heap[G]? = w.heap[G]?)/\Below B w w':=by
 refine (S8.applyZ h.st r).mono ?_
 rintro e w' ⟨rfl,h1,h2,h3⟩
 refine ⟨rfl,⟨h1,(h2 G (by simp)).trans h.box,We.Ow.same h.me (fun g hg => h2 g (by simp [hg])),h.ne,h.nz⟩,fun z hz => h2 z (by simp [hz]),h2 G (by simp),h3⟩
theorem Img.note {B w0 G P t nx chk ms mv Z} {w w2 : World} (h : Img B w0 G P t nx chk ms mv Z w) {mv2 : Value} {x : Int} (q1 : Ints w2 B mv2 (ms ++ [x])) (q2 : w.grownBy w2 mv.ownBlock) (q3 : mv2.ownBlock = mv.ownBlock \/ ∃ g,mv2.ownBlock = some g/\w.heap.size <= g) :
  Img B w0 G P t nx chk (ms ++ [x]) mv2 Z (w2.setCell ⟨G,3,none⟩ mv2)/\(∀ z ∈ Z,(w2.setCell ⟨G,3,none⟩ mv2).heap[z]? = w.heap[z]?)/\Below B w (w2.setCell ⟨G,3,none⟩ mv2):=by
 obtain ⟨s,h1,h2,h3,h4,h5,h6,h7⟩:=h.st
 have hG:=h7 G (by simp)
 have hB : B <= w.heap.size:=Nat.le_trans h5 h4.size
 have hm : ∀ g,mv.ownBlock = some g -> (B <= g/\g < w.heap.size)/\g ∉ S8.foot s:=fun g hg => h7 g (by simp [hg])
 have e1 : ∀ i,i < w.heap.size -> i ≠ G -> mv.ownBlock ≠ some i -> (w2.setCell ⟨G,3,none⟩ mv2).heap[i]? = w.heap[i]? := fun i hi hn hne =>
  (heap_setCell_other w2 ⟨G,3,none⟩ i mv2 hn).trans (q2.block i hi (fun e => hne e.symm))
 have hb : Below B w w2:=(Below.refl B w).grown q2 hB (fun g hg => (hm g hg).1.1)
 have hb2 : Below B w (w2.setCell ⟨G,3,none⟩ mv2):=hb.setCell hG.1.1 mv2
 have hsz : (w2.setCell ⟨G,3,none⟩ mv2).heap.size = w2.heap.size:=by simp [World.setCell]
 have hbox : ImB w2 G P nx chk mv:=(q2.block G hG.1.2 (fun e => h.ne e.symm)).trans h.box
 have hne2 : mv2.ownBlock ≠ some G:=fun e => by
  rcases q3 with q | ⟨g,q,hg⟩
  ·exact h.ne (by rw [<- q]; exact e)
  ·rw [e] at q
   have : G = g:=by simpa using q
   omega
 refine ⟨⟨⟨s,h1,h2.frame (fun i hi => e1 i (h2.at'.foot_lt i hi) (fun e => hG.2 (e ▸ hi)) (fun e => (hm i e).2 hi)),h3,?_,h5,h6,fun z q => ?_⟩,hbox.set mv2,We.Ow.same q1 (fun g hg => heap_setCell_other w2 ⟨G,3,none⟩ g mv2 (fun e => hne2 (by have e' : g = G:=e; rw [<- e']; exact hg))),hne2,fun z q => ⟨(h.nz z q).1,fun e => ?_⟩⟩,fun z q => e1 z (h7 z (by simp [q])).1.2 (h.nz z q).1 (h.nz z q).2,hb2⟩
 ·exact h4.trans (hb2.mono (Nat.le_refl _))
 ·rw [hsz]
  rcases List.mem_cons.1 q with rfl | q
  ·exact ⟨⟨hG.1.1,Nat.lt_of_lt_of_le hG.1.2 q2.size⟩,hG.2⟩
  ·rcases List.mem_append.1 q with q | q
   ·have hq : mv2.ownBlock = some z:=by simpa using q
    have hl:=We.Ow.lt q1 z hq
    refine ⟨hl,fun hf => ?_⟩
    rcases q3 with q3 | ⟨g,q3,hg⟩
    ·exact (hm z (by rw [<- q3]; exact hq)).2 hf
    ·have : g = z:=by rw [hq] at q3; simpa using q3.symm
     have:=h2.at'.foot_lt z hf
     omega
   ·have hq:=h7 z (by simp [q])
    exact ⟨⟨hq.1.1,Nat.lt_of_lt_of_le hq.1.2 q2.size⟩,hq.2⟩
 ·rcases q3 with q3 | ⟨g,q3,hg⟩
  ·exact (h.nz z q).2 (by rw [<- q3]; exact e)
  ·have : g = z:=by rw [e] at q3; simpa using q3.symm
   have:=(h7 z (by simp [q])).1.2
   omega
end Go.Proofs.YtaphpdmfjnhlaaaGreatDoor
namespace Go.Proofs.YtaphpdmfjnhlaaaGreatDoor
open Go Go.RowKit
theorem Rw_recs {w a c rs wr} (h : Gp.Rw w (.slice a rs.length c) rs wr) : Gp.RecsF wr a rs.length (fun i => rs.getD i (0,0,0,0,0,0)):=by
 intro i hi
 rcases hr : rs.getD i (0,0,0,0,0,0) with ⟨K,S,P,A,T,N⟩
 obtain ⟨g,ha,hg,c0,c1,c2,c3,c4,c5⟩:=h.at i hi hr
 refine ⟨g,0,ha,hg,?_⟩
 dsimp only
 rw [hr,Nat.zero_add]
 exact ⟨c0,c1,c2,c3,c4,c5⟩
theorem RecsF_same {w w' : World} {a n f} (h : Gp.RecsF w a n f) (hs : w.heap.size <= w'.heap.size) (e : ∀ g o,a = some ⟨g,o,none⟩ -> w'.heap[g]? = w.heap[g]?) : Gp.RecsF w' a n f:=by
 intro i hi
 obtain ⟨g,o,ha,hg,hc⟩:=h i hi
 have e2 : ∀ j,w'.cell? ⟨g,j,none⟩ = w.cell? ⟨g,j,none⟩:=fun j => by unfold World.cell?; rw [e g o ha]
 refine ⟨g,o,ha,Nat.lt_of_lt_of_le hg hs,?_⟩
 simp only [e2]
 exact hc
abbrev Do7 (G P g8 : Nat) (r : Gp.R6) (w' : World) : Prop:=w'.cell? ⟨G,0,none⟩ = some (.pointer (some ⟨P,0,none⟩))/\w'.cell? ⟨g8,0,none⟩ = some (.int .i64 r.1)/\w'.cell? ⟨g8,1,none⟩ = some (.int .i64 r.2.1)/\w'.cell? ⟨g8,2,none⟩ = some (.int .i64 r.2.2.1)/\w'.cell? ⟨g8,3,none⟩ = some (.int .i64 r.2.2.2.1)/\w'.cell? ⟨g8,4,none⟩ = some (.int .i64 r.2.2.2.2.1)/\w'.cell? ⟨g8,5,none⟩ = some (.int .i64 r.2.2.2.2.2)
theorem Do7.same {G P g8 r} {w w' : World} (h : Do7 G P g8 r w) (e1 : w'.heap[G]? = w.heap[G]?) (e2 : w'.heap[g8]? = w.heap[g8]?) : Do7 G P g8 r w':=by
 have f1 : ∀ j,w'.cell? ⟨G,j,none⟩ = w.cell? ⟨G,j,none⟩:=fun j => by unfold World.cell?; rw [e1]
 have f2 : ∀ j,w'.cell? ⟨g8,j,none⟩ = w.cell? ⟨g8,j,none⟩:=fun j => by unfold World.cell?; rw [e2]
 unfold Do7
 simp only [f1,f2]
 exact h
abbrev At14 (g : Nat) (x : Int) (w' : World) : Prop:=w'.cell? ⟨g,0,none⟩ = some (.int .i64 x)
theorem drop_rec (l : List Gp.R6) (k : Nat) (h : k < l.length) : l.drop k = l.getD k (0,0,0,0,0,0) :: l.drop (k + 1):=by
 rw [List.drop_eq_getElem_cons h]
 simp [List.getD_eq_getElem?_getD,h]
theorem txR_txF {w : World} {B a n cap} {l : List Fd} {rss : List (List Gp.R6)} (h : We.Ow w B 9 1 (.slice a n cap) (txR l)) (e : l.map (·.t) = rss.map Gp.puts) : Gp.TxtF w a (rss.map Gp.puts):=by
 intro i hi
 rw [<- e] at hi |-
 rw [List.length_map] at hi
 obtain ⟨g,h1,_,h3,h4⟩:=h.at (j:=i) (by simpa [txR] using hi)
 refine ⟨g,0,h1,h3,?_⟩
 have:=h4 0 (by omega)
 rw [Nat.mul_one,Nat.add_zero] at this
 rw [Nat.zero_add,this]
 simp [txR,List.getD_eq_getElem?_getD,hi]
set_option maxRecDepth 20000 in
set_option maxHeartbeats 2000000 in
theorem do_any {B w0 G P t nx chk ms mv Z} {w : World} (h : Img B w0 G P t nx chk ms mv Z w) (a : Option Addr) (cap : Nat) (l : List Fd) (hl : FdsF w a l) (hZ : ∀ g o,a = some ⟨g,o,none⟩ -> g < B \/ g ∈ Z) (rss : List (List Gp.R6)) (htx : l.map (·.t) = rss.map Gp.puts)
  (hm : ∀ x ∈ rss,∀ r ∈ x,Gp.R6.may r = true) (h100 : ∀ x ∈ rss,x.length <= 100) (hlen : l.length <= 200) (hms : ms.length <= 1000) (t' : S8.Ab) (hp : S8.plays t rss.flatten t') :
  Calls Tryz.prog 36 #[.pointer (some ⟨G,0,none⟩),.slice a l.length cap] w fun e w' => e = .returned (.int .i64 0) /\ ∃ mv',Img B w0 G P t' nx chk (ms ++ l.map (·.a)) mv' Z w'/\(∀ z ∈ Z,w'.heap[z]? = w.heap[z]?)/\Below B w w':=by
 have hBw : B <= w.heap.size:=by
  obtain ⟨s,h1,h2,h3,h4,h5,h6,h7⟩:=h.st
  exact Nat.le_trans h5 h4.size
 have hrl : rss.length = l.length:=by have:=congrArg List.length htx; simpa using this.symm
 have HT:=Hid.mk (textsF a cap l w hl (by omega))
 have HU : Hid (∀ (w1 : World) (a1 : Option Addr) (c1 : Nat),We.Ow w1 w.heap.size 9 1 (.slice a1 l.length c1) (txR l) -> Calls Tryz.prog 76 #[.slice a1 l.length c1] w1 fun e w' => ∃ v,e = .returned (.tuple #[v,.int .i64 0])/\Gp.Rw w1 v rss.flatten w'):=fun w1 a1 c1 ho => by
  have:=Gp.unpack_cat a1 c1 rss w1 (txR_txF ho htx) hm h100 (by omega)
  rw [hrl] at this
  exact this
 have hfl:=Gp.flat_le rss h100
 rw [hrl] at hfl
 have HI:=Hid.mk (And.intro h (And.intro hl hZ))
 have hmf : Hid (∀ r ∈ rss.flatten,Gp.R6.may r = true):=fun r hr => by
  obtain ⟨x,hx,hr⟩:=List.mem_flatten.1 hr
  exact hm x hx r hr
 generalize rss.flatten = rs at *
 have HP:=Hid.mk hp
 clear h hl hZ htx hm h100 hp
 generalize hn : l.length = len at *
 replace hn:=Hid.mk hn
 go_enter Tryz.func36,Tryz.ntmps36
 go_upto_region 5 with (first
  | (go_at_call 77; refine HT.out.mono ?_; rintro e w1 ⟨v1,rfl,o1,b1⟩; obtain ⟨a1,c1,rfl⟩:=o1.form; rw [show (txR l).length = len by simp [txR,hn.out]] at o1 |-)
  | (go_at_call 76; refine (HU.out _ _ _ o1).mono ?_; rintro e w2 ⟨v2,rfl,r2⟩; obtain ⟨a2,c2,rfl⟩:=r2.form))
 have I2 : Img B w0 G P t nx chk ms mv ((Value.slice a2 rs.length c2).ownBlock.toList ++ Z) w2:=HI.out.1.more (below3 b1 (r2.below.mono (Nat.le_refl _))) (fun z q => by
  rcases List.mem_append.1 q with q | q
  ·have:=r2.own.lt z (by simpa using q)
   exact .inr ⟨Nat.le_trans b1.size this.1,this.2⟩
  ·exact .inl q)
 have R2:=Rw_recs r2
 have hown : Hid (∀ g o,a2 = some ⟨g,o,none⟩ -> g ∈ (Value.slice a2 rs.length c2).ownBlock.toList ++ Z):=fun g o e => by rw [e]; simp [Value.ownBlock]
 have b2 : Below w.heap.size w w2:=below3 b1 (r2.below.mono (Nat.le_refl _))
 have H2:=Hid.mk (And.intro I2 (And.intro R2 b2))
 clear I2 R2 b2 r2 o1 b1 HT HU
 generalize hrn : rs.length = rn at *
 replace hrn:=Hid.mk hrn
 go_loopw [23] (fun i wr => ∃ (k : Nat) (tk : S8.Ab),k <= rn/\i = .int .i64 k/\S8.plays tk (rs.drop k) t'/\Img B w0 G P tk nx chk ms mv ((Value.slice a2 rn c2).ownBlock.toList ++ Z) wr/\(∀ z ∈ (Value.slice a2 rn c2).ownBlock.toList ++ Z,wr.heap[z]? = w2.heap[z]?)/\Below B w2 wr) (fun i _ => rn - (intOf i).toNat)
 case atStart => exact ⟨0,t,Nat.zero_le _,rfl,HP.out,H2.out.1,fun _ _ => rfl,Below.refl _ _⟩
 case round =>
  obtain ⟨k,tk,hk,rfl,hpk,hI,hkeep,hb⟩:=hrel
  by_cases hlt : k < rn
  ·have hltl : k < rs.length:=by rw [hrn.out]; exact hlt
   obtain ⟨g,o,rfl,hg,c0,c1',c2',c3,c4,c5⟩:=RecsF_same H2.out.2.1 hb.size (fun g o e => hkeep g (hown.out g o e)) k (by first | exact hltl | exact hlt)
   rw [drop_rec rs k hltl] at hpk
   dsimp only at c0 c1' c2' c3 c4 c5
   generalize rs.getD k (0,0,0,0,0,0) = r at *
   obtain ⟨x0,x1,x2,x3,x4,x5⟩:=r
   dsimp only at c0 c1' c2' c3 c4 c5
   obtain ⟨hp0,hpk⟩:=hpk
   have hbl:=Pg.below_one wr (.cells #[.int .i64 x0,.int .i64 x1,.int .i64 x2,.int .i64 x3,.int .i64 x4,.int .i64 x5] 87)
   have hrow : Row (wr.alloc (.cells #[.int .i64 x0,.int .i64 x1,.int .i64 x2,.int .i64 x3,.int .i64 x4,.int .i64 x5] 87)) wr.heap.size 87 .i64 [x0,x1,x2,x3,x4,x5]:=Row.fresh wr 87 .i64 [x0,x1,x2,x3,x4,x5]
   have hI2 : Img B w0 G P tk nx chk ms mv (wr.heap.size :: ((Value.slice (some ⟨g,o,none⟩) rn c2).ownBlock.toList ++ Z)) (wr.alloc (.cells #[.int .i64 x0,.int .i64 x1,.int .i64 x2,.int .i64 x3,.int .i64 x4,.int .i64 x5] 87)):=hI.more hbl (fun z q => by
    rcases List.mem_cons.1 q with rfl | q
    ·exact .inr ⟨Nat.le_refl _,by rw [size_alloc]; omega⟩
    ·exact .inl q)
   have h7 : Hid (Do7 G P wr.heap.size (x0,x1,x2,x3,x4,x5) (wr.alloc (.cells #[.int .i64 x0,.int .i64 x1,.int .i64 x2,.int .i64 x3,.int .i64 x4,.int .i64 x5] 87)).drew):=by
    obtain ⟨d0,d1,d2,d3,d4,d5⟩:=hrow.six
    exact ⟨hI2.box.cells.1,d0,d1,d2,d3,d4,d5⟩
   have HS:=Hid.mk (And.intro hI2 (And.intro hp0 (And.intro hpk (And.intro hkeep (And.intro hb hbl)))))
   clear hI hI2 hp0 hpk hkeep hb hbl hrow
   go_upto_region 7 with fail
   clear c0 c1' c2' c3 c4 c5
   generalize (wr.alloc (.cells #[.int .i64 x0,.int .i64 x1,.int .i64 x2,.int .i64 x3,.int .i64 x4,.int .i64 x5] 87)) = V at *
   refine wp_region_held_drew (S:=fun w' => Do7 G P wr.heap.size (x0,x1,x2,x3,x4,x5) w') (by kernel_rfl) h7.out (fun hHeld => ?_)
   refine tkC 0 hHeld ?_
   refine tkC 1 hHeld ?_
   refine tkC 2 hHeld ?_
   refine tkC 3 hHeld ?_
   refine tkC 4 hHeld ?_
   refine wpAnyH_ready (rs := [5]) (by kernel_rfl) (by simp) ?_
   refine arH rfl (fun K hK => ?_) AllReadyH.nil
   go_simp
   go_at_call 78
   refine (HS.out.1.drew.apply (x0,x1,x2,x3,x4,x5)).mono ?_
   rintro e w5 ⟨rfl,i5,z5,g5,b5⟩
   rw [HS.out.2.1]
   have hH5:=hHeld.same g5 (z5 _ (by simp))
   have H5:=Hid.mk (And.intro i5 (And.intro z5 b5))
   clear i5 z5 g5 b5
   refine hK.out _ _ hH5 (fun hHeld => ?_)
   clear hK K
   try simp only [Act.put,zA,zB,zC]
   refine tkC 6 hHeld ?_
   refine wpAnyH_done (by kernel_rfl) ?_ _
   clear hH5 h7
   go_wp2_with fail
   refine ⟨⟨k + 1,(S8.apR tk (x0,x1,x2,x3,x4,x5)).1,by omega,by go_num,HS.out.2.2.1,H5.out.1.more (Below.refl _ _) (fun z q => .inl (by simp only [List.mem_cons]; exact .inr q)),fun z q => ?_,?_⟩,by simp [intOf]; omega⟩
   ·refine (H5.out.2.1 z (by simp only [List.mem_cons]; exact .inr q)).trans ((HS.out.2.2.2.2.2.block z ?_).trans (HS.out.2.2.2.1 z q))
    obtain ⟨s,_,_,_,_,_,_,q7⟩:=H2.out.1.st
    exact Nat.lt_of_lt_of_le (q7 z (by simp only [List.mem_cons]; exact .inr (List.mem_append.2 (.inr q)))).1.2 HS.out.2.2.2.2.1.size
   ·exact (HS.out.2.2.2.2.1.trans (HS.out.2.2.2.2.2.mono (Nat.le_trans hBw (Nat.le_trans H2.out.2.2.size HS.out.2.2.2.2.1.size)))).drew.trans (H5.out.2.2.mono (Nat.le_refl _))
  ·obtain rfl : k = rn:=by omega
   rw [List.drop_of_length_le (by rw [hrn.out]; omega)] at hpk
   obtain rfl : tk = t':=hpk
   have hB3 : Below B w wr:=(H2.out.2.2.mono hBw).trans (hb.mono (Nat.le_refl _))
   have hI3 : Img B w0 G P tk nx chk ms mv Z wr:=hI.more (Below.refl _ _) (fun z q => .inl (List.mem_append.2 (.inr q)))
   have hk3 : ∀ z ∈ Z,wr.heap[z]? = w.heap[z]? := fun z q => by
    obtain ⟨s,_,_,_,_,_,_,q7⟩:=HI.out.1.st
    exact (hkeep z (List.mem_append.2 (.inr q))).trans (H2.out.2.2.block z (q7 z (by simp [q])).1.2)
   have H3:=Hid.mk (And.intro hI3 (And.intro hk3 hB3))
   clear hI hkeep hb hI3 hk3 hB3 H2
   go_upto_region 12 with fail
   go_loopw [39] (fun i wx => ∃ (k : Nat) (mv' : Value),k <= len/\i = .int .i64 k/\Img B w0 G P tk nx chk (ms ++ (l.take k).map (·.a)) mv' Z wx/\(∀ z ∈ Z,wx.heap[z]? = w.heap[z]?)/\Below B w wx) (fun i _ => len - (intOf i).toNat)
   case atStart => exact ⟨0,mv,Nat.zero_le _,rfl,by rw [List.take_zero,List.map_nil,List.append_nil]; exact H3.out.1,H3.out.2.1,H3.out.2.2⟩
   case round =>
    clear H3
    obtain ⟨k,mv',hk',rfl,hI,hkeep,hb⟩:=hrel
    by_cases hlt2 : k < len
    ·have hltl : k < l.length:=by rw [hn.out]; exact hlt2
     obtain ⟨g,o,rfl,hg,c0,c1',c2',c3,c4,c5,c6,c7⟩:=HI.out.2.1.same hb.size (fun g o e => by
      rcases HI.out.2.2 g o e with q | q
      ·exact hb.block g q
      ·exact hkeep g q) k hltl
     have htk : (l.take (k + 1)).map (·.a) = (l.take k).map (·.a) ++ [(l.getD k fdZ).a]:=by rw [take_fd l k hltl,List.map_append]; rfl
     have hml : (ms ++ (l.take k).map (·.a)).length <= 2000:=by rw [List.length_append,List.length_map,List.length_take]; omega
     generalize l.getD k fdZ = f at *
     obtain ⟨fa,fc,fK,fS,fI,fO,fW,ft⟩:=f
     dsimp only at c0 c1' c2' c3 c4 c5 c6 c7 htk
     have hbl:=Pg.below_one wr (.cells #[.int .i64 fa,.int .i64 fc,.int .i64 fK,.int .u64 fS,.int .i64 fI,.int .i64 fO,.int .i64 fW,.string ft] 70)
     have hfr:=(Fd8.fresh wr ⟨fa,fc,fK,fS,fI,fO,fW,ft⟩).1
     dsimp only at hfr
     have hIM:=Hid.mk (hI.call hbl).drew
     have hBr : B <= wr.heap.size:=Nat.le_trans hBw hb.size
     have hBV : Hid (B <= (wr.alloc (.cells #[.int .i64 fa,.int .i64 fc,.int .i64 fK,.int .u64 fS,.int .i64 fI,.int .i64 fO,.int .i64 fW,.string ft] 70)).drew.heap.size):=Hid.mk (Nat.le_trans hBr hbl.size)
     have hlt11 : Hid (wr.heap.size < (wr.alloc (.cells #[.int .i64 fa,.int .i64 fc,.int .i64 fK,.int .u64 fS,.int .i64 fI,.int .i64 fO,.int .i64 fW,.string ft] 70)).drew.heap.size):=Hid.mk (by show _ < (wr.alloc _).heap.size; rw [size_alloc]; omega)
     have hne11 : Hid (mv'.ownBlock ≠ some wr.heap.size):=fun e => by have:=(We.Ow.lt hI.me _ e).2; omega
     have hG11 : Hid (wr.heap.size ≠ G):=fun e => by have:=hI.box.lt; omega
     have HK:=Hid.mk (And.intro htk (And.intro hkeep (And.intro hb (And.intro hbl fun z (q : z ∈ Z) => by
      obtain ⟨s,_,_,_,_,_,_,q7⟩:=hI.st
      exact (q7 z (by simp [q])).1.2))))
     obtain ⟨a5,c5',rfl⟩:=Ints.form hI.me
     clear hI hkeep hb hbl htk
     generalize hms' : (ms ++ (l.take k).map (·.a)) = ms' at *
     replace hms':=Hid.mk hms'
     go_upto_region 14 with fail
     clear c0 c1' c2' c3 c4 c5 c6 c7
     have h14 : Hid ((wr.alloc (.cells #[.int .i64 fa,.int .i64 fc,.int .i64 fK,.int .u64 fS,.int .i64 fI,.int .i64 fO,.int .i64 fW,.string ft] 70)).drew.cell? ⟨wr.heap.size,0,none⟩ = some (.int .i64 fa)):=Hid.mk hfr
     clear hfr
     generalize (wr.alloc (.cells #[.int .i64 fa,.int .i64 fc,.int .i64 fK,.int .u64 fS,.int .i64 fI,.int .i64 fO,.int .i64 fW,.string ft] 70)) = V at *
     generalize wr.heap.size = g11 at *
     have k3:=hIM.out.box.cells.2.2.2
     have k3a : (V.drew.alloc (.cells #[.int .i64 fa] 3)).cell? ⟨G,3,none⟩ = some (.slice a5 ms'.length c5'):=(Below.cell (p:=⟨G,3,none⟩) (Pg.below_one V.drew _) hIM.out.box.lt).trans k3
     have k3b : (V.alloc (.cells #[.int .i64 fa] 3)).drew.cell? ⟨G,3,none⟩ = some (.slice a5 ms'.length c5'):=k3a
     have hAl : Hid ((V.drew.alloc (.cells #[.int .i64 fa] 3)).cell? ⟨g11,0,none⟩ = some (.int .i64 fa)):=Hid.mk ((Below.cell (p:=⟨g11,0,none⟩) (Pg.below_one V.drew _) hlt11.out).trans h14.out)
     refine wp_region_held_drew (S:=fun w' => At14 g11 fa w') (by kernel_rfl) h14.out (fun hHeld => ?_)
     refine tkC 0 hHeld ?_
     refine tkC 1 hHeld ?_
     refine tkC 2 hHeld ?_
     refine tkC 3 hHeld ?_
     refine tkC 5 hHeld ?_
     refine tkC 6 hHeld ?_
     refine wpAnyH_ready (rs := [4,7]) (by kernel_rfl) (by simp) ?_
     refine arH rfl (fun K hK => ?_) (arH rfl (fun K hK => ?_) AllReadyH.nil)
     ·go_simp
      refine hK.out _ _ hHeld (fun hHeld => ?_)
      clear hK K
      try simp only [Act.put,zA,zB,zC]
      refine wpAnyH_ready (rs := [7]) (by kernel_rfl) (by simp) ?_
      refine arH rfl (fun K hK => ?_) AllReadyH.nil
      go_simp
      refine hK.out _ _ hAl.out (fun hHeld => ?_)
      clear hK K
      try simp only [Act.put,zA,zB,zC]
      refine wpAnyH_ready (rs := [8]) (by kernel_rfl) (by simp) ?_
      refine arH rfl (fun K hK => ?_) AllReadyH.nil
      refine We.step_app (w:=V.drew) ei30s (by rfl) _ _ (by rfl) (Ow.to8 hIM.out.me) hBV.out #[.int .i64 fa] (by rfl) (by rfl) (by rfl) (by simp [Value.oneCell']) (by unfold rowsI; rw [List.length_map]; omega) ?_
      intro v4 w4 o4 g4 p4
      obtain ⟨a4,n4,rfl⟩:=o4.form
      generalize List.length (rowsI ms' ++ [#[Value.int IntKind.i64 fa].toList]) = L4 at *
      have c4 : w4.cell? ⟨g11,0,none⟩ = some (.int .i64 fa):=(g4.cell_far ⟨g11,0,none⟩ hlt11.out (fun e => hne11.out e.symm)).trans h14.out
      refine hK.out _ _ c4 (fun hHeld => ?_)
      clear hK K
      try simp only [Act.put,zA,zB,zC]
      refine tkC 9 hHeld ?_
      refine tkC 10 hHeld ?_
      refine wpAnyH_ready (rs := [11]) (by kernel_rfl) (by simp) ?_
      refine arH rfl (fun K hK => ?_) AllReadyH.nil
      have f4 : w4.frozen? ⟨G,3,none⟩ = false:=frozen_of_row w4 G 3 _ 98 ((g4.block G hIM.out.box.lt (fun e => hIM.out.ne e.symm)).trans hIM.out.box)
      have k4 : ∃ u,w4.cell? ⟨G,3,none⟩ = some u:=⟨_,(g4.cell_far ⟨G,3,none⟩ hIM.out.box.lt (fun e => hIM.out.ne e.symm)).trans hIM.out.box.cells.2.2.2⟩
      obtain ⟨u4,k4⟩:=k4
      go_simp
      have c5 : ∀ u : Value,(w4.setCell ⟨G,3,none⟩ u).cell? ⟨g11,0,none⟩ = some (.int .i64 fa):=fun u => by unfold World.cell?; dsimp only; rw [heap_setCell_other w4 ⟨G,3,none⟩ g11 _ hG11.out]; exact c4
      refine hK.out _ _ (c5 _) (fun hHeld => ?_)
      clear hK K
      try simp only [Act.put,zA,zB,zC]
      refine wpAnyH_done (by kernel_rfl) ?_ _
      clear k3 k3a k3b c4 c5 k4 f4
      obtain ⟨n1,n2,n3⟩:=hIM.out.note (x:=fa) (by unfold Ints; rw [show rowsI (ms' ++ [fa]) = rowsI ms' ++ [[.int .i64 fa]] by simp [rowsI]]; exact Ow.from8 o4) g4 p4
      have HN:=Hid.mk (And.intro n1 (And.intro n2 n3))
      clear n1 n2 n3 o4 g4 p4
      go_wp2_with fail
      refine ⟨⟨k + 1,_,by omega,by go_num,by rw [HK.out.1,<- List.append_assoc,hms'.out]; exact HN.out.1,fun z q => (HN.out.2.1 z q).trans ((HK.out.2.2.2.1.block z (HK.out.2.2.2.2 z q)).trans (HK.out.2.1 z q)),((HK.out.2.2.1.trans (HK.out.2.2.2.1.mono hBr)).drew).trans HN.out.2.2⟩,by simp [intOf]; omega⟩
     ·go_simp
      refine hK.out _ _ hAl.out (fun hHeld => ?_)
      clear hK K
      try simp only [Act.put,zA,zB,zC]
      refine wpAnyH_ready (rs := [4]) (by kernel_rfl) (by simp) ?_
      refine arH rfl (fun K hK => ?_) AllReadyH.nil
      go_simp
      refine hK.out _ _ hHeld (fun hHeld => ?_)
      clear hK K
      try simp only [Act.put,zA,zB,zC]
      refine wpAnyH_ready (rs := [8]) (by kernel_rfl) (by simp) ?_
      refine arH rfl (fun K hK => ?_) AllReadyH.nil
      refine We.step_app (w:=V.drew) ei30s (by rfl) _ _ (by rfl) (Ow.to8 hIM.out.me) hBV.out #[.int .i64 fa] (by rfl) (by rfl) (by rfl) (by simp [Value.oneCell']) (by unfold rowsI; rw [List.length_map]; omega) ?_
      intro v4 w4 o4 g4 p4
      obtain ⟨a4,n4,rfl⟩:=o4.form
      generalize List.length (rowsI ms' ++ [#[Value.int IntKind.i64 fa].toList]) = L4 at *
      have c4 : w4.cell? ⟨g11,0,none⟩ = some (.int .i64 fa):=(g4.cell_far ⟨g11,0,none⟩ hlt11.out (fun e => hne11.out e.symm)).trans h14.out
      refine hK.out _ _ c4 (fun hHeld => ?_)
      clear hK K
      try simp only [Act.put,zA,zB,zC]
      refine tkC 9 hHeld ?_
      refine tkC 10 hHeld ?_
      refine wpAnyH_ready (rs := [11]) (by kernel_rfl) (by simp) ?_
      refine arH rfl (fun K hK => ?_) AllReadyH.nil
      have f4 : w4.frozen? ⟨G,3,none⟩ = false:=frozen_of_row w4 G 3 _ 98 ((g4.block G hIM.out.box.lt (fun e => hIM.out.ne e.symm)).trans hIM.out.box)
      have k4 : ∃ u,w4.cell? ⟨G,3,none⟩ = some u:=⟨_,(g4.cell_far ⟨G,3,none⟩ hIM.out.box.lt (fun e => hIM.out.ne e.symm)).trans hIM.out.box.cells.2.2.2⟩
      obtain ⟨u4,k4⟩:=k4
      go_simp
      have c5 : ∀ u : Value,(w4.setCell ⟨G,3,none⟩ u).cell? ⟨g11,0,none⟩ = some (.int .i64 fa):=fun u => by unfold World.cell?; dsimp only; rw [heap_setCell_other w4 ⟨G,3,none⟩ g11 _ hG11.out]; exact c4
      refine hK.out _ _ (c5 _) (fun hHeld => ?_)
      clear hK K
      try simp only [Act.put,zA,zB,zC]
      refine wpAnyH_done (by kernel_rfl) ?_ _
      clear k3 k3a k3b c4 c5 k4 f4
      obtain ⟨n1,n2,n3⟩:=hIM.out.note (x:=fa) (by unfold Ints; rw [show rowsI (ms' ++ [fa]) = rowsI ms' ++ [[.int .i64 fa]] by simp [rowsI]]; exact Ow.from8 o4) g4 p4
      have HN:=Hid.mk (And.intro n1 (And.intro n2 n3))
      clear n1 n2 n3 o4 g4 p4
      go_wp2_with fail
      refine ⟨⟨k + 1,_,by omega,by go_num,by rw [HK.out.1,<- List.append_assoc,hms'.out]; exact HN.out.1,fun z q => (HN.out.2.1 z q).trans ((HK.out.2.2.2.1.block z (HK.out.2.2.2.2 z q)).trans (HK.out.2.1 z q)),((HK.out.2.2.1.trans (HK.out.2.2.2.1.mono hBr)).drew).trans HN.out.2.2⟩,by simp [intOf]; omega⟩
    ·obtain rfl : k = len:=by omega
     rw [List.take_of_length_le (by rw [hn.out]; omega)] at hI
     have HS:=Hid.mk (And.intro hI (And.intro hkeep hb))
     clear hI hkeep hb
     go_wp2_with fail
     go_ret
     exact ⟨rfl,mv',HS.out.1,HS.out.2.1,HS.out.2.2⟩
end Go.Proofs.YtaphpdmfjnhlaaaGreatDoor
namespace Go.Proofs.YtaphpdmfjnhlaaaGreatDoor
open Go Go.RowKit
theorem state_is {w : World} {G P nx chk mv} (h : ImB w G P nx chk mv) : Calls Tryz.prog 13 #[.pointer (some ⟨G,0,none⟩)] w fun e w' => e = .returned (.pointer (some ⟨P,0,none⟩))/\w' = w:=by
 obtain ⟨c0,c1,c2,c3⟩:=h.cells
 clear h
 go_enter Tryz.func13,Tryz.ntmps13
 go_wp2_with fail
 go_ret
 exact ⟨rfl,rfl⟩
theorem next_is {w : World} {G P nx chk mv} (h : ImB w G P nx chk mv) : Calls Tryz.prog 14 #[.pointer (some ⟨G,0,none⟩)] w fun e w' => e = .returned (.int .u64 nx)/\w' = w:=by
 obtain ⟨c0,c1,c2,c3⟩:=h.cells
 clear h
 go_enter Tryz.func14,Tryz.ntmps14
 go_wp2_with fail
 go_ret
 exact ⟨rfl,rfl⟩
theorem check_is {w : World} {G P nx chk mv} (h : ImB w G P nx chk mv) : Calls Tryz.prog 23 #[.pointer (some ⟨G,0,none⟩)] w fun e w' => e = .returned (.int .u64 chk)/\w' = w:=by
 obtain ⟨c0,c1,c2,c3⟩:=h.cells
 clear h
 go_enter Tryz.func23,Tryz.ntmps23
 go_wp2_with fail
 go_ret
 exact ⟨rfl,rfl⟩
abbrev Sq8 (g : Nat) (s : Int) (w' : World) : Prop:=w'.cell? ⟨g,3,none⟩ = some (.int .u64 s)
theorem Sq8.call {g s} {w w' : World} (h : Sq8 g s w) (hg : g < w.heap.size) (b : Below w.heap.size w w') : Sq8 g s w':=(b.cell (p:=⟨g,3,none⟩) hg).trans h
theorem Img.start {B : Nat} {w0 w1 w2 w3 : World} {P : Nat} {Z : List Nat} (h : S8.HoldZ B w0 P S8.noAb Z w1) (b2 : Below w1.heap.size w1 w2) (nx s : Int) (h3 : w3 = w2.alloc (.cells #[.pointer (some ⟨P,0,none⟩),.int .u64 nx,.int .u64 s,.slice none 0 0] 98)) :
  Img B w0 w2.heap.size P S8.noAb nx s [] (.slice none 0 0) Z w3:=by
 subst h3
 have h2:=h.call b2
 have hbl:=Pg.below_one w2 (.cells #[.pointer (some ⟨P,0,none⟩),.int .u64 nx,.int .u64 s,.slice none 0 0] 98)
 obtain ⟨st,q1,q2,q3,q4,q5,q6,q7⟩:=h2
 refine ⟨⟨st,q1,q2.call hbl,q3,q4.trans (hbl.mono (Nat.le_trans q5 q4.size)),q5,q6,fun z q => ?_⟩,heap_alloc_new w2 _,We.Ow.nil _ _ _ _,by simp [Value.ownBlock],fun z q => ⟨by have:=(q7 z q).1.2; omega,by simp [Value.ownBlock]⟩⟩
 rcases List.mem_cons.1 q with rfl | q
 ·exact ⟨⟨Nat.le_trans q5 q4.size,by rw [size_alloc]; omega⟩,fun hm => by have:=q2.at'.foot_lt _ hm; omega⟩
 ·have hq : z ∈ Z:=by simpa [Value.ownBlock] using q
  have h3:=q7 z hq
  exact ⟨⟨h3.1.1,by rw [size_alloc]; omega⟩,h3.2⟩
def slLen : Value -> Nat
 | .slice _ n _ => n
 | _ => 0
structure Jr (J : List Fd) (rows : Nat -> List Gp.R6) (st : Nat -> S8.Ab) : Prop where
 len : J.length <= 19
 up : Rising J
 one : ∀ f ∈ J,f.O = 1/\f.I = 0/\U64 f.S
 txt : ∀ j,j < J.length -> (J.getD j fdZ).t = Gp.puts (rows j)
 may : ∀ j,j < J.length -> (∀ r ∈ rows j,Gp.R6.may r = true)/\(rows j).length <= 100
 do' : ∀ j,j < J.length -> S8.plays (st j) (rows j) (st (j + 1))
set_option maxRecDepth 20000 in
set_option maxHeartbeats 2000000 in
theorem rebuild_ok (a : Option Addr) (cap : Nat) (l : List Fd) (w : World) (h : We.Ow w 0 70 8 (.slice a l.length cap) (l.map Fd.row)) (hl : ∀ f ∈ l,f.ok) (hlen : l.length <= 200) (s : Int) (m : Nat) (hN : nwW l = some (s,(m : Int))) (hm : 1 <= m/\m <= 200)
  (h0 : ((pgs l s m).getD 0 fdZ).S = s) (rss : List (List Gp.R6)) (htx : (pgs l s m).map (·.t) = rss.map Gp.puts) (hmay : ∀ x ∈ rss,∀ r ∈ x,Gp.R6.may r = true) (h100 : ∀ x ∈ rss,x.length <= 100)
  (rows : Nat -> List Gp.R6) (st : Nat -> S8.Ab) (hp : S8.plays S8.noAb rss.flatten (st 0)) (hJ : Jr (jrn s l) rows st) (hg : 0 <= grt l/\grt l < 9223372036854775807) :
  Calls Tryz.prog 11 #[.slice a l.length cap] w fun e w' => ∃ G P mv,e = .returned (.tuple #[.pointer (some ⟨G,0,none⟩),.int .i64 0]) ∧
   Img w.heap.size w G P (st (jrn s l).length) (grt l + 1) s ((pgs l s m).map (·.a) ++ (jrn s l).map (·.a)) mv [] w':=by
 have HN:=Hid.mk (newest_some _ l w h hl (by omega) s m hN (by omega))
 have HG:=Hid.mk (fun (w' : World) (b : Below w.heap.size w w') => greatest_any a cap l w' ((FdsF.of h).below b) (by omega))
 have HF:=Hid.mk (FdsF.of h)
 have hwg : IntKind.u64.wrap (grt l + 1) = grt l + 1:=by rw [IntKind.wrap_u64]; omega
 have HJ:=Hid.mk (And.intro hJ (And.intro htx (And.intro hmay (And.intro h100 (And.intro hp h0)))))
 have hJl:=hJ.len
 clear h hl hN hJ htx hmay h100 hp h0
 generalize grt l = gr at *
 generalize pgs l s m = ps at *
 generalize hn : l.length = len at *
 replace hn:=Hid.mk hn
 go_enter Tryz.func11,Tryz.ntmps11
 go_upto_region 4 with (first | (go_at_call 33; refine HN.out.mono ?_; rintro e w1 ⟨v1,rfl,o1,hps,b1⟩; obtain ⟨a1,c1,rfl⟩:=o1.form; rw [List.length_map,hps] at o1 |-))
 obtain ⟨gn,rfl,hgn,hgl,hc⟩:=o1.at (j:=0) (by rw [List.length_map]; omega)
 have hrow : (ps.map Fd.row).getD 0 [] = (ps.getD 0 fdZ).row:=by simp [List.getD_eq_getElem?_getD,show 0 < ps.length by omega]
 rw [hrow] at hc
 have hS1 : w1.cell? ⟨gn,3,none⟩ = some (.int .u64 s):=by
  have:=hc 3 (by omega)
  unfold Fd.row at this
  rw [HJ.out.2.2.2.2.2] at this
  simpa using this
 have h4 : Hid (Sq8 gn s w1.drew):=Hid.mk hS1
 have HO:=Hid.mk (And.intro o1 (And.intro b1 (And.intro hgn hgl)))
 have hm1 : 0 < m:=by omega
 clear o1 b1 hc hrow hS1 HN
 refine wp_region_held_drew (S:=fun w' => Sq8 gn s w') (by kernel_rfl) h4.out (fun hHeld => ?_)
 refine tkC 1 hHeld ?_
 refine tkC 4 hHeld ?_
 refine tkC 5 hHeld ?_
 refine tkC 6 hHeld ?_
 refine tkC 7 hHeld ?_
 refine tkC 8 hHeld ?_
 refine wpAnyH_ready (rs := [0]) (by kernel_rfl) (by simp) ?_
 refine arH rfl (fun K hK => ?_) AllReadyH.nil
 go_simp
 go_at_call 34
 refine (S8.newZ (Z := [gn]) HO.out.2.1.drew (Nat.le_refl _) (fun z q => by rw [List.mem_singleton.1 q]; exact ⟨HO.out.2.2.1,HO.out.2.2.2⟩)).mono ?_
 rintro e w5 ⟨rfl,z5,b5⟩
 have hH5:=hHeld.call HO.out.2.2.2 b5
 refine hK.out _ _ hH5 (fun hHeld => ?_)
 clear hK K
 try simp only [Act.put,zA,zB,zC]
 refine wpAnyH_ready (rs := [2]) (by kernel_rfl) (by simp) ?_
 refine arH rfl (fun K hK => ?_) AllReadyH.nil
 go_simp
 go_at_call 35
 refine (HG.out _ (below3 HO.out.2.1.drew b5)).mono ?_
 rintro e w6 ⟨rfl,b6⟩
 have hl5 : gn < w5.heap.size:=Nat.lt_of_lt_of_le HO.out.2.2.2 b5.size
 have hH6:=hHeld.call hl5 b6
 refine hK.out _ _ hH6 (fun hHeld => ?_)
 clear hK K
 try simp only [Act.put,zA,zB,zC]
 refine tkC 3 hHeld ?_
 refine tkC 9 hHeld ?_
 refine wpAnyH_ready (rs := [10]) (by kernel_rfl) (by simp) ?_
 refine arH rfl (fun K hK => ?_) AllReadyH.nil
 go_simp
 refine hK.out _ _ (hHeld.call (Nat.lt_of_lt_of_le hl5 b6.size) (Pg.below_one w6 _)) (fun hHeld => ?_)
 clear hK K
 try simp only [Act.put,zA,zB,zC]
 refine tkC 11 hHeld ?_
 refine wpAnyH_done (by kernel_rfl) ?_ _
 have b56:=below3 b5 b6
 have bW:=Pg.below_one w6 (.cells #[.pointer (some ⟨w1.heap.size + 4,0,none⟩),.int .u64 (gr + 1),.int .u64 s,.slice none 0 0] 98)
 replace z5 : S8.HoldZ w.heap.size w (w1.heap.size + 4) S8.noAb [gn] w5:=z5
 have I0:=Img.start z5 b6 (gr + 1) s rfl
 have oW:=(HO.out.1.drew.call b56).call bW
 have BW:=below3 (below3 HO.out.2.1.drew b56) bW
 have H0:=Hid.mk (And.intro I0 (And.intro oW BW))
 clear I0 oW BW bW b56 b5 b6 z5 hH5 hH6 hHeld h4 HG HO hl5
 have hdo:=Hid.mk (do_any H0.out.1 (some ⟨gn,0,none⟩) c1 ps (FdsF.of H0.out.2.1) (fun g o e => .inr (by simp at e; simp [e.1])) rss HJ.out.2.1 HJ.out.2.2.1 HJ.out.2.2.2.1 (by omega) (by simp) (st 0) HJ.out.2.2.2.2.1)
 rw [hps] at hdo
 generalize w6.heap.size = G at *
 generalize w1.heap.size + 4 = P at *
 generalize (w6.alloc (.cells #[.pointer (some ⟨P,0,none⟩),.int .u64 (gr + 1),.int .u64 s,.slice none 0 0] 98)) = W at *
 go_upto_region 8 with (first | (go_at_call 36; refine hdo.out.mono ?_; rintro e w7 ⟨rfl,mv7,i7,z7,b7⟩))
 rw [List.nil_append] at i7
 obtain ⟨c70,c71,c72,c73⟩:=i7.box.cells
 have B7 : Below w.heap.size w w7:=H0.out.2.2.trans b7
 have hjo:=Hid.mk (journal_any a cap l s w7 (HF.out.below B7) (by rw [hn.out]; omega) HJ.out.1.len HJ.out.1.up)
 rw [hn.out] at hjo
 have H7:=Hid.mk (And.intro i7 B7)
 clear i7 z7 b7 B7 hdo H0
 go_upto_region 9 with (first | (go_at_call 37; refine hjo.out.mono ?_; rintro e w8 ⟨vj,rfl,oj,bj⟩; obtain ⟨aj,cj,rfl⟩:=oj.form; rw [List.length_map] at oj |-))
 have hcj : (jrn s l).length <= cj:=by
  rcases oj.own.2 with ⟨q,q2⟩ | ⟨g,cap',cur,q,hq,_⟩
  ·simp at q
   rw [q.2.1]
   exact Nat.zero_le _
  ·simp at q
   have e1 : (List.map Fd.row (jrn s l)).length = (jrn s l).length:=List.length_map _
   omega
 have I8 : Img w.heap.size w G P (st 0) (gr + 1) s (ps.map (·.a)) mv7 (Value.slice aj (jrn s l).length cj).ownBlock.toList w8:=H7.out.1.more bj (fun z q => by
  have:=oj.lt z (by simpa using q)
  exact .inr this)
 have H8:=Hid.mk (And.intro I8 (And.intro (FdsF.of oj) (fun g o (e : aj = some ⟨g,o,none⟩) => (by rw [e]; simp [Value.ownBlock] : g ∈ (Value.slice aj (jrn s l).length cj).ownBlock.toList))))
 clear I8 oj bj hjo H7 c70 c71 c72 c73
 generalize (Value.slice aj (jrn s l).length cj).ownBlock.toList = ZJ at *
 generalize hJn : (jrn s l).length = jn at *
 have HJn:=Hid.mk hJn
 go_loopw [8] (fun v wr => ∃ (k : Nat) (ak : Option Addr) (mvk : Value),k <= jn/\v = .slice ak (jn - k) (cj - k)/\FdsF wr ak ((jrn s l).drop k)/\(∀ g o,ak = some ⟨g,o,none⟩ -> g ∈ ZJ)/\Img w.heap.size w G P (st k) (gr + 1) s (ps.map (·.a) ++ ((jrn s l).take k).map (·.a)) mvk ZJ wr) (fun v _ => slLen v)
 case atStart => exact ⟨0,aj,mv7,Nat.zero_le _,by rw [Nat.sub_zero,Nat.sub_zero],by rw [List.drop_zero]; exact H8.out.2.1,H8.out.2.2,by rw [List.take_zero,List.map_nil,List.append_nil]; exact H8.out.1⟩
 case round =>
  clear H8
  obtain ⟨k,ak,mvk,hk,rfl,hF,hZ,hI⟩:=hrel
  by_cases hlt : k < jn
  ·have hltl : k < (jrn s l).length:=by rw [HJn.out]; exact hlt
   obtain ⟨g,o,rfl,hg,hf⟩:=hF 0 (by rw [List.length_drop]; omega)
   have e0 : ((jrn s l).drop k).getD 0 fdZ = (jrn s l).getD k fdZ:=by simp [List.getD_eq_getElem?_getD]
   rw [e0,Nat.zero_mul,Nat.add_zero] at hf
   have hone:=HJ.out.1.one ((jrn s l).getD k fdZ) (by simp [List.getD_eq_getElem?_getD,hltl])
   have htk:=take_fd (jrn s l) k hltl
   have hgl:=Hid.mk (groupLen_one g o (jn - k) (cj - k) ((jrn s l).getD k fdZ) wr hg hf hone.1 hone.2.1 (by omega) (by omega) hone.2.2)
   have hto : ∀ w,(Instr.slice 42 (.slice (some ⟨g,o,none⟩) (jn - k) (cj - k)) none (some (.int .i64 1)) none).run Tryz.prog w = .ok (.slice (some ⟨g,o,none⟩) 1 (cj - k)) w:=fun w => cut_to Tryz.underlying42 size70f (.inl rfl) (jn - k) (cj - k) 1 (by omega) w
   obtain ⟨a',hfrom,hfr2,hfr3⟩:=cut_from (a:=some ⟨g,o,none⟩) ((jrn s l).drop k) (jn - k) (cj - k) 1 (by omega) (by omega) (by rw [List.length_drop]; omega)
   have hfrom1 : ∀ w,(Instr.slice 42 (.slice (some ⟨g,o,none⟩) (jn - k) (cj - k)) (some (.int .i64 1)) none none).run Tryz.prog w = .ok (.slice a' (jn - k - 1) (cj - k - 1)) w:=hfrom
   have hdo : Hid (∀ w' , Below wr.heap.size wr w' -> Calls Tryz.prog 36 #[.pointer (some ⟨G,0,none⟩),.slice (some ⟨g,o,none⟩) 1 (cj - k)] w' fun e w'' => e = .returned (.int .i64 0) /\ ∃ mv',Img w.heap.size w G P (st (k + 1)) (gr + 1) s (ps.map (·.a) ++ ((jrn s l).take k).map (·.a) ++ [(jrn s l).getD k fdZ].map (·.a)) mv' ZJ w''/\(∀ z ∈ ZJ,w''.heap[z]? = w'.heap[z]?)/\Below w.heap.size w' w''):=fun w' b => by
    refine do_any (hI.call b) (some ⟨g,o,none⟩) (cj - k) [(jrn s l).getD k fdZ] (fun j hj => ?_) (fun g o e => .inr (hZ g o e)) [rows k] ?_ (fun x hx => ?_) (fun x hx => ?_) (by simp) ?_ (st (k + 1)) (by simpa using HJ.out.1.do' k hltl)
    ·have : j = 0:=by simpa using hj
     subst this
     refine ⟨g,o,rfl,Nat.lt_of_lt_of_le hg b.size,?_⟩
     rw [Nat.zero_mul,Nat.add_zero]
     exact hf.same (b.block g hg)
    ·simp only [List.map_cons,List.map_nil]
     rw [HJ.out.1.txt k hltl]
    ·rw [List.mem_singleton.1 hx]
     exact (HJ.out.1.may k hltl).1
    ·rw [List.mem_singleton.1 hx]
     exact (HJ.out.1.may k hltl).2
    ·rw [List.length_append,List.length_map,List.length_map,List.length_take]
     omega
   have hlp : (0 : Int) < ((jn - k : Nat) : Int):=by omega
   have hlp0 : 0 < jn - k:=by omega
   have HF2:=Hid.mk (And.intro hF (And.intro hfr2 hZ))
   have Hblk:=Hid.mk (And.intro hg hfr3)
   clear hF hI hf hone hfr2 hfrom hZ e0
   generalize hL : jn - k = L at *
   generalize hC : cj - k = C at *
   go_wp2_with (first
    | (go_at_call 38; refine hgl.out.mono ?_; rintro e w9 ⟨rfl,b9⟩)
    | (go_at_call 36; refine (hdo.out _ b9).mono ?_; rintro e w10 ⟨rfl,mv10,i10,z10,b10⟩))
   have hz9 : w10.heap.size >= wr.heap.size:=Nat.le_trans b9.size b10.size
   refine ⟨⟨k + 1,a',mv10,by omega,by rw [show jn - (k + 1) = L - 1 by omega,show cj - (k + 1) = C - 1 by omega],?_,fun g' o' e => ?_,?_⟩,by show L - 1 < L; omega⟩
   ·have hd:=HF2.out.2.1 w10 (HF2.out.1.same hz9 (fun g' o' e => (z10 g' (HF2.out.2.2 g' o' e)).trans (b9.block g' (by have e1:=e; simp at e1; rw [<- e1.1]; exact Hblk.out.1))))
    rw [List.drop_drop] at hd
    exact hd
   ·have q:=Hblk.out.2
    rw [e] at q
    have : g' = g:=by simpa using q
    rw [this]
    exact HF2.out.2.2 g o rfl
   ·rw [htk,List.map_append,<- List.append_assoc]
    exact i10
  ·obtain rfl : k = jn:=by omega
   rw [List.take_of_length_le (by rw [HJn.out]; omega)] at hI
   have hI2:=Hid.mk hI
   clear hI hF hZ
   rw [Nat.sub_self]
   go_wp2_with fail
   go_ret2
   exact ⟨G,rfl,P,mvk,hI2.out.more (Below.refl _ _) (fun z q => by cases q)⟩
end Go.Proofs.YtaphpdmfjnhlaaaGreatDoor
namespace Go.Proofs.YtaphpdmfjnhlaaaGreatDoor
open Go Go.RowKit
set_option maxRecDepth 100000
theorem pgs_at (l : List Fd) (s : Int) (o : Nat) : (pgs l s o).length = o /\ ∀ j : Nat,hasP l s o j = true -> ∃ f ∈ l,isC f = true/\f.S = s/\f.O = o/\f.I = j/\(pgs l s o).getD j fdZ = f:=by
 induction l using snoc_ind with
 | h0 =>
  refine ⟨by simp [pgs],fun j hj => ?_⟩
  unfold hasP at hj
  simp at hj
 | h1 l f ih =>
  have hsn : pgs (l ++ [f]) s o = stP s o (pgs l s o) f:=by unfold pgs; rw [List.foldl_append]; rfl
  rw [hsn]
  refine ⟨by rw [stP_len]; exact ih.1,fun j hj => ?_⟩
  unfold stP
  by_cases hc : isC f = true/\f.S = s/\f.O = o
  ·rw [if_pos hc]
   have hi:=of_decide_eq_true hc.1
   by_cases e : f.I = j
   ·refine ⟨f,by simp,hc.1,hc.2.1,hc.2.2,e,?_⟩
    have : j < (pgs l s o).length:=by rw [ih.1]; omega
    rw [e,Int.toNat_natCast]
    simp [List.getD_eq_getElem?_getD,this]
   ·rw [hasP_snoc,decide_eq_false (fun h => e h.2.2),Bool.and_false,Bool.or_false] at hj
    obtain ⟨g,hg,h1,h2,h3,h4,h5⟩:=ih.2 j hj
    refine ⟨g,by simp [hg],h1,h2,h3,h4,?_⟩
    have hne : f.I.toNat ≠ j:=by omega
    rw [<- h5]
    simp [List.getD_eq_getElem?_getD,hne]
  ·rw [if_neg hc]
   have hf : (isC f && decide (f.S = s/\f.O = o/\f.I = (j : Int))) = false:=by
    cases hC : isC f with
    | false => rfl
    | true => rw [Bool.true_and,decide_eq_false (fun h => hc ⟨hC,h.1,h.2.1⟩)]
   rw [hasP_snoc,hf,Bool.or_false] at hj
   obtain ⟨g,hg,h1⟩:=ih.2 j hj
   exact ⟨g,by simp [hg],h1⟩
theorem Sq.pgs {D : Nat} {X : Wx} {a r T Q} (h : Sq D X a r T Q) (hP : 0 < X.C.P) {i : Nat} (hi : i < X.C.B * X.C.P) : PgIs X.C (i / X.C.P) (i % X.C.P) (if i < a * X.C.P + r then some (T i,Q i) else none):=by
 have hB : i / X.C.P < X.C.B:=Nat.div_lt_of_lt_mul (by rw [Nat.mul_comm]; omega)
 have hm : i % X.C.P < X.C.P:=Nat.mod_lt _ hP
 have hdm : i / X.C.P * X.C.P + i % X.C.P = i:=by rw [Nat.mul_comm]; exact Nat.div_add_mod i X.C.P
 have hr:=h.le
 generalize hb : i / X.C.P = b at *
 generalize hp : i % X.C.P = p at *
 have hcmp : (i < a * X.C.P + r) ↔ ((b < a/\p < X.C.P) \/ (b = a/\p < r)):=by
  rcases Nat.lt_trichotomy b a with e | e | e
  ·have:=Nat.mul_le_mul_right X.C.P (show b + 1 <= a by omega)
   rw [Nat.succ_mul] at this
   omega
  ·subst e; omega
  ·have:=Nat.mul_le_mul_right X.C.P (show a + 1 <= b by omega)
   rw [Nat.succ_mul] at this
   omega
 by_cases e : i < a * X.C.P + r
 ·rw [if_pos e]
  have:=h.says b p (hcmp.1 e)
  rw [hdm] at this
  exact this
 ·rw [if_neg e]
  refine nov_rep _ _ _ (h.rest hB hm ?_)
  have:=mt hcmp.2 e
  omega
def FdIs (g : Option (ByteArray × Tg)) (i : Nat) (f : Fd) : Prop:=match g with
 | some (t,q) => f = ⟨i,1,q.1,q.2.1,q.2.2.1,q.2.2.2,0,t⟩
 | none => ∃ c : Int,c ≠ 1/\f = ⟨i,c,0,0,0,0,0,⟨#[]⟩⟩
theorem lk_of {C : Ch} {i : Nat} {g : Option (ByteArray × Tg)} (h : PgIs C (i / C.P) (i % C.P) g) (hz : C.Z <= 65535) : ∃ f,LkIs C i f/\FdIs g i f:=by
 cases g with
 | none =>
  obtain ⟨d,s,h1,h2,h3,h4⟩:=h
  obtain ⟨c,hc,hl⟩:=look_no d s (by omega) (by omega) h4
  exact ⟨⟨i,c,0,0,0,0,0,⟨#[]⟩⟩,⟨rfl,d,s,h1,h2,h3,hl⟩,c,hc,rfl⟩
 | some x =>
  obtain ⟨t,K,S,I,O⟩:=x
  obtain ⟨d,s,h1,h2,h3⟩:=h
  have hss:=h3.size
  have hne : C.pg (i / C.P) (i % C.P) ≠ ⟨#[]⟩:=by
   intro e
   have:=congrArg ByteArray.size (h1.symm.trans e)
   rw [ByteArray.size_append,hss] at this
   have h0 : (⟨#[]⟩ : ByteArray).size = 0:=rfl
   omega
  have hseen : seen C (i / C.P) (i % C.P) = d ++ s:=by unfold seen; rw [if_neg hne,h1]
  exact ⟨⟨i,1,K,S,I,O,0,t⟩,⟨rfl,d,s,hseen,h2,hss,fun w hT => Pg.look_v h3 w hT⟩,rfl⟩
theorem founds {C : Ch} {n : Nat} {G : Nat -> Option (ByteArray × Tg)} (h : ∀ i,i < n -> PgIs C (i / C.P) (i % C.P) (G i)) (hz : C.Z <= 65535) : ∃ F : Nat -> Fd,∀ i,i < n -> LkIs C i (F i)/\FdIs (G i) i (F i):=by
 have : ∀ i,∃ f,i < n -> LkIs C i f/\FdIs (G i) i f:=fun i => by
  by_cases hi : i < n
  ·obtain ⟨f,hf⟩:=lk_of (h i hi) hz
   exact ⟨f,fun _ => hf⟩
  ·exact ⟨fdZ,fun q => absurd q hi⟩
 exact Classical.axiomOfChoice this
theorem FdIs.check {g : Option (ByteArray × Tg)} {i : Nat} {f : Fd} (h : FdIs g i f) (hC : isC f = true) : ∃ t S I O,g = some (t,3,S,I,O)/\I < O/\f = ⟨i,1,3,S,I,O,0,t⟩:=by
 have hc:=of_decide_eq_true hC
 cases g with
 | none =>
  obtain ⟨c,h1,rfl⟩:=h
  exact absurd hc.1 h1
 | some x =>
  obtain ⟨t,K,S,I,O⟩:=x
  replace h : f = ⟨i,1,K,S,I,O,0,t⟩:=h
  subst h
  dsimp only at hc
  obtain rfl : K = 3:=by omega
  exact ⟨t,S,I,O,rfl,by omega,rfl⟩
theorem fal_mem {F : Nat -> Fd} {n : Nat} {f : Fd} : f ∈ fal F n ↔ ∃ i,i < n/\F i = f:=by unfold fal; simp
theorem grt_le {l : List Fd} {b : Int} (hb : 0 <= b) (h : ∀ f ∈ l,f.c = 1 -> f.S <= b) : grt l <= b:=by
 induction l using snoc_ind with
 | h0 => exact hb
 | h1 l f ih =>
  have h1:=ih (fun x hx => h x (by simp [hx]))
  have h2:=h f (by simp)
  rw [grt_snoc]
  split
  ·have:=h2 (by assumption)
   omega
  ·exact h1
theorem grt_ge {l : List Fd} {f : Fd} (hf : f ∈ l) (hc : f.c = 1) : f.S <= grt l:=by
 induction l using snoc_ind with
 | h0 => cases hf
 | h1 l g ih =>
  rw [grt_snoc]
  rcases List.mem_append.1 hf with q | q
  ·have:=ih q
   split <;> omega
  ·obtain rfl : f = g:=by simpa using q
   rw [if_pos hc]
   omega
structure Wp (T : Nat -> ByteArray) (Q : Nat -> Tg) (c0 m k s : Nat) (recs : List Gp.R6) (rows : Nat -> List Gp.R6) (st : Nat -> S8.Ab) : Prop where
 m1 : 1 <= m
 k19 : k <= 19
 sb : s <= 1000000
 low : ∀ i,i < c0 -> (Q i).2.1 < s
 ok : ∀ i,i < c0 + m + k -> (Q i).2.2.1 < (Q i).2.2.2/\(Q i).2.2.2 <= 30000
 ts : (Gp.packGo (64 : Nat) (recs.map Gp.R6.put) [] ⟨#[]⟩).length = m
 chk : ∀ j,j < m -> T (c0 + j) = (Gp.packGo (64 : Nat) (recs.map Gp.R6.put) [] ⟨#[]⟩).getD j ⟨#[]⟩/\Q (c0 + j) = (3,s,j,m)
 may : ∀ r ∈ recs,Gp.R6.may r = true
 pl : S8.plays S8.noAb recs (st 0)
 jou : ∀ j,j < k -> T (c0 + m + j) = Gp.puts (rows j)/\Q (c0 + m + j) = (2,s + 1 + j,0,1)/\(∀ r ∈ rows j,Gp.R6.may r = true)/\(rows j).length <= 6/\S8.plays (st j) (rows j) (st (j + 1))
section
variable {T : Nat -> ByteArray} {Q : Nat -> Tg} {c0 m k s : Nat} {recs : List Gp.R6} {rows : Nat -> List Gp.R6} {st : Nat -> S8.Ab}
theorem Wp.at (h : Wp T Q c0 m k s recs rows st) {i : Nat} (hi : i < c0 + m + k) : (i < c0/\(Q i).2.1 < s) \/ (∃ j,j < m/\i = c0 + j/\Q i = (3,s,j,m)) \/ (∃ j,j < k/\i = c0 + m + j/\Q i = (2,s + 1 + j,0,1)):=by
 by_cases h1 : i < c0
 ·exact .inl ⟨h1,h.low i h1⟩
 ·by_cases h2 : i < c0 + m
  ·obtain ⟨j,rfl⟩ : ∃ j,i = c0 + j:=⟨i - c0,by omega⟩
   exact .inr (.inl ⟨j,by omega,rfl,(h.chk j (by omega)).2⟩)
  ·obtain ⟨j,rfl⟩ : ∃ j,i = c0 + m + j:=⟨i - (c0 + m),by omega⟩
   exact .inr (.inr ⟨j,by omega,rfl,(h.jou j (by omega)).2.1⟩)
variable {n : Nat} {F : Nat -> Fd}
def FsIs (T : Nat -> ByteArray) (Q : Nat -> Tg) (e n : Nat) (F : Nat -> Fd) : Prop := ∀ i,i < n -> FdIs (if i < e then some (T i,Q i) else none) i (F i)
theorem FsIs.yes {e : Nat} (h : FsIs T Q e n F) {i : Nat} (hi : i < e) (hn : i < n) : F i = ⟨i,1,(Q i).1,(Q i).2.1,(Q i).2.2.1,(Q i).2.2.2,0,T i⟩:=by
 have:=h i hn
 rw [if_pos hi] at this
 exact this
theorem FsIs.no {e : Nat} (h : FsIs T Q e n F) {i : Nat} (hi : ¬ i < e) (hn : i < n) : ∃ c : Int,c ≠ 1/\F i = ⟨i,c,0,0,0,0,0,⟨#[]⟩⟩:=by
 have:=h i hn
 rw [if_neg hi] at this
 exact this
theorem Wp.fok (h : Wp T Q c0 m k s recs rows st) (hF : FsIs T Q (c0 + m + k) n F) : ∀ f ∈ fal F n,f.ok:=by
 intro f hf
 obtain ⟨i,hi,rfl⟩:=fal_mem.1 hf
 have hsb:=h.sb
 have hk:=h.k19
 by_cases hlt : i < c0 + m + k
 ·have ho:=h.ok i hlt
  rw [hF.yes hlt hi]
  have hs : (Q i).2.1 <= 2000000:=by
   rcases h.at hlt with ⟨_,q⟩ | ⟨j,hj,_,q⟩ | ⟨j,hj,_,q⟩
   ·omega
   ·rw [q]; dsimp only; omega
   ·rw [q]; dsimp only; omega
  unfold Fd.ok U64 N64
  dsimp only
  omega
 ·obtain ⟨c,_,e⟩:=hF.no hlt hi
  rw [e]
  unfold Fd.ok U64 N64
  dsimp only
  omega
theorem Wp.whole (h : Wp T Q c0 m k s recs rows st) (hn : c0 + m + k <= n) (hF : FsIs T Q (c0 + m + k) n F) {j : Nat} (hj : j < m) : hasP (fal F n) s m j = true:=by
 rw [hasP_iff]
 refine ⟨F (c0 + j),fal_mem.2 ⟨_,by omega,rfl⟩,?_⟩
 rw [hF.yes (by omega) (by omega),(h.chk j hj).2]
 exact ⟨decide_eq_true ⟨rfl,rfl,by dsimp only; omega,by dsimp only; omega⟩,rfl,rfl,rfl⟩
theorem Wp.newest (h : Wp T Q c0 m k s recs rows st) (hn : c0 + m + k <= n) (hF : FsIs T Q (c0 + m + k) n F) : nwW (fal F n) = some ((s : Int),(m : Int)):=by
 have hw : (cntC (fal F n)).2 [(s : Int),(m : Int)] = (m : Int):=(cnt_whole _ _ _).2 (fun j hj => h.whole hn hF hj)
 have hm:=h.m1
 have e0 : F c0 = ⟨c0,1,3,s,(0 : Nat),m,0,T c0⟩:=by
  rw [hF.yes (i:=c0) (by omega) (by omega)]
  have:=(h.chk 0 (by omega)).2
  rw [Nat.add_zero] at this
  rw [this]
  rfl
 obtain ⟨s',o',hN,hle⟩:=nwW_max (l:=fal F n) (f:=F c0) (fal_mem.2 ⟨c0,by omega,rfl⟩) (by rw [e0]; exact decide_eq_true ⟨rfl,rfl,by dsimp only; omega,by dsimp only; omega⟩) (by rw [e0]; exact hw)
 rw [e0] at hle
 dsimp only at hle
 obtain ⟨f,hf,hC,h1,h2,h3⟩:=nwW_mem hN
 obtain ⟨i,hi,rfl⟩:=fal_mem.1 hf
 obtain ⟨t,S,I,O,hG,hIO,hf⟩:=FdIs.check (hF i hi) hC
 rw [hf] at h1 h2
 dsimp only at h1 h2
 by_cases hlt : i < c0 + m + k
 ·rw [if_pos hlt] at hG
  have hQ : Q i = (3,S,I,O):=by simp at hG; exact hG.2
  rcases h.at hlt with ⟨_,q⟩ | ⟨j,hj,_,q⟩ | ⟨j,hj,_,q⟩
  ·rw [hQ] at q
   dsimp only at q
   omega
  ·rw [hQ] at q
   simp at q
   rw [hN,<- h1,<- h2,q.1,q.2.2]
  ·rw [hQ] at q
   simp at q
 ·rw [if_neg hlt] at hG
  cases hG
theorem Wp.pages (h : Wp T Q c0 m k s recs rows st) (hn : c0 + m + k <= n) (hF : FsIs T Q (c0 + m + k) n F) : pgs (fal F n) s m = (List.range m).map (fun j => F (c0 + j)):=by
 obtain ⟨hl,hat⟩:=pgs_at (fal F n) s m
 apply List.ext_getElem?
 intro j
 by_cases hj : j < m
 ·obtain ⟨f,hf,hC,h1,h2,h3,h4⟩:=hat j (h.whole hn hF hj)
  obtain ⟨i,hi,rfl⟩:=fal_mem.1 hf
  obtain ⟨t,S,I,O,hG,hIO,hf⟩:=FdIs.check (hF i hi) hC
  rw [hf] at h1 h2 h3
  dsimp only at h1 h2 h3
  have hi2 : i = c0 + j:=by
   by_cases hlt : i < c0 + m + k
   ·rw [if_pos hlt] at hG
    have hQ : Q i = (3,S,I,O):=by simp at hG; exact hG.2
    rcases h.at hlt with ⟨_,q⟩ | ⟨j',hj',e,q⟩ | ⟨j',hj',_,q⟩
    ·rw [hQ] at q
     dsimp only at q
     omega
    ·rw [hQ] at q
     simp at q
     omega
    ·rw [hQ] at q
     simp at q
   ·rw [if_neg hlt] at hG
    cases hG
  have e1 : (pgs (fal F n) s m)[j]? = some (F i):=by
   rw [<- h4,List.getD_eq_getElem?_getD,List.getElem?_eq_getElem (by omega)]
   rfl
  rw [e1,hi2]
  simp [hj]
 ·rw [List.getElem?_eq_none (by omega),List.getElem?_eq_none (by simp; omega)]
theorem Wp.jour (h : Wp T Q c0 m k s recs rows st) (hF : FsIs T Q (c0 + m + k) n F) : ∀ x,x <= n -> jrn s (fal F x) = (List.range (min (x - (c0 + m)) k)).map (fun j => F (c0 + m + j)):=by
 intro x
 induction x with
 | zero => intro _; simp [fal,jrn]
 | succ x ih =>
  intro hx
  have e : fal F (x + 1) = fal F x ++ [F x]:=by unfold fal; rw [List.range_succ,List.map_append]; rfl
  rw [e,jrn_snoc,ih (by omega)]
  by_cases hlt : x < c0 + m + k
  ·have hf:=hF.yes hlt (by omega)
   rcases h.at hlt with ⟨h1,q⟩ | ⟨j,hj,h1,q⟩ | ⟨j,hj,h1,q⟩
   ·rw [if_neg (fun y => by have:=(of_decide_eq_true y).2.2; rw [hf] at this; dsimp only at this; omega),show min (x + 1 - (c0 + m)) k = min (x - (c0 + m)) k by omega,List.append_nil]
   ·rw [if_neg (fun y => by have:=(of_decide_eq_true y).2.1; rw [hf,q] at this; simp at this),show min (x + 1 - (c0 + m)) k = min (x - (c0 + m)) k by omega,List.append_nil]
   ·rw [if_pos (show isJ s (F x) = true from decide_eq_true (by rw [hf,q]; refine ⟨rfl,rfl,?_⟩; dsimp only; omega)),show min (x + 1 - (c0 + m)) k = j + 1 by omega,show min (x - (c0 + m)) k = j by omega,List.range_succ,List.map_append,h1]
    rfl
  ·obtain ⟨c,hc,hf⟩:=hF.no hlt (by omega)
   rw [if_neg (fun y => by have:=(of_decide_eq_true y).1; rw [hf] at this; exact hc this),show min (x + 1 - (c0 + m)) k = min (x - (c0 + m)) k by omega,List.append_nil]
theorem Wp.great (h : Wp T Q c0 m k s recs rows st) (hn : c0 + m + k <= n) (hF : FsIs T Q (c0 + m + k) n F) : grt (fal F n) = ((s + k : Nat) : Int):=by
 have hm:=h.m1
 have h1 : grt (fal F n) <= ((s + k : Nat) : Int):=grt_le (by omega) (fun f hf hc => by
  obtain ⟨i,hi,rfl⟩:=fal_mem.1 hf
  by_cases hlt : i < c0 + m + k
  ·rw [hF.yes hlt hi]
   rcases h.at hlt with ⟨_,q⟩ | ⟨j,hj,_,q⟩ | ⟨j,hj,_,q⟩
   ·dsimp only; omega
   ·rw [q]; dsimp only; omega
   ·rw [q]; dsimp only; omega
  ·obtain ⟨c,hc',e⟩:=hF.no hlt hi
   rw [e] at hc
   exact absurd hc hc')
 have h2 : ((s + k : Nat) : Int) <= grt (fal F n):=by
  by_cases hk : k = 0
  ·subst hk
   have e0:=hF.yes (i:=c0) (by omega) (by omega)
   have q:=(h.chk 0 (by omega)).2
   rw [Nat.add_zero] at q
   have:=grt_ge (l:=fal F n) (f:=F c0) (fal_mem.2 ⟨c0,by omega,rfl⟩) (by rw [e0])
   rw [e0,q] at this
   exact this
  ·have e0:=hF.yes (i:=c0 + m + (k - 1)) (by omega) (by omega)
   have q:=(h.jou (k - 1) (by omega)).2.1
   have:=grt_ge (l:=fal F n) (f:=F (c0 + m + (k - 1))) (fal_mem.2 ⟨_,by omega,rfl⟩) (by rw [e0])
   rw [e0,q] at this
   dsimp only at this
   omega
 omega
theorem pack_rss (recs : List Gp.R6) : ∃ rss : List (List Gp.R6),Gp.packGo (64 : Nat) (recs.map Gp.R6.put) [] ⟨#[]⟩ = rss.map Gp.puts/\rss.flatten = recs:=by
 obtain ⟨rss,h1,h2⟩:=Gp.pack_cat (64 : Nat) recs [] []
 exact ⟨rss,h1,by simpa using h2⟩
theorem Wp.rebuild (h : Wp T Q c0 m k s recs rows st) (hn : c0 + m + k <= n) (h200 : n <= 200) (hF : FsIs T Q (c0 + m + k) n F) (a : Option Addr) (cap : Nat) (w : World) (ho : We.Ow w 0 70 8 (.slice a n cap) ((fal F n).map Fd.row)) :
  Calls Tryz.prog 11 #[.slice a n cap] w fun e w' => ∃ G P mv,e = .returned (.tuple #[.pointer (some ⟨G,0,none⟩),.int .i64 0])/\Img w.heap.size w G P (st k) ((s + k + 1 : Nat) : Int) s ((List.range m).map (fun j => ((c0 + j : Nat) : Int)) ++ (List.range k).map (fun j => ((c0 + m + j : Nat) : Int))) mv [] w':=by
 obtain ⟨rss,hr1,hr2⟩:=pack_rss recs
 have hm:=h.m1
 have hsz : ∀ t ∈ Gp.packGo (64 : Nat) (recs.map Gp.R6.put) [] ⟨#[]⟩,t.size <= 64:=packGo_small 64 (by omega) _ (fun u hu => by
  obtain ⟨y,hy,rfl⟩:=List.mem_map.1 hu
  exact (Gp.put6_le y (h.may y hy)).2) _ _ (fun u hu => by cases hu) (Nat.zero_le _)
 have hmr : ∀ x ∈ rss,∀ r ∈ x,Gp.R6.may r = true:=fun x hx r hr => h.may r (by rw [<- hr2]; exact List.mem_flatten.2 ⟨x,hx,hr⟩)
 have hJe:=h.jour hF n (Nat.le_refl _)
 rw [show min (n - (c0 + m)) k = k by omega] at hJe
 have hPe:=h.pages hn hF
 have hGe:=h.great hn hF
 have hsb:=h.sb
 have hk:=h.k19
 have hJg : ∀ j,j < k -> (jrn s (fal F n)).getD j fdZ = F (c0 + m + j):=fun j hj => by rw [hJe]; simp [List.getD_eq_getElem?_getD,hj]
 have hJl : (jrn s (fal F n)).length = k:=by rw [hJe]; simp
 have hfm : ∀ j,j < k -> F (c0 + m + j) = ⟨(c0 + m + j : Nat),1,2,(s + 1 + j : Nat),0,1,0,Gp.puts (rows j)⟩:=fun j hj => by
  rw [hF.yes (by omega) (by omega),(h.jou j hj).2.1,(h.jou j hj).1]
  rfl
 have hq:=rebuild_ok a cap (fal F n) w (by rw [fal_len]; exact ho) (h.fok hF) (by rw [fal_len]; exact h200) s m (h.newest hn hF) (by omega) ?_ rss ?_ hmr (fun x hx => ?_) rows st (by rw [hr2]; exact h.pl) ⟨by rw [hJl]; exact hk,fun j hj => ?_,fun f hf => ?_,fun j hj => ?_,fun j hj => ?_,fun j hj => ?_⟩ (by rw [hGe]; omega)
 ·rw [fal_len,hJl,hPe,hJe,hGe] at hq
  refine hq.mono ?_
  rintro e w' ⟨G,P,mv,rfl,hI⟩
  refine ⟨G,P,mv,rfl,?_⟩
  have e1 : (List.range m).map (fun j => ((c0 + j : Nat) : Int)) = ((List.range m).map (fun j => F (c0 + j))).map (·.a):=by
   rw [List.map_map]
   apply List.map_congr_left
   intro j hj
   have hj:=List.mem_range.1 hj
   show _ = (F (c0 + j)).a
   rw [hF.yes (by omega) (by omega)]
  have e2 : (List.range k).map (fun j => ((c0 + m + j : Nat) : Int)) = ((List.range k).map (fun j => F (c0 + m + j))).map (·.a):=by
   rw [List.map_map]
   apply List.map_congr_left
   intro j hj
   have hj:=List.mem_range.1 hj
   show _ = (F (c0 + m + j)).a
   rw [hF.yes (by omega) (by omega)]
  rw [e1,e2]
  exact hI
 ·rw [hPe]
  have : ((List.range m).map (fun j => F (c0 + j))).getD 0 fdZ = F c0:=by simp [List.getD_eq_getElem?_getD,show 0 < m by omega]
  rw [this,hF.yes (i:=c0) (by omega) (by omega)]
  have q:=(h.chk 0 (by omega)).2
  rw [Nat.add_zero] at q
  rw [q]
 ·rw [hPe,<- hr1,List.map_map]
  apply List.ext_getElem?
  intro j
  by_cases hj : j < m
  ·have q:=(h.chk j hj).1
   have hl:=h.ts
   rw [List.getElem?_map,List.getElem?_range hj]
   show some (F (c0 + j)).t = _
   rw [hF.yes (by omega) (by omega),q,List.getD_eq_getElem?_getD,List.getElem?_eq_getElem (by omega)]
   rfl
  ·have hl:=h.ts
   rw [List.getElem?_eq_none (by simp; omega),List.getElem?_eq_none (by omega)]
 ·have h1:=Gp.puts_size x (hmr x hx)
  have h2:=hsz (Gp.puts x) (by rw [hr1]; exact List.mem_map.2 ⟨x,hx,rfl⟩)
  omega
 ·rw [hJl] at hj
  rw [hJg j (by omega),hJg (j + 1) hj,hfm j (by omega),hfm (j + 1) hj]
  dsimp only
  omega
 ·rw [hJe] at hf
  obtain ⟨j,hj,rfl⟩:=List.mem_map.1 hf
  have hj:=List.mem_range.1 hj
  rw [hfm j hj]
  exact ⟨rfl,rfl,by unfold U64; dsimp only; omega⟩
 ·rw [hJl] at hj
  rw [hJg j hj,hfm j hj]
 ·rw [hJl] at hj
  have:=(h.jou j hj).2.2
  exact ⟨this.1,by omega⟩
 ·rw [hJl] at hj
  exact (h.jou j hj).2.2.2.2
end
end Go.Proofs.YtaphpdmfjnhlaaaGreatDoor
