/-
  Groups that are written one behind the other: what the laws' own 'written' holds. Condition: the table's cells hold what the text lays.
-/
import Derived.Test.YtaphpdmfjnhlaaaGreatDoorCGrp
namespace Go.Proofs.YtaphpdmfjnhlaaaGreatDoor
open Go Go.RowKit
set_option maxRecDepth 100000
def Away (A : Wl) (B : Nat) (bs : List Nat) (us : List Value) : Prop := ∀ i,A.own B i -> (∀ b ∈ bs,i ≠ b) /\ ∀ u ∈ us,u.ownBlock ≠ some i
structure WtS (w0 : World) (A : Wl) (bb p z b4 b7 : Nat) (A' : Wl) (X' : Wx) (T : Nat -> ByteArray) (Q : Nat -> Tg) (c0 m kk s : Nat) (recs : List Gp.R6) (rows : Nat -> List Gp.R6) (st : Nat -> S8.Ab) (u0 u1 u2 u3 : Value) (wr : World) : Prop where
 run : Run w0 A' X' wr
 aa : A'.a = A.a
 aL : A'.L = A.L
 geo : Geq X' (begX bb p z [] [])
 cuts : X'.C.cuts = (begX bb p z [] []).C.cuts
 fails : X'.C.fails = (begX bb p z [] []).C.fails
 sq : ∃ a r,a * p + r = c0 + m + kk/\Sq 0 X' a r T Q
 wp : Wp T Q c0 m kk s recs rows st
 box : S8.Box4 wr b7 u0 u1 u2 u3
 res : S8.Box4 wr b4 (.slice none 0 0) (.slice none 0 0) (.slice none 0 0) (.slice none 0 0)
 at' : S8.RAt wr w0.heap.size u0 u1 u2 u3 (S8.rs (st kk))
 inv : S8.InvA (st kk)
 away : Away A' X'.C.B [b4,b7] [u0,u1,u2,u3]
 ne : b4 ≠ b7
 lo : w0.heap.size <= b4/\w0.heap.size <= b7
 pos : 0 < w0.heap.size
section
variable {w0 : World} {A : Wl} {bb p z b4 b7 : Nat} {A' : Wl} {X' : Wx} {T : Nat -> ByteArray} {Q : Nat -> Tg} {c0 m kk s : Nat} {recs : List Gp.R6} {rows : Nat -> List Gp.R6} {st : Nat -> S8.Ab} {u0 u1 u2 u3 : Value} {wr : World}
theorem WtS.call (h : WtS w0 A bb p z b4 b7 A' X' T Q c0 m kk s recs rows st u0 u1 u2 u3 wr) {w2 : World} (b : Below wr.heap.size wr w2) : WtS w0 A bb p z b4 b7 A' X' T Q c0 m kk s recs rows st u0 u1 u2 u3 w2 :=
 ⟨h.run.call b,h.aa,h.aL,h.geo,h.cuts,h.fails,h.sq,h.wp,h.box.call b,h.res.call b,h.at'.call b,h.inv,h.away,h.ne,h.lo,h.pos⟩
theorem away_next {A A' : Wl} {B : Nat} {w w' : World} {bs : List Nat} {us : List Value} (h : Away A B bs us) (n : Nxt A A' B w w') (hb : ∀ b ∈ bs,b < w.heap.size) (hu : ∀ u ∈ us,∀ g,u.ownBlock = some g -> g < w.heap.size) : Away A' B bs us:=by
 intro i hi
 rcases n.own i hi with q | q
 ·exact h i q
 ·exact ⟨fun b hb' e => by have:=hb b hb'; omega,fun u hu' e => by have:=hu u hu' i e; omega⟩
theorem box_next {A A' : Wl} {B : Nat} {w w' : World} {bs : List Nat} {us : List Value} (h : Away A B bs us) (n : Nxt A A' B w w') {b : Nat} (hb : b ∈ bs) {v0 v1 v2 v3 : Value} (hx : S8.Box4 w b v0 v1 v2 v3) : S8.Box4 w' b v0 v1 v2 v3 :=
 (n.kp.block b hx.lt (fun q => (h b q).1 b hb rfl)).trans hx
theorem rat_next {A A' : Wl} {B : Nat} {w w' : World} {bs : List Nat} {u0 u1 u2 u3 : Value} (h : Away A B bs [u0,u1,u2,u3]) (n : Nxt A A' B w w') {B0 : Nat} {rs : S8.Rs} (hx : S8.RAt w B0 u0 u1 u2 u3 rs) : S8.RAt w' B0 u0 u1 u2 u3 rs:=by
 have e : ∀ u ∈ [u0,u1,u2,u3],∀ g,u.ownBlock = some g -> g < w.heap.size -> w'.heap[g]? = w.heap[g]? := fun u hu g hg hl => n.kp.block g hl (fun q => (h g q).2 u hu hg)
 exact ⟨hx.sp.same (fun g hg => e u0 (by simp) g hg (hx.sp.lt g hg).2),hx.lv.same (fun g hg => e u1 (by simp) g hg (hx.lv.lt g hg).2),hx.bad.same (fun g hg => e u2 (by simp) g hg (hx.bad.lt g hg).2),hx.worn.same (fun g hg => e u3 (by simp) g hg (hx.worn.lt g hg).2)⟩
theorem WtS.lts (h : WtS w0 A bb p z b4 b7 A' X' T Q c0 m kk s recs rows st u0 u1 u2 u3 wr) : (∀ b ∈ [b4,b7],b < wr.heap.size) /\ ∀ u ∈ [u0,u1,u2,u3],∀ g,u.ownBlock = some g -> g < wr.heap.size:=by
 refine ⟨fun b hb => ?_,fun u hu g hg => ?_⟩
 ·rcases List.mem_cons.1 hb with rfl | hb
  ·exact h.res.lt
  ·rw [List.mem_singleton.1 hb]; exact h.box.lt
 ·simp only [List.mem_cons,List.not_mem_nil,or_false] at hu
  rcases hu with rfl | rfl | rfl | rfl
  ·exact (h.at'.sp.lt g hg).2
  ·exact (h.at'.lv.lt g hg).2
  ·exact (h.at'.bad.lt g hg).2
  ·exact (h.at'.worn.lt g hg).2
def tN (T : Nat -> ByteArray) (n0 : Nat) (ts : List ByteArray) (i : Nat) : ByteArray:=if i < n0 then T i else ts.getD (i - n0) ⟨#[]⟩
def qN (Q : Nat -> Tg) (n0 K s m : Nat) (i : Nat) : Tg:=if i < n0 then Q i else (K,sqN K s (i - n0),i - n0,m)
theorem WtS.write (h : WtS w0 A bb p z b4 b7 A' X' T Q c0 m kk s recs rows st u0 u1 u2 u3 wr) (hz : 64 <= z) (rs : List Gp.R6) (ra : Option Addr) (rc : Nat) (hx : Gp.RecsF wr ra rs.length (fun i => rs.getD i (0,0,0,0,0,0))) (hmay : ∀ r ∈ rs,Gp.R6.may r = true) (hl : rs.length <= 20000) (K : Nat) (hK : 1 <= K/\K <= 3) (hs9 : s + kk <= 900000) (ts : List ByteArray) (hts : Gp.packGo (64 : Nat) (rs.map Gp.R6.put) [] ⟨#[]⟩ = ts) :
  Calls Tryz.prog 17 #[.pointer (some ⟨A.a,0,none⟩),.slice ra rs.length rc,.int .i64 K,.int .u64 ((s + 1 + kk : Nat) : Int),.int .i64 64] wr fun e w' => ∃ X5 A5,Run w0 A5 X5 w'/\A5.a = A.a/\A5.L = A.L/\Nxt A' A5 X'.C.B wr w'/\Geq X5 (begX bb p z [] [])/\X5.C.cuts = (begX bb p z [] []).C.cuts/\X5.C.fails = (begX bb p z [] []).C.fails ∧
   ((c0 + m + kk + ts.length <= bb * p/\(∃ v,e = .returned (.tuple #[v,.int .u64 (nxv K (s + 1 + kk) ts.length),.int .i64 0])) /\ ∃ a r,a * p + r = c0 + m + kk + ts.length/\Sq 0 X5 a r (tN T (c0 + m + kk) ts) (qN Q (c0 + m + kk) K (s + 1 + kk) ts.length)) ∨
    (bb * p < c0 + m + kk + ts.length/\(∃ x : Int,e = .returned (.tuple #[.slice none 0 0,.int .u64 x,.int .i64 130])))):=by
 obtain ⟨a,r,har,hS⟩:=h.sq
 have hXP : X'.C.P = p:=h.geo.2.1
 have hXB : X'.C.B = bb:=h.geo.1
 have hXZ : X'.C.Z = z:=h.geo.2.2
 have hsb:=h.wp.sb
 have hk:=h.wp.k19
 have hS2 : Sq 0 X' a r (tN T (c0 + m + kk) ts) (qN Q (c0 + m + kk) K (s + 1 + kk) ts.length):=hS.cong (fun i hi => by
  rw [hXP,har] at hi
  exact ⟨if_pos hi,if_pos hi⟩)
 have hw:=write_any h.run.wtr h.run.tab hS2 (c0 + m + kk) (by rw [hXP]; exact har) rs ra rc hx hmay hl K hK (s + 1 + kk) (by omega) 64 ⟨by omega,by rw [hXZ]; exact hz⟩ ts hts (fun i hi => by
  unfold tN qN
  rw [if_neg (by omega),if_neg (by omega),Nat.add_sub_cancel_left]
  exact ⟨rfl,rfl⟩) 0 (0,0) (by rw [h.cuts]; exact beg_cuts bb p z (0,0)) (by rw [h.fails]; exact fun i => rfl) (by omega)
 rw [h.aa,hXP,hXB] at hw
 refine hw.mono ?_
 rintro e w' ⟨X5,A5,t5,tb5,n5,g5,cu5,fa5,hcase⟩
 refine ⟨X5,A5,h.run.next t5 (by rw [hXB]; exact n5),n5.a.trans h.aa,n5.L.trans h.aL,by rw [hXB]; exact n5,⟨g5.1.trans h.geo.1,g5.2.1.trans h.geo.2.1,g5.2.2.trans h.geo.2.2⟩,cu5.trans h.cuts,fa5.trans h.fails,?_⟩
 rcases hcase with ⟨_,q1,⟨v5,rfl,_⟩,a5,r5,ar5,S5⟩ | ⟨h0,h1,_⟩ | ⟨h0,hx5,_⟩
 ·exact .inl ⟨q1,⟨v5,rfl⟩,a5,r5,ar5,S5⟩
 ·omega
 ·exact .inr ⟨h0,hx5⟩
theorem Wp.check (h : Wp T Q c0 m kk s recs rows st) (rs : List Gp.R6) (hm : ∀ r ∈ rs,Gp.R6.may r = true) (hl : rs.length <= 20000) (hp : S8.plays S8.noAb rs (st kk)) (hs : s + kk <= 900000) {ts : List ByteArray} (hts : Gp.packGo (64 : Nat) (rs.map Gp.R6.put) [] ⟨#[]⟩ = ts) :
  Wp (tN T (c0 + m + kk) ts) (qN Q (c0 + m + kk) 3 (s + 1 + kk) ts.length) (c0 + m + kk) ts.length 0 (s + 1 + kk) rs (fun _ => []) (fun _ => st kk):=by
 have hpl:=Gp.packGo_len (64 : Nat) (rs.map Gp.R6.put) [] ⟨#[]⟩
 rw [hts,List.length_map] at hpl
 simp only [List.length_nil,Nat.zero_add] at hpl
 refine ⟨by omega,by omega,by omega,fun i hi => ?_,fun i hi => ?_,by rw [hts],fun j hj => ?_,hm,hp,fun j hj => by omega⟩
 ·unfold qN
  rw [if_pos hi]
  rcases h.at hi with ⟨_,q⟩ | ⟨j,hj,_,q⟩ | ⟨j,hj,_,q⟩
  ·omega
  ·rw [q]; dsimp only; omega
  ·rw [q]; dsimp only; omega
 ·unfold qN
  by_cases hlt : i < c0 + m + kk
  ·rw [if_pos hlt]; exact h.ok i hlt
  ·rw [if_neg hlt]; dsimp only; omega
 ·unfold tN qN
  rw [if_neg (by omega),if_neg (by omega),Nat.add_sub_cancel_left,hts]
  exact ⟨rfl,rfl⟩
theorem Wp.group (h : Wp T Q c0 m kk s recs rows st) (rs : List Gp.R6) (hm : ∀ r ∈ rs,Gp.R6.may r = true) (h6 : rs.length <= 6) (hk : kk <= 18) {t' : S8.Ab} (hp : S8.plays (st kk) rs t') :
  Wp (tN T (c0 + m + kk) [Gp.puts rs]) (qN Q (c0 + m + kk) 2 (s + 1 + kk) 1) c0 m (kk + 1) s recs (fun j => if j = kk then rs else rows j) (fun j => if j = kk + 1 then t' else st j):=by
 refine ⟨h.m1,by omega,h.sb,fun i hi => ?_,fun i hi => ?_,h.ts,fun j hj => ?_,h.may,?_,fun j hj => ?_⟩
 ·unfold qN
  rw [if_pos (by omega)]
  exact h.low i hi
 ·unfold qN
  by_cases hlt : i < c0 + m + kk
  ·rw [if_pos hlt]; exact h.ok i hlt
  ·rw [if_neg hlt]; dsimp only; omega
 ·unfold tN qN
  rw [if_pos (by omega),if_pos (by omega)]
  exact h.chk j hj
 ·rw [if_neg (by omega)]
  exact h.pl
 ·by_cases hlt : j < kk
  ·have e1 : c0 + m + j < c0 + m + kk:=by omega
   have e2 : ¬ j = kk:=by omega
   have e3 : ¬ j = kk + 1:=by omega
   have e4 : ¬ j + 1 = kk + 1:=by omega
   simp only [tN,qN,e1,e2,e3,e4,if_true,if_false]
   exact h.jou j hlt
  ·obtain rfl : j = kk:=by omega
   have e1 : ¬ c0 + m + j < c0 + m + j:=by omega
   have e3 : ¬ j = j + 1:=by omega
   simp only [tN,qN,e1,e3,if_true,if_false,Nat.sub_self]
   exact ⟨rfl,rfl,hm,h6,hp⟩
end
end Go.Proofs.YtaphpdmfjnhlaaaGreatDoor
