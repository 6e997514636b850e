/-
  How a row of records that is handed in is opened. No condition.
-/
import Derived.Test.YtaphpdmfjnhlaaaGreatDoorCFrame
import Derived.Test.YtaphpdmfjnhlaaaGreatDoorCK8
namespace Go.Proofs.YtaphpdmfjnhlaaaGreatDoor.Gp
open Go.ChangeShapes Go.WideShapes Go.ChangeAt Go.RowKit Pg
theorem cells87 : Tryz.prog.cellsOf 87 = 6:=by kernel_rfl
theorem six_ints {H : Type} {enc : TypeId × Value -> H} {W : World} {fuel : Nat} {c0 c1 c2 c3 c4 c5 : Value} {x : DataW H × List MemPlace} (h : DataW.trod enc Tryz.prog W 0 (fun _ => true) true fuel 87 [c0,c1,c2,c3,c4,c5] = some x) :
  ∃ K S P A T N,c0 = .int .i64 K/\c1 = .int .i64 S/\c2 = .int .i64 P/\c3 = .int .i64 A/\c4 = .int .i64 T/\c5 = .int .i64 N:=by
 obtain ⟨xs,n,_,rfl,hl,hlen,hf⟩:=DataW.trod_struct Tryz.underlying87 h
 match xs,hlen with
 | [y0,y1,y2,y3,y4,y5],_ =>
  have g0:=hf 0 _ rfl
  have g1:=hf 1 _ rfl
  have g2:=hf 2 _ rfl
  have g3:=hf 3 _ rfl
  have g4:=hf 4 _ rfl
  have g5:=hf 5 _ rfl
  simp [cells3] at g0 g1 g2 g3 g4 g5
  obtain ⟨q0,e0,_,_⟩:=DataW.trod_int Tryz.underlying3 g0
  obtain ⟨q1,e1,_,_⟩:=DataW.trod_int Tryz.underlying3 g1
  obtain ⟨q2,e2,_,_⟩:=DataW.trod_int Tryz.underlying3 g2
  obtain ⟨q3,e3,_,_⟩:=DataW.trod_int Tryz.underlying3 g3
  obtain ⟨q4,e4,_,_⟩:=DataW.trod_int Tryz.underlying3 g4
  obtain ⟨q5,e5,_,_⟩:=DataW.trod_int Tryz.underlying3 g5
  simp at e0 e1 e2 e3 e4 e5
  exact ⟨q0,q1,q2,q3,q4,q5,e0,e1,e2,e3,e4,e5⟩
theorem add_zero' (a : Addr) : a.add 0 = a:=by unfold Addr.add; rw [if_pos rfl]
theorem cell_lt {w : World} {a : Addr} {v : Value} (h : w.cell? a = some v) : a.block < w.heap.size:=by
 unfold World.cell? at h
 cases hb : w.heap[a.block]? with
 | none => rw [hb] at h; simp at h
 | some o => exact (Array.getElem?_eq_some_iff.1 hb).1
theorem add_plain {w : World} {a : Addr} {v : Value} (h : w.cell? a = some v) (i : Nat) : a.add i = ⟨a.block,a.off + i,none⟩:=by
 have hs:=World.cell?_spot h
 cases a with
 | mk b o s =>
  simp only at hs
  subst hs
  unfold Addr.add
  split
  ·rename_i h0
   subst h0
   rfl
  ·rfl
set_option maxRecDepth 100000 in
theorem recs_of {H : Type} {enc : TypeId × Value -> H} {W : World} {fuel : Nat} {cs : List Value} {x : DataW H × List MemPlace} (h : DataW.trod enc Tryz.prog W 0 (fun _ => true) true fuel 54 cs = some x) :
  ∃ a len cap f,cs = [.slice a len cap]/\RecsF W a len f:=by
 rcases Go.Deep.open_slice Tryz.underlying54 h with ⟨hcs,hx⟩ | ⟨a,len',cap',m,n,D,Pl,hcs,hb,hl,hm,hmm,hx,hV⟩
 ·exact ⟨none,0,0,fun _ => (0,0,0,0,0,0),hcs,fun i hi => absurd hi (by omega)⟩
 ·have hle : len' <= m:=by rw [hmm]; simp; exact hl
  rw [cells87] at hV
  have each : ∀ i,i < len' -> ∃ q : R6,(W.cell? (a.add (i * 6)) = some (.int .i64 q.1)/\W.cell? ((a.add (i * 6)).add 1) = some (.int .i64 q.2.1)/\W.cell? ((a.add (i * 6)).add 2) = some (.int .i64 q.2.2.1)/\W.cell? ((a.add (i * 6)).add 3) = some (.int .i64 q.2.2.2.1)/\W.cell? ((a.add (i * 6)).add 4) = some (.int .i64 q.2.2.2.2.1)/\W.cell? ((a.add (i * 6)).add 5) = some (.int .i64 q.2.2.2.2.2)):=by
   intro i hi
   obtain ⟨cs',h1,h2⟩:=hV i (by omega)
   obtain ⟨_,hlen,hcell⟩:=World.cells?_some h1
   match cs',hlen with
   | [v0,v1,v2,v3,v4,v5],_ =>
    obtain ⟨K,S,P,A,T,N,rfl,rfl,rfl,rfl,rfl,rfl⟩:=six_ints h2
    have k0:=hcell 0 (by omega)
    have k1:=hcell 1 (by omega)
    have k2:=hcell 2 (by omega)
    have k3:=hcell 3 (by omega)
    have k4:=hcell 4 (by omega)
    have k5:=hcell 5 (by omega)
    rw [add_zero'] at k0
    exact ⟨(K,S,P,A,T,N),k0,k1,k2,k3,k4,k5⟩
  obtain ⟨f,hf⟩:=Go.Deep.choose_lt each
  refine ⟨some a,len',cap',f,hcs,fun i hi => ?_⟩
  have h0:=(hf 0 (by omega)).1
  rw [Nat.zero_mul,add_zero'] at h0
  have hs:=World.cell?_spot h0
  obtain ⟨e0,e1,e2,e3,e4,e5⟩:=hf i hi
  rw [add_plain e0] at e1 e2 e3 e4 e5
  rw [add_plain h0] at e0 e1 e2 e3 e4 e5
  refine ⟨a.block,a.off,?_,cell_lt h0,e0,e1,e2,e3,e4,e5⟩
  cases a
  simp only at hs
  subst hs
  rfl
set_option maxRecDepth 100000 in
theorem open_recs {H : Type} {enc : TypeId × Value -> H} {W : World} {b0 : Nat} {v : Value} {d : DataW H} {p : List MemPlace} (hv : Value.okWide Tryz.prog W .any b0 54 v) (h : DataW.Trod enc Tryz.prog W 0 (fun _ => true) true 54 v d p) :
  ∃ a len cap f,v = .slice a len cap/\RecsF W a len f:=by
 obtain ⟨a0,len,cap,rfl⟩:=okWide_slice Tryz.underlying54 hv
 obtain ⟨fuel,hf⟩:=h
 obtain ⟨a,len',cap',f,hcs,hx⟩:=recs_of hf
 simp [Value.cells] at hcs
 obtain ⟨rfl,rfl,rfl⟩:=hcs
 exact ⟨_,_,_,f,rfl,hx⟩
end Go.Proofs.YtaphpdmfjnhlaaaGreatDoor.Gp
