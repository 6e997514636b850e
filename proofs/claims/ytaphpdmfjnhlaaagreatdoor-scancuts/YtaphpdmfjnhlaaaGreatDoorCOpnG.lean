/-
  How groups that are handed in are opened. No condition.
-/
import Derived.Test.YtaphpdmfjnhlaaaGreatDoorCOpnR
import Derived.Test.YtaphpdmfjnhlaaaGreatDoorCGrp
namespace Go.Proofs.YtaphpdmfjnhlaaaGreatDoor
open Go.ChangeShapes Go.WideShapes Go.ChangeAt Go.RowKit
theorem cells78 : Tryz.prog.cellsOf 78 = 2:=by kernel_rfl
theorem cells4 : Tryz.prog.cellsOf 4 = 1:=by kernel_rfl
theorem cells54 : Tryz.prog.cellsOf 54 = 1:=by kernel_rfl
theorem grp_of {H : Type} {enc : TypeId × Value -> H} {W : World} {fuel : Nat} {c0 c1 : Value} {x : DataW H × List MemPlace} (h : DataW.trod enc Tryz.prog W 0 (fun _ => true) true fuel 78 [c0,c1] = some x) :
  ∃ q : Gr,c0 = .bool q.c/\c1 = .slice q.a q.n q.cap/\Gp.RecsF W q.a q.n q.f:=by
 obtain ⟨xs,n,_,rfl,hl,hlen,hf⟩:=DataW.trod_struct Tryz.underlying78 h
 match xs,hlen with
 | [y0,y1],_ =>
  have g0:=hf 0 _ rfl
  have g1:=hf 1 _ rfl
  simp [cells4,cells54] at g0 g1
  obtain ⟨b,e0,_,_⟩:=DataW.trod_bool Tryz.underlying4 g0
  obtain ⟨a,len,cap,f,e1,hr⟩:=Gp.recs_of g1
  simp at e0 e1
  exact ⟨⟨b,a,len,cap,f⟩,e0,e1,hr⟩
set_option maxRecDepth 100000 in
theorem grps_of {H : Type} {enc : TypeId × Value -> H} {W : World} {fuel : Nat} {cs : List Value} {x : DataW H × List MemPlace} (h : DataW.trod enc Tryz.prog W 0 (fun _ => true) true fuel 22 cs = some x) :
  ∃ a len cap gs,cs = [.slice a len cap]/\GrpF W a len gs:=by
 rcases Go.Deep.open_slice Tryz.underlying22 h with ⟨hcs,hx⟩ | ⟨a,len',cap',m,n,D,Pl,hcs,hb,hl,hm,hmm,hx,hV⟩
 ·exact ⟨none,0,0,fun _ => ⟨false,none,0,0,fun _ => (0,0,0,0,0,0)⟩,hcs,fun i hi => absurd hi (by omega)⟩
 ·have hle : len' <= m:=by rw [hmm]; simp; exact hl
  rw [cells78] at hV
  have each : ∀ i,i < len' -> ∃ q : Gr,W.cell? (a.add (i * 2)) = some (.bool q.c)/\W.cell? ((a.add (i * 2)).add 1) = some (.slice q.a q.n q.cap)/\Gp.RecsF W q.a q.n q.f:=by
   intro i hi
   obtain ⟨cs',h1,h2⟩:=hV i (by omega)
   obtain ⟨_,hlen,hcell⟩:=World.cells?_some h1
   match cs',hlen with
   | [v0,v1],_ =>
    obtain ⟨q,rfl,rfl,hr⟩:=grp_of h2
    have k0:=hcell 0 (by omega)
    have k1:=hcell 1 (by omega)
    rw [Gp.add_zero'] at k0
    exact ⟨q,k0,k1,hr⟩
  haveI : Inhabited Gr:=⟨⟨false,none,0,0,fun _ => (0,0,0,0,0,0)⟩⟩
  obtain ⟨gs,hf⟩:=Go.Deep.choose_lt each
  refine ⟨some a,len',cap',gs,hcs,fun i hi => ?_⟩
  have h0:=(hf 0 (by omega)).1
  rw [Nat.zero_mul,Gp.add_zero'] at h0
  have hs:=World.cell?_spot h0
  obtain ⟨e0,e1,hr⟩:=hf i hi
  rw [Gp.add_plain e0] at e1
  rw [Gp.add_plain h0] at e0 e1
  refine ⟨a.block,a.off,?_,Gp.cell_lt h0,e0,e1,hr⟩
  cases a
  simp only at hs
  subst hs
  rfl
set_option maxRecDepth 100000 in
theorem open_grps {H : Type} {enc : TypeId × Value -> H} {W : World} {b0 : Nat} {v : Value} {d : DataW H} {p : List MemPlace} (hv : Value.okWide Tryz.prog W .any b0 22 v) (h : DataW.Trod enc Tryz.prog W 0 (fun _ => true) true 22 v d p) :
  ∃ a len cap gs,v = .slice a len cap/\GrpF W a len gs:=by
 obtain ⟨a0,len,cap,rfl⟩:=okWide_slice Tryz.underlying22 hv
 obtain ⟨fuel,hf⟩:=h
 obtain ⟨a,len',cap',f,hcs,hx⟩:=grps_of hf
 simp [Value.cells] at hcs
 obtain ⟨rfl,rfl,rfl⟩:=hcs
 exact ⟨_,_,_,f,rfl,hx⟩
end Go.Proofs.YtaphpdmfjnhlaaaGreatDoor
