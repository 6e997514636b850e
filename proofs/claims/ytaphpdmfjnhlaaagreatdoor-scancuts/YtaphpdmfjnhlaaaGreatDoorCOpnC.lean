/-
  How a cut that is handed in is opened. No condition.
-/
import Derived.Test.YtaphpdmfjnhlaaaGreatDoorCOpnG
namespace Go.Proofs.YtaphpdmfjnhlaaaGreatDoor
open Go.ChangeShapes Go.WideShapes Go.ChangeAt Go.RowKit
theorem wf_u8 {n : Int} (h : (Lit.int .u8 n).wf = true) : 0 <= n/\n < 256:=by
 have e0 : IntKind.u8.min = 0:=by decide
 have e1 : IntKind.u8.max = 255:=by decide
 unfold Lit.wf at h
 rw [Bool.and_eq_true,decide_eq_true_eq,decide_eq_true_eq,e0,e1] at h
 omega
theorem cells56 : Tryz.prog.cellsOf 56 = 3:=by kernel_rfl
set_option maxRecDepth 100000 in
theorem open_cut {H : Type} {enc : TypeId × Value -> H} {W : World} {b0 : Nat} {v : Value} {d : DataW H} {p : List MemPlace} (hv : Value.okWide Tryz.prog W .any b0 56 v) (h : DataW.Trod enc Tryz.prog W 0 (fun _ => true) true 56 v d p) :
  ∃ a b c,v = .agg #[.int .i64 a,.int .i64 b,.int .u8 c]/\(0 <= c/\c < 256):=by
 obtain ⟨v0,v1,v2,y0,y1,y2,n,rfl,rfl,rfl,t0,t1,t2⟩:=Go.Joins.open_agg3 Tryz.underlying56 (by kernel_rfl) cells56 hv h
 obtain ⟨a,e0,_,_⟩:=DataW.trod_int Tryz.underlying3 t0
 obtain ⟨b,e1,_,_⟩:=DataW.trod_int Tryz.underlying3 t1
 obtain ⟨c,e2,_,w2⟩:=DataW.trod_int Tryz.underlying5 t2
 simp at e0 e1 e2
 subst e0 e1 e2
 exact ⟨a,b,c,rfl,wf_u8 w2⟩
end Go.Proofs.YtaphpdmfjnhlaaaGreatDoor
