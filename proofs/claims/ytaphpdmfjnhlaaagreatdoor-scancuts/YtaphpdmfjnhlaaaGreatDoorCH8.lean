/-
  The plain state as the answer's lists; a record makes the same of both. No condition. The answer's Live: at how many places pages stand. No condition. A space's dump: the records that make it of nothing. No condition. Dump: the records that make a state of nothing. No condition. The answer's Dump. No condition.
-/
import Derived.Test.YtaphpdmfjnhlaaaGreatDoorCH7
import Derived.Test.YtaphpdmfjnhlaaaGreatDoorCH4
import Derived.Test.YtaphpdmfjnhlaaaGreatDoorCH5
import Derived.Test.YtaphpdmfjnhlaaaGreatDoorCH6
import Derived.Deep.RegionHeld3
import Derived.Deep.AppendLies
namespace Go.Proofs.YtaphpdmfjnhlaaaGreatDoor.S8
open Go Go.RowKit Go.Maps Gp Pg We
def fS (x : Asp) : S3:=(x.id,x.q,x.sl)
def fL (i : Int) (p : Int × Int) : L3:=(i,p.1,p.2)
def lvx (x : Asp) : List L3:=x.ps.map (fL x.id)
def lvA : List Asp -> List L3
 | [] => []
 | x :: r => lvx x ++ lvA r
def rs (t : Ab) : Rs:=⟨t.sp.map fS,lvA t.sp,t.bad.map (·.1),t.worn⟩
theorem lvx_mem {x : Asp} {y : L3} (h : y ∈ lvx x) : y.1 = x.id/\(y.2.1,y.2.2) ∈ x.ps:=by
 obtain ⟨p,hp,rfl⟩:=List.mem_map.1 h
 exact ⟨rfl,hp⟩
theorem lvA_mem {l : List Asp} {y : L3} (h : y ∈ lvA l) : ∃ x ∈ l,y.1 = x.id/\(y.2.1,y.2.2) ∈ x.ps:=by
 induction l with
 | nil => cases h
 | cons x r ih =>
  rcases List.mem_append.1 h with h | h
  ·exact ⟨x,by simp,lvx_mem h⟩
  ·obtain ⟨z,hz,q⟩:=ih h
   exact ⟨z,by simp [hz],q⟩
theorem gI_true {α : Type} (c k : α -> Bool) (x : α) (l : List α) : gI c k x true l = l.filter k:=by
 induction l with
 | nil => rfl
 | cons y r ih =>
  rw [gI,List.filter_cons]
  simp only [Bool.not_true,Bool.false_and,Bool.false_eq_true,if_false,List.nil_append,Bool.true_or,ih]
  cases k y <;> rfl
theorem gI_first {α : Type} {c k : α -> Bool} {x : α} {l : List α} (h : ∀ y ∈ l,c y = true/\k y = true) : gI c k x false l = x :: l:=by
 cases l with
 | nil => rfl
 | cons y r =>
  have h1:=h y (by simp)
  rw [gI,h1.1,h1.2,Bool.false_or,gI_true,List.filter_eq_self.2 (fun z hz => (h z (by simp [hz])).2)]
  rfl
theorem gI_pass {α : Type} {c k : α -> Bool} {x : α} {l1 : List α} (h : ∀ y ∈ l1,c y = false/\k y = true) (l2 : List α) : gI c k x false (l1 ++ l2) = l1 ++ gI c k x false l2:=by
 induction l1 with
 | nil => rfl
 | cons y r ih =>
  have h1:=h y (by simp)
  rw [List.cons_append,gI,h1.1,h1.2]
  simp only [Bool.not_false,Bool.and_false,Bool.false_eq_true,if_false,if_true,List.nil_append,Bool.or_self,List.cons_append]
  rw [ih (fun z hz => h z (by simp [hz]))]
theorem gI_map {α β : Type} (f : α -> β) (c k : β -> Bool) (x : α) (i : Bool) (l : List α) : gI c k (f x) i (l.map f) = (gI (fun y => c (f y)) (fun y => k (f y)) x i l).map f:=by
 induction l generalizing i with
 | nil => cases i <;> rfl
 | cons y r ih =>
  rw [List.map_cons,gI,gI,ih,List.map_append,List.map_append]
  congr 1
  congr 1
  ·split <;> rfl
  ·split <;> rfl
theorem wI_gI (x : L3) (i : Bool) (l : List L3) : wI x i l = gI (fun y : L3 => decide (x.1 < y.1) || (decide (y.1 = x.1) && decide (x.2.1 <= y.2.1))) (fun y : L3 => decide (y.1 ≠ x.1) || decide (y.2.1 ≠ x.2.1)) x i l:=by
 induction l generalizing i with
 | nil => rfl
 | cons y r ih => rw [wI,gI,ih]
theorem mins_first {x : Int × Int} {l : Pl} (h : ∀ p ∈ l,x.1 < p.1) : mins x l = x :: l:=by
 cases l with
 | nil => rfl
 | cons y r => rw [mins,if_pos (h y (by simp))]
theorem mins_last {x : Int × Int} {l : Pl} (h : ∀ p ∈ l,p.1 < x.1) : mins x l = l ++ [x]:=by
 induction l with
 | nil => rfl
 | cons y r ih =>
  have h1:=h y (by simp)
  rw [mins,if_neg (by omega),ih (fun p hp => h p (by simp [hp]))]
  rfl
theorem mput_last {k v : Int} {l : Pl} (h : ∀ p ∈ l,p.1 < k) : mput l k v = l ++ [(k,v)]:=by
 unfold mput
 rw [mdel_none (fun p hp => by have:=h p hp; omega),mins_last h]
theorem mput_case {k v : Int} {y : Int × Int} {r : Pl} (hu : Up (y :: r)) : mput (y :: r) k v = if k <= y.1 then (k,v) :: mdel (y :: r) k else y :: mput r k v:=by
 have h1:=(List.pairwise_cons.1 hu).1
 unfold mput
 split
 ·rename_i h
  refine mins_first (fun p hp => ?_)
  have h2:=List.mem_filter.1 hp
  have h3 : p.1 ≠ k:=by simpa using h2.2
  rcases List.mem_cons.1 h2.1 with rfl | h4
  ·show k < p.1; omega
  ·have:=h1 p h4; show k < p.1; omega
 ·rename_i h
  rw [mdel_cons,if_neg (by omega),mins,if_neg (by show ¬ k < y.1; omega)]
theorem gI_put {β : Type} (f : Int × Int -> β) (c k : β -> Bool) (A v : Int) (hc : ∀ p,c (f p) = decide (A <= p.1)) (hk : ∀ p,k (f p) = decide (p.1 ≠ A)) (rest : List β) (hr : ∀ y ∈ rest,c y = true/\k y = true) :
  ∀ {ps : Pl},Up ps -> gI c k (f (A,v)) false (ps.map f ++ rest) = (mput ps A v).map f ++ rest
 | [],_ => by
  rw [List.map_nil,List.nil_append,gI_first hr]
  rfl
 | y :: r,hu => by
  have hu2:=(List.pairwise_cons.1 hu).2
  rw [mput_case hu,List.map_cons,List.cons_append,gI,hc,hk]
  by_cases h : A <= y.1
  ·simp only [h,decide_true,Bool.not_false,Bool.and_self,if_true,Bool.false_or]
   rw [gI_true,List.filter_append,List.filter_eq_self.2 (fun z hz => (hr z hz).2),mdel_cons,List.filter_map]
   have e : r.filter (k ∘ f) = mdel r A:=by
    unfold mdel
    refine List.filter_congr (fun p _ => ?_)
    show k (f p) = _
    rw [hk]; simp
   rw [e]
   by_cases h2 : y.1 = A
   ·simp [h2]
   ·simp [h2]
  ·have h2 : y.1 ≠ A:=by omega
   simp only [h,decide_false,Bool.and_false,Bool.false_eq_true,if_false,List.nil_append,Bool.or_self,h2,ne_eq,not_false_eq_true,decide_true,if_true,List.map_cons,List.cons_append]
   rw [gI_put f c k A v hc hk rest hr hu2]
theorem mI_new {x : Asp} {l : List Asp} (h : ∀ y ∈ l,y.id ≠ x.id) : mI (fS x) (l.map fS) = (iA x l).map fS:=by
 rw [mI,gI_map]
 congr 1
 induction l with
 | nil => rfl
 | cons y r ih =>
  have h1:=h y (by simp)
  rw [gI,iA]
  by_cases hc : x.id < y.id
  ·have e : gI (fun y : Asp => decide ((fS x).1 < (fS y).1)) (fun y : Asp => decide ((fS y).1 ≠ (fS x).1)) x true r = r:=by
    rw [gI_true]; exact List.filter_eq_self.2 (fun z hz => decide_eq_true (h z (by simp [hz])))
   simp only [fS] at *
   simp [hc,h1,e]
  ·have:=ih (fun z hz => h z (by simp [hz]))
   simp only [fS] at *
   simp [hc,h1,this]
theorem mI_set {x : Asp} : ∀ {l : List Asp},UpA l -> (∃ y ∈ l,y.id = x.id) -> mI (fS x) (l.map fS) = (sA l x).map fS
 | [],_,⟨_,h,_⟩ => by cases h
 | y :: r,hu,h => by
  have hu2:=(List.pairwise_cons.1 hu).2
  have hlt:=(List.pairwise_cons.1 hu).1
  show _ = ((if y.id = x.id then x else y) :: sA r x).map fS
  by_cases e : y.id = x.id
  ·rw [if_pos e,sA_none (fun z hz => by rw [<- e]; exact upA_ne hu z hz),mI,List.map_cons,gI]
   have e2 : gI (fun y : S3 => decide ((fS x).1 < y.1)) (fun y : S3 => decide (y.1 ≠ (fS x).1)) (fS x) false (r.map fS) = fS x :: r.map fS:=gI_first (fun z hz => by
    obtain ⟨u,hu',rfl⟩:=List.mem_map.1 hz
    have:=hlt u hu'
    exact ⟨decide_eq_true (by show x.id < u.id; omega),decide_eq_true (by show u.id ≠ x.id; omega)⟩)
   have e3 : decide ((fS x).1 < (fS y).1) = false:=decide_eq_false (by show ¬ x.id < y.id; omega)
   have e4 : decide ((fS y).1 ≠ (fS x).1) = false:=by simp [fS,e]
   rw [e3,e4]
   simp only [Bool.and_false,Bool.false_eq_true,if_false,List.nil_append,Bool.or_self]
   rw [e2]; rfl
  ·have h2 : ∃ y ∈ r,y.id = x.id:=by
    obtain ⟨z,hz,q⟩:=h
    rcases List.mem_cons.1 hz with rfl | hz
    ·exact absurd q e
    ·exact ⟨z,hz,q⟩
   obtain ⟨z,hz,q⟩:=h2
   have h3:=hlt z hz
   rw [if_neg e,mI,List.map_cons,gI]
   have e3 : decide ((fS x).1 < (fS y).1) = false:=decide_eq_false (by show ¬ x.id < y.id; omega)
   have e4 : decide ((fS y).1 ≠ (fS x).1) = true:=by simp [fS,e]
   rw [e3,e4]
   simp only [Bool.and_false,Bool.false_eq_true,if_false,if_true,List.nil_append,Bool.or_self]
   have:=mI_set hu2 ⟨z,hz,q⟩
   rw [mI] at this
   rw [this]; rfl
theorem fnd_none {l : List Asp} {S : Int} (h : gA l S = none) (k : Nat) : fndGo S (l.map fS) k = -1:=by
 rcases fnd_spec S (l.map fS) k with h1 | ⟨j,h1,h2,h3⟩
 ·exact h1.1
 ·exfalso
  rw [List.length_map] at h1
  rw [List.getD_eq_getElem?_getD,List.getElem?_map,List.getElem?_eq_getElem h1] at h3
  exact gA_none h _ (List.getElem_mem h1) h3
theorem fnd_some {l : List Asp} (hu : UpA l) {S : Int} {x : Asp} (h : gA l S = some x) : ∃ j : Nat,fndGo S (l.map fS) 0 = (j : Int)/\(l.map fS).getD j (0,0,false) = fS x:=by
 obtain ⟨hx,hi⟩:=gA_some h
 rcases fnd_spec S (l.map fS) 0 with h1 | ⟨j,h1,h2,h3⟩
 ·exact absurd hi (h1.2 (fS x) (List.mem_map.2 ⟨x,hx,rfl⟩))
 ·rw [List.length_map] at h1
  have e : (l.map fS).getD j (0,0,false) = fS l[j]:=by
   rw [List.getD_eq_getElem?_getD,List.getElem?_map,List.getElem?_eq_getElem h1]; rfl
  rw [e] at h3
  refine ⟨j,by rw [h2,Nat.zero_add],?_⟩
  rw [e,upA_one hu (List.getElem_mem h1) hx (h3.trans hi.symm)]
theorem cL_app (a : Int) (l1 l2 : List L3) : cL a (l1 ++ l2) = cL a l1 + cL a l2:=by simp [cL]
theorem cL_lvx (a : Int) (x : Asp) : cL a (lvx x) = cntP x.ps a:=by
 unfold cL lvx cntP
 rw [List.filter_map,List.length_map]; rfl
theorem cL_lvA (a : Int) : ∀ l : List Asp,cL a (lvA l) = cntA l a
 | [] => rfl
 | x :: r => by rw [lvA,cL_app,cL_lvx,cL_lvA a r]; rfl
theorem gL_app (i p : Int) (l1 l2 : List L3) : gL i p (l1 ++ l2) = (gL i p l1).or (gL i p l2):=by
 induction l1 with
 | nil => rfl
 | cons y r ih =>
  rw [List.cons_append,gL,gL,ih]
  split <;> rfl
theorem gL_lvx (i p : Int) (x : Asp) : gL i p (lvx x) = if x.id = i then mget x.ps p else none:=by
 unfold lvx
 induction x.ps with
 | nil => simp [gL,mget]
 | cons y r ih =>
  rw [List.map_cons,gL,ih,mget_cons]
  by_cases h1 : x.id = i <;> by_cases h2 : y.1 = p <;> simp [fL,h1,h2]
theorem gL_none {i p : Int} : ∀ {l : List Asp},(∀ x ∈ l,x.id ≠ i) -> gL i p (lvA l) = none
 | [],_ => rfl
 | x :: r,h => by rw [lvA,gL_app,gL_lvx,if_neg (h x (by simp)),gL_none (fun y hy => h y (by simp [hy]))]; rfl
theorem gL_lvA (i p : Int) : ∀ {l : List Asp},UpA l -> gL i p (lvA l) = (gA l i).bind fun x => mget x.ps p
 | [],_ => rfl
 | x :: r,hu => by
  have hu2:=(List.pairwise_cons.1 hu).2
  rw [lvA,gL_app,gL_lvx]
  by_cases e : x.id = i
  ·rw [if_pos e,gL_none (fun y hy => by rw [<- e]; exact upA_ne hu y hy)]
   have : gA (x :: r) i = some x:=by unfold gA; rw [List.find?_cons]; simp [e]
   rw [this]
   show _ = mget x.ps p
   cases mget x.ps p <;> rfl
  ·rw [if_neg e,gL_lvA i p hu2]
   have : gA (x :: r) i = gA r i:=by unfold gA; rw [List.find?_cons]; simp [e]
   rw [this]; rfl
theorem lvA_mv (f t : Int) : ∀ l : List Asp,(lvA l).map (mvL f t) = lvA (l.map (mA f t))
 | [] => rfl
 | x :: r => by
  rw [lvA,List.map_append,lvA_mv f t r,List.map_cons,lvA]
  congr 1
  unfold lvx mA mvP
  rw [List.map_map,List.map_map]
  refine List.map_congr_left (fun p _ => ?_)
  by_cases e : p.2 = f <;> simp [fL,mvL,mvV,e]
theorem lvA_wI (S P A : Int) {x : Asp} (hx : x.id = S) : ∀ {l : List Asp},UpA l -> x ∈ l -> Up x.ps -> wI (S,P,A) false (lvA l) = lvA (sA l { x with ps:=mput x.ps P A })
 | [],_,h,_ => by cases h
 | y :: r,hu,h,hp => by
  have hu2:=(List.pairwise_cons.1 hu).2
  have hlt:=(List.pairwise_cons.1 hu).1
  show _ = lvA ((if y.id = x.id then { x with ps:=mput x.ps P A } else y) :: sA r { x with ps:=mput x.ps P A })
  rw [wI_gI,lvA]
  rcases List.mem_cons.1 h with rfl | h
  ·rw [if_pos rfl,sA_none (x := { x with ps:=mput x.ps P A }) (fun z hz => upA_ne hu z hz)]
   rw [lvA]
   unfold lvx
   have:=gI_put (fL x.id) (fun y : L3 => decide (S < y.1) || (decide (y.1 = S) && decide (P <= y.2.1))) (fun y : L3 => decide (y.1 ≠ S) || decide (y.2.1 ≠ P)) P A (fun p => by simp [fL,hx]) (fun p => by simp [fL,hx]) (lvA r) (fun z hz => by
    obtain ⟨u,hu,q,_⟩:=lvA_mem hz
    have:=hlt u hu
    have h1 : S < z.1:=by omega
    have h2 : z.1 ≠ S:=by omega
    simp [h1,h2]) hp
   have e : fL x.id (P,A) = (S,P,A):=by rw [<- hx]; rfl
   rw [e] at this
   exact this
  ·have h3:=hlt x h
   rw [if_neg (by omega),lvA,gI_pass (fun z hz => by
    have q:=(lvx_mem hz).1
    have h1 : ¬ S < z.1:=by omega
    have h2 : z.1 ≠ S:=by omega
    simp [h1,h2]),<- wI_gI,lvA_wI S P A hx hu2 h hp]
theorem lvA_del (S P : Int) (hP : 0 <= P) {x : Asp} (hx : x.id = S) : ∀ {l : List Asp},UpA l -> x ∈ l -> (lvA l).filter (fun y : L3 => decide (y.1 ≠ S \/ 0 <= P/\y.2.1 ≠ P)) = lvA (sA l { x with ps:=mdel x.ps P })
 | [],_,h => by cases h
 | y :: r,hu,h => by
  have hu2:=(List.pairwise_cons.1 hu).2
  have hlt:=(List.pairwise_cons.1 hu).1
  show _ = lvA ((if y.id = x.id then { x with ps:=mdel x.ps P } else y) :: sA r { x with ps:=mdel x.ps P })
  rw [lvA,List.filter_append]
  rcases List.mem_cons.1 h with rfl | h
  ·rw [if_pos rfl,sA_none (x := { x with ps:=mdel x.ps P }) (fun z hz => upA_ne hu z hz),lvA]
   congr 1
   ·unfold lvx mdel
    rw [List.filter_map]
    congr 1
    refine List.filter_congr (fun p _ => ?_)
    by_cases e : p.1 = P <;> simp [fL,hx,hP,e]
   ·refine List.filter_eq_self.2 (fun z hz => ?_)
    obtain ⟨u,hu,q,_⟩:=lvA_mem hz
    have:=hlt u hu
    have h2 : z.1 ≠ S:=by omega
    simp [h2]
  ·have h3:=hlt x h
   rw [if_neg (by omega),lvA,lvA_del S P hP hx hu2 h]
   congr 1
   refine List.filter_eq_self.2 (fun z hz => ?_)
   have q:=(lvx_mem hz).1
   have h2 : z.1 ≠ S:=by omega
   simp [h2]
theorem lvA_dA (S : Int) : ∀ l : List Asp,(lvA l).filter (fun y : L3 => decide (y.1 ≠ S \/ (0 : Int) <= -1/\y.2.1 ≠ -1)) = lvA (dA l S)
 | [] => rfl
 | x :: r => by
  rw [lvA,List.filter_append,lvA_dA S r]
  unfold dA
  rw [List.filter_cons]
  by_cases e : x.id = S
  ·rw [List.filter_eq_nil_iff.2 (fun z hz => by have q:=(lvx_mem hz).1; simp [q,e])]
   simp [e]
  ·rw [List.filter_eq_self.2 (fun z hz => by have q:=(lvx_mem hz).1; simp [q,e])]
   simp [e,lvA]
theorem lvA_iA (x : Asp) (h : x.ps = []) : ∀ l : List Asp,lvA (iA x l) = lvA l
 | [] => by simp [iA,lvA,lvx,h]
 | y :: r => by
  unfold iA
  split
  ·simp [lvA,lvx,h]
  ·rw [lvA,lvA_iA x h r,lvA]
theorem mem_iA (x : Asp) : ∀ l : List Asp,x ∈ iA x l
 | [] => by simp [iA]
 | y :: r => by
  unfold iA
  split
  ·simp
  ·exact List.mem_cons_of_mem _ (mem_iA x r)
theorem sA_iA {x x' : Asp} (e : x'.id = x.id) : ∀ {l : List Asp},(∀ y ∈ l,y.id ≠ x.id) -> sA (iA x l) x' = iA x' l
 | [],_ => by simp [sA,iA,e]
 | y :: r,h => by
  have h1:=h y (by simp)
  have h2 : sA (y :: r) x' = y :: r:=sA_none (fun z hz => by rw [e]; exact h z hz)
  unfold iA
  rw [e]
  split
  ·show (if x.id = x'.id then x' else x) :: sA (y :: r) x' = _
   rw [if_pos e.symm,h2]
  ·show (if y.id = x'.id then x' else y) :: sA (iA x r) x' = _
   rw [if_neg (by omega),sA_iA e (fun z hz => h z (by simp [hz]))]
theorem cpL_app (S T : Int) : ∀ (l1 l2 out : List L3),cpL S T (l1 ++ l2) out = cpL S T l2 (cpL S T l1 out)
 | [],_,_ => rfl
 | y :: r,l2,out => by rw [List.cons_append,cpL,cpL,cpL_app S T r l2]
theorem cpL_skip {S T : Int} : ∀ {l : List L3} (out : List L3),(∀ y ∈ l,y.1 ≠ S) -> cpL S T l out = out
 | [],_,_ => rfl
 | y :: r,out,h => by rw [cpL,if_neg (h y (by simp)),cpL_skip _ (fun z hz => h z (by simp [hz]))]
theorem cpL_go {S T q : Int} {l : List Asp} (hu : UpA l) (hT : ∀ y ∈ l,y.id ≠ T) : ∀ (p2 p1 : Pl),Up (p1 ++ p2) -> cpL S T (p2.map (fL S)) (lvA (iA ⟨T,q,false,p1⟩ l)) = lvA (iA ⟨T,q,false,p1 ++ p2⟩ l)
 | [],p1,_ => by rw [List.append_nil]; rfl
 | p :: r,p1,hp => by
  have hp1 : ∀ u ∈ p1,u.1 < p.1:=fun u hu => (List.pairwise_append.1 hp).2.2 u hu p (by simp)
  rw [List.map_cons,cpL,if_pos (show (fL S p).1 = S from rfl)]
  have e:=lvA_wI T p.1 p.2 (x:=⟨T,q,false,p1⟩) rfl (upA_iA hu hT) (mem_iA _ l) (List.pairwise_append.1 hp).1
  show cpL S T (r.map (fL S)) (wI (T,p.1,p.2) false _) = _
  rw [e,sA_iA (x:=⟨T,q,false,p1⟩) (x':=⟨T,q,false,mput p1 p.1 p.2⟩) rfl hT,mput_last hp1]
  rw [cpL_go hu hT r (p1 ++ [(p.1,p.2)]) (by rw [List.append_assoc]; exact hp)]
  rw [List.append_assoc]
  rfl
theorem cpL_skipA {S T : Int} : ∀ {l : List Asp} (out : List L3),(∀ y ∈ l,y.id ≠ S) -> cpL S T (lvA l) out = out:=fun out h => cpL_skip out (fun z hz => by
 obtain ⟨u,hu,q,_⟩:=lvA_mem hz
 rw [q]; exact h u hu)
theorem cpL_lvA {S T : Int} {x : Asp} (hx : x.id = S) : ∀ {l : List Asp} (out : List L3),UpA l -> x ∈ l -> cpL S T (lvA l) out = cpL S T (lvx x) out
 | [],_,_,h => by cases h
 | y :: r,out,hu,h => by
  have hu2:=(List.pairwise_cons.1 hu).2
  have hlt:=(List.pairwise_cons.1 hu).1
  rw [lvA,cpL_app]
  rcases List.mem_cons.1 h with rfl | h
  ·rw [cpL_skipA _ (fun z hz => by rw [<- hx]; exact upA_ne hu z hz)]
  ·have h3:=hlt x h
   rw [cpL_skip (l:=lvx y) out (fun z hz => by have q:=(lvx_mem hz).1; omega),cpL_lvA hx out hu2 h]
theorem lvA_cp {S T q : Int} {l : List Asp} (hu : UpA l) {x : Asp} (hx : x ∈ l) (hi : x.id = S) (hT : ∀ y ∈ l,y.id ≠ T) (hp : Up x.ps) : cpL S T (lvA l) (lvA l) = lvA (iA ⟨T,q,false,x.ps⟩ l):=by
 rw [cpL_lvA hi _ hu hx]
 have:=cpL_go (S:=S) (q:=q) hu hT x.ps [] (by simpa using hp)
 rw [lvA_iA _ rfl] at this
 unfold lvx
 rw [hi]
 exact this
theorem bad_put (A : Int) {m : Pl} (hu : Up m) : gI (fun y : Int => decide (A <= y)) (fun y : Int => decide (y ≠ A)) A false (m.map (·.1)) = (mput m A 0).map (·.1):=by
 have:=gI_put (fun p : Int × Int => p.1) (fun y : Int => decide (A <= y)) (fun y : Int => decide (y ≠ A)) A 0 (fun _ => rfl) (fun _ => rfl) [] (fun _ h => by cases h) hu
 rw [List.append_nil,List.append_nil] at this
 exact this
theorem worn_put (A N : Int) {m : Pl} (hu : Up m) : gI (fun y : Int × Int => decide (A <= y.1)) (fun y : Int × Int => decide (y.1 ≠ A)) (A,N) false m = mput m A N:=by
 have:=gI_put (fun p : Int × Int => p) (fun y : Int × Int => decide (A <= y.1)) (fun y : Int × Int => decide (y.1 ≠ A)) A N (fun _ => rfl) (fun _ => rfl) [] (fun _ h => by cases h) hu
 rw [List.append_nil,List.append_nil,List.map_id',List.map_id'] at this
 exact this
theorem mget_put_same (m : Pl) (k v : Int) : mget (mput m k v) k = some v:=by
 unfold mput
 have h:=mdel_ne m k
 generalize mdel m k = n at h
 induction n with
 | nil => simp [mins,mget]
 | cons y r ih =>
  rw [mins]
  split
  ·rw [mget_cons,if_pos rfl]
  ·rw [mget_cons,if_neg (h y (by simp)),ih (fun p hp => h p (by simp [hp]))]
theorem mput_self {m : Pl} (hu : Up m) {k v : Int} (h : mget m k = some v) : mput m k v = m :=
 up_ext (up_put hu k v) hu (fun a => by
  by_cases e : a = k
  ·rw [e,mget_put_same,h]
  ·rw [mget_put_ne e])
theorem hit_iff {m : Pl} (hu : Up m) (A N : Int) : hitW A N m = true ↔ ∃ v,mget m A = some v/\N < v:=by
 unfold hitW
 rw [List.any_eq_true]
 constructor
 ·rintro ⟨y,hy,e⟩
  simp only [Bool.and_eq_true,decide_eq_true_eq] at e
  exact ⟨y.2,mem_mget hu (by rw [<- e.1]; exact hy),e.2⟩
 ·rintro ⟨v,hv,hl⟩
  exact ⟨(A,v),mget_mem hv,by simp [hl]⟩
theorem worn_is {m : Pl} (hu : Up m) {A N : Int} (hN : 0 <= N) : (if hitW A N m = true then m else gI (fun y : Int × Int => decide (A <= y.1)) (fun y : Int × Int => decide (y.1 ≠ A)) (A,N) false m) = mput m A (max ((mget m A).getD 0) N):=by
 by_cases h : hitW A N m = true
 ·rw [if_pos h]
  obtain ⟨v,hv,hl⟩:=(hit_iff hu A N).1 h
  rw [hv,Option.getD_some,Int.max_eq_left (by omega),mput_self hu hv]
 ·rw [if_neg h,worn_put A N hu]
  congr 1
  cases hg : mget m A with
  | none => rw [Option.getD_none]; omega
  | some v =>
   have : ¬ N < v:=fun hl => h ((hit_iff hu A N).2 ⟨v,hg,hl⟩)
   rw [Option.getD_some]; omega
theorem lvA_sl {x : Asp} : ∀ {l : List Asp},UpA l -> x ∈ l -> lvA (sA l { x with sl:=true }) = lvA l
 | [],_,h => by cases h
 | y :: r,hu,h => by
  have hu2:=(List.pairwise_cons.1 hu).2
  show lvA ((if y.id = x.id then { x with sl:=true } else y) :: sA r { x with sl:=true }) = _
  rcases List.mem_cons.1 h with rfl | h
  ·rw [if_pos rfl,sA_none (x := { x with sl:=true }) (fun z hz => upA_ne hu z hz)]; rfl
  ·have h3:=(List.pairwise_cons.1 hu).1 x h
   rw [if_neg (by omega),lvA,lvA_sl hu2 h,lvA]
theorem fS_sA {x x' : Asp} (e : fS x' = fS x) : ∀ {l : List Asp},UpA l -> x ∈ l -> (sA l x').map fS = l.map fS
 | [],_,h => by cases h
 | y :: r,hu,h => by
  have hu2:=(List.pairwise_cons.1 hu).2
  have hi : x'.id = x.id:=congrArg (·.1) e
  show ((if y.id = x'.id then x' else y) :: sA r x').map fS = _
  rcases List.mem_cons.1 h with rfl | h
  ·rw [if_pos hi.symm,sA_none (fun z hz => by rw [hi]; exact upA_ne hu z hz),List.map_cons,List.map_cons,e]
  ·have h3:=(List.pairwise_cons.1 hu).1 x h
   rw [if_neg (by omega),List.map_cons,fS_sA e hu2 h,List.map_cons]
theorem fS_dA (S : Int) (l : List Asp) : (l.map fS).filter (fun y : S3 => decide (y.1 ≠ S)) = (dA l S).map fS:=by
 unfold dA
 rw [List.filter_map]
 congr 1
 exact List.filter_congr (fun p _ => by by_cases e : p.id = S <;> simp [fS,e])
theorem ap_same {t : Ab} (h : InvA t) (K S P A T N : Int) : apR' (rs t) K S P A T N = (rs (apA t K S P A T N).1,(apA t K S P A T N).2):=by
 unfold apR' apA
 by_cases hm : Gp.mayB K S P A T N = false
 ·rw [if_pos hm,if_pos hm]
 rw [if_neg hm,if_neg hm]
 have hR:=mayB_iff.1 (by simpa using hm)
 have hk : K = 1 \/ K = 2 \/ K = 3 \/ K = 4 \/ K = 5 \/ K = 6 \/ K = 7 \/ K = 8 \/ K = 9:=by unfold mayR at hR; omega
 unfold doR
 clear hm
 rcases hk with rfl | rfl | rfl | rfl | rfl | rfl | rfl | rfl | rfl
 ·have hP : 0 <= P:=by unfold mayR at hR; omega
  simp only [Int.reduceEq,if_false,if_true]
  cases hg : gA t.sp S with
  | none => rw [show fndGo S (rs t).sp 0 = -1 from fnd_none hg 0]; rfl
  | some x =>
   obtain ⟨j,e1,e2⟩:=fnd_some h.up hg
   obtain ⟨hx,hi⟩:=gA_some hg
   rw [show fndGo S (rs t).sp 0 = j from e1,if_neg (by omega),Int.toNat_natCast,show (rs t).sp.getD j (0,0,false) = fS x from e2]
   by_cases hq : x.q <= P
   ·rw [if_pos (.inr hq)]; simp only [hq,if_true]
   ·rw [if_neg (by show ¬ (P < 0 \/ x.q <= P); omega)]; simp only [hq,if_false]
    rw [show (rs t).lv = lvA t.sp from rfl,lvA_wI S P A hi h.up hx (h.ups x hx)]
    unfold rs
    simp only [fS_sA (x:=x) (x' := { x with ps:=mput x.ps P A }) rfl h.up hx]
 ·have hP : 0 <= P:=by unfold mayR at hR; omega
  simp only [Int.reduceEq,if_false,if_true]
  cases hg : gA t.sp S with
  | none => rw [show fndGo S (rs t).sp 0 = -1 from fnd_none hg 0]; rfl
  | some x =>
   obtain ⟨j,e1,e2⟩:=fnd_some h.up hg
   obtain ⟨hx,hi⟩:=gA_some hg
   rw [show fndGo S (rs t).sp 0 = j from e1,if_neg (by omega),show (rs t).lv = lvA t.sp from rfl,gL_lvA S P h.up,hg]
   simp only [Option.bind_some]
   by_cases hq : mget x.ps P = none
   ·simp only [hq,if_true]
   ·simp only [hq,if_false]
    rw [lvA_del S P hP hi h.up hx]
    unfold rs
    simp only [fS_sA (x:=x) (x' := { x with ps:=mdel x.ps P }) rfl h.up hx]
 ·simp only [Int.reduceEq,if_false,if_true]
  rw [show (rs t).lv = lvA t.sp from rfl,cL_lvA,cL_lvA]
  by_cases hq : cntA t.sp A = 0 \/ cntA t.sp T ≠ 0
  ·rw [if_pos hq,if_pos (by omega)]
  ·rw [if_neg hq,if_neg (by omega),lvA_mv]
   unfold rs
   simp only [List.map_map]
   rfl
 ·simp only [Int.reduceEq,if_false,if_true]
  cases hg : gA t.sp S with
  | none =>
   rw [show fndGo S (rs t).sp 0 = -1 from fnd_none hg 0,if_neg (by omega)]
   have:=mI_new (x:=⟨S,N,false,[]⟩) (gA_none hg)
   rw [show mI (S,N,false) (rs t).sp = (iA ⟨S,N,false,[]⟩ t.sp).map fS from this]
   unfold rs
   simp only [lvA_iA ⟨S,N,false,[]⟩ rfl]
  | some x =>
   obtain ⟨j,e1,e2⟩:=fnd_some h.up hg
   rw [show fndGo S (rs t).sp 0 = j from e1,if_pos (by omega)]
 ·simp only [Int.reduceEq,if_false,if_true]
  cases hg : gA t.sp S with
  | none => rw [show fndGo S (rs t).sp 0 = -1 from fnd_none hg 0]; rfl
  | some x =>
   obtain ⟨j,e1,e2⟩:=fnd_some h.up hg
   rw [show fndGo S (rs t).sp 0 = j from e1,if_neg (by omega)]
   rw [show (rs t).lv = lvA t.sp from rfl,lvA_dA,show (rs t).sp = t.sp.map fS from rfl,fS_dA]
   rfl
 ·simp only [Int.reduceEq,if_false,if_true]
  cases hg : gA t.sp S with
  | none => rw [show fndGo S (rs t).sp 0 = -1 from fnd_none hg 0]; rfl
  | some x =>
   obtain ⟨j,e1,e2⟩:=fnd_some h.up hg
   obtain ⟨hx,hi⟩:=gA_some hg
   rw [show fndGo S (rs t).sp 0 = j from e1,if_neg (by omega),Int.toNat_natCast,show (rs t).sp.getD j (0,0,false) = fS x from e2]
   cases hT : gA t.sp T with
   | none =>
    rw [show fndGo T (rs t).sp 0 = -1 from fnd_none hT 0,if_neg (by omega)]
    have:=mI_new (x:=⟨T,x.q,false,x.ps⟩) (gA_none hT)
    rw [show (rs t).lv = lvA t.sp from rfl,lvA_cp (q:=x.q) h.up hx hi (gA_none hT) (h.ups x hx)]
    rw [show mI (T,(fS x).2.1,false) (rs t).sp = (iA ⟨T,x.q,false,x.ps⟩ t.sp).map fS from this]
    rfl
   | some y =>
    obtain ⟨j',e1,e2⟩:=fnd_some h.up hT
    rw [show fndGo T (rs t).sp 0 = j' from e1,if_pos (by omega)]
 ·simp only [Int.reduceEq,if_false,if_true]
  cases hg : gA t.sp S with
  | none => rw [show fndGo S (rs t).sp 0 = -1 from fnd_none hg 0]; rfl
  | some x =>
   obtain ⟨j,e1,e2⟩:=fnd_some h.up hg
   obtain ⟨hx,hi⟩:=gA_some hg
   rw [show fndGo S (rs t).sp 0 = j from e1,if_neg (by omega),Int.toNat_natCast,show (rs t).sp.getD j (0,0,false) = fS x from e2]
   have:=mI_set (x := { x with sl:=true }) h.up ⟨x,hx,rfl⟩
   rw [show mI ((fS x).1,(fS x).2.1,true) (rs t).sp = (sA t.sp { x with sl:=true }).map fS from this]
   unfold rs
   simp only [lvA_sl h.up hx]
 ·simp only [Int.reduceEq,if_false,if_true]
  rw [show (rs t).bad = t.bad.map (·.1) from rfl,bad_put A h.upb]
  rfl
 ·have hN : 0 <= N:=by unfold mayR at hR; omega
  simp only [Int.reduceEq,if_false,if_true]
  rw [show (rs t).worn = t.worn from rfl,worn_is h.upw hN]
  rfl
end Go.Proofs.YtaphpdmfjnhlaaaGreatDoor.S8
namespace Go.Proofs.YtaphpdmfjnhlaaaGreatDoor.S8
open Go Go.RowKit Go.Maps Gp Pg We
def at3 (l : List L3) (k : Nat) : Int:=(l.getD k (0,0,0)).2.2
def fstL (l : List L3) (j k : Nat) : Bool:=(l.take j).all fun y => decide (y.2.2 ≠ at3 l k)
def nL (l : List L3) : Nat -> Nat
 | 0 => 0
 | k + 1 => nL l k + if fstL l k k = true then 1 else 0
theorem nL_le (l : List L3) : ∀ k,nL l k <= k
 | 0 => Nat.le_refl 0
 | k + 1 => by
  have:=nL_le l k
  rw [nL]
  split <;> omega
theorem fstL_snoc (l : List L3) (j k : Nat) (h : j < l.length) : fstL l (j + 1) k = (fstL l j k && decide (at3 l j ≠ at3 l k)):=by
 unfold fstL
 rw [take_snoc l j (0,0,0) h,List.all_append]
 simp [at3]
structure LvS (w : World) (B G : Nat) (v0 v1 v2 v3 : Value) (l : List L3) (wr : World) : Prop where
 box : Box4 wr G v0 v1 v2 v3
 lv : Ow wr B 113 3 v1 (l.map rL)
 bel : Bel w wr
theorem LvS.dr {w B G v0 v1 v2 v3 l wr} (h : LvS w B G v0 v1 v2 v3 l wr) (n : Nat) : LvS w B G v0 v1 v2 v3 l (wr.drewN n):=⟨h.box,⟨h.lv.own,h.lv.len,h.lv.one⟩,below_drewN h.bel⟩
set_option maxRecDepth 20000 in
theorem rlive_any {w : World} {B v0 v1 v2 v3 m} (h : RAt w B v0 v1 v2 v3 m) (hn : m.lv.length < 1000000) : Calls Tryz.prog 42 #[.agg #[v0,v1,v2,v3]] w fun e w' => e = .returned (.int .i64 (nL m.lv m.lv.length : Int))/\Below w.heap.size w w':=by
 obtain ⟨a1,c1,rfl⟩:=h.lv.form
 rw [List.length_map] at h |-
 generalize hR : nL m.lv m.lv.length = R0
 have H:=Hid.mk h
 clear h
 go_enter Tryz.func42,Tryz.ntmps42
 go_upto_region 3 with fail
 have x0:=Box4.fresh w v0 (.slice a1 m.lv.length c1) v2 v3
 have h1:=H.out.lv.alloc (.cells #[v0,.slice a1 m.lv.length c1,v2,v3] 38)
 have b1 : Bel w _:=below_al w (.cells #[v0,.slice a1 m.lv.length c1,v2,v3] 38)
 generalize w.alloc (.cells #[v0,.slice a1 m.lv.length c1,v2,v3] 38) = W at *
 have H1 : Hid (LvS w B w.heap.size v0 (.slice a1 m.lv.length c1) v2 v3 m.lv W):=⟨x0,h1,b1⟩
 clear h1 b1 x0
 generalize hG : w.heap.size = G at *
 replace hG:=Hid.mk hG
 generalize m.lv = l at *
 go_loopw [3,4] (fun n i wr => ∃ k : Nat,k <= l.length/\i = .int .i64 k/\n = .int .i64 (nL l k : Int)/\LvS w B G v0 (.slice a1 l.length c1) v2 v3 l wr) (fun _ i _ => l.length - (intOf i).toNat)
 case atStart => exact ⟨0,Nat.zero_le _,rfl,rfl,H1.out⟩
 case round =>
  clear H1
  obtain ⟨k,hk,rfl,rfl,hs⟩:=hrel
  obtain ⟨k0,k1,k2,k3⟩:=hs.box.cells
  by_cases hkn : k < l.length
  ·have hnn : nL l (k + 1) = nL l k + if fstL l k k = true then 1 else 0:=rfl
   have hle:=nL_le l k
   generalize nL l k = n0 at *
   have HS:=Hid.mk (And.intro hs hnn)
   clear hs hnn
   go_upto_region 7 with fail
   clear k0 k1 k2 k3
   go_loopw [5,6] (fun f i wr => ∃ j : Nat,j <= k/\i = .int .i64 j/\f = .bool (fstL l j k)/\LvS w B G v0 (.slice a1 l.length c1) v2 v3 l wr) (fun _ i _ => k - (intOf i).toNat)
   case atStart => exact ⟨0,Nat.zero_le _,rfl,rfl,HS.out.1⟩
   case round =>
    obtain ⟨j,hj,rfl,rfl,hs⟩:=hrel
    by_cases hjk : j < k
    ·have hsn:=fstL_snoc l j k (by omega)
     obtain ⟨g,ea,hgB,hgl,d0,d1,d2⟩:=hs.lv.at3 hkn
     obtain ⟨g',ea',hgB',hgl',p0,p1,p2⟩:=hs.lv.at3 (show j < l.length by omega)
     rw [ea] at ea'
     cases ea'
     subst ea
     obtain ⟨k0,k1,k2,k3⟩:=hs.box.cells
     rw [show (l.getD k (0,0,0)).2.2 = at3 l k from rfl] at d2
     rw [show (l.getD j (0,0,0)).2.2 = at3 l j from rfl] at p2
     generalize at3 l k = yk at *
     generalize at3 l j = yj at *
     clear d0 d1 p0 p1
     have hjl : j < l.length:=by omega
     generalize hfb : fstL l j k = b at *
     replace hfb:=Hid.mk hfb
     cases b with
     | true =>
      by_cases e : yj = yk
      ·subst e
       have H2:=Hid.mk (And.intro hs hsn)
       clear hs hsn
       go_upto_region 9 with fail
       go_quiet (fail)
       go_wp2_with fail
       exact ⟨⟨j + 1,by omega,by go_num,by rw [H2.out.2]; simp,H2.out.1.dr _⟩,by simp [intOf]; omega⟩
      ·have eb : (yj != yk) = true:=by simp [e]
       have hsn2 : fstL l (j + 1) k = true:=by rw [hsn]; simp [e]
       have H2:=Hid.mk (And.intro hs hsn2)
       clear hs hsn hsn2 e
       go_upto_region 9 with fail
       go_quiet (fail)
       go_wp2_with fail
       exact ⟨⟨j + 1,by omega,by go_num,by rw [H2.out.2],H2.out.1.dr _⟩,by simp [intOf]; omega⟩
     | false =>
      have H2:=Hid.mk (And.intro hs hsn)
      clear hs hsn
      go_upto_region 9 with fail
      go_quiet (fail)
      go_wp2_with fail
      exact ⟨⟨j + 1,by omega,by go_num,by rw [H2.out.2]; simp,H2.out.1.dr _⟩,by simp [intOf]; omega⟩
    ·have hj2 : j = k:=by omega
     subst hj2
     have hb:=HS.out.2
     generalize fstL l j j = b at *
     have H2:=Hid.mk (And.intro hs hb)
     clear hs hb
     cases b with
     | true =>
      go_wp2_with fail
      exact ⟨⟨j + 1,by omega,by go_num,by rw [H2.out.2]; go_num,H2.out.1⟩,by simp [intOf]; omega⟩
     | false =>
      go_wp2_with fail
      exact ⟨⟨j + 1,by omega,by go_num,by rw [H2.out.2]; rfl,H2.out.1⟩,by simp [intOf]; omega⟩
  ·have hk2 : k = l.length:=by omega
   subst hk2
   rw [hR]
   have H2:=Hid.mk hs
   clear hs
   go_wp2_with fail
   go_ret
   exact ⟨rfl,by have:=hG.out; subst this; exact H2.out.bel⟩
end Go.Proofs.YtaphpdmfjnhlaaaGreatDoor.S8
namespace Go.Proofs.YtaphpdmfjnhlaaaGreatDoor.S8
open Go Go.RowKit Go.Maps Gp Pg We
def cR (r : R6) : Array Value := #[.int .i64 r.1,.int .i64 r.2.1,.int .i64 r.2.2.1,.int .i64 r.2.2.2.1,.int .i64 r.2.2.2.2.1,.int .i64 r.2.2.2.2.2]
def rR (r : R6) : List Value:=(cR r).toList
theorem _root_.Go.Proofs.YtaphpdmfjnhlaaaGreatDoor.We.Ow.lit (w : World) {B : Nat} (hB : B <= w.heap.size) (r : R6) : Ow (w.alloc (.cells (cR r) 87)) B 87 6 (.slice (some ⟨w.heap.size,0,none⟩) 1 1) [rR r] :=
 ⟨by simpa [rR] using World.ownsRow_lit (e:=87) (size:=6) w (cR r) 1 hB (by simp [maxLen]) rfl,fun q hq => by rw [List.mem_singleton.1 hq]; rfl,fun q hq u hu => by rw [List.mem_singleton.1 hq] at hu; revert u; simp [rR,cR,Value.oneCell']⟩
theorem cR_one (r : R6) : ∀ u ∈ (cR r).toList,u.oneCell' = true:=by simp [cR,Value.oneCell']
def dPut (i : Int) (p : Int × Int) : R6:=(1,i,p.1,p.2,0,0)
def dmA (x : Asp) : List R6:=(4,x.id,0,0,0,x.q) :: (x.ps.map (dPut x.id) ++ if x.sl = true then [(7,x.id,0,0,0,0)] else [])
structure GS (w : World) (s : St) (ids : List Int) (vi v : Value) (rows : Rws) (wr : World) : Prop where
 ids : Ow wr w.heap.size 3 1 vi (rI ids)
 out : Ow wr w.heap.size 87 6 v rows
 st : StAt wr s
 below : Below w.heap.size w wr
 apart : ∀ g,vi.ownBlock = some g -> v.ownBlock ≠ some g
theorem GS.next {w : World} {s : St} {ids : List Int} {vi v v3 : Value} {rows rows3 : Rws} {wr w3 : World} (h : GS w s ids vi v rows wr) (hs : StAt w s) (gr : wr.grownBy w3 v.ownBlock) (o3 : Ow w3 w.heap.size 87 6 v3 rows3) (p3 : v3.ownBlock = v.ownBlock \/ ∃ g,v3.ownBlock = some g/\wr.heap.size <= g) : GS w s ids vi v3 rows3 w3:=by
 refine ⟨h.ids.kept gr ?_,o3,h.st.frame fun i hi => gr.block i (h.st.foot_lt i hi) (fun e => ?_),h.below.grown gr h.below.size (fun j hj => (h.out.lt j hj).1),fun g hg => ?_⟩
 ·cases e : vi.ownBlock with
  | none => exact .inl rfl
  | some g => exact .inr (fun e2 => h.apart g e e2.symm)
 ·have:=(h.out.lt i e.symm).1
  have:=hs.foot_lt i hi
  omega
 ·rcases p3 with p | ⟨g',p,q⟩
  ·rw [p]; exact h.apart g hg
  ·rw [p]
   intro e
   cases e
   have:=(h.ids.lt g hg).2
   omega
theorem GS.swap {w : World} {s : St} {ids ids2 : List Int} {vi vi2 v : Value} {rows : Rws} {wr w1 : World} (h : GS w s ids vi v rows wr) (b1 : Below wr.heap.size wr w1) (i1 : Ow w1 wr.heap.size 3 1 vi2 (rI ids2)) : GS w s ids2 vi2 v rows w1:=by
 refine ⟨i1.lower h.below.size,h.out.call b1,h.st.call b1,below3 h.below b1,fun g hg e => ?_⟩
 have h1:=(i1.lt g hg).1
 have h2:=(h.out.lt g e).2
 omega
set_option maxRecDepth 20000 in
theorem sdump_any {w s} (h : StAt w s) {x : Sp} (hx : x ∈ s.sp) (hk64 : ∀ p ∈ x.ps,K64 p.1) (hl : x.ps.length <= 1024) :
  Calls Tryz.prog 83 #[.pointer (some ⟨x.sb,0,none⟩),.int .i64 x.id] w fun e w' => ∃ v,e = .returned v/\Ow w' w.heap.size 87 6 v ((dmA x.a).map rR)/\Below w.heap.size w w':=by
 have hX:=h.hsp x hx
 have q0:=hX.q
 have q2:=fun o => ((h.alloc o).hsp x hx).pb
 have hxl:=hX.lt
 have hri:=fun o => riseI (hX.2.alloc o) (by omega)
 have H:=Hid.mk (And.intro h (And.intro hk64 hX))
 have HR:=Hid.mk hri
 clear h hk64 hri hX
 go_enter Tryz.func83,Tryz.ntmps83
 go_upto_region 3 with (first | (go_at_call 85; refine (HR.out _).mono ?_; rintro e w1 ⟨ia,ic,rfl,i1,b1⟩))
 have S0 : GS w s (x.ps.map (·.1)) (.slice ia x.ps.length ic) (.slice (some ⟨w.heap.size,0,none⟩) 1 1) (((4,x.id,0,0,0,x.q) :: (x.ps.take 0).map (dPut x.id)).map rR) w1:=by
  have g0 : GS w s [] (.slice none 0 0) (.slice (some ⟨w.heap.size,0,none⟩) 1 1) (((4,x.id,0,0,0,x.q) :: (x.ps.take 0).map (dPut x.id)).map rR) (w.alloc (.cells (cR (4,x.id,0,0,0,x.q)) 87)):=⟨Ow.nil _ _ _ _,Ow.lit w (Nat.le_refl _) _,H.out.1.alloc _,below_al w _,fun _ h => by cases h⟩
  exact g0.swap b1 i1
 replace S0:=Hid.mk S0
 clear i1 b1 q0 q2
 generalize hn : x.ps.length = n at *
 replace hn:=Hid.mk hn
 go_loopw [5,21] (fun v i wr => ∃ k : Nat,k <= n/\i = .int .i64 k/\GS w s (x.ps.map (·.1)) (.slice ia n ic) v (((4,x.id,0,0,0,x.q) :: (x.ps.take k).map (dPut x.id)).map rR) wr) (fun _ i _ => n - (intOf i).toNat)
 case atStart => exact ⟨0,Nat.zero_le _,rfl,S0.out⟩
 case round =>
  clear S0
  obtain ⟨k,hk,rfl,hs⟩:=hrel
  by_cases hkn : k < n
  ·have hkl : k < x.ps.length:=by have:=hn.out; omega
   obtain ⟨g,rfl,hgB,hgl,cg⟩:=hs.ids.intAt (j:=k) (by rw [List.length_map]; exact hkl)
   have hp:=List.getElem_mem hkl
   have htk : ((4,x.id,0,0,0,x.q) :: (x.ps.take (k + 1)).map (dPut x.id)).map rR = ((4,x.id,0,0,0,x.q) :: (x.ps.take k).map (dPut x.id)).map rR ++ [(cR (dPut x.id x.ps[k])).toList]:=by
    rw [List.take_succ_eq_append_getElem hkl]
    simp only [List.map_append,List.map_cons,List.map_nil,List.cons_append]
    rfl
   have hpv : (x.ps.map (·.1)).getD k 0 = x.ps[k].1:=by
    rw [List.getD_eq_getElem?_getD,List.getElem?_map,List.getElem?_eq_getElem hkl]; rfl
   rw [hpv] at cg
   generalize x.ps[k] = p at *
   have hX:=hs.st.hsp x hx
   have q2:=hX.pb
   have lk:=hX.2.look (H.out.2.1 p hp)
   rw [mem_mget hX.2.up (k:=p.1) (v:=p.2) hp,Option.getD_some] at lk
   have hrl : (((4,x.id,0,0,0,x.q) :: (x.ps.take k).map (dPut x.id)).map rR).length < 1000000:=by rw [List.length_map,List.length_cons,List.length_map,List.length_take]; omega
   have HS:=Hid.mk (And.intro hs (And.intro htk hrl))
   clear hs htk hrl hpv hX hkl
   go_wp2_with (first | (at_builtin; refine wp_app ei87 rfl _ _ rfl HS.out.1.out HS.out.1.below.size (cR (dPut x.id p)) rfl rfl rfl (cR_one _) HS.out.2.2 ?_; intro v3 w3 o3 g3 p3))
   rw [<- HS.out.2.1] at o3
   exact ⟨⟨k + 1,by omega,by go_num,HS.out.1.next H.out.1 g3 o3 p3⟩,by simp [intOf]; omega⟩
  ·have hk2 : k = n:=by omega
   subst hk2
   have hX:=hs.st.hsp x hx
   have q1:=hX.sl
   rw [List.take_of_length_le (by have:=hn.out; omega)] at hs
   have hrl : (((4,x.id,0,0,0,x.q) :: x.ps.map (dPut x.id)).map rR).length < 1000000:=by rw [List.length_map,List.length_cons,List.length_map]; have:=hn.out; omega
   have hd : (dmA x.a).map rR = ((4,x.id,0,0,0,x.q) :: x.ps.map (dPut x.id)).map rR ++ if x.sl = true then [(cR (7,x.id,0,0,0,0)).toList] else []:=by
    show ((4,x.id,0,0,0,x.q) :: (x.ps.map (dPut x.id) ++ if x.sl = true then [(7,x.id,0,0,0,0)] else [])).map rR = _
    split <;> simp [rR]
   have HD:=Hid.mk hd
   clear hd hX
   have HS:=Hid.mk (And.intro hs hrl)
   clear hs hrl
   cases hsl : x.sl with
   | true =>
    rw [hsl] at q1
    go_wp2_with (first | (at_builtin; refine wp_app ei87 rfl _ _ rfl HS.out.1.out HS.out.1.below.size (cR (7,x.id,0,0,0,0)) rfl rfl rfl (cR_one _) HS.out.2 ?_; intro v3 w3 o3 g3 p3))
    go_ret
    exact ⟨_,rfl,by rw [HD.out,hsl,if_pos rfl]; exact o3,(HS.out.1.next H.out.1 g3 o3 p3).below⟩
   | false =>
    rw [hsl] at q1
    go_wp2_with fail
    go_ret
    exact ⟨_,rfl,by rw [HD.out,hsl,if_neg (by simp),List.append_nil]; exact HS.out.1.out,HS.out.1.below⟩
end Go.Proofs.YtaphpdmfjnhlaaaGreatDoor.S8
namespace Go.Proofs.YtaphpdmfjnhlaaaGreatDoor.S8
open Go Go.RowKit Go.Maps Gp Pg We
section
variable {ops : Array Oper} {rest : List Oper} {o : Oper} {a : Act} {Q : Exit -> Act -> World -> Prop}
theorem wp_apps {t e sz bytes : Nat} (E : EI t e sz bytes) {w : World} {B B2 : Nat} {v v2 : Value} {rows rows2 : Rws} (hgd : o.guard = none) (s x : Operand) (ho : o.op = .call { callee := .builtin .append,args := #[s,x],argTypes := #[t,t] })
  (h : Ow w B e sz v rows) (hB : B <= w.heap.size) (h2 : Ow w B2 e sz v2 rows2) (hne : rows2 ≠ []) (hs : a.eval s = v) (hx : a.eval x = v2) (hn : rows.length + rows2.length < 1000000)
  (hK : ∀ v' w',Ow w' B e sz v' (rows ++ rows2) -> w.grownBy w' v.ownBlock -> (v'.ownBlock = v.ownBlock \/ ∃ g,v'.ownBlock = some g/\w.heap.size <= g) -> wpList Tryz.prog ops Q rest (a.put o.dst v') w') :
  wpList Tryz.prog ops Q (o :: rest) a w:=by
 obtain ⟨i,z,q1,q2,q3,q4,q5⟩:=E.info
 have hby : (rows.length + rows2.length) * bytes <= 140737488355328:=by
  have:=Nat.mul_le_mul_left (rows.length + rows2.length) E.top
  omega
 rcases h2.own.2 with ⟨_,hz⟩ | ⟨g,cap,cur,rfl,hr⟩
 ·exact absurd (List.length_eq_zero_iff.1 hz) hne
 refine wpList_append_own_at _ hgd s x t ho B e i z sz bytes E.under q1 q2 q3 q4 q5 E.pos v rows.length rows.flatten hs h.own ⟨g,0,none⟩ rows2.length cap rows2.flatten hx h2.own.1 (h2.own.cells rfl) (fun u hu => by obtain ⟨r,hr,hu⟩:=List.mem_flatten.1 hu; exact h2.one r hr u hu) (by simp [maxLen]; omega) hby hB (fun v' w' p1 p2 _ p4 => ?_)
 refine hK v' w' ⟨by rw [List.length_append,List.flatten_append]; exact p1,fun r hr => ?_,fun r hr => ?_⟩ p2 (p4.imp id (fun p4 => ⟨_,p4,Nat.le_refl _⟩))
 ·rcases List.mem_append.1 hr with hr | hr
  ·exact h.len r hr
  ·exact h2.len r hr
 ·rcases List.mem_append.1 hr with hr | hr
  ·exact h.one r hr
  ·exact h2.one r hr
end
def dBad (p : Int × Int) : R6:=(8,0,0,p.1,0,0)
def dWorn (p : Int × Int) : R6:=(9,0,0,p.1,0,p.2)
def dumpA (t : Ab) : List R6:=t.sp.flatMap dmA ++ t.bad.map dBad ++ t.worn.map dWorn
theorem dmA_len (x : Asp) : (dmA x).length <= x.ps.length + 2:=by
 unfold dmA
 rw [List.length_cons,List.length_append,List.length_map]
 split <;> simp
theorem dm_len {l : List Asp} (h : ∀ x ∈ l,x.ps.length <= 1024) : (l.flatMap dmA).length <= l.length * 1026:=by
 induction l with
 | nil => simp
 | cons x r ih =>
  have h1:=dmA_len x
  have h2:=h x (by simp)
  have h3:=ih (fun y hy => h y (by simp [hy]))
  rw [List.flatMap_cons,List.length_append,List.length_cons]
  omega
theorem dmA_ne (x : Asp) : (dmA x).map rR ≠ []:=by simp [dmA]
def du (t : Ab) (i j k : Nat) : Rws:=((t.sp.take i).flatMap dmA ++ (t.bad.take j).map dBad ++ (t.worn.take k).map dWorn).map rR
theorem du_len {t : Ab} (h : InvA t) (i j k : Nat) : (du t i j k).length < 20000:=by
 have h1:=dm_len (l:=t.sp.take i) (fun x hx => h.plen (List.mem_of_mem_take hx))
 have h2:=h.len
 have h3:=h.blen
 have h4:=h.wlen
 unfold du
 rw [List.length_map,List.length_append,List.length_append,List.length_map,List.length_map]
 have h5 : (t.sp.take i).length <= t.sp.length:=by rw [List.length_take]; omega
 have h6 : (t.bad.take j).length <= t.bad.length:=by rw [List.length_take]; omega
 have h7 : (t.worn.take k).length <= t.worn.length:=by rw [List.length_take]; omega
 omega
theorem du_sp (t : Ab) {i : Nat} (h : i < t.sp.length) : du t (i + 1) 0 0 = du t i 0 0 ++ (dmA t.sp[i]).map rR:=by
 unfold du
 rw [List.take_succ_eq_append_getElem h,List.flatMap_append]
 simp
theorem du_bad (t : Ab) (i : Nat) {j : Nat} (h : j < t.bad.length) : du t i (j + 1) 0 = du t i j 0 ++ [(cR (dBad t.bad[j])).toList]:=by
 unfold du
 rw [List.take_succ_eq_append_getElem h]
 simp only [List.map_append,List.map_cons,List.map_nil,List.take_zero,List.append_nil,<- List.append_assoc]
 rfl
theorem du_worn (t : Ab) (i j : Nat) {k : Nat} (h : k < t.worn.length) : du t i j (k + 1) = du t i j k ++ [(cR (dWorn t.worn[k])).toList]:=by
 unfold du
 rw [List.take_succ_eq_append_getElem h]
 simp only [List.map_append,List.map_cons,List.map_nil,<- List.append_assoc]
 rfl
theorem du_all (t : Ab) : du t t.sp.length t.bad.length t.worn.length = (dumpA t).map rR:=by
 unfold du dumpA
 rw [List.take_length,List.take_length,List.take_length]
set_option maxRecDepth 20000 in
theorem dump_any {w s} (h : Whole w s) : Calls Tryz.prog 48 #[.pointer (some ⟨s.p,0,none⟩)] w fun e w' => ∃ v,e = .returned v/\Ow w' w.heap.size 87 6 v ((dumpA (ab s)).map rR)/\Below w.heap.size w w':=by
 have c0:=h.at'.c0
 have hl15:=h.inv.len
 have hlm : (spm s.sp).length = s.sp.length:=by simp [spm]
 have hri:=riseP h.at'.hS (by rw [hlm]; simp only [ab,List.length_map] at hl15; omega)
 rw [hlm,spm_ids] at hri
 have H:=Hid.mk h
 have HR:=Hid.mk hri
 clear h hri hlm
 go_enter Tryz.func48,Tryz.ntmps48
 go_upto_region 5 with (first | (go_at_call 82; refine HR.out.mono ?_; rintro e w1 ⟨ia,ic,rfl,i1,b1⟩))
 have S0 : GS w s ((ab s).sp.map (·.id)) (.slice ia s.sp.length ic) (.slice none 0 0) (du (ab s) 0 0 0) w1:=⟨i1,Ow.nil _ _ _ _,H.out.at'.call b1,b1,fun _ _ h => by cases h⟩
 replace S0:=Hid.mk S0
 have hl2 : s.sp.length <= 15:=by simpa [ab] using hl15
 clear i1 b1 c0 hl15
 generalize hn : s.sp.length = n at *
 replace hn:=Hid.mk hn
 go_loopw [3,18] (fun v i wr => ∃ k : Nat,k <= n/\i = .int .i64 k/\GS w s ((ab s).sp.map (·.id)) (.slice ia n ic) v (du (ab s) k 0 0) wr) (fun _ i _ => n - (intOf i).toNat)
 case atStart => exact ⟨0,Nat.zero_le _,rfl,S0.out⟩
 case round =>
  clear S0
  obtain ⟨k,hk,rfl,hs⟩:=hrel
  by_cases hkn : k < n
  ·have hkl : k < s.sp.length:=by have:=hn.out; omega
   have hka : k < (ab s).sp.length:=by simp only [ab,List.length_map]; exact hkl
   obtain ⟨g,rfl,hgB,hgl,cg⟩:=hs.ids.intAt (j:=k) (by rw [List.length_map]; exact hka)
   have hx:=List.getElem_mem hkl
   have hdu:=du_sp (ab s) hka
   have hxa : (ab s).sp[k] = (s.sp[k]).a:=by simp [ab]
   rw [hxa] at hdu
   have hxv : ((ab s).sp.map (·.id)).getD k 0 = (s.sp[k]).id:=by
    rw [List.getD_eq_getElem?_getD,List.getElem?_map,List.getElem?_eq_getElem hka,hxa]; rfl
   rw [hxv] at cg
   generalize s.sp[k] = x at *
   have hgx : gsp s.sp x.id = some x:=by
    have h1 : (gsp s.sp x.id).isSome = true:=by unfold gsp; rw [List.find?_isSome]; exact ⟨x,hx,by simp⟩
    obtain ⟨y,hy⟩:=Option.isSome_iff_exists.1 h1
    rw [hy,up_one hs.st.hS.up (gsp_some hy).1 hx (gsp_some hy).2]
   have c0:=hs.st.c0
   have lk:=hs.st.aSp (k15 (H.out.inv.ids _ (ab_mem hx))) hgx
   have hsd:=sdump_any hs.st hx (fun p hp => by have:=H.out.inv.pss _ (ab_mem hx) p hp; have:=H.out.inv.qs _ (ab_mem hx); exact k64 (by omega) (by have : x.a.q = x.q:=rfl; omega)) (H.out.inv.plen (ab_mem hx))
   have hrl:=du_len H.out.inv k 0 0
   have hrl2:=dmA_len x.a
   have hrl3:=H.out.inv.plen (ab_mem hx)
   have HP:=Hid.mk hsd
   have HS:=Hid.mk (And.intro hs (And.intro hdu (And.intro hrl (And.intro hrl2 hrl3))))
   clear hsd hs hdu hrl hrl2 hrl3 hgx hxv hxa hkl hka
   go_wp2_with (first
    | (go_at_call 83; refine HP.out.mono ?_; rintro e w2 ⟨v2,rfl,o2,b2⟩)
    | (at_builtin; refine wp_apps ei87 rfl _ _ rfl (HS.out.1.out.call b2) (Nat.le_trans HS.out.1.below.size b2.size) o2 (dmA_ne _) rfl rfl (by have:=HS.out.2.2.1; have:=HS.out.2.2.2.1; have:=HS.out.2.2.2.2; rw [List.length_map]; omega) ?_; intro v3 w3 o3 g3 p3))
   rw [<- HS.out.2.1] at o3
   have gr : wr.grownBy w3 _:=⟨g3.os.trans b2.os,g3.tape.trans b2.tape,g3.output.trans b2.output,Nat.le_trans b2.size g3.size,fun k hk hne => (g3.block k (Nat.lt_of_lt_of_le hk b2.size) hne).trans (b2.block k hk)⟩
   exact ⟨⟨k + 1,by omega,by go_num,HS.out.1.next H.out.at' gr o3 (p3.imp id (fun ⟨g,q1,q2⟩ => ⟨g,q1,Nat.le_trans b2.size q2⟩))⟩,by simp [intOf]; omega⟩
  ·have hk2 : k = n:=by omega
   subst hk2
   have c2:=hs.st.c2
   have hbl:=H.out.inv.blen
   have hrb:=riseU hs.st.hB (by simp only [ab] at hbl; omega)
   have HS:=Hid.mk hs
   have HRb:=Hid.mk hrb
   clear hs hrb
   go_upto_region 10 with (first | (go_at_call 84; refine HRb.out.mono ?_; rintro e w1 ⟨ja,jc,rfl,i1,b1⟩))
   have S1:=Hid.mk (HS.out.swap b1 i1)
   clear i1 b1 c2 HS HRb
   replace hbl : s.bad.length <= 32:=hbl
   generalize hnb : (s.bad : Pl).length = nb at *
   replace hnb:=Hid.mk hnb
   go_loopw [3,39] (fun v i wr => ∃ j : Nat,j <= nb/\i = .int .i64 j/\GS w s (s.bad.map (·.1)) (.slice ja nb jc) v (du (ab s) k j 0) wr) (fun _ i _ => nb - (intOf i).toNat)
   case atStart => exact ⟨0,Nat.zero_le _,rfl,S1.out⟩
   case round =>
    clear S1
    obtain ⟨j,hj,rfl,hs⟩:=hrel
    by_cases hjn : j < nb
    ·have hjl : j < s.bad.length:=by have:=hnb.out; omega
     obtain ⟨g,rfl,hgB,hgl,cg⟩:=hs.ids.intAt (j:=j) (by rw [List.length_map]; exact hjl)
     have hdu : du (ab s) k (j + 1) 0 = du (ab s) k j 0 ++ [(cR (dBad s.bad[j])).toList]:=du_bad (ab s) k (j:=j) hjl
     have hxv : (s.bad.map (·.1)).getD j 0 = (s.bad[j]).1:=by
      rw [List.getD_eq_getElem?_getD,List.getElem?_map,List.getElem?_eq_getElem hjl]; rfl
     rw [hxv] at cg
     generalize s.bad[j] = p at *
     have hrl:=du_len H.out.inv k j 0
     have HS:=Hid.mk (And.intro hs (And.intro hdu hrl))
     clear hs hdu hrl hxv hjl
     go_wp2_with (first | (at_builtin; refine wp_app ei87 rfl _ _ rfl HS.out.1.out HS.out.1.below.size (cR (dBad p)) rfl rfl rfl (cR_one _) (Nat.lt_trans HS.out.2.2 (by decide)) ?_; intro v3 w3 o3 g3 p3))
     rw [<- HS.out.2.1] at o3
     exact ⟨⟨j + 1,by omega,by go_num,HS.out.1.next H.out.at' g3 o3 p3⟩,by simp [intOf]; omega⟩
    ·have hj2 : j = nb:=by omega
     subst hj2
     have c3:=hs.st.c3
     have hwl:=H.out.inv.wlen
     have hrw:=riseI hs.st.hW (by simp only [ab] at hwl; omega)
     have HS:=Hid.mk hs
     have HRw:=Hid.mk hrw
     clear hs hrw
     go_upto_region 15 with (first | (go_at_call 85; refine HRw.out.mono ?_; rintro e w1 ⟨la,lc,rfl,i1,b1⟩))
     have S2:=Hid.mk (HS.out.swap b1 i1)
     clear i1 b1 c3 HS HRw
     replace hwl : s.worn.length <= 32:=hwl
     generalize hnw : (s.worn : Pl).length = nw at *
     replace hnw:=Hid.mk hnw
     go_loopw [3,55] (fun v i wr => ∃ l : Nat,l <= nw/\i = .int .i64 l/\GS w s (s.worn.map (·.1)) (.slice la nw lc) v (du (ab s) k j l) wr) (fun _ i _ => nw - (intOf i).toNat)
     case atStart => exact ⟨0,Nat.zero_le _,rfl,S2.out⟩
     case round =>
      clear S2
      obtain ⟨l,hl,rfl,hs⟩:=hrel
      by_cases hln : l < nw
      ·have hll : l < s.worn.length:=by have:=hnw.out; omega
       obtain ⟨g,rfl,hgB,hgl,cg⟩:=hs.ids.intAt (j:=l) (by rw [List.length_map]; exact hll)
       have hdu : du (ab s) k j (l + 1) = du (ab s) k j l ++ [(cR (dWorn s.worn[l])).toList]:=du_worn (ab s) k j (k:=l) hll
       have hp:=List.getElem_mem hll
       have hxv : (s.worn.map (·.1)).getD l 0 = (s.worn[l]).1:=by
        rw [List.getD_eq_getElem?_getD,List.getElem?_map,List.getElem?_eq_getElem hll]; rfl
       rw [hxv] at cg
       generalize s.worn[l] = p at *
       have c3:=hs.st.c3
       have lk:=hs.st.hW.look (k:=p.1) (k64 (by have:=H.out.inv.worn p hp; omega) (by have:=H.out.inv.worn p hp; omega))
       rw [mem_mget hs.st.hW.up (k:=p.1) (v:=p.2) hp,Option.getD_some] at lk
       have hrl:=du_len H.out.inv k j l
       have HS:=Hid.mk (And.intro hs (And.intro hdu hrl))
       clear hs hdu hrl hxv hll
       go_wp2_with (first | (at_builtin; refine wp_app ei87 rfl _ _ rfl HS.out.1.out HS.out.1.below.size (cR (dWorn p)) rfl rfl rfl (cR_one _) (Nat.lt_trans HS.out.2.2 (by decide)) ?_; intro v3 w3 o3 g3 p3))
       rw [<- HS.out.2.1] at o3
       exact ⟨⟨l + 1,by omega,by go_num,HS.out.1.next H.out.at' g3 o3 p3⟩,by simp [intOf]; omega⟩
      ·have hl2 : l = nw:=by omega
       subst hl2
       have HS:=Hid.mk hs
       clear hs
       go_wp2_with fail
       go_ret
       have o5:=HS.out.out
       have e5:=du_all (ab s)
       have e6 : (ab s).sp.length = k:=by simp only [ab,List.length_map]; exact hn.out
       have e7 : (ab s).bad.length = j:=hnb.out
       have e8 : (ab s).worn.length = l:=hnw.out
       rw [e6,e7,e8] at e5
       rw [e5] at o5
       exact ⟨_,rfl,o5,HS.out.below⟩
end Go.Proofs.YtaphpdmfjnhlaaaGreatDoor.S8
namespace Go.Proofs.YtaphpdmfjnhlaaaGreatDoor.S8
open Go Go.RowKit Go.Maps Gp Pg We
def dLf (i : Int) (y : L3) : R6:=(1,i,y.2.1,y.2.2,0,0)
def sealR (x : S3) : List R6:=if x.2.2 = true then [(7,x.1,0,0,0,0)] else []
def inR (x : S3) (lv : List L3) : List R6:=(lv.filter fun y => decide (y.1 = x.1)).map (dLf x.1)
def dmR (lv : List L3) (x : S3) : List R6:=(4,x.1,0,0,0,x.2.1) :: (inR x lv ++ sealR x)
def dBb (b : Int) : R6:=(8,0,0,b,0,0)
def dumpR (m : Rs) : List R6:=m.sp.flatMap (dmR m.lv) ++ (m.bad.map dBb ++ m.worn.map dWorn)
structure XB (gx : Nat) (x : S3) (v : Value) (wr : World) : Prop where
 cells : wr.heap[gx]? = some (.cells #[.int .i64 x.1,.int .i64 x.2.1,.bool x.2.2] 106 (0,0))
 ne : v.ownBlock ≠ some gx
theorem XB.lt {gx x v wr} (h : XB gx x v wr) : gx < wr.heap.size:=(Array.getElem?_eq_some_iff.1 h.cells).1
theorem XB.al {gx x v wr} (h : XB gx x v wr) (o : Obj) : XB gx x v (wr.alloc o):=⟨(Below.heap_alloc wr o gx h.lt).trans h.cells,h.ne⟩
theorem XB.app {gx x v v3 wr w3} (h : XB gx x v wr) (g : wr.grownBy w3 v.ownBlock) (p : v3.ownBlock = v.ownBlock \/ ∃ g,v3.ownBlock = some g/\wr.heap.size <= g) : XB gx x v3 w3:=by
 refine ⟨(g.block gx h.lt (fun e => h.ne e.symm)).trans h.cells,?_⟩
 rcases p with p | ⟨g,p,q⟩
 ·rw [p]; exact h.ne
 ·rw [p]
  intro e
  cases e
  have:=h.lt
  omega
theorem XB.c {gx x v wr} (h : XB gx x v wr) : wr.cell? ⟨gx,0,none⟩ = some (.int .i64 x.1)/\wr.cell? ⟨gx,1,none⟩ = some (.int .i64 x.2.1)/\wr.cell? ⟨gx,2,none⟩ = some (.bool x.2.2):=by
 refine ⟨?_,?_,?_⟩ <;> rw [cell_of_row wr gx _ _ 106 _ h.cells] <;> rfl
section
variable {ops : Array Oper} {o : Oper} {a : Act} {K : Act -> World -> Prop} {Q : Exit -> Act -> World -> Prop} {E' : Prop}
end
set_option maxRecDepth 20000 in
set_option maxHeartbeats 4000000 in
theorem rdump_any {w : World} {B v0 v1 v2 v3 m} (h : RAt w B v0 v1 v2 v3 m) (hR0 : (dumpR m).length < 900000) (hn : Lens m) : Calls Tryz.prog 29 #[.agg #[v0,v1,v2,v3]] w fun e w' => ∃ v,e = .returned v/\Ow w' w.heap.size 87 6 v ((dumpR m).map rR)/\Below w.heap.size w w':=by
 obtain ⟨a0,c0,rfl⟩:=h.sp.form
 obtain ⟨a1,c1,rfl⟩:=h.lv.form
 obtain ⟨a2,c2,rfl⟩:=h.bad.form
 obtain ⟨a3,c3,rfl⟩:=h.worn.form
 obtain ⟨n0,n1,n2,n3⟩:=hn
 rw [List.length_map,List.length_map,rI_len,List.length_map] at h |-
 generalize hR : dumpR m = R0 at *
 have H:=Hid.mk h
 clear h
 go_enter Tryz.func29,Tryz.ntmps29
 go_upto_region 1 with fail
 have s0:=Box4.fresh w (.slice a0 m.sp.length c0) (.slice a1 m.lv.length c1) (.slice a2 m.bad.length c2) (.slice a3 m.worn.length c3)
 have b0 : Bel w (w.alloc (.cells #[.slice a0 m.sp.length c0,.slice a1 m.lv.length c1,.slice a2 m.bad.length c2,.slice a3 m.worn.length c3] 38)):=(Bel.refl w).alloc _
 have h0:=H.out.call b0
 have z0 : (w.alloc (.cells #[.slice a0 m.sp.length c0,.slice a1 m.lv.length c1,.slice a2 m.bad.length c2,.slice a3 m.worn.length c3] 38)).heap.size = w.heap.size + 1:=by rw [size_alloc]
 generalize w.alloc (.cells #[.slice a0 m.sp.length c0,.slice a1 m.lv.length c1,.slice a2 m.bad.length c2,.slice a3 m.worn.length c3] 38) = W0 at *
 have o0:=Ow.made W0 (B:=w.heap.size + 1) (by omega) 87 6
 rw [z0] at o0
 have S0 : WbS W0 (w.heap.size + 1) 87 6 (.slice (some ⟨w.heap.size + 1,0,none⟩) 0 0) (([] : List R6).map rR) (W0.alloc (.cells #[] 87)):=⟨o0,(Bel.refl W0).alloc _,z0⟩
 replace S0:=Hid.mk S0
 have C0 : Hid (∀ wr,Bel W0 wr -> Box4 wr w.heap.size (.slice a0 m.sp.length c0) (.slice a1 m.lv.length c1) (.slice a2 m.bad.length c2) (.slice a3 m.worn.length c3)/\RAt wr B (.slice a0 m.sp.length c0) (.slice a1 m.lv.length c1) (.slice a2 m.bad.length c2) (.slice a3 m.worn.length c3) m):=fun wr b => ⟨s0.call b,h0.call b⟩
 have hold:=Hid.mk (And.intro H.out b0)
 clear h0 s0 o0 b0 H
 have hW0 : Hid (Below w.heap.size w W0):=hold.out.2
 have hG3 : Hid (∀ g,Value.ownBlock (.slice a3 m.worn.length c3) = some g -> g < w.heap.size):=fun g hg => (hold.out.1.worn.lt g hg).2
 clear hold
 generalize hG : w.heap.size = G at *
 replace hG:=Hid.mk hG
 have hg3 : G + 1 <= W0.heap.size:=by omega
 unfold dumpR at hR
 obtain ⟨sp,lv,bad,worn⟩:=m
 simp only at *
 generalize hT : bad.map dBb ++ worn.map dWorn = T0 at *
 replace hT:=Hid.mk hT
 go_upto_region 3 with fail
 go_loopw [3,4] (fun v i wr => ∃ (k : Nat) (outL : List R6),k <= sp.length/\i = .int .i64 k/\outL ++ ((sp.drop k).flatMap (dmR lv) ++ T0) = R0/\WbS W0 (G + 1) 87 6 v (outL.map rR) wr) (fun _ i _ => sp.length - (intOf i).toNat)
 case atStart => exact ⟨0,[],Nat.zero_le _,rfl,by simpa using hR,S0.out⟩
 case round =>
  clear S0
  obtain ⟨k,outL,hk,rfl,hgo,hs⟩:=hrel
  obtain ⟨hbx,hra⟩:=C0.out wr hs.bel
  obtain ⟨k0,k1,k2,k3⟩:=hbx.cells
  have hol : outL.length <= R0.length:=by rw [<- hgo,List.length_append]; omega
  have hwG : G + 1 <= wr.heap.size:=hs.le
  by_cases hkn : k < sp.length
  ·obtain ⟨g,rfl,hgB,hgl,d0,d1,d2⟩:=hra.sp.at3s hkn
   rw [dropC sp k (0,0,false) hkn,List.flatMap_cons] at hgo
   generalize sp.getD k (0,0,false) = x at *
   obtain ⟨x1,x2,x3⟩:=x
   simp only at d0 d1 d2
   have hrl : (outL.map rR).length < 1000000:=by rw [List.length_map]; omega
   have HS:=Hid.mk (And.intro hs (And.intro hgo hrl))
   clear hs hgo hbx hra hol hrl
   go_upto_region 7 with (first | (at_builtin; refine wp_app ei87 rfl _ _ rfl (HS.out.1.out.alloc _) (by rw [size_alloc]; omega) (cR (4,x1,0,0,0,x2)) rfl (by first | rfl | (simp only [size_alloc]; rfl)) rfl (cR_one _) HS.out.2.2 ?_; intro v4 w4 o4 g4 p4))
   have N4:=HS.out.1.app ((Bel.refl wr).alloc _) g4 o4
   have X4 : XB wr.heap.size (x1,x2,x3) v4 w4:=⟨cells_kept g4 HS.out.1.out,fun e => by
    rcases p4 with p | ⟨g',p,q⟩
    ·rw [p] at e; exact Nat.lt_irrefl _ (HS.out.1.out.lt _ e).2
    ·rw [p] at e
     cases e
     rw [size_alloc] at q
     omega⟩
   have hgo2 : (outL ++ [(4,x1,0,0,0,x2)]) ++ (inR (x1,x2,x3) lv ++ (sealR (x1,x2,x3) ++ ((sp.drop (k + 1)).flatMap (dmR lv) ++ T0))) = R0:=by
    rw [<- HS.out.2.1]
    simp [dmR,List.append_assoc]
   have N5 : WbS W0 (G + 1) 87 6 v4 ((outL ++ [(4,x1,0,0,0,x2)]).map rR) w4:=by rw [List.map_append]; exact N4
   generalize outL ++ [(4,x1,0,0,0,x2)] = out1 at *
   generalize hrest : sealR (x1,x2,x3) ++ ((sp.drop (k + 1)).flatMap (dmR lv) ++ T0) = rest at *
   replace hrest:=Hid.mk hrest
   have HI:=Hid.mk (And.intro N5 (And.intro X4 hgo2))
   clear N4 N5 X4 hgo2 g4 p4 o4 k0 k1 k2 k3 d0 d1 d2 HS
   generalize wr.heap.size = gx at *
   go_upto_region 8 with fail
   go_loopw [3,6] (fun v i wr => ∃ (j : Nat) (outL : List R6),j <= lv.length/\i = .int .i64 j/\outL ++ (inR (x1,x2,x3) (lv.drop j) ++ rest) = R0/\WbS W0 (G + 1) 87 6 v (outL.map rR) wr/\XB gx (x1,x2,x3) v wr) (fun _ i _ => lv.length - (intOf i).toNat)
   case atStart => exact ⟨0,out1,Nat.zero_le _,rfl,HI.out.2.2,HI.out.1,HI.out.2.1⟩
   case round =>
    clear HI
    obtain ⟨j,outL,hj,rfl,hgo,hs,hx⟩:=hrel
    obtain ⟨hbx,hra⟩:=C0.out wr hs.bel
    obtain ⟨k0,k1,k2,k3⟩:=hbx.cells
    obtain ⟨x0c,x1c,x2c⟩:=hx.c
    simp only at x0c x1c x2c
    have hxl:=hx.lt
    have hol : outL.length <= R0.length:=by rw [<- hgo,List.length_append]; omega
    have hwG : G + 1 <= wr.heap.size:=hs.le
    have hrl : (outL.map rR).length < 1000000:=by rw [List.length_map]; omega
    by_cases hjn : j < lv.length
    ·obtain ⟨g,rfl,hgB,hgl,d0,d1,d2⟩:=hra.lv.at3 hjn
     rw [dropC lv j (0,0,0) hjn] at hgo
     generalize lv.getD j (0,0,0) = y at *
     obtain ⟨y1,y2,y3⟩:=y
     simp only at d0 d1 d2
     by_cases e : y1 = x1
     ·subst e
      have hgo2 : (outL ++ [(1,y1,y2,y3,0,0)]) ++ (inR (y1,x2,x3) (lv.drop (j + 1)) ++ rest) = R0:=by
       rw [<- hgo]
       simp [inR,dLf]
      have HS:=Hid.mk (And.intro hs (And.intro hgo2 (And.intro hrl hx)))
      clear hs hgo hgo2 hbx hra hol hrl hx
      go_wp2_with (first | (at_builtin; refine wp_app ei87 rfl _ _ rfl (HS.out.1.out.alloc _) (by rw [size_alloc]; omega) (cR (1,y1,y2,y3,0,0)) rfl (by first | rfl | (simp only [size_alloc]; rfl)) rfl (cR_one _) HS.out.2.2.1 ?_; intro v4 w4 o4 g4 p4))
      exact ⟨⟨j + 1,outL ++ [(1,y1,y2,y3,0,0)],by omega,by go_num,HS.out.2.1,by rw [List.map_append]; exact HS.out.1.app ((Bel.refl wr).alloc _) g4 o4,(HS.out.2.2.2.al _).app g4 p4⟩,by simp [intOf]; omega⟩
     ·have eb : (y1 == x1) = false:=by simp [e]
      have hgo2 : outL ++ (inR (x1,x2,x3) (lv.drop (j + 1)) ++ rest) = R0:=by
       rw [<- hgo]
       simp [inR,e]
      have HS:=Hid.mk (And.intro hs (And.intro hgo2 (And.intro hrl hx)))
      clear hs hgo hgo2 hbx hra hol hrl hx e
      go_wp2_with fail
      exact ⟨⟨j + 1,outL,by omega,by go_num,HS.out.2.1,HS.out.1.al _,HS.out.2.2.2.al _⟩,by simp [intOf]; omega⟩
    ·rw [List.drop_of_length_le (by omega),<- hrest.out] at hgo
     cases x3 with
     | true =>
      have hgo2 : (outL ++ [(7,x1,0,0,0,0)]) ++ ((sp.drop (k + 1)).flatMap (dmR lv) ++ T0) = R0:=by
       rw [<- hgo]
       simp [inR,sealR]
      have HS:=Hid.mk (And.intro hs (And.intro hgo2 hrl))
      clear hs hgo hgo2 hbx hra hol hrl hx
      go_wp2_with (first | (at_builtin; refine wp_app ei87 rfl _ _ rfl HS.out.1.out (by omega) (cR (7,x1,0,0,0,0)) rfl (by first | rfl | (simp only [size_alloc]; rfl)) rfl (cR_one _) HS.out.2.2 ?_; intro v4 w4 o4 g4 p4))
      exact ⟨⟨k + 1,outL ++ [(7,x1,0,0,0,0)],by omega,by go_num,HS.out.2.1,by rw [List.map_append]; exact HS.out.1.app (Bel.refl wr) g4 o4⟩,by simp [intOf]; omega⟩
     | false =>
      have hgo2 : outL ++ ((sp.drop (k + 1)).flatMap (dmR lv) ++ T0) = R0:=by
       rw [<- hgo]
       simp [inR,sealR]
      have HS:=Hid.mk (And.intro hs hgo2)
      clear hs hgo hgo2 hbx hra hol hrl hx
      go_wp2_with fail
      exact ⟨⟨k + 1,outL,by omega,by go_num,HS.out.2,HS.out.1⟩,by simp [intOf]; omega⟩
  ·rw [List.drop_of_length_le (by omega),List.flatMap_nil,List.nil_append,<- hT.out] at hgo
   have HS:=Hid.mk (And.intro hs hgo)
   clear hs hgo hbx hra hol
   go_upto_region 16 with fail
   clear k0 k1 k2 k3
   go_loopw [3,8] (fun v i wr => ∃ (j : Nat) (outL : List R6),j <= bad.length/\i = .int .i64 j/\outL ++ ((bad.drop j).map dBb ++ worn.map dWorn) = R0/\WbS W0 (G + 1) 87 6 v (outL.map rR) wr) (fun _ i _ => bad.length - (intOf i).toNat)
   case atStart => exact ⟨0,outL,Nat.zero_le _,rfl,by simpa using HS.out.2,HS.out.1⟩
   case round =>
    clear HS
    obtain ⟨j,outL,hj,rfl,hgo,hs⟩:=hrel
    obtain ⟨hbx,hra⟩:=C0.out wr hs.bel
    obtain ⟨k0,k1,k2,k3⟩:=hbx.cells
    have hol : outL.length <= R0.length:=by rw [<- hgo,List.length_append]; omega
    have hwG : G + 1 <= wr.heap.size:=hs.le
    have hrl : (outL.map rR).length < 1000000:=by rw [List.length_map]; omega
    by_cases hjn : j < bad.length
    ·obtain ⟨g,rfl,hgB,hgl,d0⟩:=hra.bad.intAt hjn
     rw [dropC bad j 0 hjn] at hgo
     generalize bad.getD j 0 = y at *
     have hgo2 : (outL ++ [dBb y]) ++ ((bad.drop (j + 1)).map dBb ++ worn.map dWorn) = R0:=by
      rw [<- hgo]
      simp
     have HS:=Hid.mk (And.intro hs (And.intro hgo2 hrl))
     clear hs hgo hgo2 hbx hra hol hrl
     go_wp2_with (first | (at_builtin; refine wp_app ei87 rfl _ _ rfl HS.out.1.out (by omega) (cR (dBb y)) rfl (by first | rfl | (simp only [size_alloc]; rfl)) rfl (cR_one _) HS.out.2.2 ?_; intro v4 w4 o4 g4 p4))
     exact ⟨⟨j + 1,outL ++ [dBb y],by omega,by go_num,HS.out.2.1,by rw [List.map_append]; exact HS.out.1.app (Bel.refl wr) g4 o4⟩,by simp [intOf]; omega⟩
    ·rw [List.drop_of_length_le (by omega),List.map_nil,List.nil_append] at hgo
     have HS:=Hid.mk (And.intro hs hgo)
     clear hs hgo hbx hra hol hrl
     go_upto_region 20 with fail
     clear k0 k1 k2 k3
     go_loopw [3,9] (fun v i wr => ∃ (l : Nat) (outL : List R6),l <= worn.length/\i = .int .i64 l/\outL ++ (worn.drop l).map dWorn = R0/\WbS W0 (G + 1) 87 6 v (outL.map rR) wr) (fun _ i _ => worn.length - (intOf i).toNat)
     case atStart => exact ⟨0,outL,Nat.zero_le _,rfl,by simpa using HS.out.2,HS.out.1⟩
     case round =>
      clear HS
      obtain ⟨l,outL,hl,rfl,hgo,hs⟩:=hrel
      obtain ⟨hbx,hra⟩:=C0.out wr hs.bel
      obtain ⟨k0,k1,k2,k3⟩:=hbx.cells
      have hol : outL.length <= R0.length:=by rw [<- hgo,List.length_append]; omega
      have hwG : G + 1 <= wr.heap.size:=hs.le
      have hrl : (outL.map rR).length < 1000000:=by rw [List.length_map]; omega
      by_cases hln : l < worn.length
      ·obtain ⟨g,rfl,hgB,hgl,d0,d1⟩:=hra.worn.at2 hln
       rw [dropC worn l (0,0) hln] at hgo
       generalize worn.getD l (0,0) = y at *
       have hgo2 : (outL ++ [dWorn y]) ++ (worn.drop (l + 1)).map dWorn = R0:=by
        rw [<- hgo]
        simp
       obtain ⟨y1,y2⟩:=y
       simp only at d0 d1
       have hgG : g < G:=hG3.out g rfl
       have kG : Hid (∀ w',wr.grownBy w' u3.ownBlock -> w'.cell? ⟨G,3,none⟩ = some (.slice (some ⟨g,0,none⟩) worn.length c3)/\w'.cell? ⟨g,l * 2,none⟩ = some (.int .i64 y1)/\w'.cell? ⟨g,l * 2 + 1,none⟩ = some (.int .i64 y2)):=fun w' q => by
        have nb : ∀ j,j < G + 1 -> u3.ownBlock ≠ some j:=fun j hj e => by have:=(hs.out.lt j e).1; omega
        exact ⟨(q.cell_far ⟨G,3,none⟩ (by show G < _; omega) (fun e => nb G (by omega) e.symm)).trans k3,(q.cell_far ⟨g,l * 2,none⟩ (by show g < _; omega) (fun e => nb g (by omega) e.symm)).trans d0,(q.cell_far ⟨g,l * 2 + 1,none⟩ (by show g < _; omega) (fun e => nb g (by omega) e.symm)).trans d1⟩
       have HS:=Hid.mk (And.intro hs (And.intro hgo2 hrl))
       clear hs hgo hgo2 hbx hra hol hrl k0 k1 k2
       go_upto_region 22 with fail
       go_region_held3 (fun w' => w'.cell? ⟨G,3,none⟩ = some (.slice (some ⟨g,0,none⟩) worn.length c3)/\w'.cell? ⟨g,l * 2,none⟩ = some (.int .i64 y1)/\w'.cell? ⟨g,l * 2 + 1,none⟩ = some (.int .i64 y2))
        (first | assumption | exact ⟨k3,d0,d1⟩ | exact kG.out _ (gdr (by assumption)) | exact kG.out _ (gdl wr _ _) | fail)
        (first | (refine step_app (w:=wr.drew) ei87 (by rfl) _ _ (by rfl) (HS.out.1.dr 1).out (HS.out.1.dr 1).le (cR (dWorn (y1,y2))) (by rfl) (by rfl) (by rfl) (cR_one _) HS.out.2.2 ?_; intro v4 w4 o4 g4 p4))
       go_wp2_with fail
       exact ⟨⟨l + 1,outL ++ [dWorn (y1,y2)],by omega,by go_num,HS.out.2.1,by rw [List.map_append]; exact HS.out.1.app (Bel.refl _) (gdr g4) o4⟩,by simp [intOf]; omega⟩
      ·rw [List.drop_of_length_le (by omega),List.map_nil,List.append_nil] at hgo
       subst hgo
       have HS:=Hid.mk hs
       clear hs hbx hra hol hrl
       go_wp2_with fail
       go_ret
       have:=hG.out
       subst this
       exact ⟨_,rfl,HS.out.out.lower (by omega),below3 hW0.out HS.out.bel⟩
end Go.Proofs.YtaphpdmfjnhlaaaGreatDoor.S8
