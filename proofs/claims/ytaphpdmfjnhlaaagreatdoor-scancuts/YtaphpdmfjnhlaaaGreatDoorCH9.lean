/-
  The program's answers and the answer's own, alike: how many pages, places, the dump. No condition. Same: a state has just what the answer's has. No condition. What a state tells makes the same state of nothing: said plainly. No condition.
-/
import Derived.Test.YtaphpdmfjnhlaaaGreatDoorCH8
import Derived.Test.YtaphpdmfjnhlaaaGreatDoorCH5
namespace Go.Proofs.YtaphpdmfjnhlaaaGreatDoor.S8
open Go Go.RowKit Go.Maps Gp Pg We
theorem lvA_len : ∀ l : List Asp,(lvA l).length = pagesN l
 | [] => rfl
 | x :: r => by
  rw [lvA,List.length_append,lvA_len r]
  unfold lvx
  rw [List.length_map]
  rfl
theorem mdel_len : ∀ {m : Pl},Up m -> ∀ {k v : Int},mget m k = some v -> m.length = (mdel m k).length + 1
 | [],_,_,_,h => by simp [mget] at h
 | p :: r,hu,k,v,h => by
  rw [mdel_cons]
  by_cases e : p.1 = k
  ·rw [if_pos e,mdel_none (fun q hq => by rw [<- e]; exact up_ne hu q hq),List.length_cons]
  ·rw [mget_cons,if_neg e] at h
   rw [if_neg e,List.length_cons,List.length_cons,mdel_len (List.pairwise_cons.1 hu).2 h]
theorem fstL_iff (l : List L3) (k : Nat) : fstL l k k = true ↔ cL (at3 l k) (l.take k) = 0:=by
 unfold fstL cL
 rw [List.all_eq_true,List.length_eq_zero_iff,List.filter_eq_nil_iff]
 simp
theorem nL_is (l : List L3) : ∀ (k : Nat),k <= l.length -> ∀ {m : Pl},Up m -> (∀ a,(mget m a).isSome = true ↔ cL a (l.take k) ≠ 0) -> m.length = nL l k
 | 0,_,m,_,h => by
  cases m with
  | nil => rfl
  | cons p r =>
   have:=(h p.1).1 (by rw [mget_cons,if_pos rfl]; rfl)
   simp [cL] at this
 | k + 1,hk,m,hu,h => by
  have hs:=fun a => cL_snoc a l k (by omega)
  rw [nL]
  by_cases hf : fstL l k k = true
  ·rw [if_pos hf]
   have h0:=(fstL_iff l k).1 hf
   have h1:=hs (at3 l k)
   rw [show (l.getD k (0,0,0)).2.2 = at3 l k from rfl,if_pos rfl,h0] at h1
   obtain ⟨v,hv⟩:=Option.isSome_iff_exists.1 ((h (at3 l k)).2 (by omega))
   rw [mdel_len hu hv,nL_is l k (by omega) (up_del hu (at3 l k)) (fun a => ?_)]
   by_cases e : a = at3 l k
   ·rw [e,mget_del_same]
    simp [h0]
   ·rw [mget_del_ne e,h a]
    have h2:=hs a
    rw [show (l.getD k (0,0,0)).2.2 = at3 l k from rfl,if_neg (fun q => e q.symm)] at h2
    omega
  ·rw [if_neg hf]
   have h0 : cL (at3 l k) (l.take k) ≠ 0:=fun e => hf ((fstL_iff l k).2 e)
   refine nL_is l k (by omega) hu (fun a => ?_)
   rw [h a]
   have h2:=hs a
   rw [show (l.getD k (0,0,0)).2.2 = at3 l k from rfl] at h2
   by_cases e : at3 l k = a
   ·rw [if_pos e] at h2
    rw [e] at h0
    omega
   ·rw [if_neg e] at h2
    omega
theorem nL_refs {l : List Asp} {m : Pl} (h : RefsIs m (cntA l)) (hu : Up m) : nL (lvA l) (lvA l).length = m.length:=by
 refine (nL_is (lvA l) _ (Nat.le_refl _) hu (fun a => ?_)).symm
 rw [List.take_length,cL_lvA,h.get]
 by_cases e : cntA l a = 0 <;> simp [e]
theorem fil_skip {x : Int} {l : List Asp} (h : ∀ y ∈ l,y.id ≠ x) : (lvA l).filter (fun y => decide (y.1 = x)) = []:=by
 refine List.filter_eq_nil_iff.2 (fun z hz => ?_)
 obtain ⟨u,hu,q,_⟩:=lvA_mem hz
 have:=h u hu
 simp [q,this]
theorem fil_lvA {x : Asp} : ∀ {l : List Asp},UpA l -> x ∈ l -> (lvA l).filter (fun y => decide (y.1 = x.id)) = lvx x
 | [],_,h => by cases h
 | y :: r,hu,h => by
  rw [lvA,List.filter_append]
  rcases List.mem_cons.1 h with rfl | h
  ·rw [fil_skip (upA_ne hu),List.append_nil]
   exact List.filter_eq_self.2 (fun z hz => by simp [(lvx_mem hz).1])
  ·have h3:=(List.pairwise_cons.1 hu).1 x h
   rw [fil_lvA (List.pairwise_cons.1 hu).2 h,List.filter_eq_nil_iff.2 (fun z hz => by have q:=(lvx_mem hz).1; simp; omega),List.nil_append]
theorem pL_lvA {x : Asp} {l : List Asp} (hu : UpA l) (h : x ∈ l) : pL x.id (lvA l) = x.ps.length:=by
 unfold pL
 rw [fil_lvA hu h]
 unfold lvx
 rw [List.length_map]
theorem flat_congr {α β : Type} {f g : α -> List β} : ∀ {l : List α},(∀ x ∈ l,f x = g x) -> l.flatMap f = l.flatMap g
 | [],_ => rfl
 | x :: r,h => by rw [List.flatMap_cons,List.flatMap_cons,h x (by simp),flat_congr (fun y hy => h y (by simp [hy]))]
theorem dump_same {t : Ab} (h : InvA t) : dumpR (rs t) = dumpA t:=by
 unfold dumpR dumpA rs
 simp only [List.append_assoc,List.map_map]
 congr 1
 rw [List.flatMap_map]
 refine flat_congr (fun x hx => ?_)
 unfold dmR dmA inR
 have:=fil_lvA h.up hx
 show (4,x.id,0,0,0,x.q) :: (((lvA t.sp).filter fun y => decide (y.1 = x.id)).map (dLf x.id) ++ sealR (fS x)) = _
 rw [this]
 unfold lvx
 rw [List.map_map]
 rfl
theorem lens_rs {t : Ab} (h : InvA t) : Lens (rs t):=by
 have h1:=h.len
 have h2:=h.blen
 have h3:=h.wlen
 have h4 : ∀ l : List Asp,(∀ x ∈ l,x.ps.length <= 1024) -> (lvA l).length <= l.length * 1024:=by
  intro l
  induction l with
  | nil => intro _; simp [lvA]
  | cons x r ih =>
   intro hl
   have:=hl x (by simp)
   have:=ih (fun y hy => hl y (by simp [hy]))
   rw [lvA,List.length_append]
   unfold lvx
   rw [List.length_map,List.length_cons]
   omega
 have h5:=h4 t.sp (fun x hx => h.plen hx)
 unfold Lens rs
 simp only [List.length_map]
 omega
theorem dump_rs {t : Ab} (h : InvA t) : (dumpR (rs t)).length < 900000:=by
 rw [dump_same h]
 have:=du_len h t.sp.length t.bad.length t.worn.length
 rw [du_all,List.length_map] at this
 omega
end Go.Proofs.YtaphpdmfjnhlaaaGreatDoor.S8
namespace Go.Proofs.YtaphpdmfjnhlaaaGreatDoor.S8
open Go Go.RowKit Go.Maps Gp Pg We
theorem get_lv {t : Ab} (h : InvA t) {y : L3} (hy : y ∈ lvA t.sp) : getA t y.1 y.2.1 = some y.2.2/\K64 y.1/\K64 y.2.1/\K64 y.2.2:=by
 obtain ⟨x,hx,q,hp⟩:=lvA_mem hy
 have h1:=h.ids x hx
 have h2:=h.qs x hx
 have h3:=h.pss x hx _ hp
 refine ⟨?_,k64 (by omega) (by omega),k64 (by omega) (by omega),k64 (by omega) (by omega)⟩
 unfold getA
 rw [q,gA_mem h.up hx]
 exact mem_mget (h.ups x hx) hp
theorem r5 {a b c d e : Prop} (h : a/\b/\c/\d/\e) : e:=h.2.2.2.2
theorem r4 {a b c d : Prop} (h : a/\b/\c/\d) : d:=h.2.2.2
theorem r6 {a b c d e f : Prop} (h : a/\b/\c/\d/\e/\f) : f:=h.2.2.2.2.2
structure SmF (s : St) (B G : Nat) (v0 v1 v2 v3 vl : Value) (Bl : Nat) (W : World) : Prop where
 box : Box4 W G v0 v1 v2 v3
 at' : RAt W B v0 v1 v2 v3 (rs (ab s))
 ls : Ow W Bl 108 4 vl ((ab s).sp.map svR)
 st : Whole W s
theorem SmF.call {s B G v0 v1 v2 v3 vl Bl W W'} (h : SmF s B G v0 v1 v2 v3 vl Bl W) (b : Below W.heap.size W W') : SmF s B G v0 v1 v2 v3 vl Bl W':=⟨h.box.call b,h.at'.call b,h.ls.call b,h.st.call b⟩
set_option maxRecDepth 20000 in
set_option maxHeartbeats 4000000 in
theorem same_any {w : World} {s : St} {B v0 v1 v2 v3} (h : Whole w s) (hr : RAt w B v0 v1 v2 v3 (rs (ab s))) : Calls Tryz.prog 12 #[.pointer (some ⟨s.p,0,none⟩),.agg #[v0,v1,v2,v3]] w fun e w' => e = .returned (.bool true)/\Below w.heap.size w w':=by
 have hinv:=h.inv
 obtain ⟨a0,c0,rfl⟩:=hr.sp.form
 obtain ⟨a1,c1,rfl⟩:=hr.lv.form
 obtain ⟨a2,c2,rfl⟩:=hr.bad.form
 obtain ⟨a3,n3,c3,rfl⟩:=hr.worn.isSl
 have e0 : ((rs (ab s)).sp.map rS).length = (ab s).sp.length:=by simp [rs]
 have e1 : ((rs (ab s)).lv.map rL).length = pagesN (ab s).sp:=by rw [List.length_map]; exact lvA_len _
 have e2 : (rI (rs (ab s)).bad).length = (ab s).bad.length:=by rw [rI_len]; simp [rs]
 rw [e0,e1,e2] at hr |-
 clear e0 e1 e2
 have F0 : SmF s B w.heap.size (.slice a0 (ab s).sp.length c0) (.slice a1 (pagesN (ab s).sp) c1) (.slice a2 (ab s).bad.length c2) (.slice a3 n3 c3) (.slice none 0 0) 0 w -> True:=fun _ => trivial
 clear F0
 have hsps:=fun o => spaces_any (h.call (below_al w o))
 have H:=Hid.mk (And.intro h hr)
 have HP:=Hid.mk hsps
 clear h hr hsps
 go_enter Tryz.func12,Tryz.ntmps12
 go_upto_region 2 with (first | (go_at_call 39; refine (HP.out _).mono ?_; rintro e w1 ⟨vl,rfl,ol,bl⟩))
 obtain ⟨la,lc,rfl⟩:=ol.form
 rw [List.length_map] at ol |-
 have b0:=below_al w (.cells #[.slice a0 (ab s).sp.length c0,.slice a1 (pagesN (ab s).sp) c1,.slice a2 (ab s).bad.length c2,.slice a3 n3 c3] 38)
 have bw : Below w.heap.size w w1:=below3 b0 bl
 have FA : Hid (∀ W,Below w1.heap.size w1 W -> SmF s B w.heap.size (.slice a0 (ab s).sp.length c0) (.slice a1 (pagesN (ab s).sp) c1) (.slice a2 (ab s).bad.length c2) (.slice a3 n3 c3) (.slice la (ab s).sp.length lc) (w.heap.size + 1) W):=fun W b => by
  refine SmF.call (W:=w1) ⟨(Box4.fresh w _ _ _ _).call bl,H.out.2.call bw,?_,H.out.1.call bw⟩ b
  rw [size_alloc] at ol
  exact ol
 have hbw:=Hid.mk (And.intro bw hinv)
 clear b0 bw bl ol H HP hinv
 generalize hG : w.heap.size = G at *
 replace hG:=Hid.mk hG
 have C26 : ∀ W,Below w1.heap.size w1 W -> Calls Tryz.prog 40 #[.pointer (some ⟨s.p,0,none⟩)] W fun e w' => e = .returned (.int .i64 (pagesN (ab s).sp : Int))/\Below W.heap.size W w':=fun W b => keys_any (FA.out W b).st
 have C25 : ∀ W,Below w1.heap.size w1 W -> Calls Tryz.prog 41 #[.pointer (some ⟨s.p,0,none⟩)] W fun e w' => e = .returned (.int .i64 (s.refs.length : Int))/\W = w':=fun W b => live_any (FA.out W b).st.at'
 have C20 : ∀ W,Below w1.heap.size w1 W -> Calls Tryz.prog 43 #[.pointer (some ⟨s.p,0,none⟩)] W fun e w' => e = .returned (.int .i64 ((ab s).bad.length : Int))/\W = w':=fun W b => bads_any (FA.out W b).st.at'
 have C38 : ∀ W,Below w1.heap.size w1 W -> Calls Tryz.prog 42 #[.agg #[.slice a0 (ab s).sp.length c0,.slice a1 (pagesN (ab s).sp) c1,.slice a2 (ab s).bad.length c2,.slice a3 n3 c3]] W fun e w' => e = .returned (.int .i64 (s.refs.length : Int))/\Below W.heap.size W w':=fun W b => by
  have F:=FA.out W b
  have q:=rlive_any F.at' (by have:=(lens_rs F.st.inv).2.1; omega)
  rw [show nL (rs (ab s)).lv (rs (ab s)).lv.length = s.refs.length from nL_refs F.st.refs F.st.at'.hR.up] at q
  exact q
 have kS : Hid (∀ w',Below w1.heap.size w1 w' -> w'.cell? ⟨G,0,none⟩ = some (.slice a0 (ab s).sp.length c0)/\w'.cell? ⟨G,1,none⟩ = some (.slice a1 (pagesN (ab s).sp) c1)/\w'.cell? ⟨G,2,none⟩ = some (.slice a2 (ab s).bad.length c2)/\w'.cell? ⟨G,3,none⟩ = some (.slice a3 n3 c3)/\Below w1.heap.size w1 w'):=fun w' q => by
  obtain ⟨q0,q1,q2,q3⟩:=(FA.out w' q).box.cells
  exact ⟨q0,q1,q2,q3,q⟩
 have HC:=Hid.mk (And.intro C26 (And.intro C25 (And.intro C38 C20)))
 clear C26 C25 C38 C20
 generalize hn : (ab s).sp.length = n at *
 generalize hnl : pagesN (ab s).sp = nl at *
 generalize hnb : (ab s).bad.length = nb at *
 generalize hnr : (s.refs : Pl).length = nr at *
 have hn15 : n <= 15:=by have:=hbw.out.2.len; omega
 replace hn:=Hid.mk hn
 replace hnl:=Hid.mk hnl
 replace hnb:=Hid.mk hnb
 clear hnr
 go_region_held3 (fun w' => w'.cell? ⟨G,0,none⟩ = some (.slice a0 n c0)/\w'.cell? ⟨G,1,none⟩ = some (.slice a1 nl c1)/\w'.cell? ⟨G,2,none⟩ = some (.slice a2 nb c2)/\w'.cell? ⟨G,3,none⟩ = some (.slice a3 n3 c3)/\Below w1.heap.size w1 w')
  (first | assumption | exact kS.out _ (Below.refl _ w1) | exact kS.out _ (Below.refl _ w1).drew | exact kS.out _ (below3 (r5 (by assumption)) (by assumption)) | fail)
  (first | (go_at_call 40; refine (HC.out.1 _ (r5 (by assumption))).mono ?_; rintro e w5 ⟨rfl,b5⟩) | (go_at_call 41; refine (HC.out.2.1 _ (r5 (by assumption))).mono ?_; rintro e w6 ⟨rfl,rfl⟩) | (go_at_call 42; refine (HC.out.2.2.1 _ (r5 (by assumption))).mono ?_; rintro e w7 ⟨rfl,b7⟩) | (go_at_call 43; refine (HC.out.2.2.2 _ (r5 (by assumption))).mono ?_; rintro e w8 ⟨rfl,rfl⟩))
 have hb : Below w1.heap.size w1 w7:=r5 (by assumption)
 replace hb:=Hid.mk hb
 clear b5 b7 HC kS
 go_upto_region 5 with fail
 go_loopw [6] (fun i wr => ∃ k : Nat,k <= n/\i = .int .i64 k/\Below w1.heap.size w1 wr) (fun i _ => n - (intOf i).toNat)
 case atStart => exact ⟨0,Nat.zero_le _,rfl,hb.out⟩
 case round =>
  clear hb
  obtain ⟨k,hk,rfl,hb⟩:=hrel
  have F:=FA.out wr hb
  obtain ⟨k0,k1,k2,k3⟩:=F.box.cells
  have hGl:=F.box.lt
  by_cases hkn : k < n
  ·have hka : k < (ab s).sp.length:=by have:=hn.out; omega
   have hkl : k < s.sp.length:=by simpa [ab] using hka
   have hx:=List.getElem_mem hkl
   have hxa : (ab s).sp[k] = (s.sp[k]).a:=by simp [ab]
   obtain ⟨g,rfl,hgB,hgl,d0,d1,d2⟩:=F.at'.sp.at3s (j:=k) (by simp only [rs,List.length_map]; exact hka)
   have hge : (rs (ab s)).sp.getD k (0,0,false) = fS (s.sp[k]).a:=by
    rw [<- hxa]
    simp only [rs]
    rw [List.getD_eq_getElem?_getD,List.getElem?_map,List.getElem?_eq_getElem hka]; rfl
   obtain ⟨gl,rfl,hglB,hgll,hlc⟩:=F.ls.at (j:=k) (by rw [List.length_map]; exact hka)
   have hle : ((ab s).sp.map svR).getD k [] = svR (s.sp[k]).a:=by
    rw [<- hxa,List.getD_eq_getElem?_getD,List.getElem?_map,List.getElem?_eq_getElem hka]; rfl
   rw [hge] at d0 d1 d2
   rw [hle] at hlc
   generalize s.sp[k] = x at *
   replace d0 : wr.cell? ⟨g,k * 3,none⟩ = some (.int .i64 x.id):=d0
   replace d1 : wr.cell? ⟨g,k * 3 + 1,none⟩ = some (.int .i64 x.q):=d1
   replace d2 : wr.cell? ⟨g,k * 3 + 2,none⟩ = some (.bool x.sl):=d2
   have l0 : wr.cell? ⟨gl,k * 4,none⟩ = some (.int .i64 x.id):=hlc 0 (by decide)
   have l1 : wr.cell? ⟨gl,k * 4 + 1,none⟩ = some (.int .i64 x.q):=hlc 1 (by decide)
   have l2 : wr.cell? ⟨gl,k * 4 + 2,none⟩ = some (.int .i64 (x.ps.length : Int)):=hlc 2 (by decide)
   have l3 : wr.cell? ⟨gl,k * 4 + 3,none⟩ = some (.bool x.sl):=hlc 3 (by decide)
   have hgx : gsp s.sp x.id = some x:=by
    have h1 : (gsp s.sp x.id).isSome = true:=by unfold gsp; rw [List.find?_isSome]; exact ⟨x,hx,by simp⟩
    obtain ⟨y,hy⟩:=Option.isSome_iff_exists.1 h1
    rw [hy,up_one F.st.at'.hS.up (gsp_some hy).1 hx (gsp_some hy).2]
   have C21 : ∀ W,Below w1.heap.size w1 W -> Calls Tryz.prog 44 #[.pointer (some ⟨s.p,0,none⟩),.int .i64 x.id] W fun e w' => e = .returned (.tuple #[sv x.id x.q (x.ps.length : Int) x.sl,.bool true])/\Below W.heap.size W w':=fun W b => space_some (FA.out W b).st.at' (k15 (hbw.out.2.ids _ (ab_mem hx))) hgx
   have C39 : ∀ W,Below w1.heap.size w1 W -> Calls Tryz.prog 45 #[.agg #[.slice (some ⟨g,0,none⟩) n c0,.slice a1 nl c1,.slice a2 nb c2,.slice a3 n3 c3],.int .i64 x.id] W fun e w' => e = .returned (.int .i64 (x.ps.length : Int))/\Below W.heap.size W w':=fun W b => by
    have q:=rpages_any (FA.out W b).at' (by have:=(lens_rs hbw.out.2).2.1; omega) x.id
    rw [show pL x.id (rs (ab s)).lv = x.ps.length from pL_lvA hbw.out.2.up (ab_mem hx)] at q
    exact q
   generalize (x.ps.length : Int) = m at *
   have HK:=Hid.mk (And.intro C21 (And.intro C39 (And.intro hb (And.intro F (And.intro l0 (And.intro l1 (And.intro l2 l3)))))))
   clear C21 C39 hgx hlc hle hge hxa hkl hka F
   go_upto_region 9 with (first | (go_at_call 44; refine (HK.out.1 _ (below3 hb (below_al wr _))).mono ?_; rintro e w2 ⟨rfl,b2⟩; unfold sv svC))
   have X8 : (w2.alloc (.cells #[.int .i64 x.id,.int .i64 x.q,.int .i64 m,.bool x.sl] 108)).heap[wr.heap.size]? = some (.cells #[.int .i64 x.id,.int .i64 x.q,.bool x.sl] 106 (0,0)):=by
    have h1 : wr.heap.size < (wr.alloc (.cells #[.int .i64 x.id,.int .i64 x.q,.bool x.sl] 106)).heap.size:=by rw [size_alloc]; omega
    exact ((Below.heap_alloc w2 _ _ (Nat.lt_of_lt_of_le h1 b2.size)).trans (b2.block _ h1)).trans (heap_alloc_new wr _)
   have Y8 : (w2.alloc (.cells #[.int .i64 x.id,.int .i64 x.q,.int .i64 m,.bool x.sl] 108)).heap[w2.heap.size]? = some (.cells #[.int .i64 x.id,.int .i64 x.q,.int .i64 m,.bool x.sl] 108 (0,0)):=heap_alloc_new w2 _
   have B8 : Below wr.heap.size wr (w2.alloc (.cells #[.int .i64 x.id,.int .i64 x.q,.int .i64 m,.bool x.sl] 108)):=below3 (below3 (below_al wr _) b2) (below_al w2 _)
   generalize w2.alloc (.cells #[.int .i64 x.id,.int .i64 x.q,.int .i64 m,.bool x.sl] 108) = W8 at *
   have kS : Hid (∀ w',Below W8.heap.size W8 w' -> Below w1.heap.size w1 w'/\(w'.cell? ⟨G,0,none⟩ = some (.slice (some ⟨g,0,none⟩) n c0)/\w'.cell? ⟨G,1,none⟩ = some (.slice a1 nl c1)/\w'.cell? ⟨G,2,none⟩ = some (.slice a2 nb c2)/\w'.cell? ⟨G,3,none⟩ = some (.slice a3 n3 c3))/\(w'.cell? ⟨wr.heap.size,0,none⟩ = some (.int .i64 x.id)/\w'.cell? ⟨wr.heap.size,1,none⟩ = some (.int .i64 x.q)/\w'.cell? ⟨wr.heap.size,2,none⟩ = some (.bool x.sl))/\(w'.cell? ⟨w2.heap.size,0,none⟩ = some (.int .i64 x.id)/\w'.cell? ⟨w2.heap.size,1,none⟩ = some (.int .i64 x.q)/\w'.cell? ⟨w2.heap.size,2,none⟩ = some (.int .i64 m)/\w'.cell? ⟨w2.heap.size,3,none⟩ = some (.bool x.sl))/\(w'.cell? ⟨gl,k * 4,none⟩ = some (.int .i64 x.id)/\w'.cell? ⟨gl,k * 4 + 1,none⟩ = some (.int .i64 x.q)/\w'.cell? ⟨gl,k * 4 + 2,none⟩ = some (.int .i64 m)/\w'.cell? ⟨gl,k * 4 + 3,none⟩ = some (.bool x.sl))/\Below W8.heap.size W8 w'):=fun w' q => by
    have q2:=below3 B8 q
    have q3:=below3 HK.out.2.2.1 q2
    have hX:=(q.block _ (Array.getElem?_eq_some_iff.1 X8).1).trans X8
    have hY:=(q.block _ (Array.getElem?_eq_some_iff.1 Y8).1).trans Y8
    refine ⟨q3,(FA.out w' q3).box.cells,⟨?_,?_,?_⟩,⟨?_,?_,?_,?_⟩,⟨?_,?_,?_,?_⟩,q⟩
    ·rw [cell_of_row w' _ 0 _ 106 _ hX]; rfl
    ·rw [cell_of_row w' _ 1 _ 106 _ hX]; rfl
    ·rw [cell_of_row w' _ 2 _ 106 _ hX]; rfl
    ·rw [cell_of_row w' _ 0 _ 108 _ hY]; rfl
    ·rw [cell_of_row w' _ 1 _ 108 _ hY]; rfl
    ·rw [cell_of_row w' _ 2 _ 108 _ hY]; rfl
    ·rw [cell_of_row w' _ 3 _ 108 _ hY]; rfl
    ·exact (q2.cell (p:=⟨gl,k * 4,none⟩) hgll).trans HK.out.2.2.2.2.1
    ·exact (q2.cell (p:=⟨gl,k * 4 + 1,none⟩) hgll).trans HK.out.2.2.2.2.2.1
    ·exact (q2.cell (p:=⟨gl,k * 4 + 2,none⟩) hgll).trans HK.out.2.2.2.2.2.2.1
    ·exact (q2.cell (p:=⟨gl,k * 4 + 3,none⟩) hgll).trans HK.out.2.2.2.2.2.2.2
   clear X8 Y8 B8 k0 k1 k2 k3 d0 d1 d2 l0 l1 l2 l3 b2 hb
   generalize wr.heap.size = gx at *
   generalize w2.heap.size = gy at *
   generalize x.id = x1 at *
   generalize x.q = x2 at *
   generalize x.sl = x3 at *
   as_aux_lemma =>
    go_region_held3 (fun w' => Below w1.heap.size w1 w'/\(w'.cell? ⟨G,0,none⟩ = some (.slice (some ⟨g,0,none⟩) n c0)/\w'.cell? ⟨G,1,none⟩ = some (.slice a1 nl c1)/\w'.cell? ⟨G,2,none⟩ = some (.slice a2 nb c2)/\w'.cell? ⟨G,3,none⟩ = some (.slice a3 n3 c3))/\(w'.cell? ⟨gx,0,none⟩ = some (.int .i64 x1)/\w'.cell? ⟨gx,1,none⟩ = some (.int .i64 x2)/\w'.cell? ⟨gx,2,none⟩ = some (.bool x3))/\(w'.cell? ⟨gy,0,none⟩ = some (.int .i64 x1)/\w'.cell? ⟨gy,1,none⟩ = some (.int .i64 x2)/\w'.cell? ⟨gy,2,none⟩ = some (.int .i64 m)/\w'.cell? ⟨gy,3,none⟩ = some (.bool x3))/\(w'.cell? ⟨gl,k * 4,none⟩ = some (.int .i64 x1)/\w'.cell? ⟨gl,k * 4 + 1,none⟩ = some (.int .i64 x2)/\w'.cell? ⟨gl,k * 4 + 2,none⟩ = some (.int .i64 m)/\w'.cell? ⟨gl,k * 4 + 3,none⟩ = some (.bool x3))/\Below W8.heap.size W8 w')
     (first | assumption | exact kS.out _ (Below.refl _ W8) | exact kS.out _ (Below.refl _ W8).drew | exact kS.out _ (below3 (r6 (by assumption)) (by assumption)) | fail)
     (first | (go_at_call 45; refine (HK.out.2.1 _ (And.left (by assumption))).mono ?_; rintro e w9 ⟨rfl,b9⟩))
    have hb9 : Hid (Below w1.heap.size w1 w9):=And.left (by assumption)
    clear b9 kS HK
    go_wp2_with fail
    exact ⟨⟨k + 1,by omega,by go_num,hb9.out⟩,by simp [intOf]; omega⟩
  ·have hk2 : k = n:=by omega
   subst hk2
   have HB:=Hid.mk hb
   clear hb F
   go_upto_region 12 with fail
   clear k0 k1 k2 k3
   go_loopw [10] (fun i wr => ∃ j : Nat,j <= nl/\i = .int .i64 j/\Below w1.heap.size w1 wr) (fun i _ => nl - (intOf i).toNat)
   case atStart => exact ⟨0,Nat.zero_le _,rfl,HB.out⟩
   case round =>
    clear HB
    obtain ⟨j,hj,rfl,hb⟩:=hrel
    have F:=FA.out wr hb
    obtain ⟨k0,k1,k2,k3⟩:=F.box.cells
    have hGl2:=F.box.lt
    by_cases hjn : j < nl
    ·have hjl : j < (lvA (ab s).sp).length:=by rw [lvA_len]; have:=hnl.out; omega
     obtain ⟨g,rfl,hgB,hgl,d0,d1,d2⟩:=F.at'.lv.at3 (j:=j) hjl
     have hy : (rs (ab s)).lv.getD j (0,0,0) ∈ lvA (ab s).sp:=by
      show (lvA (ab s).sp).getD j (0,0,0) ∈ _
      rw [List.getD_eq_getElem?_getD,List.getElem?_eq_getElem hjl]
      exact List.getElem_mem hjl
     generalize (rs (ab s)).lv.getD j (0,0,0) = y at *
     obtain ⟨hg1,hg2,hg3,hg4⟩:=get_lv hbw.out.2 hy
     obtain ⟨y1,y2,y3⟩:=y
     simp only at d0 d1 d2 hg1 hg2 hg3 hg4
     have C13 : ∀ W,Below w1.heap.size w1 W -> Calls Tryz.prog 28 #[.pointer (some ⟨s.p,0,none⟩),.int .i64 y1,.int .i64 y2] W fun e w' => e = .returned (.tuple #[.int .i64 y3,.bool true])/\W = w':=fun W b => by
      have q:=get_any (FA.out W b).st.at' hg2 hg3
      rw [hg1] at q
      exact q
     have C24 : ∀ W,Below w1.heap.size w1 W -> Calls Tryz.prog 46 #[.pointer (some ⟨s.p,0,none⟩),.int .i64 y3] W fun e w' => e = .returned (.int .i64 (cntA (ab s).sp y3 : Int))/\W = w':=fun W b => by
      have q:=refs_any (FA.out W b).st.at' hg4
      rw [(FA.out W b).st.refs.val] at q
      exact q
     have C40 : ∀ W,Below w1.heap.size w1 W -> Calls Tryz.prog 47 #[.agg #[.slice a0 k c0,.slice (some ⟨g,0,none⟩) nl c1,.slice a2 nb c2,.slice a3 n3 c3],.int .i64 y3] W fun e w' => e = .returned (.int .i64 (cntA (ab s).sp y3 : Int))/\Below W.heap.size W w':=fun W b => by
      have q:=rrefs_any (FA.out W b).at' (by have:=(lens_rs hbw.out.2).2.1; omega) y3
      rw [show cL y3 (rs (ab s)).lv = cntA (ab s).sp y3 from cL_lvA _ _] at q
      exact q
     generalize (cntA (ab s).sp y3 : Int) = m at *
     have HK:=Hid.mk (And.intro C13 (And.intro C24 (And.intro C40 hb)))
     clear C13 C24 C40 F hy hg1 hjl
     go_upto_region 16 with (first | (go_at_call 28; refine (HK.out.1 _ (below3 hb (below_al wr _))).mono ?_; rintro e w2 ⟨rfl,rfl⟩))
     have X8:=heap_alloc_new wr (.cells #[.int .i64 y1,.int .i64 y2,.int .i64 y3] 113)
     have B8:=below_al wr (.cells #[.int .i64 y1,.int .i64 y2,.int .i64 y3] 113)
     generalize wr.alloc (.cells #[.int .i64 y1,.int .i64 y2,.int .i64 y3] 113) = W8 at *
     have kS : Hid (∀ w',Below W8.heap.size W8 w' -> Below w1.heap.size w1 w'/\(w'.cell? ⟨G,0,none⟩ = some (.slice a0 k c0)/\w'.cell? ⟨G,1,none⟩ = some (.slice (some ⟨g,0,none⟩) nl c1)/\w'.cell? ⟨G,2,none⟩ = some (.slice a2 nb c2)/\w'.cell? ⟨G,3,none⟩ = some (.slice a3 n3 c3))/\(w'.cell? ⟨wr.heap.size,0,none⟩ = some (.int .i64 y1)/\w'.cell? ⟨wr.heap.size,1,none⟩ = some (.int .i64 y2)/\w'.cell? ⟨wr.heap.size,2,none⟩ = some (.int .i64 y3))/\Below W8.heap.size W8 w'):=fun w' q => by
      have q3:=below3 HK.out.2.2.2 (below3 B8 q)
      have hX:=(q.block _ (Array.getElem?_eq_some_iff.1 X8).1).trans X8
      refine ⟨q3,(FA.out w' q3).box.cells,⟨?_,?_,?_⟩,q⟩
      ·rw [cell_of_row w' _ 0 _ 113 _ hX]; rfl
      ·rw [cell_of_row w' _ 1 _ 113 _ hX]; rfl
      ·rw [cell_of_row w' _ 2 _ 113 _ hX]; rfl
     clear X8 B8 k0 k1 k2 k3 d0 d1 d2 hb
     generalize wr.heap.size = gx at *
     have hnl2 : nl < 50000:=by have:=(lens_rs hbw.out.2).2.1; have:=lvA_len (ab s).sp; have:=hnl.out; simp only [rs] at *; omega
     as_aux_lemma =>
      go_region_held3 (fun w' => Below w1.heap.size w1 w'/\(w'.cell? ⟨G,0,none⟩ = some (.slice a0 k c0)/\w'.cell? ⟨G,1,none⟩ = some (.slice (some ⟨g,0,none⟩) nl c1)/\w'.cell? ⟨G,2,none⟩ = some (.slice a2 nb c2)/\w'.cell? ⟨G,3,none⟩ = some (.slice a3 n3 c3))/\(w'.cell? ⟨gx,0,none⟩ = some (.int .i64 y1)/\w'.cell? ⟨gx,1,none⟩ = some (.int .i64 y2)/\w'.cell? ⟨gx,2,none⟩ = some (.int .i64 y3))/\Below W8.heap.size W8 w')
       (first | assumption | exact kS.out _ (Below.refl _ W8) | exact kS.out _ (Below.refl _ W8).drew | exact kS.out _ (below3 (r4 (by assumption)) (by assumption)) | fail)
       (first | (go_at_call 46; refine (HK.out.2.1 _ (And.left (by assumption))).mono ?_; rintro e w5 ⟨rfl,rfl⟩) | (go_at_call 47; refine (HK.out.2.2.1 _ (And.left (by assumption))).mono ?_; rintro e w9 ⟨rfl,b9⟩))
      have hb9 : Hid (Below w1.heap.size w1 w9):=And.left (by assumption)
      clear b9 kS HK
      go_wp2_with fail
      exact ⟨⟨j + 1,by omega,by go_num,hb9.out⟩,by simp [intOf]; omega⟩
    ·have hj2 : j = nl:=by omega
     subst hj2
     have hN0:=dump_rs hbw.out.2
     rw [dump_same hbw.out.2] at hN0
     have C16 : ∀ W,Below w1.heap.size w1 W -> Calls Tryz.prog 48 #[.pointer (some ⟨s.p,0,none⟩)] W fun e w' => ∃ a c,e = .returned (.slice a (dumpA (ab s)).length c)/\Ow w' G 87 6 (.slice a (dumpA (ab s)).length c) ((dumpA (ab s)).map rR)/\Below W.heap.size W w':=fun W b => by
      refine (dump_any (FA.out W b).st).mono ?_
      rintro e w' ⟨v,rfl,o,b'⟩
      obtain ⟨a,c,rfl⟩:=o.form
      rw [List.length_map] at o |-
      exact ⟨a,c,rfl,o.lower (Nat.le_of_lt (FA.out W b).box.lt),b'⟩
     have C41 : ∀ W,Below w1.heap.size w1 W -> Calls Tryz.prog 29 #[.agg #[.slice a0 k c0,.slice a1 j c1,.slice a2 nb c2,.slice a3 n3 c3]] W fun e w' => ∃ a c,e = .returned (.slice a (dumpA (ab s)).length c)/\Ow w' G 87 6 (.slice a (dumpA (ab s)).length c) ((dumpA (ab s)).map rR)/\Below W.heap.size W w':=fun W b => by
      have q:=rdump_any (FA.out W b).at' (dump_rs hbw.out.2) (lens_rs hbw.out.2)
      rw [dump_same hbw.out.2] at q
      refine q.mono ?_
      rintro e w' ⟨v,rfl,o,b'⟩
      obtain ⟨a,c,rfl⟩:=o.form
      rw [List.length_map] at o |-
      exact ⟨a,c,rfl,o.lower (Nat.le_of_lt (FA.out W b).box.lt),b'⟩
     generalize hN : (dumpA (ab s)).length = N at *
     replace hN:=Hid.mk hN
     have kS : Hid (∀ w',Below w1.heap.size w1 w' -> Below w1.heap.size w1 w'/\w'.cell? ⟨G,0,none⟩ = some (.slice a0 k c0)/\w'.cell? ⟨G,1,none⟩ = some (.slice a1 j c1)/\w'.cell? ⟨G,2,none⟩ = some (.slice a2 nb c2)/\w'.cell? ⟨G,3,none⟩ = some (.slice a3 n3 c3)):=fun w' q => ⟨q,(FA.out w' q).box.cells⟩
     have HK:=Hid.mk (And.intro C16 (And.intro C41 hb))
     clear C16 C41 hb F
     go_upto_region 18 with fail
     clear k0 k1 k2 k3
     go_region_held3 (fun w' => Below w1.heap.size w1 w'/\w'.cell? ⟨G,0,none⟩ = some (.slice a0 k c0)/\w'.cell? ⟨G,1,none⟩ = some (.slice a1 j c1)/\w'.cell? ⟨G,2,none⟩ = some (.slice a2 nb c2)/\w'.cell? ⟨G,3,none⟩ = some (.slice a3 n3 c3))
      (first | assumption | exact kS.out _ HK.out.2.2 | exact kS.out _ HK.out.2.2.drew | exact kS.out _ (below3 (And.left (by assumption)) (by assumption)) | fail)
      (first | (go_at_call 48; refine (HK.out.1 _ (And.left (by assumption))).mono ?_; rintro e w5 ⟨aa,ca,rfl,o5,b5⟩) | (go_at_call 29; refine (HK.out.2.1 _ (And.left (by assumption))).mono ?_; rintro e w6 ⟨ba,cb,rfl,o6,b6⟩))
     ·have LA : Hid (∀ W,Below w6.heap.size w6 W -> Ow W G 87 6 (.slice aa N ca) ((dumpA (ab s)).map rR)/\Ow W G 87 6 (.slice ba N cb) ((dumpA (ab s)).map rR)):=fun W b => ⟨(o5.call b6).call b,o6.call b⟩
      have hb9 : Hid (Below w1.heap.size w1 w6):=And.left (by assumption)
      clear b5 b6 o5 o6 kS HK
      go_upto_region 22 with fail
      go_loopw [16] (fun i wr => ∃ l : Nat,l <= N/\i = .int .i64 l/\Below w6.heap.size w6 wr) (fun i _ => N - (intOf i).toNat)
      case atStart => exact ⟨0,Nat.zero_le _,rfl,Below.refl _ w6⟩
      case round =>
       obtain ⟨l,hl,rfl,hb⟩:=hrel
       by_cases hln : l < N
       ·have hll : l < ((dumpA (ab s)).map rR).length:=by rw [List.length_map]; have:=hN.out; omega
        obtain ⟨oA,oB⟩:=LA.out wr hb
        obtain ⟨ga,rfl,hgaB,hgal,ha⟩:=oA.at hll
        obtain ⟨gb,rfl,hgbB,hgbl,hbb⟩:=oB.at hll
        have hre : ((dumpA (ab s)).map rR).getD l [] = rR ((dumpA (ab s)).getD l (0,0,0,0,0,0)):=by
         rw [List.length_map] at hll
         rw [List.getD_eq_getElem?_getD,List.getElem?_map,List.getElem?_eq_getElem hll,List.getD_eq_getElem?_getD,List.getElem?_eq_getElem hll]; rfl
        rw [hre] at ha hbb
        generalize (dumpA (ab s)).getD l (0,0,0,0,0,0) = r at *
        obtain ⟨r1,r2,r3,r4,r5,r6⟩:=r
        have p0 : wr.cell? ⟨ga,l * 6,none⟩ = some (.int .i64 r1):=ha 0 (by decide)
        have p1 : wr.cell? ⟨ga,l * 6 + 1,none⟩ = some (.int .i64 r2):=ha 1 (by decide)
        have p2 : wr.cell? ⟨ga,l * 6 + 2,none⟩ = some (.int .i64 r3):=ha 2 (by decide)
        have p3 : wr.cell? ⟨ga,l * 6 + 3,none⟩ = some (.int .i64 r4):=ha 3 (by decide)
        have p4 : wr.cell? ⟨ga,l * 6 + 4,none⟩ = some (.int .i64 r5):=ha 4 (by decide)
        have p5 : wr.cell? ⟨ga,l * 6 + 5,none⟩ = some (.int .i64 r6):=ha 5 (by decide)
        have q0 : wr.cell? ⟨gb,l * 6,none⟩ = some (.int .i64 r1):=hbb 0 (by decide)
        have q1 : wr.cell? ⟨gb,l * 6 + 1,none⟩ = some (.int .i64 r2):=hbb 1 (by decide)
        have q2 : wr.cell? ⟨gb,l * 6 + 2,none⟩ = some (.int .i64 r3):=hbb 2 (by decide)
        have q3 : wr.cell? ⟨gb,l * 6 + 3,none⟩ = some (.int .i64 r4):=hbb 3 (by decide)
        have q4 : wr.cell? ⟨gb,l * 6 + 4,none⟩ = some (.int .i64 r5):=hbb 4 (by decide)
        have q5 : wr.cell? ⟨gb,l * 6 + 5,none⟩ = some (.int .i64 r6):=hbb 5 (by decide)
        have HB:=Hid.mk hb
        clear hb oA oB ha hbb hre hll
        as_aux_lemma =>
         go_upto_region 24 with fail
         go_quiet (fail)
         go_wp2_with fail
         exact ⟨⟨l + 1,by omega,by go_num,below_drewN HB.out⟩,by simp [intOf]; omega⟩
       ·have hl2 : l = N:=by omega
        subst hl2
        have HB:=Hid.mk hb
        clear hb
        go_wp2_with fail
        go_ret
        have:=hG.out
        subst this
        exact ⟨rfl,below3 hbw.out.1 (below3 hb9.out HB.out)⟩
end Go.Proofs.YtaphpdmfjnhlaaaGreatDoor.S8
namespace Go.Proofs.YtaphpdmfjnhlaaaGreatDoor.S8
open Go Go.RowKit Go.Maps Gp Pg We
def plays : Ab -> List R6 -> Ab -> Prop
 | t,[],t' => t = t'
 | t,r :: l,t' => (apR t r).2 = 0/\plays (apR t r).1 l t'
theorem plays_app {l1 l2 : List R6} {t t1 t2 : Ab} (h1 : plays t l1 t1) (h2 : plays t1 l2 t2) : plays t (l1 ++ l2) t2:=by
 induction l1 generalizing t with
 | nil => cases h1; exact h2
 | cons r l ih => exact ⟨h1.1,ih h1.2⟩
theorem plays_one {t t' : Ab} {r : R6} (h : apR t r = (t',0)) : plays t [r] t':=by
 unfold plays plays
 rw [h]
 exact ⟨rfl,rfl⟩
theorem iA_last {x : Asp} : ∀ {l : List Asp},(∀ y ∈ l,y.id < x.id) -> iA x l = l ++ [x]
 | [],_ => rfl
 | y :: r,h => by
  have h1:=h y (by simp)
  rw [iA,if_neg (by omega),iA_last (fun z hz => h z (by simp [hz]))]
  rfl
theorem gA_last {l : List Asp} {x : Asp} (h : ∀ y ∈ l,y.id < x.id) : gA (l ++ [x]) x.id = some x:=by
 have h1 : gA l x.id = none:=by
  unfold gA
  rw [List.find?_eq_none]
  intro y hy
  have:=h y hy
  simp
  omega
 unfold gA at h1 |-
 rw [List.find?_append,h1]
 simp
theorem gA_no {l : List Asp} {i : Int} (h : ∀ y ∈ l,y.id < i) : gA l i = none:=by
 unfold gA
 rw [List.find?_eq_none]
 intro y hy
 have:=h y hy
 simp
 omega
theorem sA_last {l : List Asp} {x x' : Asp} (h : ∀ y ∈ l,y.id < x.id) (e : x'.id = x.id) : sA (l ++ [x]) x' = l ++ [x']:=by
 have h1 : sA l x' = l:=sA_none (fun y hy => by have:=h y hy; omega)
 unfold sA at h1 |-
 rw [List.map_append,h1]
 simp [e]
theorem plays_ps {sp : List Asp} {b w : Pl} {i q : Int} (hi : 1 <= i/\i <= 15) (hq : 1 <= q/\q <= 1024) (hsp : ∀ y ∈ sp,y.id < i) : ∀ (p2 p1 : Pl),Up (p1 ++ p2) -> (∀ p ∈ p2,(0 <= p.1/\p.1 < q)/\0 <= p.2/\p.2 <= 511) →
  plays ⟨sp ++ [⟨i,q,false,p1⟩],b,w⟩ (p2.map (dPut i)) ⟨sp ++ [⟨i,q,false,p1 ++ p2⟩],b,w⟩
 | [],p1,_,_ => by rw [List.append_nil]; rfl
 | p :: r,p1,hu,hp => by
  have hp1 : ∀ u ∈ p1,u.1 < p.1:=fun u hu2 => (List.pairwise_append.1 hu).2.2 u hu2 p (by simp)
  have h0:=hp p (by simp)
  have hm : Gp.mayB 1 i p.1 p.2 0 0 = true:=mayB_iff.2 (Or.inl (by omega))
  have e : apR ⟨sp ++ [⟨i,q,false,p1⟩],b,w⟩ (dPut i p) = (⟨sp ++ [⟨i,q,false,p1 ++ [(p.1,p.2)]⟩],b,w⟩,0):=by
   unfold apR dPut apA
   simp only [hm,Bool.true_eq_false,if_false,if_true]
   rw [gA_last (x:=⟨i,q,false,p1⟩) hsp]
   simp only
   rw [if_neg (by omega),mput_last hp1,sA_last (x:=⟨i,q,false,p1⟩) (x':=⟨i,q,false,p1 ++ [(p.1,p.2)]⟩) hsp rfl]
  have h2:=plays_ps (b:=b) (w:=w) hi hq hsp r (p1 ++ [(p.1,p.2)]) (by rw [List.append_assoc]; exact hu) (fun u hu2 => hp u (by simp [hu2]))
  rw [List.append_assoc] at h2
  have h3:=plays_app (plays_one e) h2
  exact h3
theorem plays_sp {sp : List Asp} {b w : Pl} {x : Asp} (hi : 1 <= x.id/\x.id <= 15) (hq : 1 <= x.q/\x.q <= 1024) (hsp : ∀ y ∈ sp,y.id < x.id) (hu : Up x.ps) (hp : ∀ p ∈ x.ps,(0 <= p.1/\p.1 < x.q)/\0 <= p.2/\p.2 <= 511) :
  plays ⟨sp,b,w⟩ (dmA x) ⟨sp ++ [x],b,w⟩:=by
 have hm : Gp.mayB 4 x.id 0 0 0 x.q = true:=mayB_iff.2 (by unfold mayR; omega)
 have e1 : apR ⟨sp,b,w⟩ (4,x.id,0,0,0,x.q) = (⟨sp ++ [⟨x.id,x.q,false,[]⟩],b,w⟩,0):=by
  unfold apR apA
  simp only [hm,Bool.true_eq_false,if_false,if_true,Int.reduceEq]
  rw [gA_no hsp]
  simp only
  rw [iA_last (x:=⟨x.id,x.q,false,[]⟩) hsp]
 have e2:=plays_ps (b:=b) (w:=w) hi hq hsp x.ps [] hu hp
 rw [List.nil_append] at e2
 have h1:=plays_app (plays_one e1) e2
 unfold dmA
 by_cases hs : x.sl = true
 ·rw [if_pos hs]
  have hm7 : Gp.mayB 7 x.id 0 0 0 0 = true:=mayB_iff.2 (by unfold mayR; omega)
  have e3 : apR ⟨sp ++ [⟨x.id,x.q,false,x.ps⟩],b,w⟩ (7,x.id,0,0,0,0) = (⟨sp ++ [x],b,w⟩,0):=by
   unfold apR apA
   simp only [hm7,Bool.true_eq_false,if_false,if_true,Int.reduceEq]
   rw [gA_last (x:=⟨x.id,x.q,false,x.ps⟩) hsp]
   simp only
   rw [sA_last (x:=⟨x.id,x.q,false,x.ps⟩) (x':=⟨x.id,x.q,true,x.ps⟩) hsp rfl]
   have : (⟨x.id,x.q,true,x.ps⟩ : Asp) = x:=by cases x; simp_all
   rw [this]
  have h2:=plays_app h1 (plays_one e3)
  simpa using h2
 ·rw [if_neg hs,List.append_nil]
  have : (⟨x.id,x.q,false,x.ps⟩ : Asp) = x:=by cases x; simp_all
  rw [this] at h1
  exact h1
theorem plays_sps {b w : Pl} : ∀ (s2 s1 : List Asp),UpA (s1 ++ s2) -> (∀ x ∈ s2,(1 <= x.id/\x.id <= 15)/\(1 <= x.q/\x.q <= 1024)/\Up x.ps /\ ∀ p ∈ x.ps,(0 <= p.1/\p.1 < x.q)/\0 <= p.2/\p.2 <= 511) -> plays ⟨s1,b,w⟩ (s2.flatMap dmA) ⟨s1 ++ s2,b,w⟩
 | [],s1,_,_ => by rw [List.append_nil]; rfl
 | x :: r,s1,hu,h => by
  have h0:=h x (by simp)
  have h1:=plays_sp (sp:=s1) (b:=b) (w:=w) h0.1 h0.2.1 (fun y hy => (List.pairwise_append.1 hu).2.2 y hy x (by simp)) h0.2.2.1 h0.2.2.2
  have h2:=plays_sps (b:=b) (w:=w) r (s1 ++ [x]) (by rw [List.append_assoc]; exact hu) (fun y hy => h y (by simp [hy]))
  rw [List.append_assoc] at h2
  rw [List.flatMap_cons]
  exact plays_app h1 h2
theorem plays_bad {sp : List Asp} {w : Pl} : ∀ (b2 b1 : Pl),Up (b1 ++ b2) -> (∀ p ∈ b2,(0 <= p.1/\p.1 <= 31)/\p.2 = 0) -> plays ⟨sp,b1,w⟩ (b2.map dBad) ⟨sp,b1 ++ b2,w⟩
 | [],b1,_,_ => by rw [List.append_nil]; rfl
 | p :: r,b1,hu,h => by
  have h0:=h p (by simp)
  have hb1 : ∀ u ∈ b1,u.1 < p.1:=fun u hu2 => (List.pairwise_append.1 hu).2.2 u hu2 p (by simp)
  have hm : Gp.mayB 8 0 0 p.1 0 0 = true:=mayB_iff.2 (by unfold mayR; omega)
  have e : apR ⟨sp,b1,w⟩ (dBad p) = (⟨sp,b1 ++ [p],w⟩,0):=by
   unfold apR dBad apA
   simp only [hm,Bool.true_eq_false,if_false,if_true,Int.reduceEq]
   rw [mput_last hb1]
   have : (p.1,(0 : Int)) = p:=by rw [<- h0.2]
   rw [this]
  have h2:=plays_bad (sp:=sp) (w:=w) r (b1 ++ [p]) (by rw [List.append_assoc]; exact hu) (fun u hu2 => h u (by simp [hu2]))
  rw [List.append_assoc] at h2
  exact plays_app (plays_one e) h2
theorem plays_worn {sp : List Asp} {b : Pl} : ∀ (w2 w1 : Pl),Up (w1 ++ w2) -> (∀ p ∈ w2,(0 <= p.1/\p.1 <= 31)/\0 <= p.2/\p.2 <= 1073741824) -> plays ⟨sp,b,w1⟩ (w2.map dWorn) ⟨sp,b,w1 ++ w2⟩
 | [],w1,_,_ => by rw [List.append_nil]; rfl
 | p :: r,w1,hu,h => by
  have h0:=h p (by simp)
  have hb1 : ∀ u ∈ w1,u.1 < p.1:=fun u hu2 => (List.pairwise_append.1 hu).2.2 u hu2 p (by simp)
  have hm : Gp.mayB 9 0 0 p.1 0 p.2 = true:=mayB_iff.2 (by unfold mayR; omega)
  have e : apR ⟨sp,b,w1⟩ (dWorn p) = (⟨sp,b,w1 ++ [p]⟩,0):=by
   unfold apR dWorn apA
   simp only [hm,Bool.true_eq_false,if_false,Int.reduceEq]
   rw [(mget_none_iff w1 p.1).2 (fun u hu2 => by have:=hb1 u hu2; omega),mput_last hb1]
   have : max ((none : Option Int).getD 0) p.2 = p.2:=by show max 0 p.2 = p.2; omega
   rw [this]
  have h2:=plays_worn (sp:=sp) (b:=b) r (w1 ++ [p]) (by rw [List.append_assoc]; exact hu) (fun u hu2 => h u (by simp [hu2]))
  rw [List.append_assoc] at h2
  exact plays_app (plays_one e) h2
theorem plays_dump {t : Ab} (h : InvA t) : plays noAb (dumpA t) t:=by
 obtain ⟨sp,b,w⟩:=t
 have h1:=plays_sps (b := []) (w := []) sp [] h.up (fun x hx => ⟨h.ids x hx,h.qs x hx,h.ups x hx,h.pss x hx⟩)
 have h2:=plays_bad (sp:=sp) (w := []) b [] h.upb h.bad
 have h3:=plays_worn (sp:=sp) (b:=b) w [] h.upw h.worn
 rw [List.nil_append] at h1 h2 h3
 exact plays_app (plays_app h1 h2) h3
end Go.Proofs.YtaphpdmfjnhlaaaGreatDoor.S8
