/-
  Same, of a state and an answer that may differ: it answers. No condition.
-/
import Derived.Test.YtaphpdmfjnhlaaaGreatDoorCH9
namespace Go.Proofs.YtaphpdmfjnhlaaaGreatDoor.S8
open Go Go.RowKit Go.Maps Gp Pg We
def SmB (w : World) (e : Ending) (w' : World) : Prop := ∃ b : Bool,e = .returned (.bool b)/\Below w.heap.size w w'
theorem smb {w w1 w' : World} {G : Nat} (b : Bool) (hG : w.heap.size = G) (h1 : Below G w w1) (h2 : Below w1.heap.size w1 w') : SmB w (.returned (.bool b)) w':=⟨b,rfl,hG ▸ below3 (hG.symm ▸ h1) h2⟩
structure SmG (s : St) (t : Ab) (B G : Nat) (v0 v1 v2 v3 vl : Value) (Bl : Nat) (W : World) : Prop where
 box : Box4 W G v0 v1 v2 v3
 at' : RAt W B v0 v1 v2 v3 (rs t)
 ls : Ow W Bl 108 4 vl ((ab s).sp.map svR)
 st : Whole W s
theorem SmG.call {s t B G v0 v1 v2 v3 vl Bl W W'} (h : SmG s t B G v0 v1 v2 v3 vl Bl W) (b : Below W.heap.size W W') : SmG s t B G v0 v1 v2 v3 vl Bl W':=⟨h.box.call b,h.at'.call b,h.ls.call b,h.st.call b⟩
theorem space_of {s : St} {id : Int} (hi : K64 id) : ∃ z1 z2 z3 : Int,∃ z4 zb : Bool,(∀ x,gsp s.sp id = some x -> z1 = x.id/\z2 = x.q/\z3 = (x.ps.length : Int)/\z4 = x.sl/\zb = true) ∧
  ∀ W,StAt W s -> Calls Tryz.prog 44 #[.pointer (some ⟨s.p,0,none⟩),.int .i64 id] W fun e w' => e = .returned (.tuple #[sv z1 z2 z3 z4,.bool zb])/\Below W.heap.size W w':=by
 cases hg : gsp s.sp id with
 | none => exact ⟨0,0,0,false,false,(fun x hx => by cases hx),fun W h => space_none h hi hg⟩
 | some z =>
  have e:=(gsp_some hg).2
  refine ⟨z.id,z.q,z.ps.length,z.sl,true,(fun x hx => by cases hx; exact ⟨rfl,rfl,rfl,rfl,rfl⟩),fun W h => ?_⟩
  rw [<- e] at hi hg |-
  exact space_some h hi hg
set_option maxRecDepth 20000 in
set_option maxHeartbeats 4000000 in
theorem same_some {w : World} {s : St} {t : Ab} {B v0 v1 v2 v3} (h : Whole w s) (hr : RAt w B v0 v1 v2 v3 (rs t)) (ht : InvA t) : Calls Tryz.prog 12 #[.pointer (some ⟨s.p,0,none⟩),.agg #[v0,v1,v2,v3]] w fun e w' => SmB w e w':=by
 have hinv:=h.inv
 obtain ⟨a0,c0,rfl⟩:=hr.sp.form
 obtain ⟨a1,c1,rfl⟩:=hr.lv.form
 obtain ⟨a2,c2,rfl⟩:=hr.bad.form
 obtain ⟨a3,n3,c3,rfl⟩:=hr.worn.isSl
 have e0 : ((rs t).sp.map rS).length = t.sp.length:=by simp [rs]
 have e1 : ((rs t).lv.map rL).length = pagesN t.sp:=by rw [List.length_map]; exact lvA_len _
 have e2 : (rI (rs t).bad).length = t.bad.length:=by rw [rI_len]; simp [rs]
 rw [e0,e1,e2] at hr |-
 clear e0 e1 e2
 have hsps:=fun o => spaces_any (h.call (below_al w o))
 have H:=Hid.mk (And.intro h hr)
 have HP:=Hid.mk hsps
 clear h hr hsps
 go_enter Tryz.func12,Tryz.ntmps12
 go_upto_region 2 with (first | (go_at_call 39; refine (HP.out _).mono ?_; rintro e w1 ⟨vl,rfl,ol,bl⟩))
 obtain ⟨la,lc,rfl⟩:=ol.form
 rw [List.length_map] at ol |-
 have b0:=below_al w (.cells #[.slice a0 t.sp.length c0,.slice a1 (pagesN t.sp) c1,.slice a2 t.bad.length c2,.slice a3 n3 c3] 38)
 have bw : Below w.heap.size w w1:=below3 b0 bl
 have FA : Hid (∀ W,Below w1.heap.size w1 W -> SmG s t B w.heap.size (.slice a0 t.sp.length c0) (.slice a1 (pagesN t.sp) c1) (.slice a2 t.bad.length c2) (.slice a3 n3 c3) (.slice la (ab s).sp.length lc) (w.heap.size + 1) W):=fun W b => by
  refine SmG.call (W:=w1) ⟨(Box4.fresh w _ _ _ _).call bl,H.out.2.call bw,?_,H.out.1.call bw⟩ b
  rw [size_alloc] at ol
  exact ol
 have hbw:=Hid.mk (And.intro bw hinv)
 clear b0 bw bl ol H HP hinv
 generalize hG : w.heap.size = G at *
 replace hG:=Hid.mk hG
 have C26 : ∀ W,Below w1.heap.size w1 W -> Calls Tryz.prog 40 #[.pointer (some ⟨s.p,0,none⟩)] W fun e w' => e = .returned (.int .i64 (pagesN (ab s).sp : Int))/\Below W.heap.size W w':=fun W b => keys_any (FA.out W b).st
 have C25 : ∀ W,Below w1.heap.size w1 W -> Calls Tryz.prog 41 #[.pointer (some ⟨s.p,0,none⟩)] W fun e w' => e = .returned (.int .i64 (s.refs.length : Int))/\W = w':=fun W b => live_any (FA.out W b).st.at'
 have C20 : ∀ W,Below w1.heap.size w1 W -> Calls Tryz.prog 43 #[.pointer (some ⟨s.p,0,none⟩)] W fun e w' => e = .returned (.int .i64 ((ab s).bad.length : Int))/\W = w':=fun W b => bads_any (FA.out W b).st.at'
 have C38 : ∀ W,Below w1.heap.size w1 W -> Calls Tryz.prog 42 #[.agg #[.slice a0 t.sp.length c0,.slice a1 (pagesN t.sp) c1,.slice a2 t.bad.length c2,.slice a3 n3 c3]] W fun e w' => e = .returned (.int .i64 (nL (rs t).lv (rs t).lv.length : Int))/\Below W.heap.size W w':=fun W b => rlive_any (FA.out W b).at' (by have:=(lens_rs ht).2.1; omega)
 have kS : Hid (∀ w',Below w1.heap.size w1 w' -> w'.cell? ⟨G,0,none⟩ = some (.slice a0 t.sp.length c0)/\w'.cell? ⟨G,1,none⟩ = some (.slice a1 (pagesN t.sp) c1)/\w'.cell? ⟨G,2,none⟩ = some (.slice a2 t.bad.length c2)/\w'.cell? ⟨G,3,none⟩ = some (.slice a3 n3 c3)/\Below w1.heap.size w1 w'):=fun w' q => by
  obtain ⟨q0,q1,q2,q3⟩:=(FA.out w' q).box.cells
  exact ⟨q0,q1,q2,q3,q⟩
 have HC:=Hid.mk (And.intro C26 (And.intro C25 (And.intro C38 C20)))
 clear C26 C25 C38 C20
 generalize hn : (ab s).sp.length = n at *
 generalize hn' : t.sp.length = n' at *
 generalize hnl : pagesN (ab s).sp = ml at *
 generalize hnl' : pagesN t.sp = nl at *
 generalize hnb : (ab s).bad.length = mb at *
 generalize hnb' : t.bad.length = nb at *
 generalize hnr : (s.refs : Pl).length = mr at *
 generalize hnr' : nL (rs t).lv (rs t).lv.length = nr at *
 have hn15 : n' <= 15:=by have:=ht.len; omega
 replace hn:=Hid.mk hn
 replace hn':=Hid.mk hn'
 replace hnl':=Hid.mk hnl'
 clear hnr hnr' hnl hnb hnb'
 have HT:=Hid.mk ht
 clear ht
 by_cases q0 : n' = n
 rotate_left
 ·have qI : ((n : Int) != (n' : Int)) = true:=by simp; omega
  refine wp_region_held_drew (S:=fun w' => w'.cell? ⟨G,0,none⟩ = some (.slice a0 n' c0)/\w'.cell? ⟨G,1,none⟩ = some (.slice a1 nl c1)/\w'.cell? ⟨G,2,none⟩ = some (.slice a2 nb c2)/\w'.cell? ⟨G,3,none⟩ = some (.slice a3 n3 c3)/\Below w1.heap.size w1 w') (by kernel_rfl) (kS.out _ (Below.refl _ w1).drew) (fun hHeld => ?_)
  refine tkC 0 hHeld ?_
  refine tkC 1 hHeld ?_
  refine tkC 2 hHeld ?_
  refine tkC 3 hHeld ?_
  refine tkC 4 hHeld ?_
  refine tkC 5 hHeld ?_
  try simp only [qI]
  refine tkC 6 hHeld ?_
  refine tkJ 7 hHeld ?_
  refine tkJ 8 hHeld ?_
  refine tkJ 9 hHeld ?_
  refine tkJ 10 hHeld ?_
  refine tkJ 11 hHeld ?_
  refine tkJ 12 hHeld ?_
  refine tkC 13 hHeld ?_
  refine tkC 14 hHeld ?_
  refine tkJ 15 hHeld ?_
  refine tkJ 16 hHeld ?_
  refine tkJ 17 hHeld ?_
  refine tkJ 18 hHeld ?_
  refine tkJ 19 hHeld ?_
  refine tkC 20 hHeld ?_
  refine tkC 21 hHeld ?_
  refine tkJ 22 hHeld ?_
  refine tkJ 23 hHeld ?_
  refine tkJ 24 hHeld ?_
  refine tkJ 25 hHeld ?_
  refine tkJ 26 hHeld ?_
  refine tkJ 27 hHeld ?_
  refine tkC 28 hHeld ?_
  refine wpAnyH_done (by kernel_rfl) ?_ _
  go_wp2_with fail
  go_ret
  exact smb _ hG.out hbw.out.1 hHeld.2.2.2.2
 subst q0
 by_cases q1 : nl = ml
 rotate_left
 ·have qI : ((ml : Int) != (nl : Int)) = true:=by simp; omega
  refine wp_region_held_drew (S:=fun w' => w'.cell? ⟨G,0,none⟩ = some (.slice a0 n' c0)/\w'.cell? ⟨G,1,none⟩ = some (.slice a1 nl c1)/\w'.cell? ⟨G,2,none⟩ = some (.slice a2 nb c2)/\w'.cell? ⟨G,3,none⟩ = some (.slice a3 n3 c3)/\Below w1.heap.size w1 w') (by kernel_rfl) (kS.out _ (Below.refl _ w1).drew) (fun hHeld => ?_)
  refine tkC 0 hHeld ?_
  refine tkC 1 hHeld ?_
  refine tkC 2 hHeld ?_
  refine tkC 3 hHeld ?_
  refine tkC 4 hHeld ?_
  refine tkC 5 hHeld ?_
  try simp only [bne_self_eq_false]
  refine tkC 6 hHeld ?_
  refine tkC 7 hHeld ?_
  refine tkC 9 hHeld ?_
  refine tkC 10 hHeld ?_
  refine tkC 11 hHeld ?_
  refine wpAnyH_ready (rs := [8]) (by kernel_rfl) (by simp) ?_
  refine arH rfl (fun K hK => ?_) AllReadyH.nil
  go_simp
  go_at_call 40
  refine (HC.out.1 _ hHeld.2.2.2.2).mono ?_
  rintro e w5 ⟨rfl,b5⟩
  refine hK.out _ _ (kS.out _ (below3 hHeld.2.2.2.2 b5)) (fun hHeld => ?_)
  clear hK K
  try simp only [Act.put,zA,zB,zC]
  refine tkC 12 hHeld ?_
  try simp only [qI]
  refine tkC 13 hHeld ?_
  refine tkC 14 hHeld ?_
  refine tkJ 15 hHeld ?_
  refine tkJ 16 hHeld ?_
  refine tkJ 17 hHeld ?_
  refine tkJ 18 hHeld ?_
  refine tkJ 19 hHeld ?_
  refine tkC 20 hHeld ?_
  refine tkC 21 hHeld ?_
  refine tkJ 22 hHeld ?_
  refine tkJ 23 hHeld ?_
  refine tkJ 24 hHeld ?_
  refine tkJ 25 hHeld ?_
  refine tkJ 26 hHeld ?_
  refine tkJ 27 hHeld ?_
  refine tkC 28 hHeld ?_
  refine wpAnyH_done (by kernel_rfl) ?_ _
  go_wp2_with fail
  go_ret
  exact smb _ hG.out hbw.out.1 hHeld.2.2.2.2
 subst q1
 by_cases q2 : nr = mr
 rotate_left
 ·have qI : ((mr : Int) != (nr : Int)) = true:=by simp; omega
  refine wp_region_held_drew (S:=fun w' => w'.cell? ⟨G,0,none⟩ = some (.slice a0 n' c0)/\w'.cell? ⟨G,1,none⟩ = some (.slice a1 nl c1)/\w'.cell? ⟨G,2,none⟩ = some (.slice a2 nb c2)/\w'.cell? ⟨G,3,none⟩ = some (.slice a3 n3 c3)/\Below w1.heap.size w1 w') (by kernel_rfl) (kS.out _ (Below.refl _ w1).drew) (fun hHeld => ?_)
  refine tkC 0 hHeld ?_
  refine tkC 1 hHeld ?_
  refine tkC 2 hHeld ?_
  refine tkC 3 hHeld ?_
  refine tkC 4 hHeld ?_
  refine tkC 5 hHeld ?_
  try simp only [bne_self_eq_false]
  refine tkC 6 hHeld ?_
  refine tkC 7 hHeld ?_
  refine tkC 9 hHeld ?_
  refine tkC 10 hHeld ?_
  refine tkC 11 hHeld ?_
  refine wpAnyH_ready (rs := [8]) (by kernel_rfl) (by simp) ?_
  refine arH rfl (fun K hK => ?_) AllReadyH.nil
  go_simp
  go_at_call 40
  refine (HC.out.1 _ hHeld.2.2.2.2).mono ?_
  rintro e w5 ⟨rfl,b5⟩
  refine hK.out _ _ (kS.out _ (below3 hHeld.2.2.2.2 b5)) (fun hHeld => ?_)
  clear hK K
  try simp only [Act.put,zA,zB,zC]
  refine tkC 12 hHeld ?_
  try simp only [bne_self_eq_false]
  refine tkC 13 hHeld ?_
  refine tkC 14 hHeld ?_
  refine tkC 15 hHeld ?_
  refine tkC 17 hHeld ?_
  refine wpAnyH_ready (rs := [16]) (by kernel_rfl) (by simp) ?_
  refine arH rfl (fun K hK => ?_) AllReadyH.nil
  go_simp
  go_at_call 41
  refine (HC.out.2.1 _ hHeld.2.2.2.2).mono ?_
  rintro e w6 ⟨rfl,rfl⟩
  refine hK.out _ _ hHeld (fun hHeld => ?_)
  clear hK K
  try simp only [Act.put,zA,zB,zC]
  refine wpAnyH_ready (rs := [18]) (by kernel_rfl) (by simp) ?_
  refine arH rfl (fun K hK => ?_) AllReadyH.nil
  go_simp
  go_at_call 42
  refine (HC.out.2.2.1 _ hHeld.2.2.2.2).mono ?_
  rintro e w7 ⟨rfl,b7⟩
  refine hK.out _ _ (kS.out _ (below3 hHeld.2.2.2.2 b7)) (fun hHeld => ?_)
  clear hK K
  try simp only [Act.put,zA,zB,zC]
  refine tkC 19 hHeld ?_
  try simp only [qI]
  refine tkC 20 hHeld ?_
  refine tkC 21 hHeld ?_
  refine tkJ 22 hHeld ?_
  refine tkJ 23 hHeld ?_
  refine tkJ 24 hHeld ?_
  refine tkJ 25 hHeld ?_
  refine tkJ 26 hHeld ?_
  refine tkJ 27 hHeld ?_
  refine tkC 28 hHeld ?_
  refine wpAnyH_done (by kernel_rfl) ?_ _
  go_wp2_with fail
  go_ret
  exact smb _ hG.out hbw.out.1 hHeld.2.2.2.2
 subst q2
 by_cases q3 : nb = mb
 rotate_left
 ·have qI : ((mb : Int) != (nb : Int)) = true:=by simp; omega
  refine wp_region_held_drew (S:=fun w' => w'.cell? ⟨G,0,none⟩ = some (.slice a0 n' c0)/\w'.cell? ⟨G,1,none⟩ = some (.slice a1 nl c1)/\w'.cell? ⟨G,2,none⟩ = some (.slice a2 nb c2)/\w'.cell? ⟨G,3,none⟩ = some (.slice a3 n3 c3)/\Below w1.heap.size w1 w') (by kernel_rfl) (kS.out _ (Below.refl _ w1).drew) (fun hHeld => ?_)
  refine tkC 0 hHeld ?_
  refine tkC 1 hHeld ?_
  refine tkC 2 hHeld ?_
  refine tkC 3 hHeld ?_
  refine tkC 4 hHeld ?_
  refine tkC 5 hHeld ?_
  try simp only [bne_self_eq_false]
  refine tkC 6 hHeld ?_
  refine tkC 7 hHeld ?_
  refine tkC 9 hHeld ?_
  refine tkC 10 hHeld ?_
  refine tkC 11 hHeld ?_
  refine wpAnyH_ready (rs := [8]) (by kernel_rfl) (by simp) ?_
  refine arH rfl (fun K hK => ?_) AllReadyH.nil
  go_simp
  go_at_call 40
  refine (HC.out.1 _ hHeld.2.2.2.2).mono ?_
  rintro e w5 ⟨rfl,b5⟩
  refine hK.out _ _ (kS.out _ (below3 hHeld.2.2.2.2 b5)) (fun hHeld => ?_)
  clear hK K
  try simp only [Act.put,zA,zB,zC]
  refine tkC 12 hHeld ?_
  try simp only [bne_self_eq_false]
  refine tkC 13 hHeld ?_
  refine tkC 14 hHeld ?_
  refine tkC 15 hHeld ?_
  refine tkC 17 hHeld ?_
  refine wpAnyH_ready (rs := [16]) (by kernel_rfl) (by simp) ?_
  refine arH rfl (fun K hK => ?_) AllReadyH.nil
  go_simp
  go_at_call 41
  refine (HC.out.2.1 _ hHeld.2.2.2.2).mono ?_
  rintro e w6 ⟨rfl,rfl⟩
  refine hK.out _ _ hHeld (fun hHeld => ?_)
  clear hK K
  try simp only [Act.put,zA,zB,zC]
  refine wpAnyH_ready (rs := [18]) (by kernel_rfl) (by simp) ?_
  refine arH rfl (fun K hK => ?_) AllReadyH.nil
  go_simp
  go_at_call 42
  refine (HC.out.2.2.1 _ hHeld.2.2.2.2).mono ?_
  rintro e w7 ⟨rfl,b7⟩
  refine hK.out _ _ (kS.out _ (below3 hHeld.2.2.2.2 b7)) (fun hHeld => ?_)
  clear hK K
  try simp only [Act.put,zA,zB,zC]
  refine tkC 19 hHeld ?_
  try simp only [bne_self_eq_false]
  refine tkC 20 hHeld ?_
  refine tkC 21 hHeld ?_
  refine tkC 22 hHeld ?_
  refine tkC 24 hHeld ?_
  refine tkC 25 hHeld ?_
  refine tkC 26 hHeld ?_
  refine wpAnyH_ready (rs := [23]) (by kernel_rfl) (by simp) ?_
  refine arH rfl (fun K hK => ?_) AllReadyH.nil
  go_simp
  go_at_call 43
  refine (HC.out.2.2.2 _ hHeld.2.2.2.2).mono ?_
  rintro e w8 ⟨rfl,rfl⟩
  refine hK.out _ _ hHeld (fun hHeld => ?_)
  clear hK K
  try simp only [Act.put,zA,zB,zC]
  refine tkC 27 hHeld ?_
  try simp only [qI]
  refine tkC 28 hHeld ?_
  refine wpAnyH_done (by kernel_rfl) ?_ _
  go_wp2_with fail
  go_ret
  exact smb _ hG.out hbw.out.1 hHeld.2.2.2.2
 subst q3
 refine wp_region_held_drew (S:=fun w' => w'.cell? ⟨G,0,none⟩ = some (.slice a0 n' c0)/\w'.cell? ⟨G,1,none⟩ = some (.slice a1 nl c1)/\w'.cell? ⟨G,2,none⟩ = some (.slice a2 nb c2)/\w'.cell? ⟨G,3,none⟩ = some (.slice a3 n3 c3)/\Below w1.heap.size w1 w') (by kernel_rfl) (kS.out _ (Below.refl _ w1).drew) (fun hHeld => ?_)
 refine tkC 0 hHeld ?_
 refine tkC 1 hHeld ?_
 refine tkC 2 hHeld ?_
 refine tkC 3 hHeld ?_
 refine tkC 4 hHeld ?_
 refine tkC 5 hHeld ?_
 try simp only [bne_self_eq_false]
 refine tkC 6 hHeld ?_
 refine tkC 7 hHeld ?_
 refine tkC 9 hHeld ?_
 refine tkC 10 hHeld ?_
 refine tkC 11 hHeld ?_
 refine wpAnyH_ready (rs := [8]) (by kernel_rfl) (by simp) ?_
 refine arH rfl (fun K hK => ?_) AllReadyH.nil
 go_simp
 go_at_call 40
 refine (HC.out.1 _ hHeld.2.2.2.2).mono ?_
 rintro e w5 ⟨rfl,b5⟩
 refine hK.out _ _ (kS.out _ (below3 hHeld.2.2.2.2 b5)) (fun hHeld => ?_)
 clear hK K
 try simp only [Act.put,zA,zB,zC]
 refine tkC 12 hHeld ?_
 try simp only [bne_self_eq_false]
 refine tkC 13 hHeld ?_
 refine tkC 14 hHeld ?_
 refine tkC 15 hHeld ?_
 refine tkC 17 hHeld ?_
 refine wpAnyH_ready (rs := [16]) (by kernel_rfl) (by simp) ?_
 refine arH rfl (fun K hK => ?_) AllReadyH.nil
 go_simp
 go_at_call 41
 refine (HC.out.2.1 _ hHeld.2.2.2.2).mono ?_
 rintro e w6 ⟨rfl,rfl⟩
 refine hK.out _ _ hHeld (fun hHeld => ?_)
 clear hK K
 try simp only [Act.put,zA,zB,zC]
 refine wpAnyH_ready (rs := [18]) (by kernel_rfl) (by simp) ?_
 refine arH rfl (fun K hK => ?_) AllReadyH.nil
 go_simp
 go_at_call 42
 refine (HC.out.2.2.1 _ hHeld.2.2.2.2).mono ?_
 rintro e w7 ⟨rfl,b7⟩
 refine hK.out _ _ (kS.out _ (below3 hHeld.2.2.2.2 b7)) (fun hHeld => ?_)
 clear hK K
 try simp only [Act.put,zA,zB,zC]
 refine tkC 19 hHeld ?_
 try simp only [bne_self_eq_false]
 refine tkC 20 hHeld ?_
 refine tkC 21 hHeld ?_
 refine tkC 22 hHeld ?_
 refine tkC 24 hHeld ?_
 refine tkC 25 hHeld ?_
 refine tkC 26 hHeld ?_
 refine wpAnyH_ready (rs := [23]) (by kernel_rfl) (by simp) ?_
 refine arH rfl (fun K hK => ?_) AllReadyH.nil
 go_simp
 go_at_call 43
 refine (HC.out.2.2.2 _ hHeld.2.2.2.2).mono ?_
 rintro e w8 ⟨rfl,rfl⟩
 refine hK.out _ _ hHeld (fun hHeld => ?_)
 clear hK K
 try simp only [Act.put,zA,zB,zC]
 refine tkC 27 hHeld ?_
 try simp only [bne_self_eq_false]
 refine tkC 28 hHeld ?_
 refine wpAnyH_done (by kernel_rfl) ?_ _
 have hb:=Hid.mk hHeld.2.2.2.2
 clear b5 b7 HC kS hHeld
 go_upto_region 5 with fail
 go_loopw [6] (fun i wr => ∃ k : Nat,k <= n'/\i = .int .i64 k/\Below w1.heap.size w1 wr) (fun i _ => n' - (intOf i).toNat)
 case atStart => exact ⟨0,Nat.zero_le _,rfl,hb.out⟩
 case round =>
  clear hb
  obtain ⟨k,hk,rfl,hb⟩:=hrel
  have F:=FA.out wr hb
  obtain ⟨k0,k1,k2,k3⟩:=F.box.cells
  have hGl:=F.box.lt
  by_cases hkn : k < n'
  ·have hka : k < (ab s).sp.length:=by have:=hn.out; omega
   have hkt : k < t.sp.length:=by have:=hn'.out; omega
   have hkl : k < s.sp.length:=by simpa [ab] using hka
   have hx:=List.getElem_mem hkl
   have hy:=List.getElem_mem hkt
   have hxa : (ab s).sp[k] = (s.sp[k]).a:=by simp [ab]
   obtain ⟨g,rfl,hgB,hgl,d0,d1,d2⟩:=F.at'.sp.at3s (j:=k) (by simp only [rs,List.length_map]; exact hkt)
   have hge : (rs t).sp.getD k (0,0,false) = fS (t.sp[k]):=by
    simp only [rs]
    rw [List.getD_eq_getElem?_getD,List.getElem?_map,List.getElem?_eq_getElem hkt]; rfl
   obtain ⟨gl,rfl,hglB,hgll,hlc⟩:=F.ls.at (j:=k) (by rw [List.length_map]; exact hka)
   have hle : ((ab s).sp.map svR).getD k [] = svR (s.sp[k]).a:=by
    rw [<- hxa,List.getD_eq_getElem?_getD,List.getElem?_map,List.getElem?_eq_getElem hka]; rfl
   rw [hge] at d0 d1 d2
   rw [hle] at hlc
   generalize s.sp[k] = x at *
   generalize t.sp[k] = y at *
   replace d0 : wr.cell? ⟨g,k * 3,none⟩ = some (.int .i64 y.id):=d0
   replace d1 : wr.cell? ⟨g,k * 3 + 1,none⟩ = some (.int .i64 y.q):=d1
   replace d2 : wr.cell? ⟨g,k * 3 + 2,none⟩ = some (.bool y.sl):=d2
   have l0 : wr.cell? ⟨gl,k * 4,none⟩ = some (.int .i64 x.id):=hlc 0 (by decide)
   have l1 : wr.cell? ⟨gl,k * 4 + 1,none⟩ = some (.int .i64 x.q):=hlc 1 (by decide)
   have l2 : wr.cell? ⟨gl,k * 4 + 2,none⟩ = some (.int .i64 (x.ps.length : Int)):=hlc 2 (by decide)
   have l3 : wr.cell? ⟨gl,k * 4 + 3,none⟩ = some (.bool x.sl):=hlc 3 (by decide)
   have hgx : gsp s.sp x.id = some x:=by
    have h1 : (gsp s.sp x.id).isSome = true:=by unfold gsp; rw [List.find?_isSome]; exact ⟨x,hx,by simp⟩
    obtain ⟨z,hz⟩:=Option.isSome_iff_exists.1 h1
    rw [hz,up_one F.st.at'.hS.up (gsp_some hz).1 hx (gsp_some hz).2]
   obtain ⟨z1,z2,z3,z4,zb,hz,hzc⟩:=space_of (s:=s) (k15 (HT.out.ids _ hy))
   have hzq : y.id = x.id -> z1 = x.id/\z2 = x.q/\z3 = (x.ps.length : Int)/\z4 = x.sl/\zb = true:=fun e => hz x (by rw [e]; exact hgx)
   have C21 : ∀ W,Below w1.heap.size w1 W -> Calls Tryz.prog 44 #[.pointer (some ⟨s.p,0,none⟩),.int .i64 y.id] W fun e w' => e = .returned (.tuple #[sv z1 z2 z3 z4,.bool zb])/\Below W.heap.size W w':=fun W b => hzc W (FA.out W b).st.at'
   have C39 : ∀ W,Below w1.heap.size w1 W -> Calls Tryz.prog 45 #[.agg #[.slice (some ⟨g,0,none⟩) n' c0,.slice a1 nl c1,.slice a2 nb c2,.slice a3 n3 c3],.int .i64 y.id] W fun e w' => e = .returned (.int .i64 (pL y.id (rs t).lv : Int))/\Below W.heap.size W w':=fun W b => rpages_any (FA.out W b).at' (by have:=(lens_rs HT.out).2.1; omega) y.id
   generalize (x.ps.length : Int) = x4 at *
   generalize (pL y.id (rs t).lv : Int) = m at *
   have HK:=Hid.mk (And.intro C21 (And.intro C39 (And.intro hb (And.intro F (And.intro l0 (And.intro l1 (And.intro l2 l3)))))))
   replace hzq:=Hid.mk hzq
   clear C21 C39 hgx hlc hle hge hxa hkl hka hkt F hz hzc hx hy
   go_upto_region 9 with (first | (go_at_call 44; refine (HK.out.1 _ (below3 hb (below_al wr _))).mono ?_; rintro e w2 ⟨rfl,b2⟩; unfold sv svC))
   have X8 : (w2.alloc (.cells #[.int .i64 z1,.int .i64 z2,.int .i64 z3,.bool z4] 108)).heap[wr.heap.size]? = some (.cells #[.int .i64 y.id,.int .i64 y.q,.bool y.sl] 106 (0,0)):=by
    have h1 : wr.heap.size < (wr.alloc (.cells #[.int .i64 y.id,.int .i64 y.q,.bool y.sl] 106)).heap.size:=by rw [size_alloc]; omega
    exact ((Below.heap_alloc w2 _ _ (Nat.lt_of_lt_of_le h1 b2.size)).trans (b2.block _ h1)).trans (heap_alloc_new wr _)
   have Y8 : (w2.alloc (.cells #[.int .i64 z1,.int .i64 z2,.int .i64 z3,.bool z4] 108)).heap[w2.heap.size]? = some (.cells #[.int .i64 z1,.int .i64 z2,.int .i64 z3,.bool z4] 108 (0,0)):=heap_alloc_new w2 _
   have B8 : Below wr.heap.size wr (w2.alloc (.cells #[.int .i64 z1,.int .i64 z2,.int .i64 z3,.bool z4] 108)):=below3 (below3 (below_al wr _) b2) (below_al w2 _)
   generalize w2.alloc (.cells #[.int .i64 z1,.int .i64 z2,.int .i64 z3,.bool z4] 108) = W8 at *
   have kS : Hid (∀ w',Below W8.heap.size W8 w' -> Below w1.heap.size w1 w'/\(w'.cell? ⟨G,0,none⟩ = some (.slice (some ⟨g,0,none⟩) n' c0)/\w'.cell? ⟨G,1,none⟩ = some (.slice a1 nl c1)/\w'.cell? ⟨G,2,none⟩ = some (.slice a2 nb c2)/\w'.cell? ⟨G,3,none⟩ = some (.slice a3 n3 c3))/\(w'.cell? ⟨wr.heap.size,0,none⟩ = some (.int .i64 y.id)/\w'.cell? ⟨wr.heap.size,1,none⟩ = some (.int .i64 y.q)/\w'.cell? ⟨wr.heap.size,2,none⟩ = some (.bool y.sl))/\(w'.cell? ⟨w2.heap.size,0,none⟩ = some (.int .i64 z1)/\w'.cell? ⟨w2.heap.size,1,none⟩ = some (.int .i64 z2)/\w'.cell? ⟨w2.heap.size,2,none⟩ = some (.int .i64 z3)/\w'.cell? ⟨w2.heap.size,3,none⟩ = some (.bool z4))/\(w'.cell? ⟨gl,k * 4,none⟩ = some (.int .i64 x.id)/\w'.cell? ⟨gl,k * 4 + 1,none⟩ = some (.int .i64 x.q)/\w'.cell? ⟨gl,k * 4 + 2,none⟩ = some (.int .i64 x4)/\w'.cell? ⟨gl,k * 4 + 3,none⟩ = some (.bool x.sl))/\Below W8.heap.size W8 w'):=fun w' q => by
    have q2:=below3 B8 q
    have q3:=below3 HK.out.2.2.1 q2
    have hX:=(q.block _ (Array.getElem?_eq_some_iff.1 X8).1).trans X8
    have hY:=(q.block _ (Array.getElem?_eq_some_iff.1 Y8).1).trans Y8
    refine ⟨q3,(FA.out w' q3).box.cells,⟨?_,?_,?_⟩,⟨?_,?_,?_,?_⟩,⟨?_,?_,?_,?_⟩,q⟩
    ·rw [cell_of_row w' _ 0 _ 106 _ hX]; rfl
    ·rw [cell_of_row w' _ 1 _ 106 _ hX]; rfl
    ·rw [cell_of_row w' _ 2 _ 106 _ hX]; rfl
    ·rw [cell_of_row w' _ 0 _ 108 _ hY]; rfl
    ·rw [cell_of_row w' _ 1 _ 108 _ hY]; rfl
    ·rw [cell_of_row w' _ 2 _ 108 _ hY]; rfl
    ·rw [cell_of_row w' _ 3 _ 108 _ hY]; rfl
    ·exact (q2.cell (p:=⟨gl,k * 4,none⟩) hgll).trans HK.out.2.2.2.2.1
    ·exact (q2.cell (p:=⟨gl,k * 4 + 1,none⟩) hgll).trans HK.out.2.2.2.2.2.1
    ·exact (q2.cell (p:=⟨gl,k * 4 + 2,none⟩) hgll).trans HK.out.2.2.2.2.2.2.1
    ·exact (q2.cell (p:=⟨gl,k * 4 + 3,none⟩) hgll).trans HK.out.2.2.2.2.2.2.2
   clear X8 Y8 B8 k0 k1 k2 k3 d0 d1 d2 l0 l1 l2 l3 b2 hb
   generalize wr.heap.size = gx at *
   generalize w2.heap.size = gy at *
   generalize x.id = x1 at *
   generalize x.q = x2 at *
   generalize x.sl = x3 at *
   generalize y.id = y1 at *
   generalize y.q = y2 at *
   generalize y.sl = y3 at *
   by_cases s1 : y1 = x1
   rotate_left
   ·have qI : ((x1 : Int) == (y1 : Int)) = false:=by simpa using fun e => s1 e.symm
    refine wp_region_held_drew (S:=fun w' => Below w1.heap.size w1 w'/\(w'.cell? ⟨G,0,none⟩ = some (.slice (some ⟨g,0,none⟩) n' c0)/\w'.cell? ⟨G,1,none⟩ = some (.slice a1 nl c1)/\w'.cell? ⟨G,2,none⟩ = some (.slice a2 nb c2)/\w'.cell? ⟨G,3,none⟩ = some (.slice a3 n3 c3))/\(w'.cell? ⟨gx,0,none⟩ = some (.int .i64 y1)/\w'.cell? ⟨gx,1,none⟩ = some (.int .i64 y2)/\w'.cell? ⟨gx,2,none⟩ = some (.bool y3))/\(w'.cell? ⟨gy,0,none⟩ = some (.int .i64 z1)/\w'.cell? ⟨gy,1,none⟩ = some (.int .i64 z2)/\w'.cell? ⟨gy,2,none⟩ = some (.int .i64 z3)/\w'.cell? ⟨gy,3,none⟩ = some (.bool z4))/\(w'.cell? ⟨gl,k * 4,none⟩ = some (.int .i64 x1)/\w'.cell? ⟨gl,k * 4 + 1,none⟩ = some (.int .i64 x2)/\w'.cell? ⟨gl,k * 4 + 2,none⟩ = some (.int .i64 x4)/\w'.cell? ⟨gl,k * 4 + 3,none⟩ = some (.bool x3))/\Below W8.heap.size W8 w') (by kernel_rfl) (kS.out _ (Below.refl _ W8).drew) (fun hHeld => ?_)
    refine tkC 0 hHeld ?_
    refine tkC 1 hHeld ?_
    refine tkC 2 hHeld ?_
    refine tkC 3 hHeld ?_
    refine tkC 4 hHeld ?_
    refine tkC 5 hHeld ?_
    refine tkC 6 hHeld ?_
    refine tkC 7 hHeld ?_
    refine tkC 8 hHeld ?_
    refine tkC 9 hHeld ?_
    refine tkC 10 hHeld ?_
    refine tkC 12 hHeld ?_
    refine tkC 13 hHeld ?_
    refine wpAnyH_ready (rs := [11]) (by kernel_rfl) (by simp) ?_
    refine arH rfl (fun K hK => ?_) AllReadyH.nil
    go_simp
    go_at_call 45
    refine (HK.out.2.1 _ hHeld.1).mono ?_
    rintro e w9 ⟨rfl,b9⟩
    refine hK.out _ _ (kS.out _ (below3 (r6 hHeld) b9)) (fun hHeld => ?_)
    clear hK K
    try simp only [Act.put,zA,zB,zC]
    refine tkC 14 hHeld ?_
    refine tkC 15 hHeld ?_
    try simp only [qI,Bool.false_and,Bool.and_false,Bool.not_false,Bool.true_and,beq_self_eq_true,bne,Bool.not_true]
    refine tkC 16 hHeld ?_
    refine tkJ 17 hHeld ?_
    refine tkJ 18 hHeld ?_
    refine tkC 19 hHeld ?_
    refine tkC 20 hHeld ?_
    refine tkJ 21 hHeld ?_
    refine tkJ 22 hHeld ?_
    refine tkJ 23 hHeld ?_
    refine tkJ 24 hHeld ?_
    refine tkJ 25 hHeld ?_
    refine tkJ 26 hHeld ?_
    refine tkC 27 hHeld ?_
    refine wpAnyH_done (by kernel_rfl) ?_ _
    go_wp2_with fail
    go_ret
    exact smb _ hG.out hbw.out.1 hHeld.1
   subst s1
   by_cases s2 : y2 = x2
   rotate_left
   ·have qI : ((x2 : Int) == (y2 : Int)) = false:=by simpa using fun e => s2 e.symm
    refine wp_region_held_drew (S:=fun w' => Below w1.heap.size w1 w'/\(w'.cell? ⟨G,0,none⟩ = some (.slice (some ⟨g,0,none⟩) n' c0)/\w'.cell? ⟨G,1,none⟩ = some (.slice a1 nl c1)/\w'.cell? ⟨G,2,none⟩ = some (.slice a2 nb c2)/\w'.cell? ⟨G,3,none⟩ = some (.slice a3 n3 c3))/\(w'.cell? ⟨gx,0,none⟩ = some (.int .i64 y1)/\w'.cell? ⟨gx,1,none⟩ = some (.int .i64 y2)/\w'.cell? ⟨gx,2,none⟩ = some (.bool y3))/\(w'.cell? ⟨gy,0,none⟩ = some (.int .i64 z1)/\w'.cell? ⟨gy,1,none⟩ = some (.int .i64 z2)/\w'.cell? ⟨gy,2,none⟩ = some (.int .i64 z3)/\w'.cell? ⟨gy,3,none⟩ = some (.bool z4))/\(w'.cell? ⟨gl,k * 4,none⟩ = some (.int .i64 y1)/\w'.cell? ⟨gl,k * 4 + 1,none⟩ = some (.int .i64 x2)/\w'.cell? ⟨gl,k * 4 + 2,none⟩ = some (.int .i64 x4)/\w'.cell? ⟨gl,k * 4 + 3,none⟩ = some (.bool x3))/\Below W8.heap.size W8 w') (by kernel_rfl) (kS.out _ (Below.refl _ W8).drew) (fun hHeld => ?_)
    refine tkC 0 hHeld ?_
    refine tkC 1 hHeld ?_
    refine tkC 2 hHeld ?_
    refine tkC 3 hHeld ?_
    refine tkC 4 hHeld ?_
    refine tkC 5 hHeld ?_
    refine tkC 6 hHeld ?_
    refine tkC 7 hHeld ?_
    refine tkC 8 hHeld ?_
    refine tkC 9 hHeld ?_
    refine tkC 10 hHeld ?_
    refine tkC 12 hHeld ?_
    refine tkC 13 hHeld ?_
    refine wpAnyH_ready (rs := [11]) (by kernel_rfl) (by simp) ?_
    refine arH rfl (fun K hK => ?_) AllReadyH.nil
    go_simp
    go_at_call 45
    refine (HK.out.2.1 _ hHeld.1).mono ?_
    rintro e w9 ⟨rfl,b9⟩
    refine hK.out _ _ (kS.out _ (below3 (r6 hHeld) b9)) (fun hHeld => ?_)
    clear hK K
    try simp only [Act.put,zA,zB,zC]
    refine tkC 14 hHeld ?_
    refine tkC 15 hHeld ?_
    try simp only [qI,Bool.false_and,Bool.and_false,Bool.not_false,Bool.true_and,beq_self_eq_true,bne,Bool.not_true]
    refine tkC 16 hHeld ?_
    refine tkJ 17 hHeld ?_
    refine tkJ 18 hHeld ?_
    refine tkC 19 hHeld ?_
    refine tkC 20 hHeld ?_
    refine tkJ 21 hHeld ?_
    refine tkJ 22 hHeld ?_
    refine tkJ 23 hHeld ?_
    refine tkJ 24 hHeld ?_
    refine tkJ 25 hHeld ?_
    refine tkJ 26 hHeld ?_
    refine tkC 27 hHeld ?_
    refine wpAnyH_done (by kernel_rfl) ?_ _
    go_wp2_with fail
    go_ret
    exact smb _ hG.out hbw.out.1 hHeld.1
   subst s2
   by_cases s3 : m = x4
   rotate_left
   ·have qI : ((x4 : Int) == (m : Int)) = false:=by simpa using fun e => s3 e.symm
    refine wp_region_held_drew (S:=fun w' => Below w1.heap.size w1 w'/\(w'.cell? ⟨G,0,none⟩ = some (.slice (some ⟨g,0,none⟩) n' c0)/\w'.cell? ⟨G,1,none⟩ = some (.slice a1 nl c1)/\w'.cell? ⟨G,2,none⟩ = some (.slice a2 nb c2)/\w'.cell? ⟨G,3,none⟩ = some (.slice a3 n3 c3))/\(w'.cell? ⟨gx,0,none⟩ = some (.int .i64 y1)/\w'.cell? ⟨gx,1,none⟩ = some (.int .i64 y2)/\w'.cell? ⟨gx,2,none⟩ = some (.bool y3))/\(w'.cell? ⟨gy,0,none⟩ = some (.int .i64 z1)/\w'.cell? ⟨gy,1,none⟩ = some (.int .i64 z2)/\w'.cell? ⟨gy,2,none⟩ = some (.int .i64 z3)/\w'.cell? ⟨gy,3,none⟩ = some (.bool z4))/\(w'.cell? ⟨gl,k * 4,none⟩ = some (.int .i64 y1)/\w'.cell? ⟨gl,k * 4 + 1,none⟩ = some (.int .i64 y2)/\w'.cell? ⟨gl,k * 4 + 2,none⟩ = some (.int .i64 x4)/\w'.cell? ⟨gl,k * 4 + 3,none⟩ = some (.bool x3))/\Below W8.heap.size W8 w') (by kernel_rfl) (kS.out _ (Below.refl _ W8).drew) (fun hHeld => ?_)
    refine tkC 0 hHeld ?_
    refine tkC 1 hHeld ?_
    refine tkC 2 hHeld ?_
    refine tkC 3 hHeld ?_
    refine tkC 4 hHeld ?_
    refine tkC 5 hHeld ?_
    refine tkC 6 hHeld ?_
    refine tkC 7 hHeld ?_
    refine tkC 8 hHeld ?_
    refine tkC 9 hHeld ?_
    refine tkC 10 hHeld ?_
    refine tkC 12 hHeld ?_
    refine tkC 13 hHeld ?_
    refine wpAnyH_ready (rs := [11]) (by kernel_rfl) (by simp) ?_
    refine arH rfl (fun K hK => ?_) AllReadyH.nil
    go_simp
    go_at_call 45
    refine (HK.out.2.1 _ hHeld.1).mono ?_
    rintro e w9 ⟨rfl,b9⟩
    refine hK.out _ _ (kS.out _ (below3 (r6 hHeld) b9)) (fun hHeld => ?_)
    clear hK K
    try simp only [Act.put,zA,zB,zC]
    refine tkC 14 hHeld ?_
    refine tkC 15 hHeld ?_
    try simp only [qI,Bool.false_and,Bool.and_false,Bool.not_false,Bool.true_and,beq_self_eq_true,bne,Bool.not_true]
    refine tkC 16 hHeld ?_
    refine tkJ 17 hHeld ?_
    refine tkJ 18 hHeld ?_
    refine tkC 19 hHeld ?_
    refine tkC 20 hHeld ?_
    refine tkJ 21 hHeld ?_
    refine tkJ 22 hHeld ?_
    refine tkJ 23 hHeld ?_
    refine tkJ 24 hHeld ?_
    refine tkJ 25 hHeld ?_
    refine tkJ 26 hHeld ?_
    refine tkC 27 hHeld ?_
    refine wpAnyH_done (by kernel_rfl) ?_ _
    go_wp2_with fail
    go_ret
    exact smb _ hG.out hbw.out.1 hHeld.1
   subst s3
   by_cases s4 : y3 = x3
   rotate_left
   ·have qI : ((x3 : Bool) == (y3 : Bool)) = false:=by simpa using fun e => s4 e.symm
    refine wp_region_held_drew (S:=fun w' => Below w1.heap.size w1 w'/\(w'.cell? ⟨G,0,none⟩ = some (.slice (some ⟨g,0,none⟩) n' c0)/\w'.cell? ⟨G,1,none⟩ = some (.slice a1 nl c1)/\w'.cell? ⟨G,2,none⟩ = some (.slice a2 nb c2)/\w'.cell? ⟨G,3,none⟩ = some (.slice a3 n3 c3))/\(w'.cell? ⟨gx,0,none⟩ = some (.int .i64 y1)/\w'.cell? ⟨gx,1,none⟩ = some (.int .i64 y2)/\w'.cell? ⟨gx,2,none⟩ = some (.bool y3))/\(w'.cell? ⟨gy,0,none⟩ = some (.int .i64 z1)/\w'.cell? ⟨gy,1,none⟩ = some (.int .i64 z2)/\w'.cell? ⟨gy,2,none⟩ = some (.int .i64 z3)/\w'.cell? ⟨gy,3,none⟩ = some (.bool z4))/\(w'.cell? ⟨gl,k * 4,none⟩ = some (.int .i64 y1)/\w'.cell? ⟨gl,k * 4 + 1,none⟩ = some (.int .i64 y2)/\w'.cell? ⟨gl,k * 4 + 2,none⟩ = some (.int .i64 m)/\w'.cell? ⟨gl,k * 4 + 3,none⟩ = some (.bool x3))/\Below W8.heap.size W8 w') (by kernel_rfl) (kS.out _ (Below.refl _ W8).drew) (fun hHeld => ?_)
    refine tkC 0 hHeld ?_
    refine tkC 1 hHeld ?_
    refine tkC 2 hHeld ?_
    refine tkC 3 hHeld ?_
    refine tkC 4 hHeld ?_
    refine tkC 5 hHeld ?_
    refine tkC 6 hHeld ?_
    refine tkC 7 hHeld ?_
    refine tkC 8 hHeld ?_
    refine tkC 9 hHeld ?_
    refine tkC 10 hHeld ?_
    refine tkC 12 hHeld ?_
    refine tkC 13 hHeld ?_
    refine wpAnyH_ready (rs := [11]) (by kernel_rfl) (by simp) ?_
    refine arH rfl (fun K hK => ?_) AllReadyH.nil
    go_simp
    go_at_call 45
    refine (HK.out.2.1 _ hHeld.1).mono ?_
    rintro e w9 ⟨rfl,b9⟩
    refine hK.out _ _ (kS.out _ (below3 (r6 hHeld) b9)) (fun hHeld => ?_)
    clear hK K
    try simp only [Act.put,zA,zB,zC]
    refine tkC 14 hHeld ?_
    refine tkC 15 hHeld ?_
    try simp only [qI,Bool.false_and,Bool.and_false,Bool.not_false,Bool.true_and,beq_self_eq_true,bne,Bool.not_true]
    refine tkC 16 hHeld ?_
    refine tkJ 17 hHeld ?_
    refine tkJ 18 hHeld ?_
    refine tkC 19 hHeld ?_
    refine tkC 20 hHeld ?_
    refine tkJ 21 hHeld ?_
    refine tkJ 22 hHeld ?_
    refine tkJ 23 hHeld ?_
    refine tkJ 24 hHeld ?_
    refine tkJ 25 hHeld ?_
    refine tkJ 26 hHeld ?_
    refine tkC 27 hHeld ?_
    refine wpAnyH_done (by kernel_rfl) ?_ _
    go_wp2_with fail
    go_ret
    exact smb _ hG.out hbw.out.1 hHeld.1
   subst s4
   obtain ⟨t1,t2,t3,t4,t5⟩:=hzq.out rfl
   replace t1:=t1.symm
   replace t2:=t2.symm
   replace t3:=t3.symm
   replace t4:=t4.symm
   subst t1 t2 t3 t4 t5
   refine wp_region_held_drew (S:=fun w' => Below w1.heap.size w1 w'/\(w'.cell? ⟨G,0,none⟩ = some (.slice (some ⟨g,0,none⟩) n' c0)/\w'.cell? ⟨G,1,none⟩ = some (.slice a1 nl c1)/\w'.cell? ⟨G,2,none⟩ = some (.slice a2 nb c2)/\w'.cell? ⟨G,3,none⟩ = some (.slice a3 n3 c3))/\(w'.cell? ⟨gx,0,none⟩ = some (.int .i64 y1)/\w'.cell? ⟨gx,1,none⟩ = some (.int .i64 y2)/\w'.cell? ⟨gx,2,none⟩ = some (.bool y3))/\(w'.cell? ⟨gy,0,none⟩ = some (.int .i64 y1)/\w'.cell? ⟨gy,1,none⟩ = some (.int .i64 y2)/\w'.cell? ⟨gy,2,none⟩ = some (.int .i64 m)/\w'.cell? ⟨gy,3,none⟩ = some (.bool y3))/\(w'.cell? ⟨gl,k * 4,none⟩ = some (.int .i64 y1)/\w'.cell? ⟨gl,k * 4 + 1,none⟩ = some (.int .i64 y2)/\w'.cell? ⟨gl,k * 4 + 2,none⟩ = some (.int .i64 m)/\w'.cell? ⟨gl,k * 4 + 3,none⟩ = some (.bool y3))/\Below W8.heap.size W8 w') (by kernel_rfl) (kS.out _ (Below.refl _ W8).drew) (fun hHeld => ?_)
   refine tkC 0 hHeld ?_
   refine tkC 1 hHeld ?_
   refine tkC 2 hHeld ?_
   refine tkC 3 hHeld ?_
   refine tkC 4 hHeld ?_
   refine tkC 5 hHeld ?_
   refine tkC 6 hHeld ?_
   refine tkC 7 hHeld ?_
   refine tkC 8 hHeld ?_
   refine tkC 9 hHeld ?_
   refine tkC 10 hHeld ?_
   refine tkC 12 hHeld ?_
   refine tkC 13 hHeld ?_
   refine wpAnyH_ready (rs := [11]) (by kernel_rfl) (by simp) ?_
   refine arH rfl (fun K hK => ?_) AllReadyH.nil
   go_simp
   go_at_call 45
   refine (HK.out.2.1 _ hHeld.1).mono ?_
   rintro e w9 ⟨rfl,b9⟩
   refine hK.out _ _ (kS.out _ (below3 (r6 hHeld) b9)) (fun hHeld => ?_)
   clear hK K
   try simp only [Act.put,zA,zB,zC]
   refine tkC 14 hHeld ?_
   refine tkC 15 hHeld ?_
   try simp only [beq_self_eq_true,Bool.and_self,Bool.not_true,bne_self_eq_false,Bool.and_true]
   refine tkC 16 hHeld ?_
   refine tkC 17 hHeld ?_
   refine tkC 18 hHeld ?_
   refine tkC 19 hHeld ?_
   refine tkC 20 hHeld ?_
   refine tkC 21 hHeld ?_
   refine tkC 22 hHeld ?_
   refine tkC 23 hHeld ?_
   refine tkC 24 hHeld ?_
   refine tkC 25 hHeld ?_
   refine tkC 26 hHeld ?_
   try simp only [beq_self_eq_true,Bool.and_self,Bool.not_true,bne_self_eq_false,Bool.and_true]
   refine tkC 27 hHeld ?_
   refine wpAnyH_done (by kernel_rfl) ?_ _
   have hb9:=Hid.mk hHeld.1
   clear b9 kS HK hHeld
   go_wp2_with fail
   exact ⟨⟨k + 1,by omega,by go_num,hb9.out⟩,by simp [intOf]; omega⟩
  ·have hk2 : k = n':=by omega
   subst hk2
   have HB:=Hid.mk hb
   clear hb F
   go_upto_region 12 with fail
   clear k0 k1 k2 k3
   go_loopw [10] (fun i wr => ∃ j : Nat,j <= nl/\i = .int .i64 j/\Below w1.heap.size w1 wr) (fun i _ => nl - (intOf i).toNat)
   case atStart => exact ⟨0,Nat.zero_le _,rfl,HB.out⟩
   case round =>
    clear HB
    obtain ⟨j,hj,rfl,hb⟩:=hrel
    have F:=FA.out wr hb
    obtain ⟨k0,k1,k2,k3⟩:=F.box.cells
    have hGl2:=F.box.lt
    by_cases hjn : j < nl
    ·have hjl : j < (lvA t.sp).length:=by rw [lvA_len]; have:=hnl'.out; omega
     obtain ⟨g,rfl,hgB,hgl,d0,d1,d2⟩:=F.at'.lv.at3 (j:=j) hjl
     have hy : (rs t).lv.getD j (0,0,0) ∈ lvA t.sp:=by
      show (lvA t.sp).getD j (0,0,0) ∈ _
      rw [List.getD_eq_getElem?_getD,List.getElem?_eq_getElem hjl]
      exact List.getElem_mem hjl
     generalize (rs t).lv.getD j (0,0,0) = y at *
     obtain ⟨hg1,hg2,hg3,hg4⟩:=get_lv HT.out hy
     obtain ⟨y1,y2,y3⟩:=y
     simp only at d0 d1 d2 hg1 hg2 hg3 hg4
     have C13 : ∀ W,Below w1.heap.size w1 W -> Calls Tryz.prog 28 #[.pointer (some ⟨s.p,0,none⟩),.int .i64 y1,.int .i64 y2] W fun e w' => e = .returned (.tuple #[.int .i64 ((getA (ab s) y1 y2).getD 0),.bool (getA (ab s) y1 y2).isSome])/\W = w':=fun W b => get_any (FA.out W b).st.at' hg2 hg3
     have C24 : ∀ W,Below w1.heap.size w1 W -> Calls Tryz.prog 46 #[.pointer (some ⟨s.p,0,none⟩),.int .i64 y3] W fun e w' => e = .returned (.int .i64 ((mget s.refs y3).getD 0))/\W = w':=fun W b => refs_any (FA.out W b).st.at' hg4
     have C40 : ∀ W,Below w1.heap.size w1 W -> Calls Tryz.prog 47 #[.agg #[.slice a0 k c0,.slice (some ⟨g,0,none⟩) nl c1,.slice a2 nb c2,.slice a3 n3 c3],.int .i64 y3] W fun e w' => e = .returned (.int .i64 (cL y3 (rs t).lv : Int))/\Below W.heap.size W w':=fun W b => rrefs_any (FA.out W b).at' (by have:=(lens_rs HT.out).2.1; omega) y3
     generalize (getA (ab s) y1 y2).getD 0 = a4 at *
     generalize (getA (ab s) y1 y2).isSome = b4 at *
     generalize (mget s.refs y3).getD 0 = f1 at *
     generalize (cL y3 (rs t).lv : Int) = f2 at *
     have HK:=Hid.mk (And.intro C13 (And.intro C24 (And.intro C40 hb)))
     clear C13 C24 C40 F hy hg1 hjl
     go_upto_region 16 with (first | (go_at_call 28; refine (HK.out.1 _ (below3 hb (below_al wr _))).mono ?_; rintro e w2 ⟨rfl,rfl⟩))
     have X8:=heap_alloc_new wr (.cells #[.int .i64 y1,.int .i64 y2,.int .i64 y3] 113)
     have B8:=below_al wr (.cells #[.int .i64 y1,.int .i64 y2,.int .i64 y3] 113)
     generalize wr.alloc (.cells #[.int .i64 y1,.int .i64 y2,.int .i64 y3] 113) = W8 at *
     have kS : Hid (∀ w',Below W8.heap.size W8 w' -> Below w1.heap.size w1 w'/\(w'.cell? ⟨G,0,none⟩ = some (.slice a0 k c0)/\w'.cell? ⟨G,1,none⟩ = some (.slice (some ⟨g,0,none⟩) nl c1)/\w'.cell? ⟨G,2,none⟩ = some (.slice a2 nb c2)/\w'.cell? ⟨G,3,none⟩ = some (.slice a3 n3 c3))/\(w'.cell? ⟨wr.heap.size,0,none⟩ = some (.int .i64 y1)/\w'.cell? ⟨wr.heap.size,1,none⟩ = some (.int .i64 y2)/\w'.cell? ⟨wr.heap.size,2,none⟩ = some (.int .i64 y3))/\Below W8.heap.size W8 w'):=fun w' q => by
      have q3:=below3 HK.out.2.2.2 (below3 B8 q)
      have hX:=(q.block _ (Array.getElem?_eq_some_iff.1 X8).1).trans X8
      refine ⟨q3,(FA.out w' q3).box.cells,⟨?_,?_,?_⟩,q⟩
      ·rw [cell_of_row w' _ 0 _ 113 _ hX]; rfl
      ·rw [cell_of_row w' _ 1 _ 113 _ hX]; rfl
      ·rw [cell_of_row w' _ 2 _ 113 _ hX]; rfl
     clear X8 B8 k0 k1 k2 k3 d0 d1 d2 hb
     generalize wr.heap.size = gx at *
     have hnl2 : nl < 50000:=by have:=(lens_rs HT.out).2.1; have:=lvA_len t.sp; have:=hnl'.out; simp only [rs] at *; omega
     cases b4 with
     | false =>
      refine wp_region_held_drew (S:=fun w' => Below w1.heap.size w1 w'/\(w'.cell? ⟨G,0,none⟩ = some (.slice a0 k c0)/\w'.cell? ⟨G,1,none⟩ = some (.slice (some ⟨g,0,none⟩) nl c1)/\w'.cell? ⟨G,2,none⟩ = some (.slice a2 nb c2)/\w'.cell? ⟨G,3,none⟩ = some (.slice a3 n3 c3))/\(w'.cell? ⟨gx,0,none⟩ = some (.int .i64 y1)/\w'.cell? ⟨gx,1,none⟩ = some (.int .i64 y2)/\w'.cell? ⟨gx,2,none⟩ = some (.int .i64 y3))/\Below W8.heap.size W8 w') (by kernel_rfl) (kS.out _ (Below.refl _ W8).drew) (fun hHeld => ?_)
      refine tkC 0 hHeld ?_
      refine tkC 1 hHeld ?_
      refine tkC 2 hHeld ?_
      refine tkJ 3 hHeld ?_
      refine tkJ 4 hHeld ?_
      refine tkJ 5 hHeld ?_
      refine tkJ 6 hHeld ?_
      refine tkC 7 hHeld ?_
      refine tkC 8 hHeld ?_
      refine tkJ 9 hHeld ?_
      refine tkJ 10 hHeld ?_
      refine tkJ 11 hHeld ?_
      refine tkJ 12 hHeld ?_
      refine tkJ 13 hHeld ?_
      refine tkJ 14 hHeld ?_
      refine tkJ 15 hHeld ?_
      refine tkJ 16 hHeld ?_
      refine tkJ 17 hHeld ?_
      refine tkC 18 hHeld ?_
      refine wpAnyH_done (by kernel_rfl) ?_ _
      go_wp2_with fail
      go_ret
      exact smb _ hG.out hbw.out.1 hHeld.1
     | true =>
      by_cases s1 : y3 = a4
      rotate_left
      ·have qI : ((a4 : Int) != (y3 : Int)) = true:=by simp; omega
       refine wp_region_held_drew (S:=fun w' => Below w1.heap.size w1 w'/\(w'.cell? ⟨G,0,none⟩ = some (.slice a0 k c0)/\w'.cell? ⟨G,1,none⟩ = some (.slice (some ⟨g,0,none⟩) nl c1)/\w'.cell? ⟨G,2,none⟩ = some (.slice a2 nb c2)/\w'.cell? ⟨G,3,none⟩ = some (.slice a3 n3 c3))/\(w'.cell? ⟨gx,0,none⟩ = some (.int .i64 y1)/\w'.cell? ⟨gx,1,none⟩ = some (.int .i64 y2)/\w'.cell? ⟨gx,2,none⟩ = some (.int .i64 y3))/\Below W8.heap.size W8 w') (by kernel_rfl) (kS.out _ (Below.refl _ W8).drew) (fun hHeld => ?_)
       refine tkC 0 hHeld ?_
       refine tkC 1 hHeld ?_
       refine tkC 2 hHeld ?_
       refine tkC 3 hHeld ?_
       refine tkC 4 hHeld ?_
       refine tkC 5 hHeld ?_
       refine tkC 6 hHeld ?_
       try simp only [qI]
       refine tkC 7 hHeld ?_
       refine tkC 8 hHeld ?_
       refine tkJ 9 hHeld ?_
       refine tkJ 10 hHeld ?_
       refine tkJ 11 hHeld ?_
       refine tkJ 12 hHeld ?_
       refine tkJ 13 hHeld ?_
       refine tkJ 14 hHeld ?_
       refine tkJ 15 hHeld ?_
       refine tkJ 16 hHeld ?_
       refine tkJ 17 hHeld ?_
       refine tkC 18 hHeld ?_
       refine wpAnyH_done (by kernel_rfl) ?_ _
       go_wp2_with fail
       go_ret
       exact smb _ hG.out hbw.out.1 hHeld.1
      subst s1
      by_cases s2 : f2 = f1
      rotate_left
      ·have qI : ((f1 : Int) != (f2 : Int)) = true:=by simp; omega
       refine wp_region_held_drew (S:=fun w' => Below w1.heap.size w1 w'/\(w'.cell? ⟨G,0,none⟩ = some (.slice a0 k c0)/\w'.cell? ⟨G,1,none⟩ = some (.slice (some ⟨g,0,none⟩) nl c1)/\w'.cell? ⟨G,2,none⟩ = some (.slice a2 nb c2)/\w'.cell? ⟨G,3,none⟩ = some (.slice a3 n3 c3))/\(w'.cell? ⟨gx,0,none⟩ = some (.int .i64 y1)/\w'.cell? ⟨gx,1,none⟩ = some (.int .i64 y2)/\w'.cell? ⟨gx,2,none⟩ = some (.int .i64 y3))/\Below W8.heap.size W8 w') (by kernel_rfl) (kS.out _ (Below.refl _ W8).drew) (fun hHeld => ?_)
       refine tkC 0 hHeld ?_
       refine tkC 1 hHeld ?_
       refine tkC 2 hHeld ?_
       refine tkC 3 hHeld ?_
       refine tkC 4 hHeld ?_
       refine tkC 5 hHeld ?_
       refine tkC 6 hHeld ?_
       try simp only [bne_self_eq_false]
       refine tkC 7 hHeld ?_
       refine tkC 8 hHeld ?_
       refine tkC 9 hHeld ?_
       refine tkC 10 hHeld ?_
       refine tkC 11 hHeld ?_
       refine tkC 13 hHeld ?_
       refine tkC 14 hHeld ?_
       refine tkC 15 hHeld ?_
       refine wpAnyH_ready (rs := [12]) (by kernel_rfl) (by simp) ?_
       refine arH rfl (fun K hK => ?_) AllReadyH.nil
       go_simp
       go_at_call 46
       refine (HK.out.2.1 _ hHeld.1).mono ?_
       rintro e w5 ⟨rfl,rfl⟩
       refine hK.out _ _ hHeld (fun hHeld => ?_)
       clear hK K
       try simp only [Act.put,zA,zB,zC]
       refine wpAnyH_ready (rs := [16]) (by kernel_rfl) (by simp) ?_
       refine arH rfl (fun K hK => ?_) AllReadyH.nil
       go_simp
       go_at_call 47
       refine (HK.out.2.2.1 _ hHeld.1).mono ?_
       rintro e w9 ⟨rfl,b9⟩
       refine hK.out _ _ (kS.out _ (below3 hHeld.2.2.2 b9)) (fun hHeld => ?_)
       clear hK K
       try simp only [Act.put,zA,zB,zC]
       refine tkC 17 hHeld ?_
       try simp only [qI]
       refine tkC 18 hHeld ?_
       refine wpAnyH_done (by kernel_rfl) ?_ _
       go_wp2_with fail
       go_ret
       exact smb _ hG.out hbw.out.1 hHeld.1
      subst s2
      refine wp_region_held_drew (S:=fun w' => Below w1.heap.size w1 w'/\(w'.cell? ⟨G,0,none⟩ = some (.slice a0 k c0)/\w'.cell? ⟨G,1,none⟩ = some (.slice (some ⟨g,0,none⟩) nl c1)/\w'.cell? ⟨G,2,none⟩ = some (.slice a2 nb c2)/\w'.cell? ⟨G,3,none⟩ = some (.slice a3 n3 c3))/\(w'.cell? ⟨gx,0,none⟩ = some (.int .i64 y1)/\w'.cell? ⟨gx,1,none⟩ = some (.int .i64 y2)/\w'.cell? ⟨gx,2,none⟩ = some (.int .i64 y3))/\Below W8.heap.size W8 w') (by kernel_rfl) (kS.out _ (Below.refl _ W8).drew) (fun hHeld => ?_)
      refine tkC 0 hHeld ?_
      refine tkC 1 hHeld ?_
      refine tkC 2 hHeld ?_
      refine tkC 3 hHeld ?_
      refine tkC 4 hHeld ?_
      refine tkC 5 hHeld ?_
      refine tkC 6 hHeld ?_
      try simp only [bne_self_eq_false]
      refine tkC 7 hHeld ?_
      refine tkC 8 hHeld ?_
      refine tkC 9 hHeld ?_
      refine tkC 10 hHeld ?_
      refine tkC 11 hHeld ?_
      refine tkC 13 hHeld ?_
      refine tkC 14 hHeld ?_
      refine tkC 15 hHeld ?_
      refine wpAnyH_ready (rs := [12]) (by kernel_rfl) (by simp) ?_
      refine arH rfl (fun K hK => ?_) AllReadyH.nil
      go_simp
      go_at_call 46
      refine (HK.out.2.1 _ hHeld.1).mono ?_
      rintro e w5 ⟨rfl,rfl⟩
      refine hK.out _ _ hHeld (fun hHeld => ?_)
      clear hK K
      try simp only [Act.put,zA,zB,zC]
      refine wpAnyH_ready (rs := [16]) (by kernel_rfl) (by simp) ?_
      refine arH rfl (fun K hK => ?_) AllReadyH.nil
      go_simp
      go_at_call 47
      refine (HK.out.2.2.1 _ hHeld.1).mono ?_
      rintro e w9 ⟨rfl,b9⟩
      refine hK.out _ _ (kS.out _ (below3 hHeld.2.2.2 b9)) (fun hHeld => ?_)
      clear hK K
      try simp only [Act.put,zA,zB,zC]
      refine tkC 17 hHeld ?_
      try simp only [bne_self_eq_false]
      refine tkC 18 hHeld ?_
      refine wpAnyH_done (by kernel_rfl) ?_ _
      have hb9:=Hid.mk hHeld.1
      clear b9 kS HK hHeld
      go_wp2_with fail
      exact ⟨⟨j + 1,by omega,by go_num,hb9.out⟩,by simp [intOf]; omega⟩
    ·have hj2 : j = nl:=by omega
     subst hj2
     have hN0:=dump_rs hbw.out.2
     rw [dump_same hbw.out.2] at hN0
     have hM0:=dump_rs HT.out
     have C16 : ∀ W,Below w1.heap.size w1 W -> Calls Tryz.prog 48 #[.pointer (some ⟨s.p,0,none⟩)] W fun e w' => ∃ a c,e = .returned (.slice a (dumpA (ab s)).length c)/\Ow w' G 87 6 (.slice a (dumpA (ab s)).length c) ((dumpA (ab s)).map rR)/\Below W.heap.size W w':=fun W b => by
      refine (dump_any (FA.out W b).st).mono ?_
      rintro e w' ⟨v,rfl,o,b'⟩
      obtain ⟨a,c,rfl⟩:=o.form
      rw [List.length_map] at o |-
      exact ⟨a,c,rfl,o.lower (Nat.le_of_lt (FA.out W b).box.lt),b'⟩
     have C41 : ∀ W,Below w1.heap.size w1 W -> Calls Tryz.prog 29 #[.agg #[.slice a0 k c0,.slice a1 j c1,.slice a2 nb c2,.slice a3 n3 c3]] W fun e w' => ∃ a c,e = .returned (.slice a (dumpR (rs t)).length c)/\Ow w' G 87 6 (.slice a (dumpR (rs t)).length c) ((dumpR (rs t)).map rR)/\Below W.heap.size W w':=fun W b => by
      refine (rdump_any (FA.out W b).at' (dump_rs HT.out) (lens_rs HT.out)).mono ?_
      rintro e w' ⟨v,rfl,o,b'⟩
      obtain ⟨a,c,rfl⟩:=o.form
      rw [List.length_map] at o |-
      exact ⟨a,c,rfl,o.lower (Nat.le_of_lt (FA.out W b).box.lt),b'⟩
     generalize dumpA (ab s) = DA at *
     generalize dumpR (rs t) = DB at *
     generalize hN : DA.length = N at *
     generalize hM : DB.length = M at *
     replace hN:=Hid.mk hN
     replace hM:=Hid.mk hM
     have kS : Hid (∀ w',Below w1.heap.size w1 w' -> Below w1.heap.size w1 w'/\w'.cell? ⟨G,0,none⟩ = some (.slice a0 k c0)/\w'.cell? ⟨G,1,none⟩ = some (.slice a1 j c1)/\w'.cell? ⟨G,2,none⟩ = some (.slice a2 nb c2)/\w'.cell? ⟨G,3,none⟩ = some (.slice a3 n3 c3)):=fun w' q => ⟨q,(FA.out w' q).box.cells⟩
     have HK:=Hid.mk (And.intro C16 (And.intro C41 hb))
     clear C16 C41 hb F
     go_upto_region 18 with fail
     clear k0 k1 k2 k3
     go_region_held3 (fun w' => Below w1.heap.size w1 w'/\w'.cell? ⟨G,0,none⟩ = some (.slice a0 k c0)/\w'.cell? ⟨G,1,none⟩ = some (.slice a1 j c1)/\w'.cell? ⟨G,2,none⟩ = some (.slice a2 nb c2)/\w'.cell? ⟨G,3,none⟩ = some (.slice a3 n3 c3))
      (first | assumption | exact kS.out _ HK.out.2.2 | exact kS.out _ HK.out.2.2.drew | exact kS.out _ (below3 (And.left (by assumption)) (by assumption)) | fail)
      (first | (go_at_call 48; refine (HK.out.1 _ (And.left (by assumption))).mono ?_; rintro e w5 ⟨aa,ca,rfl,o5,b5⟩) | (go_at_call 29; refine (HK.out.2.1 _ (And.left (by assumption))).mono ?_; rintro e w6 ⟨ba,cb,rfl,o6,b6⟩))
     ·have LA : Hid (∀ W,Below w6.heap.size w6 W -> Ow W G 87 6 (.slice aa N ca) (DA.map rR)/\Ow W G 87 6 (.slice ba M cb) (DB.map rR)):=fun W b => ⟨(o5.call b6).call b,o6.call b⟩
      have hb9 : Hid (Below w1.heap.size w1 w6):=And.left (by assumption)
      clear b5 b6 o5 o6 kS HK
      by_cases hNM : M = N
      rotate_left
      ·have qI : ((N : Int) != (M : Int)) = true:=by simp; omega
       have qJ : ¬ (N : Int) = (M : Int):=by omega
       go_wp2_with fail
       go_ret
       exact smb _ hG.out hbw.out.1 hb9.out
      subst hNM
      go_upto_region 22 with fail
      go_loopw [16] (fun i wr => ∃ l : Nat,l <= M/\i = .int .i64 l/\Below w6.heap.size w6 wr) (fun i _ => M - (intOf i).toNat)
      case atStart => exact ⟨0,Nat.zero_le _,rfl,Below.refl _ w6⟩
      case round =>
       obtain ⟨l,hl,rfl,hb⟩:=hrel
       by_cases hln : l < M
       ·have hll : l < (DA.map rR).length:=by rw [List.length_map]; have:=hN.out; omega
        have hlm : l < (DB.map rR).length:=by rw [List.length_map]; have:=hM.out; omega
        obtain ⟨oA,oB⟩:=LA.out wr hb
        obtain ⟨ga,rfl,hgaB,hgal,ha⟩:=oA.at hll
        obtain ⟨gb,rfl,hgbB,hgbl,hbb⟩:=oB.at hlm
        have hre : (DA.map rR).getD l [] = rR (DA.getD l (0,0,0,0,0,0)):=by
         rw [List.length_map] at hll
         rw [List.getD_eq_getElem?_getD,List.getElem?_map,List.getElem?_eq_getElem hll,List.getD_eq_getElem?_getD,List.getElem?_eq_getElem hll]; rfl
        have hre2 : (DB.map rR).getD l [] = rR (DB.getD l (0,0,0,0,0,0)):=by
         rw [List.length_map] at hlm
         rw [List.getD_eq_getElem?_getD,List.getElem?_map,List.getElem?_eq_getElem hlm,List.getD_eq_getElem?_getD,List.getElem?_eq_getElem hlm]; rfl
        rw [hre] at ha
        rw [hre2] at hbb
        generalize DA.getD l (0,0,0,0,0,0) = r at *
        generalize DB.getD l (0,0,0,0,0,0) = r' at *
        obtain ⟨r1,r2,r3,r4,r5,r6⟩:=r
        obtain ⟨p1,p2,p3,p4,p5,p6⟩:=r'
        have c0 : wr.cell? ⟨ga,l * 6,none⟩ = some (.int .i64 r1):=ha 0 (by decide)
        have c1 : wr.cell? ⟨ga,l * 6 + 1,none⟩ = some (.int .i64 r2):=ha 1 (by decide)
        have c2 : wr.cell? ⟨ga,l * 6 + 2,none⟩ = some (.int .i64 r3):=ha 2 (by decide)
        have c3 : wr.cell? ⟨ga,l * 6 + 3,none⟩ = some (.int .i64 r4):=ha 3 (by decide)
        have c4 : wr.cell? ⟨ga,l * 6 + 4,none⟩ = some (.int .i64 r5):=ha 4 (by decide)
        have c5 : wr.cell? ⟨ga,l * 6 + 5,none⟩ = some (.int .i64 r6):=ha 5 (by decide)
        have q0 : wr.cell? ⟨gb,l * 6,none⟩ = some (.int .i64 p1):=hbb 0 (by decide)
        have q1 : wr.cell? ⟨gb,l * 6 + 1,none⟩ = some (.int .i64 p2):=hbb 1 (by decide)
        have q2 : wr.cell? ⟨gb,l * 6 + 2,none⟩ = some (.int .i64 p3):=hbb 2 (by decide)
        have q3 : wr.cell? ⟨gb,l * 6 + 3,none⟩ = some (.int .i64 p4):=hbb 3 (by decide)
        have q4 : wr.cell? ⟨gb,l * 6 + 4,none⟩ = some (.int .i64 p5):=hbb 4 (by decide)
        have q5 : wr.cell? ⟨gb,l * 6 + 5,none⟩ = some (.int .i64 p6):=hbb 5 (by decide)
        have HB:=Hid.mk hb
        clear hb oA oB ha hbb hre hre2 hll hlm
        go_upto_region 24 with fail
        by_cases s1 : p1 = r1
        rotate_left
        ·have qI : ((r1 : Int) == (p1 : Int)) = false:=by simpa using fun e => s1 e.symm
         refine wp_region_held_drew (S:=fun w' => (w'.cell? ⟨ga,l * 6,none⟩ = some (.int .i64 r1)/\w'.cell? ⟨ga,l * 6 + 1,none⟩ = some (.int .i64 r2)/\w'.cell? ⟨ga,l * 6 + 2,none⟩ = some (.int .i64 r3)/\w'.cell? ⟨ga,l * 6 + 3,none⟩ = some (.int .i64 r4)/\w'.cell? ⟨ga,l * 6 + 4,none⟩ = some (.int .i64 r5)/\w'.cell? ⟨ga,l * 6 + 5,none⟩ = some (.int .i64 r6))/\w'.cell? ⟨gb,l * 6,none⟩ = some (.int .i64 p1)/\w'.cell? ⟨gb,l * 6 + 1,none⟩ = some (.int .i64 p2)/\w'.cell? ⟨gb,l * 6 + 2,none⟩ = some (.int .i64 p3)/\w'.cell? ⟨gb,l * 6 + 3,none⟩ = some (.int .i64 p4)/\w'.cell? ⟨gb,l * 6 + 4,none⟩ = some (.int .i64 p5)/\w'.cell? ⟨gb,l * 6 + 5,none⟩ = some (.int .i64 p6)) (by kernel_rfl) ⟨⟨c0,c1,c2,c3,c4,c5⟩,q0,q1,q2,q3,q4,q5⟩ (fun hHeld => ?_)
         refine tkC 0 hHeld ?_
         refine tkC 1 hHeld ?_
         refine tkC 2 hHeld ?_
         refine tkC 3 hHeld ?_
         refine tkC 4 hHeld ?_
         refine tkC 5 hHeld ?_
         refine tkC 6 hHeld ?_
         refine tkC 7 hHeld ?_
         refine tkC 8 hHeld ?_
         try simp only [qI,Bool.false_and,Bool.and_false,Bool.not_false,Bool.true_and,beq_self_eq_true,bne,Bool.not_true]
         refine wpAnyH_done (by kernel_rfl) ?_ _
         go_wp2_with fail
         go_ret
         exact smb _ hG.out hbw.out.1 (below3 hb9.out (below_drewN HB.out))
        subst s1
        by_cases s2 : p2 = r2
        rotate_left
        ·have qI : ((r2 : Int) == (p2 : Int)) = false:=by simpa using fun e => s2 e.symm
         refine wp_region_held_drew (S:=fun w' => (w'.cell? ⟨ga,l * 6,none⟩ = some (.int .i64 p1)/\w'.cell? ⟨ga,l * 6 + 1,none⟩ = some (.int .i64 r2)/\w'.cell? ⟨ga,l * 6 + 2,none⟩ = some (.int .i64 r3)/\w'.cell? ⟨ga,l * 6 + 3,none⟩ = some (.int .i64 r4)/\w'.cell? ⟨ga,l * 6 + 4,none⟩ = some (.int .i64 r5)/\w'.cell? ⟨ga,l * 6 + 5,none⟩ = some (.int .i64 r6))/\w'.cell? ⟨gb,l * 6,none⟩ = some (.int .i64 p1)/\w'.cell? ⟨gb,l * 6 + 1,none⟩ = some (.int .i64 p2)/\w'.cell? ⟨gb,l * 6 + 2,none⟩ = some (.int .i64 p3)/\w'.cell? ⟨gb,l * 6 + 3,none⟩ = some (.int .i64 p4)/\w'.cell? ⟨gb,l * 6 + 4,none⟩ = some (.int .i64 p5)/\w'.cell? ⟨gb,l * 6 + 5,none⟩ = some (.int .i64 p6)) (by kernel_rfl) ⟨⟨c0,c1,c2,c3,c4,c5⟩,q0,q1,q2,q3,q4,q5⟩ (fun hHeld => ?_)
         refine tkC 0 hHeld ?_
         refine tkC 1 hHeld ?_
         refine tkC 2 hHeld ?_
         refine tkC 3 hHeld ?_
         refine tkC 4 hHeld ?_
         refine tkC 5 hHeld ?_
         refine tkC 6 hHeld ?_
         refine tkC 7 hHeld ?_
         refine tkC 8 hHeld ?_
         try simp only [qI,Bool.false_and,Bool.and_false,Bool.not_false,Bool.true_and,beq_self_eq_true,bne,Bool.not_true]
         refine wpAnyH_done (by kernel_rfl) ?_ _
         go_wp2_with fail
         go_ret
         exact smb _ hG.out hbw.out.1 (below3 hb9.out (below_drewN HB.out))
        subst s2
        by_cases s3 : p3 = r3
        rotate_left
        ·have qI : ((r3 : Int) == (p3 : Int)) = false:=by simpa using fun e => s3 e.symm
         refine wp_region_held_drew (S:=fun w' => (w'.cell? ⟨ga,l * 6,none⟩ = some (.int .i64 p1)/\w'.cell? ⟨ga,l * 6 + 1,none⟩ = some (.int .i64 p2)/\w'.cell? ⟨ga,l * 6 + 2,none⟩ = some (.int .i64 r3)/\w'.cell? ⟨ga,l * 6 + 3,none⟩ = some (.int .i64 r4)/\w'.cell? ⟨ga,l * 6 + 4,none⟩ = some (.int .i64 r5)/\w'.cell? ⟨ga,l * 6 + 5,none⟩ = some (.int .i64 r6))/\w'.cell? ⟨gb,l * 6,none⟩ = some (.int .i64 p1)/\w'.cell? ⟨gb,l * 6 + 1,none⟩ = some (.int .i64 p2)/\w'.cell? ⟨gb,l * 6 + 2,none⟩ = some (.int .i64 p3)/\w'.cell? ⟨gb,l * 6 + 3,none⟩ = some (.int .i64 p4)/\w'.cell? ⟨gb,l * 6 + 4,none⟩ = some (.int .i64 p5)/\w'.cell? ⟨gb,l * 6 + 5,none⟩ = some (.int .i64 p6)) (by kernel_rfl) ⟨⟨c0,c1,c2,c3,c4,c5⟩,q0,q1,q2,q3,q4,q5⟩ (fun hHeld => ?_)
         refine tkC 0 hHeld ?_
         refine tkC 1 hHeld ?_
         refine tkC 2 hHeld ?_
         refine tkC 3 hHeld ?_
         refine tkC 4 hHeld ?_
         refine tkC 5 hHeld ?_
         refine tkC 6 hHeld ?_
         refine tkC 7 hHeld ?_
         refine tkC 8 hHeld ?_
         try simp only [qI,Bool.false_and,Bool.and_false,Bool.not_false,Bool.true_and,beq_self_eq_true,bne,Bool.not_true]
         refine wpAnyH_done (by kernel_rfl) ?_ _
         go_wp2_with fail
         go_ret
         exact smb _ hG.out hbw.out.1 (below3 hb9.out (below_drewN HB.out))
        subst s3
        by_cases s4 : p4 = r4
        rotate_left
        ·have qI : ((r4 : Int) == (p4 : Int)) = false:=by simpa using fun e => s4 e.symm
         refine wp_region_held_drew (S:=fun w' => (w'.cell? ⟨ga,l * 6,none⟩ = some (.int .i64 p1)/\w'.cell? ⟨ga,l * 6 + 1,none⟩ = some (.int .i64 p2)/\w'.cell? ⟨ga,l * 6 + 2,none⟩ = some (.int .i64 p3)/\w'.cell? ⟨ga,l * 6 + 3,none⟩ = some (.int .i64 r4)/\w'.cell? ⟨ga,l * 6 + 4,none⟩ = some (.int .i64 r5)/\w'.cell? ⟨ga,l * 6 + 5,none⟩ = some (.int .i64 r6))/\w'.cell? ⟨gb,l * 6,none⟩ = some (.int .i64 p1)/\w'.cell? ⟨gb,l * 6 + 1,none⟩ = some (.int .i64 p2)/\w'.cell? ⟨gb,l * 6 + 2,none⟩ = some (.int .i64 p3)/\w'.cell? ⟨gb,l * 6 + 3,none⟩ = some (.int .i64 p4)/\w'.cell? ⟨gb,l * 6 + 4,none⟩ = some (.int .i64 p5)/\w'.cell? ⟨gb,l * 6 + 5,none⟩ = some (.int .i64 p6)) (by kernel_rfl) ⟨⟨c0,c1,c2,c3,c4,c5⟩,q0,q1,q2,q3,q4,q5⟩ (fun hHeld => ?_)
         refine tkC 0 hHeld ?_
         refine tkC 1 hHeld ?_
         refine tkC 2 hHeld ?_
         refine tkC 3 hHeld ?_
         refine tkC 4 hHeld ?_
         refine tkC 5 hHeld ?_
         refine tkC 6 hHeld ?_
         refine tkC 7 hHeld ?_
         refine tkC 8 hHeld ?_
         try simp only [qI,Bool.false_and,Bool.and_false,Bool.not_false,Bool.true_and,beq_self_eq_true,bne,Bool.not_true]
         refine wpAnyH_done (by kernel_rfl) ?_ _
         go_wp2_with fail
         go_ret
         exact smb _ hG.out hbw.out.1 (below3 hb9.out (below_drewN HB.out))
        subst s4
        by_cases s5 : p5 = r5
        rotate_left
        ·have qI : ((r5 : Int) == (p5 : Int)) = false:=by simpa using fun e => s5 e.symm
         refine wp_region_held_drew (S:=fun w' => (w'.cell? ⟨ga,l * 6,none⟩ = some (.int .i64 p1)/\w'.cell? ⟨ga,l * 6 + 1,none⟩ = some (.int .i64 p2)/\w'.cell? ⟨ga,l * 6 + 2,none⟩ = some (.int .i64 p3)/\w'.cell? ⟨ga,l * 6 + 3,none⟩ = some (.int .i64 p4)/\w'.cell? ⟨ga,l * 6 + 4,none⟩ = some (.int .i64 r5)/\w'.cell? ⟨ga,l * 6 + 5,none⟩ = some (.int .i64 r6))/\w'.cell? ⟨gb,l * 6,none⟩ = some (.int .i64 p1)/\w'.cell? ⟨gb,l * 6 + 1,none⟩ = some (.int .i64 p2)/\w'.cell? ⟨gb,l * 6 + 2,none⟩ = some (.int .i64 p3)/\w'.cell? ⟨gb,l * 6 + 3,none⟩ = some (.int .i64 p4)/\w'.cell? ⟨gb,l * 6 + 4,none⟩ = some (.int .i64 p5)/\w'.cell? ⟨gb,l * 6 + 5,none⟩ = some (.int .i64 p6)) (by kernel_rfl) ⟨⟨c0,c1,c2,c3,c4,c5⟩,q0,q1,q2,q3,q4,q5⟩ (fun hHeld => ?_)
         refine tkC 0 hHeld ?_
         refine tkC 1 hHeld ?_
         refine tkC 2 hHeld ?_
         refine tkC 3 hHeld ?_
         refine tkC 4 hHeld ?_
         refine tkC 5 hHeld ?_
         refine tkC 6 hHeld ?_
         refine tkC 7 hHeld ?_
         refine tkC 8 hHeld ?_
         try simp only [qI,Bool.false_and,Bool.and_false,Bool.not_false,Bool.true_and,beq_self_eq_true,bne,Bool.not_true]
         refine wpAnyH_done (by kernel_rfl) ?_ _
         go_wp2_with fail
         go_ret
         exact smb _ hG.out hbw.out.1 (below3 hb9.out (below_drewN HB.out))
        subst s5
        by_cases s6 : p6 = r6
        rotate_left
        ·have qI : ((r6 : Int) == (p6 : Int)) = false:=by simpa using fun e => s6 e.symm
         refine wp_region_held_drew (S:=fun w' => (w'.cell? ⟨ga,l * 6,none⟩ = some (.int .i64 p1)/\w'.cell? ⟨ga,l * 6 + 1,none⟩ = some (.int .i64 p2)/\w'.cell? ⟨ga,l * 6 + 2,none⟩ = some (.int .i64 p3)/\w'.cell? ⟨ga,l * 6 + 3,none⟩ = some (.int .i64 p4)/\w'.cell? ⟨ga,l * 6 + 4,none⟩ = some (.int .i64 p5)/\w'.cell? ⟨ga,l * 6 + 5,none⟩ = some (.int .i64 r6))/\w'.cell? ⟨gb,l * 6,none⟩ = some (.int .i64 p1)/\w'.cell? ⟨gb,l * 6 + 1,none⟩ = some (.int .i64 p2)/\w'.cell? ⟨gb,l * 6 + 2,none⟩ = some (.int .i64 p3)/\w'.cell? ⟨gb,l * 6 + 3,none⟩ = some (.int .i64 p4)/\w'.cell? ⟨gb,l * 6 + 4,none⟩ = some (.int .i64 p5)/\w'.cell? ⟨gb,l * 6 + 5,none⟩ = some (.int .i64 p6)) (by kernel_rfl) ⟨⟨c0,c1,c2,c3,c4,c5⟩,q0,q1,q2,q3,q4,q5⟩ (fun hHeld => ?_)
         refine tkC 0 hHeld ?_
         refine tkC 1 hHeld ?_
         refine tkC 2 hHeld ?_
         refine tkC 3 hHeld ?_
         refine tkC 4 hHeld ?_
         refine tkC 5 hHeld ?_
         refine tkC 6 hHeld ?_
         refine tkC 7 hHeld ?_
         refine tkC 8 hHeld ?_
         try simp only [qI,Bool.false_and,Bool.and_false,Bool.not_false,Bool.true_and,beq_self_eq_true,bne,Bool.not_true]
         refine wpAnyH_done (by kernel_rfl) ?_ _
         go_wp2_with fail
         go_ret
         exact smb _ hG.out hbw.out.1 (below3 hb9.out (below_drewN HB.out))
        subst s6
        go_quiet (fail)
        go_wp2_with fail
        exact ⟨⟨l + 1,by omega,by go_num,below_drewN HB.out⟩,by simp [intOf]; omega⟩
       ·have hl2 : l = M:=by omega
        subst hl2
        have HB:=Hid.mk hb
        clear hb
        go_wp2_with fail
        go_ret
        exact smb _ hG.out hbw.out.1 (below3 hb9.out HB.out)
end Go.Proofs.YtaphpdmfjnhlaaaGreatDoor.S8
