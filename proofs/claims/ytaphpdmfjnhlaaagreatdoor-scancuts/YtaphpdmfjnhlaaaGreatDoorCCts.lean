/-
  A group of the journal in which the power may fail: what is written then. Condition: the table's cells hold what the text lays.
-/
import Derived.Test.YtaphpdmfjnhlaaaGreatDoorCWro
import Derived.Test.YtaphpdmfjnhlaaaGreatDoorCTrs
namespace Go.Proofs.YtaphpdmfjnhlaaaGreatDoor
open Go Go.RowKit
set_option maxRecDepth 100000
theorem Sq.arm {X : Wx} {a r T Q n} (h : Sq 0 X a r T Q) (hn : a * X.C.P + r = n) (c : Int -> Option (Int × Int)) (f : Int -> Bool) : Sq n { X with C := { X.C with did:=0,cuts:=c,fails:=f } } a r T Q :=
 ⟨⟨h.fin.off,h.fin.free,h.fin.opn,h.fin.cnt,h.fin.geo⟩,h.wz,h.le,h.xs,h.nx,h.says,by show (0 : Int) + (n : Int) = _; rw [<- hn]; simp,h.bd⟩
theorem cuts_one (at' : Nat) (kf : Int × Int) (n i : Nat) : cutsOf [((at' : Int),kf)] ((i : Int) + 1) = if i + n + 1 = n + at' then some kf else none:=by
 unfold cutsOf
 by_cases h : (at' : Int) = (i : Int) + 1
 ·rw [if_pos (by omega)]
  simp [h]
 ·rw [if_neg (by omega)]
  simp [h]
theorem puts_first (rs : List Gp.R6) (h0 : 0 < rs.length) (hm : ∀ r ∈ rs,Gp.R6.may r = true) : (Gp.puts rs).data.toList.getD 0 0 ≠ 0:=by
 cases rs with
 | nil => simp at h0
 | cons r l =>
  obtain ⟨K,S,P,A,T,N⟩:=r
  have hk:=Gp.may_vals (Gp.mayB_iff.1 (hm (K,S,P,A,T,N) (by simp)))
  have e : (Gp.puts ((K,S,P,A,T,N) :: l)).data.toList.getD 0 0 = UInt8.ofNat K.toNat:=by
   show ((⟨#[UInt8.ofNat K.toNat]⟩ ++ Gp.numsB (Gp.valsL (Gp.flds K) (Gp.R6.l (K,S,P,A,T,N)))) ++ Gp.puts l : ByteArray).data.toList.getD 0 0 = _
   rw [ByteArray.data_append,Array.toList_append,ByteArray.data_append,Array.toList_append]
   rfl
  rw [e]
  intro q
  have q2 : UInt8.ofNat K.toNat = UInt8.ofNat 0:=q
  have:=u8_small (by omega) (by omega) q2
  omega
def CutE (c0 m kk s : Nat) (recs : List Gp.R6) (st : Nat -> S8.Ab) (t' : S8.Ab) (C : Ch) (er : Int) : Prop :=
 ∃ T2 Q2 kk2 rows2 st2,Wp T2 Q2 c0 m kk2 s recs rows2 st2/\c0 + m + kk2 <= C.B * C.P/\(∀ i,i < C.B * C.P -> PgIs C (i / C.P) (i % C.P) (if i < c0 + m + kk2 then some (T2 i,Q2 i) else none))/\(st2 kk2 = t' \/ (st2 kk2 = st kk/\er ≠ 0))
theorem write_cut {w : World} {A X} (h : Wtr w A X) (hT : Pg.Tab w) {a r : Nat} {T : Nat -> ByteArray} {Q : Nat -> Tg} {c0 m kk s : Nat} {recs : List Gp.R6} {rows : Nat -> List Gp.R6} {st : Nat -> S8.Ab} {t' : S8.Ab} (n0 : Nat) (hn : n0 = c0 + m + kk) (hq : Sq n0 X a r T Q) (hn0 : a * X.C.P + r = n0) (hwp : Wp T Q c0 m kk s recs rows st) (rs : List Gp.R6) (ra : Option Addr) (rc : Nat)
  (hx : Gp.RecsF w ra rs.length (fun i => rs.getD i (0,0,0,0,0,0))) (hmay : ∀ r ∈ rs,Gp.R6.may r = true) (h6 : rs.length <= 6) (h0 : 0 < rs.length) (hp : S8.plays (st kk) rs t') (hk : kk <= 18) (hsm : s + kk <= 900000) (hz : 64 <= X.C.Z)
  (at' : Nat) (hat : 1 <= at') (cK cF : Int) (hc : X.C.cuts = cutsOf [((at' : Int),cK,cF)]) (hf : ∀ i,X.C.fails i = false) :
  Calls Tryz.prog 17 #[.pointer (some ⟨A.a,0,none⟩),.slice ra rs.length rc,.int .i64 (2 : Nat),.int .u64 ((s + 1 + kk : Nat) : Int),.int .i64 64] w fun e w' => ∃ X' A' v x er,e = .returned (.tuple #[v,.int .u64 x,.int .i64 er])/\Wtr w' A' X'/\Pg.Tab w'/\Nxt A A' X.C.B w w'/\Geq X' X/\(er = 0 \/ er = 51 \/ er = 130)/\CutE c0 m kk s recs st t' X'.C er:=by
 have hgeo:=h.chip.geo
 have hsz:=Gp.puts_size rs hmay
 have hpk:=pack_few rs hmay h6
 have hS2 : Sq n0 X a r (tN T n0 [Gp.puts rs]) (qN Q n0 2 (s + 1 + kk) 1):=hq.cong (fun i hi => by
  rw [hn0] at hi
  exact ⟨if_pos hi,if_pos hi⟩)
 have tlo : ∀ i,i < n0 -> tN T n0 [Gp.puts rs] i = T i/\qN Q n0 2 (s + 1 + kk) 1 i = Q i:=fun i hi => ⟨if_pos hi,if_pos hi⟩
 have hW:=hwp.group rs hmay h6 hk hp
 rw [<- hn] at hW
 have hW2 : (fun j => if j = kk + 1 then t' else st j) (kk + 1) = t':=if_pos rfl
 have hw:=write_any h hT hS2 n0 hn0 rs ra rc hx hmay (by omega) 2 (by omega) (s + 1 + kk) (by omega) 64 ⟨by omega,hz⟩ [Gp.puts rs] hpk (fun i hi => by
  unfold tN qN
  rw [if_neg (by omega),if_neg (by omega),Nat.add_sub_cancel_left]
  exact ⟨rfl,rfl⟩) (n0 + at') (cK,cF) (fun i => by rw [hc]; exact cuts_one at' (cK,cF) n0 i) hf (.inr (by omega))
 refine hw.mono ?_
 rintro e w' ⟨X',A',hw',tb',nx',g',cu',fa',hcase⟩
 have hP : X'.C.P = X.C.P:=g'.2.1
 have hBB : X'.C.B = X.C.B:=g'.1
 have hl1 : [Gp.puts rs].length = 1:=rfl
 rw [hl1] at hcase
 rcases hcase with ⟨hno,hfit,⟨v,rfl,_⟩,a',r',har,hS⟩ | ⟨h1,h2,⟨x,rfl⟩,a',r',har,hS⟩ | ⟨h1,⟨x,rfl⟩,hS⟩
 ·refine ⟨X',A',v,_,0,rfl,hw',tb',nx',g',.inl rfl,_,_,kk + 1,_,_,hW,by rw [hBB,hP]; omega,fun i hi => ?_,.inl hW2⟩
  have:=hS.pgs (by rw [hP]; omega) hi
  rw [hP,har,show n0 + 1 = c0 + m + (kk + 1) by omega] at this
  rw [hP]
  exact this
 ·obtain ⟨d,sp,hv,hds,hpg⟩:=hS.torn
  have hk' : a' * X.C.P + r' = n0:=by omega
  rw [hP,hk'] at hv
  have eT : tN T n0 [Gp.puts rs] n0 = Gp.puts rs:=by unfold tN; rw [if_neg (by omega),Nat.sub_self]; rfl
  have eQ : qN Q n0 2 (s + 1 + kk) 1 n0 = (2,sqN ((2 : Nat) : Int) (s + 1 + kk) 0,0,1):=by unfold qN; rw [if_neg (by omega),Nat.sub_self]
  rw [eT,eQ] at hv
  have htorn:=torn_same (C:=X'.C) (b:=a') (p:=r') hv hds (by dsimp only; omega) ⟨by omega,by omega⟩ (puts_first rs h0 hmay) cK cF hpg
  have hlt:=hS.lt
  have hpgs : ∀ (y : Nat) (hy : y = n0 \/ y = n0 + 1),(y = n0 -> Nov X'.C a' r') -> (y = n0 + 1 -> Says X'.C a' r' (Gp.puts rs) 2 (sqN ((2 : Nat) : Int) (s + 1 + kk) 0) 0 1 0) -> ∀ i,i < X'.C.B * X'.C.P -> PgIs X'.C (i / X'.C.P) (i % X'.C.P) (if i < y then some (tN T n0 [Gp.puts rs] i,qN Q n0 2 (s + 1 + kk) 1 i) else none):=by
   intro y hy hN hY i hi
   have hpos : 0 < X'.C.P:=by rw [hP]; omega
   have hB' : i / X'.C.P < X'.C.B:=Nat.div_lt_of_lt_mul (by rw [Nat.mul_comm]; exact hi)
   have hm : i % X'.C.P < X'.C.P:=Nat.mod_lt _ hpos
   have hdm : i / X'.C.P * X'.C.P + i % X'.C.P = i:=by rw [Nat.mul_comm]; exact Nat.div_add_mod i X'.C.P
   rw [<- hP] at hk'
   generalize i / X'.C.P = b at *
   generalize i % X'.C.P = p at *
   have hcmp : (i < n0 ↔ ((b < a'/\p < X'.C.P) \/ (b = a'/\p < r')))/\(i = n0 ↔ (b = a'/\p = r')):=by
    rw [<- hk']
    rcases Nat.lt_trichotomy b a' with e | e | e
    ·have:=Nat.mul_le_mul_right X'.C.P (show b + 1 <= a' by omega)
     rw [Nat.succ_mul] at this
     constructor <;> omega
    ·subst e; constructor <;> omega
    ·have:=Nat.mul_le_mul_right X'.C.P (show a' + 1 <= b by omega)
     rw [Nat.succ_mul] at this
     constructor <;> omega
   by_cases e : i < n0
   ·rw [if_pos (by omega)]
    have:=hS.says b p (hcmp.1.1 e)
    rw [hdm] at this
    exact this
   ·by_cases e2 : i = n0
    ·obtain ⟨rfl,rfl⟩:=hcmp.2.1 e2
     rcases hy with hy | hy
     ·rw [if_neg (by omega)]
      exact hN hy
     ·rw [if_pos (by omega),e2,eT,eQ]
      exact hY hy
    ·rw [if_neg (by omega)]
     have n1':=mt hcmp.1.2 e
     have n2':=mt hcmp.2.2 e2
     exact nov_rep _ _ _ (hS.rest b p hB' hm (by omega))
  have hroom : n0 + 1 <= X'.C.B * X'.C.P:=by
   have:=Nat.mul_le_mul_right X'.C.P (show a' + 1 <= X'.C.B by omega)
   rw [Nat.succ_mul] at this
   rw [hP] at this hlt
   rw [hP]
   omega
  rcases htorn with hY | hN
  ·refine ⟨X',A',.slice none 0 0,x,51,rfl,hw',tb',nx',g',.inr (.inl rfl),_,_,kk + 1,_,_,hW,by omega,?_,.inl hW2⟩
   rw [show c0 + m + (kk + 1) = n0 + 1 by omega]
   exact hpgs (n0 + 1) (.inr rfl) (fun e => absurd e (by omega)) (fun _ => hY)
  ·refine ⟨X',A',.slice none 0 0,x,51,rfl,hw',tb',nx',g',.inr (.inl rfl),T,Q,kk,rows,st,hwp,by omega,fun i hi => ?_,.inr ⟨rfl,by decide⟩⟩
   have:=hpgs n0 (.inl rfl) (fun _ => hN) (fun e => absurd e (by omega)) i hi
   rw [<- hn]
   by_cases e : i < n0
   ·rw [if_pos e] at this |-
    rw [(tlo i e).1,(tlo i e).2] at this
    exact this
   ·rw [if_neg e] at this |-
    exact this
 ·have hrm:=hq.room
  have hn1 : n0 = X.C.B * X.C.P:=by omega
  refine ⟨X',A',.slice none 0 0,x,130,rfl,hw',tb',nx',g',.inr (.inr rfl),T,Q,kk,rows,st,hwp,by rw [hBB,hP]; omega,fun i hi => ?_,.inr ⟨rfl,by decide⟩⟩
  have:=hS.pgs (by rw [hP]; omega) hi
  rw [hBB,hP] at hi
  rw [hP,Nat.add_zero,if_pos (by omega),(tlo i (by omega)).1,(tlo i (by omega)).2] at this
  rw [if_pos (by omega),hP]
  exact this
end Go.Proofs.YtaphpdmfjnhlaaaGreatDoor
