/-
  A page in which the power failed says just what was written, or nothing, if its text does not begin with a nought. Pure. No condition.
-/
import Derived.Test.YtaphpdmfjnhlaaaGreatDoorCK6
namespace Go.Proofs.YtaphpdmfjnhlaaaGreatDoor
open Go Go.RowKit
set_option maxRecDepth 100000
theorem spare_at {K S I O : Nat} {t s : ByteArray} {n : Nat} (h : Pg.spareB K S I O 0 t n = s) : s.data.toList.getD 0 0 = UInt8.ofNat (K % 256)/\s.data.toList.getD 17 0 = UInt8.ofNat (t.size % 256)/\s.data.toList.getD 18 0 = UInt8.ofNat (t.size / 256 % 256)/\s.data.toList.getD 27 0 = 0:=by
 obtain ⟨r,hr⟩:=spare_list K S I O 0 t n
 rw [h] at hr
 have e17:=hdT_len K S I O 0
 rw [hr]
 refine ⟨rfl,?_,?_,?_⟩
 ·rw [List.getD_eq_getElem?_getD,List.getElem?_append_right (by omega),e17]
  rfl
 ·rw [List.getD_eq_getElem?_getD,List.getElem?_append_right (by omega),e17]
  rfl
 ·rw [List.getD_eq_getElem?_getD,List.getElem?_append_right (by omega),e17]
  rfl
theorem u8_small {a b : Nat} (ha : a < 256) (hb : b < 256) (h : UInt8.ofNat a = UInt8.ofNat b) : a = b:=by
 have:=congrArg UInt8.toNat h
 rw [UInt8.toNat_ofNat',UInt8.toNat_ofNat'] at this
 omega
theorem torn_same {C : Ch} {b p : Nat} {d s t : ByteArray} {K S I O : Nat} (hv : Pg.Val d s t K S I O 0) (hd : d.size = C.Z) (hO : O < 256) (ht : 0 < t.size/\t.size < 256) (hb0 : t.data.toList.getD 0 0 ≠ 0) (k x : Int) (hpg : C.pg b p = kp C.Z (tornP C.Z (d ++ s) k x)) : Says C b p t K S I O 0 \/ Nov C b p:=by
 rcases (torn_says hv hd hO k x hpg).1 with ⟨t',d',s',hpg',hd',hv'⟩ | h
 ·left
  have hss:=hv.size
  have hss':=hv'.size
  have hraw : (d ++ s).size = C.Z + 32:=by rw [ByteArray.size_append,hd,hss]
  obtain ⟨kk,hkk,hfull,hsz,hby⟩:=torn_bytes C.Z (d ++ s) hraw k x
  have hY : tornP C.Z (d ++ s) k x = d' ++ s':=by
   have e:=hpg.symm.trans hpg'
   unfold kp at e
   split at e
   ·have:=congrArg ByteArray.size e
    rw [ByteArray.size_append,hss'] at this
    have h0 : (⟨#[]⟩ : ByteArray).size = 0:=rfl
    omega
   ·exact e
  rw [hY] at hby
  have hdl:=size_toList d
  have hdl':=size_toList d'
  have a1 : ∀ c,(d' ++ s').data.toList.getD (C.Z + c) 0 = s'.data.toList.getD c 0:=fun c => by
   rw [ByteArray.data_append,Array.toList_append]
   simp only [List.getD_eq_getElem?_getD]
   rw [List.getElem?_append_right (by omega),hdl',hd',Nat.add_sub_cancel_left]
  have a2 : ∀ c,(d ++ s).data.toList.getD (C.Z + c) 0 = s.data.toList.getD c 0:=fun c => by
   rw [ByteArray.data_append,Array.toList_append]
   simp only [List.getD_eq_getElem?_getD]
   rw [List.getElem?_append_right (by omega),hdl,hd,Nat.add_sub_cancel_left]
  have B : ∀ c,c < 32 -> s'.data.toList.getD c 0 = if C.Z + c < kk then s.data.toList.getD c 0 else u8 x:=fun c hc => by
   have:=hby (C.Z + c) (by omega)
   rw [a1,a2] at this
   exact this
  obtain ⟨p0,p17,p18,p27⟩:=spare_at hv.spare
  obtain ⟨q0,q17,q18,q27⟩:=spare_at hv'.spare
  have hm:=hv.may
  unfold Pg.mayB at hm
  have b0:=B 0 (by omega)
  have b17:=B 17 (by omega)
  have b18:=B 18 (by omega)
  have b27:=B 27 (by omega)
  rw [q0,p0] at b0
  rw [q17,p17] at b17
  rw [q18,p18] at b18
  rw [q27] at b27
  have hk0 : C.Z < kk:=by
   by_cases e : C.Z < kk
   ·exact e
   ·exfalso
    rw [if_neg (by omega)] at b0 b27
    rw [<- b27] at b0
    have:=u8_small (a:=K % 256) (b:=0) (by omega) (by omega) b0
    omega
  have hdd : d' = d:=by
   apply ByteArray.ext
   apply Array.ext'
   apply List.ext_getElem?
   intro j
   by_cases hj : j < C.Z
   ·have:=hby j (by omega)
    rw [if_pos (by omega),ByteArray.data_append,Array.toList_append,ByteArray.data_append,Array.toList_append] at this
    simp only [List.getD_eq_getElem?_getD] at this
    rw [List.getElem?_append_left (by omega),List.getElem?_append_left (by omega),List.getElem?_eq_getElem (by omega),List.getElem?_eq_getElem (by omega)] at this
    rw [List.getElem?_eq_getElem (by omega),List.getElem?_eq_getElem (by omega)]
    simpa using this
   ·rw [List.getElem?_eq_none (by omega),List.getElem?_eq_none (by omega)]
  have ht' : t'.size < 65536:=by have:=hv'.le; have:=hv'.most; omega
  have hsz2 : t'.size = t.size:=by
   by_cases h18 : C.Z + 18 < kk
   ·rw [if_pos (by omega)] at b17 b18
    have e1:=u8_small (by omega) (by omega) b17
    have e2:=u8_small (by omega) (by omega) b18
    omega
   ·rw [if_neg h18] at b18
    rw [if_neg (by omega)] at b27
    rw [<- b27] at b18
    have e2:=u8_small (a:=t'.size / 256 % 256) (b:=0) (by omega) (by omega) b18
    by_cases h17 : C.Z + 17 < kk
    ·rw [if_pos h17] at b17
     have e1:=u8_small (by omega) (by omega) b17
     omega
    ·exfalso
     rw [if_neg h17,<- b27] at b17
     have e1:=u8_small (a:=t'.size % 256) (b:=0) (by omega) (by omega) b17
     have h0 : t'.size = 0:=by omega
     apply hb0
     have f1 : t.data.toList.getD 0 0 = d.data.toList.getD 0 0:=by
      have htl:=size_toList t
      rw [<- hv.data]
      unfold Pg.padB
      rw [ByteArray.data_append,Array.toList_append]
      simp only [List.getD_eq_getElem?_getD]
      rw [List.getElem?_append_left (by omega)]
     have f2 : d'.data.toList.getD 0 0 = 0:=by
      have htl:=size_toList t'
      have hnil : t'.data.toList = []:=List.length_eq_zero_iff.1 (by omega)
      rw [<- hv'.data]
      unfold Pg.padB Pg.zs
      rw [ByteArray.data_append,Array.toList_append,hnil,List.nil_append]
      generalize (d'.size - t'.size) = n
      show (List.replicate n (0 : UInt8)).getD 0 0 = 0
      cases n <;> rfl
     rw [f1,<- hdd,f2]
  have htt : t' = t:=by rw [<- hv'.text,<- hv.text,hdd,hsz2]
  subst htt
  exact ⟨d',s',hpg',hd',hv'⟩
 ·exact .inr h
end Go.Proofs.YtaphpdmfjnhlaaaGreatDoor
