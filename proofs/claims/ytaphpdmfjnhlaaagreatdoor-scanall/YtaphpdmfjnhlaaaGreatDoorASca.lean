/-
  A chip of 8, 4 and 64 on which pages are written in their order: what ScanAll holds while it writes. Pure but for Look's contracts. No condition.
-/
import Derived.Test.YtaphpdmfjnhlaaaGreatDoorAN1
import Derived.Test.YtaphpdmfjnhlaaaGreatDoorARVl
namespace Go.Proofs.YtaphpdmfjnhlaaaGreatDoor
open Go Go.RowKit
set_option maxRecDepth 100000
theorem LkIs.other {C C' : Ch} {i : Nat} {f : Fd} (h : LkIs C i f) (hP : C'.P = C.P) (hZ : C'.Z = C.Z) (e : C'.pg (i / C.P) (i % C.P) = C.pg (i / C.P) (i % C.P)) : LkIs C' i f := by
 obtain ⟨h1, d, s, h2, h3, h4, h5⟩ := h
 refine ⟨h1, d, s, ?_, h3.trans hZ.symm, h4, h5⟩
 rw [hP, <- h2]
 unfold seen
 rw [e, hZ]
theorem lk_erased {C : Ch} {i : Nat} (hz : C.Z <= 65535) (h : C.pg (i / C.P) (i % C.P) = ⟨#[]⟩) : LkIs C i ⟨i, 0, 0, 0, 0, 0, 0, ⟨#[]⟩⟩ := by
 have e := extract_split (rep (C.Z + 32) 255) C.Z 32 (rep_size _ _)
 have h1 := allF_rep (C.Z + 32)
 have s1 : ((rep (C.Z + 32) 255).extract 0 C.Z).size = C.Z := by rw [ByteArray.size_extract, rep_size]; omega
 have s2 : ((rep (C.Z + 32) 255).extract C.Z (C.Z + 32)).size = 32 := by rw [ByteArray.size_extract, rep_size]; omega
 rw [e, Pg.allF_append, Bool.and_eq_true] at h1
 refine ⟨rfl, (rep (C.Z + 32) 255).extract 0 C.Z, (rep (C.Z + 32) 255).extract C.Z (C.Z + 32), ?_, s1, s2, fun w _ => Pg.look_erased _ _ (by omega) (by omega) h1.1 h1.2 w⟩
 unfold seen
 rw [if_pos h]
 exact e
theorem lk_put {C : Ch} {i : Nat} {d s : ByteArray} (hd : d.size = C.Z) (hs : s.size = 32) (h : C.pg (i / C.P) (i % C.P) = kp C.Z (d ++ s)) {c K S I O W : Int} {t : ByteArray} (hl : ∀ w, Pg.Tab w -> Calls Tryz.prog 32 #[.string d, .string s] w fun e w' => e = .returned (.tuple #[.int .i64 c, Pg.tagV K S I O W, .string t]) /\ Below w.heap.size w w') : LkIs C i ⟨i, c, K, S, I, O, W, t⟩ := by
 refine ⟨rfl, d, s, ?_, hd, hs, hl⟩
 unfold seen
 rw [h]
 unfold kp
 by_cases e : d ++ s = rep (C.Z + 32) 255
 ·rw [if_pos e, if_pos rfl, e]
 ·rw [if_neg e, if_neg]
  intro q
  have := congrArg ByteArray.size q
  rw [ByteArray.size_append, hs] at this
  have h0 : (⟨#[]⟩ : ByteArray).size = 0 := rfl
  omega
structure Pls (C : Ch) (l : List Fd) : Prop where
 geo : C.B = 8 /\ C.P = 4 /\ C.Z = 64
 off : C.off = false
 cuts : ∀ i, C.cuts i = none
 fails : ∀ i, C.fails i = false
 dead : ∀ b, C.dead b = false
 did : 0 <= C.did /\ C.did <= (l.length : Int)
 len : l.length <= 32
 lk : ∀ i, i < l.length -> LkIs C i (l.getD i fdZ)
 rest : ∀ b p, p < 4 -> l.length <= b * 4 + p -> C.pg b p = ⟨#[]⟩
theorem Pls.skip {C : Ch} {l : List Fd} (h : Pls C l) (hl : l.length < 32) : Pls C (l ++ [⟨l.length, 0, 0, 0, 0, 0, 0, ⟨#[]⟩⟩]) := by
 have hP := h.geo.2.1
 refine ⟨h.geo, h.off, h.cuts, h.fails, h.dead, ⟨h.did.1, by rw [List.length_append, List.length_singleton]; have := h.did.2; omega⟩, by rw [List.length_append, List.length_singleton]; omega, fun i hi => ?_, fun b p hp hb => h.rest b p hp (by rw [List.length_append, List.length_singleton] at hb; omega)⟩
 rw [List.length_append, List.length_singleton] at hi
 by_cases e : i < l.length
 ·rw [List.getD_eq_getElem?_getD, List.getElem?_append_left e, <- List.getD_eq_getElem?_getD]
  exact h.lk i e
 ·obtain rfl : i = l.length := by omega
  have e2 : (l ++ [(⟨l.length, 0, 0, 0, 0, 0, 0, ⟨#[]⟩⟩ : Fd)]).getD l.length fdZ = ⟨l.length, 0, 0, 0, 0, 0, 0, ⟨#[]⟩⟩ := by simp [List.getD_eq_getElem?_getD]
  rw [e2]
  exact lk_erased (by have := h.geo.2.2; omega) (h.rest _ _ (by rw [hP]; omega) (by rw [hP]; omega))
theorem Pls.free {C : Ch} {l : List Fd} (h : Pls C l) : usedB C (l.length / 4) (l.length % 4) = false := by
 unfold usedB
 rw [List.any_eq_false]
 intro q hq
 have hq4 : q < 4 := by have := List.mem_range.1 hq; rw [h.geo.2.1] at this; exact this
 simp only [decide_eq_true_eq, not_and, ne_eq, Decidable.not_not]
 intro hle
 exact h.rest _ q hq4 (by omega)
theorem Pls.put {C : Ch} {l : List Fd} (h : Pls C l) (hl : l.length < 32) {d s : ByteArray} (hd : d.size = 64) (hs : s.size = 32) {c K S I O W : Int} {t : ByteArray} (hk : ∀ w, Pg.Tab w -> Calls Tryz.prog 32 #[.string d, .string s] w fun e w' => e = .returned (.tuple #[.int .i64 c, Pg.tagV K S I O W, .string t]) /\ Below w.heap.size w w') :
  Pls (putPg { C with did := C.did + 1 } (l.length / 4) (l.length % 4) (kp C.Z (d ++ s))) (l ++ [⟨l.length, c, K, S, I, O, W, t⟩]) := by
 have hP := h.geo.2.1
 have pg : ∀ b p, (putPg { C with did := C.did + 1 } (l.length / 4) (l.length % 4) (kp C.Z (d ++ s))).pg b p = if b = l.length / 4 /\ p = l.length % 4 then kp C.Z (d ++ s) else C.pg b p := fun b p => by
  show upd C.pg _ (upd (C.pg _) _ _) b p = _
  unfold upd
  by_cases e : b = l.length / 4
  ·subst e
   rw [if_pos rfl]
   by_cases e2 : p = l.length % 4
   ·rw [if_pos e2, if_pos ⟨rfl, e2⟩]
   ·rw [if_neg e2, if_neg (fun q => e2 q.2)]
  ·rw [if_neg e, if_neg (fun q => e q.1)]
 refine ⟨h.geo, h.off, h.cuts, h.fails, h.dead, ⟨by show 0 <= C.did + 1; have := h.did.1; omega, by rw [List.length_append, List.length_singleton]; show C.did + 1 <= _; have := h.did.2; omega⟩, by rw [List.length_append, List.length_singleton]; omega, fun i hi => ?_, fun b p hp hb => ?_⟩
 ·rw [List.length_append, List.length_singleton] at hi
  by_cases e : i < l.length
  ·rw [List.getD_eq_getElem?_getD, List.getElem?_append_left e, <- List.getD_eq_getElem?_getD]
   refine (h.lk i e).other rfl rfl ?_
   rw [pg, if_neg]
   rw [hP]
   omega
  ·obtain rfl : i = l.length := by omega
   have e2 : (l ++ [(⟨l.length, c, K, S, I, O, W, t⟩ : Fd)]).getD l.length fdZ = ⟨l.length, c, K, S, I, O, W, t⟩ := by simp [List.getD_eq_getElem?_getD]
   rw [e2]
   refine lk_put (by show d.size = C.Z; rw [hd, h.geo.2.2]) hs ?_ hk
   show (putPg { C with did := C.did + 1 } (l.length / 4) (l.length % 4) (kp C.Z (d ++ s))).pg (l.length / C.P) (l.length % C.P) = _
   rw [pg, hP, if_pos ⟨rfl, rfl⟩]
   rfl
 ·rw [List.length_append, List.length_singleton] at hb
  rw [pg, if_neg (by omega)]
  exact h.rest b p hp (by omega)
end Go.Proofs.YtaphpdmfjnhlaaaGreatDoor
