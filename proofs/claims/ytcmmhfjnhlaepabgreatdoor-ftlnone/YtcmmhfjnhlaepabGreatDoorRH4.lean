/-
  A state said plainly: its spaces and their pages as lists, bad blocks, counts; what a record makes of it. No condition. Put, trim, move, add, drop, double and seal, each said over the plain state. No condition. Trim, move, add, drop, double and seal, each said over the plain state. No condition. Apply: what each kind of record makes of a state, and the errors. No condition.
-/
import Derived.Test.YtcmmhfjnhlaepabGreatDoorRH3
namespace Go.Proofs.YtcmmhfjnhlaepabGreatDoor.S8
open Go Go.RowKit Go.Maps Gp Pg We
structure Asp where
 id : Int
 q : Int
 sl : Bool
 ps : Pl
structure Ab where
 sp : List Asp
 bad : Pl
 worn : Pl
def Sp.a (x : Sp) : Asp := ⟨x.id, x.q, x.sl, x.ps⟩
def ab (s : St) : Ab := ⟨s.sp.map Sp.a, s.bad, s.worn⟩
def gA (l : List Asp) (id : Int) : Option Asp := l.find? fun x => decide (x.id = id)
def sA (l : List Asp) (x : Asp) : List Asp := l.map fun y => if y.id = x.id then x else y
def dA (l : List Asp) (id : Int) : List Asp := l.filter fun x => !decide (x.id = id)
def iA (x : Asp) : List Asp -> List Asp
 | [] => [x]
 | y :: r => if x.id < y.id then x :: y :: r else y :: iA x r
def mA (f t : Int) (x : Asp) : Asp := { x with ps := mvP f t x.ps }
def cntA : List Asp -> Int -> Nat
 | [], _ => 0
 | x :: r, a => cntP x.ps a + cntA r a
theorem gA_map (l : List Sp) (id : Int) : gA (l.map Sp.a) id = (gsp l id).map Sp.a := by
 unfold gA gsp
 rw [List.find?_map]
 rfl
theorem sA_map (l : List Sp) (x : Sp) : (ssp l x).map Sp.a = sA (l.map Sp.a) x.a := by
 unfold ssp sA
 rw [List.map_map, List.map_map]
 apply List.map_congr_left
 intro y _
 simp only [Function.comp]
 show Sp.a (if y.id = x.id then x else y) = if y.id = x.id then x.a else y.a
 split <;> rfl
theorem dA_map (l : List Sp) (id : Int) : (dsp l id).map Sp.a = dA (l.map Sp.a) id := by
 unfold dsp dA
 rw [List.filter_map]
 rfl
theorem iA_map (x : Sp) : ∀ l : List Sp, (isp x l).map Sp.a = iA x.a (l.map Sp.a)
 | [] => rfl
 | y :: r => by
  unfold isp
  rw [List.map_cons]
  unfold iA
  show _ = if x.id < y.id then _ else _
  split
  ·rfl
  ·rw [List.map_cons, iA_map x r]
theorem mA_map (f t : Int) (l : List Sp) : (l.map (mvSp f t)).map Sp.a = (l.map Sp.a).map (mA f t) := by
 rw [List.map_map, List.map_map]
 rfl
def UpA (l : List Asp) : Prop := l.Pairwise fun x y => x.id < y.id
theorem upA_of {l : List Sp} (h : Up (spm l)) : UpA (l.map Sp.a) := by
 unfold UpA
 unfold Up spm at h
 rw [List.pairwise_map] at h |-
 exact h
theorem upA_one {l : List Asp} (hu : UpA l) {x y : Asp} (hx : x ∈ l) (hy : y ∈ l) (e : x.id = y.id) : x = y := by
 obtain ⟨i, hi, rfl⟩ := List.getElem_of_mem hx
 obtain ⟨j, hj, rfl⟩ := List.getElem_of_mem hy
 rcases Nat.lt_trichotomy i j with h1 | h1 | h1
 ·have := List.pairwise_iff_getElem.1 hu i j hi hj h1
  omega
 ·subst h1; rfl
 ·have := List.pairwise_iff_getElem.1 hu j i hj hi h1
  omega
theorem gA_some {l : List Asp} {id : Int} {x : Asp} (h : gA l id = some x) : x ∈ l /\ x.id = id :=
 ⟨List.mem_of_find?_eq_some h, by simpa using List.find?_some h⟩
theorem gA_none {l : List Asp} {id : Int} (h : gA l id = none) : ∀ x ∈ l, x.id ≠ id := by
 intro x hx e
 have := List.find?_eq_none.1 h x hx
 simp [e] at this
theorem gA_mem {l : List Asp} (hu : UpA l) {x : Asp} (hx : x ∈ l) : gA l x.id = some x := by
 have h1 : (gA l x.id).isSome = true := by unfold gA; rw [List.find?_isSome]; exact ⟨x, hx, by simp⟩
 obtain ⟨y, hy⟩ := Option.isSome_iff_exists.1 h1
 rw [hy, upA_one hu (gA_some hy).1 hx (gA_some hy).2]
theorem upA_ne {x : Asp} {r : List Asp} (h : UpA (x :: r)) : ∀ y ∈ r, y.id ≠ x.id := fun y hy e => by
 have := (List.pairwise_cons.1 h).1 y hy
 omega
theorem sA_none {l : List Asp} {x : Asp} (h : ∀ y ∈ l, y.id ≠ x.id) : sA l x = l := by
 unfold sA
 refine (List.map_congr_left (g := id) (fun y hy => ?_)).trans (List.map_id _)
 rw [if_neg (h y hy)]; rfl
theorem cntA_sA {l : List Asp} (hu : UpA l) {x x' : Asp} (hx : x ∈ l) (e : x'.id = x.id) (a : Int) : cntA (sA l x') a + cntP x.ps a = cntA l a + cntP x'.ps a := by
 induction l with
 | nil => cases hx
 | cons y r ih =>
  have h1 := (List.pairwise_cons.1 hu).2
  rcases List.mem_cons.1 hx with rfl | hx
  ·show cntA ((if x.id = x'.id then x' else x) :: sA r x') a + _ = _
   rw [if_pos e.symm, sA_none (fun y hy => by rw [e]; exact upA_ne hu y hy)]
   simp only [cntA]; omega
  ·have hne : y.id ≠ x'.id := by rw [e]; exact fun e2 => upA_ne hu x hx e2.symm
   show cntA ((if y.id = x'.id then x' else y) :: sA r x') a + _ = _
   rw [if_neg hne]
   have := ih h1 hx
   simp only [cntA]; omega
theorem cntA_dA {l : List Asp} (hu : UpA l) {x : Asp} (hx : x ∈ l) (a : Int) : cntA (dA l x.id) a + cntP x.ps a = cntA l a := by
 induction l with
 | nil => cases hx
 | cons y r ih =>
  have h1 := (List.pairwise_cons.1 hu).2
  unfold dA
  rw [List.filter_cons]
  rcases List.mem_cons.1 hx with rfl | hx
  ·simp only [decide_true, Bool.not_true, Bool.false_eq_true, if_false]
   rw [List.filter_eq_self.2 (fun y hy => by simp [upA_ne hu y hy])]
   simp only [cntA]; omega
  ·have hne : y.id ≠ x.id := fun e2 => upA_ne hu x hx e2.symm
   simp only [hne, decide_false, Bool.not_false, if_true]
   have := ih h1 hx
   unfold dA at this
   simp only [cntA]; omega
theorem cntA_iA (x : Asp) (a : Int) : ∀ l : List Asp, cntA (iA x l) a = cntP x.ps a + cntA l a
 | [] => rfl
 | y :: r => by
  unfold iA
  split
  ·rfl
  ·simp only [cntA]; rw [cntA_iA x a r]; omega
theorem cntP_mv (f t a : Int) (ps : Pl) : cntP (mvP f t ps) a = (if a = t then cntP ps f else 0) + (if a = f then 0 else cntP ps a) := by
 induction ps with
 | nil => simp [mvP, cntP]
 | cons p r ih =>
  show cntP ((p.1, mvV f t p.2) :: mvP f t r) a = _
  rw [cntP_cons, ih, cntP_cons, cntP_cons]
  unfold mvV
  by_cases h1 : p.2 = f <;> by_cases h2 : a = t <;> by_cases h3 : a = f <;> simp_all <;> (try split) <;> (try omega) <;> (try simp_all) <;> (try omega)
theorem cntA_mv (f t a : Int) : ∀ l : List Asp, cntA (l.map (mA f t)) a = (if a = t then cntA l f else 0) + (if a = f then 0 else cntA l a)
 | [] => by simp [cntA]
 | x :: r => by
  simp only [List.map_cons, cntA, mA]
  rw [cntP_mv, cntA_mv f t a r]
  split <;> split <;> omega
structure InvA (t : Ab) : Prop where
 ids : ∀ x ∈ t.sp, 1 <= x.id /\ x.id <= 15
 qs : ∀ x ∈ t.sp, 1 <= x.q /\ x.q <= 1024
 pss : ∀ x ∈ t.sp, ∀ p ∈ x.ps, (0 <= p.1 /\ p.1 < x.q) /\ 0 <= p.2 /\ p.2 <= 2000
 ups : ∀ x ∈ t.sp, Up x.ps
 up : UpA t.sp
 bad : ∀ p ∈ t.bad, (0 <= p.1 /\ p.1 <= 31) /\ p.2 = 0
 worn : ∀ p ∈ t.worn, (0 <= p.1 /\ p.1 <= 31) /\ 0 <= p.2 /\ p.2 <= 1073741824
 upb : Up t.bad
 upw : Up t.worn
theorem InvA.len {t : Ab} (h : InvA t) : t.sp.length <= 15 := by
 have h1 : Up (t.sp.map fun x => (x.id, (0 : Int))) := by unfold Up; rw [List.pairwise_map]; exact h.up
 have := up_len (lo := 1) (hi := 15) h1 (fun p hp => by obtain ⟨x, hx, rfl⟩ := List.mem_map.1 hp; exact h.ids x hx)
 rw [List.length_map] at this
 omega
theorem InvA.plen {t : Ab} (h : InvA t) {x : Asp} (hx : x ∈ t.sp) : x.ps.length <= 1024 := by
 have := up_len (lo := 0) (hi := 1023) (h.ups x hx) (fun p hp => by have := h.pss x hx p hp; have := h.qs x hx; omega)
 omega
theorem InvA.blen {t : Ab} (h : InvA t) : t.bad.length <= 32 := by
 have := up_len (lo := 0) (hi := 31) h.upb (fun p hp => (h.bad p hp).1)
 omega
theorem InvA.wlen {t : Ab} (h : InvA t) : t.worn.length <= 32 := by
 have := up_len (lo := 0) (hi := 31) h.upw (fun p hp => (h.worn p hp).1)
 omega
theorem cntA_le {l : List Asp} (h : ∀ x ∈ l, x.ps.length <= 1024) (a : Int) : cntA l a <= l.length * 1024 := by
 induction l with
 | nil => simp [cntA]
 | cons x r ih =>
  have h1 := cntP_le x.ps a
  have h2 := h x (by simp)
  have h3 := ih (fun y hy => h y (by simp [hy]))
  simp only [cntA, List.length_cons]; omega
theorem InvA.top {t : Ab} (h : InvA t) (a : Int) : cntA t.sp a <= 15360 := by
 have h1 := cntA_le (fun x hx => h.plen hx) a
 have h2 := h.len
 omega
def apA (t : Ab) (K S P A T N : Int) : Ab × Int :=
 if Gp.mayB K S P A T N = false then (t, 1)
 else if K = 1 then
  match gA t.sp S with
  | none => (t, 80)
  | some x => if x.q <= P then (t, 81) else ({ t with sp := sA t.sp { x with ps := mput x.ps P A } }, 0)
 else if K = 2 then
  match gA t.sp S with
  | none => (t, 80)
  | some x => if mget x.ps P = none then (t, 81) else ({ t with sp := sA t.sp { x with ps := mdel x.ps P } }, 0)
 else if K = 3 then
  if cntA t.sp A = 0 \/ cntA t.sp T ≠ 0 then (t, 82) else ({ t with sp := t.sp.map (mA A T) }, 0)
 else if K = 4 then
  match gA t.sp S with
  | some _ => (t, 80)
  | none => ({ t with sp := iA ⟨S, N, false, []⟩ t.sp }, 0)
 else if K = 5 then
  match gA t.sp S with
  | none => (t, 80)
  | some _ => ({ t with sp := dA t.sp S }, 0)
 else if K = 6 then
  match gA t.sp S with
  | none => (t, 80)
  | some x => match gA t.sp T with
   | some _ => (t, 80)
   | none => ({ t with sp := iA ⟨T, x.q, false, x.ps⟩ t.sp }, 0)
 else if K = 7 then
  match gA t.sp S with
  | none => (t, 80)
  | some x => ({ t with sp := sA t.sp { x with sl := true } }, 0)
 else if K = 8 then ({ t with bad := mput t.bad A 0 }, 0)
 else ({ t with worn := mput t.worn A (max ((mget t.worn A).getD 0) N) }, 0)
structure Whole (w : World) (s : St) : Prop where
 at' : StAt w s
 inv : InvA (ab s)
 refs : RefsIs s.refs (cntA (ab s).sp)
theorem Whole.call {w w' : World} {s} (h : Whole w s) (q : Below w.heap.size w w') : Whole w' s := ⟨h.at'.call q, h.inv, h.refs⟩
theorem Whole.frame {w w' : World} {s} (h : Whole w s) (e : ∀ i ∈ foot s, w'.heap[i]? = w.heap[i]?) : Whole w' s := ⟨h.at'.frame e, h.inv, h.refs⟩
def Done (w : World) (s : St) (r : Ab × Int) (e : Ending) (w' : World) : Prop := e = .returned (.int .i64 r.2) /\ ∃ s', Whole w' s' /\ ab s' = r.1 /\ Ch w w' s s'
theorem Done.same {w : World} {s : St} (h : Whole w s) (c : Int) : Done w s (ab s, c) (.returned (.int .i64 c)) w := ⟨rfl, s, h, rfl, Ch.refl w s⟩
end Go.Proofs.YtcmmhfjnhlaepabGreatDoor.S8
namespace Go.Proofs.YtcmmhfjnhlaepabGreatDoor.S8
open Go Go.RowKit Go.Maps Gp Pg We
theorem k15 {x : Int} (h : 1 <= x /\ x <= 15) : K64 x := k64 (by omega) (by omega)
theorem k1023 {x : Int} (h : 0 <= x /\ x <= 1023) : K64 x := k64 (by omega) (by omega)
theorem ab_gsp {s : St} {id : Int} {x : Sp} (h : gsp s.sp id = some x) : gA (ab s).sp id = some x.a := by
 show gA (s.sp.map Sp.a) id = _
 rw [gA_map, h]; rfl
theorem ab_gspN {s : St} {id : Int} (h : gsp s.sp id = none) : gA (ab s).sp id = none := by
 show gA (s.sp.map Sp.a) id = _
 rw [gA_map, h]; rfl
theorem ab_mem {s : St} {x : Sp} (h : x ∈ s.sp) : x.a ∈ (ab s).sp := List.mem_map.2 ⟨x, h, rfl⟩
theorem Whole.up {w s} (h : Whole w s) : UpA (ab s).sp := upA_of h.at'.hS.up
theorem gsp_id {l : List Sp} {id : Int} {x : Sp} (h : gsp l id = some x) : gsp l x.id = some x := by rw [(gsp_some h).2]; exact h
theorem mem_mput {m : Pl} {k v : Int} {p : Int × Int} (h : p ∈ mput m k v) : p = (k, v) \/ p ∈ m := by
 have hm : ∀ l : Pl, p ∈ mins (k, v) l -> p = (k, v) \/ p ∈ l := by
  intro l
  induction l with
  | nil => intro h; simpa [mins] using h
  | cons z t ih =>
   unfold mins
   split
   ·intro h
    rcases List.mem_cons.1 h with h | h
    ·exact .inl h
    ·exact .inr h
   ·intro h
    rcases List.mem_cons.1 h with h | h
    ·exact .inr (by simp [h])
    ·rcases ih h with h | h
     ·exact .inl h
     ·exact .inr (by simp [h])
 rcases hm _ h with h | h
 ·exact .inl h
 ·exact .inr ((mdel_sub m k).subset h)
theorem mem_sA {l : List Asp} {x y : Asp} (h : y ∈ sA l x) : y = x \/ y ∈ l := by
 obtain ⟨z, hz, rfl⟩ := List.mem_map.1 h
 by_cases e : z.id = x.id
 ·rw [if_pos e]; exact .inl rfl
 ·rw [if_neg e]; exact .inr hz
theorem iA_perm (x : Asp) : ∀ l : List Asp, (iA x l).Perm (x :: l)
 | [] => List.Perm.refl _
 | y :: r => by
  unfold iA
  split
  ·exact List.Perm.refl _
  ·exact ((iA_perm x r).cons y).trans (List.Perm.swap x y r)
theorem upA_sA {l : List Asp} (hu : UpA l) (x : Asp) : UpA (sA l x) := by
 unfold UpA sA at *
 rw [List.pairwise_map]
 refine hu.imp (fun {a b} h => ?_)
 split <;> split <;> omega
theorem upA_dA {l : List Asp} (hu : UpA l) (id : Int) : UpA (dA l id) := hu.sublist List.filter_sublist
theorem upA_iA {x : Asp} : ∀ {l : List Asp}, UpA l -> (∀ y ∈ l, y.id ≠ x.id) -> UpA (iA x l)
 | [], _, _ => by simp [iA, UpA]
 | y :: r, hu, hn => by
  unfold iA
  have hy := hn y (by simp)
  have h1 := List.pairwise_cons.1 hu
  split
  ·rename_i hl
   refine List.pairwise_cons.2 ⟨fun q hq => ?_, hu⟩
   rcases List.mem_cons.1 hq with rfl | hq
   ·exact hl
   ·have := h1.1 q hq; omega
  ·rename_i hl
   refine List.pairwise_cons.2 ⟨fun q hq => ?_, upA_iA h1.2 (fun p hp => hn p (by simp [hp]))⟩
   rcases List.mem_cons.1 ((iA_perm x r).mem_iff.1 hq) with rfl | h
   ·omega
   ·exact h1.1 q h
theorem upA_mA {l : List Asp} (hu : UpA l) (f t : Int) : UpA (l.map (mA f t)) := by
 unfold UpA at *
 rw [List.pairwise_map]
 exact hu
theorem InvA.withS {t : Ab} (h : InvA t) {x : Asp} (h1 : 1 <= x.id /\ x.id <= 15) (h2 : 1 <= x.q /\ x.q <= 1024) (h3 : ∀ p ∈ x.ps, (0 <= p.1 /\ p.1 < x.q) /\ 0 <= p.2 /\ p.2 <= 2000) (h4 : Up x.ps) : InvA { t with sp := sA t.sp x } := by
 refine ⟨fun y hy => ?_, fun y hy => ?_, fun y hy => ?_, fun y hy => ?_, upA_sA h.up x, h.bad, h.worn, h.upb, h.upw⟩
 all_goals rcases mem_sA hy with rfl | hy
 ·exact h1
 ·exact h.ids y hy
 ·exact h2
 ·exact h.qs y hy
 ·exact h3
 ·exact h.pss y hy
 ·exact h4
 ·exact h.ups y hy
theorem InvA.withI {t : Ab} (h : InvA t) {x : Asp} (hn : gA t.sp x.id = none) (h1 : 1 <= x.id /\ x.id <= 15) (h2 : 1 <= x.q /\ x.q <= 1024) (h3 : ∀ p ∈ x.ps, (0 <= p.1 /\ p.1 < x.q) /\ 0 <= p.2 /\ p.2 <= 2000) (h4 : Up x.ps) : InvA { t with sp := iA x t.sp } := by
 refine ⟨fun y hy => ?_, fun y hy => ?_, fun y hy => ?_, fun y hy => ?_, upA_iA h.up (gA_none hn), h.bad, h.worn, h.upb, h.upw⟩
 all_goals rcases List.mem_cons.1 ((iA_perm x t.sp).mem_iff.1 hy) with rfl | hy
 ·exact h1
 ·exact h.ids y hy
 ·exact h2
 ·exact h.qs y hy
 ·exact h3
 ·exact h.pss y hy
 ·exact h4
 ·exact h.ups y hy
theorem InvA.withD {t : Ab} (h : InvA t) (id : Int) : InvA { t with sp := dA t.sp id } := by
 have hs : ∀ y ∈ dA t.sp id, y ∈ t.sp := fun y hy => (List.mem_filter.1 hy).1
 exact ⟨fun y hy => h.ids y (hs y hy), fun y hy => h.qs y (hs y hy), fun y hy => h.pss y (hs y hy), fun y hy => h.ups y (hs y hy), upA_dA h.up id, h.bad, h.worn, h.upb, h.upw⟩
theorem InvA.withM {t : Ab} (h : InvA t) {f g : Int} (hg : 0 <= g /\ g <= 2000) : InvA { t with sp := t.sp.map (mA f g) } := by
 refine ⟨fun y hy => ?_, fun y hy => ?_, fun y hy p hp => ?_, fun y hy => ?_, upA_mA h.up f g, h.bad, h.worn, h.upb, h.upw⟩
 all_goals obtain ⟨x, hx, rfl⟩ := List.mem_map.1 hy
 ·exact h.ids x hx
 ·exact h.qs x hx
 ·obtain ⟨q, hq, rfl⟩ := List.mem_map.1 hp
  have := h.pss x hx q hq
  refine ⟨this.1, ?_⟩
  unfold mvV
  simp only
  split
  ·exact hg
  ·exact this.2
 ·exact up_mvP (h.ups x hx)
theorem InvA.space {t : Ab} (h : InvA t) {x : Asp} (hx : x ∈ t.sp) : (1 <= x.id /\ x.id <= 15) /\ (1 <= x.q /\ x.q <= 1024) /\ (∀ p ∈ x.ps, (0 <= p.1 /\ p.1 < x.q) /\ 0 <= p.2 /\ p.2 <= 2000) /\ Up x.ps := ⟨h.ids x hx, h.qs x hx, h.pss x hx, h.ups x hx⟩
theorem RefsIs.of {m : Pl} {f g : Int -> Nat} (h : RefsIs m f) (e : ∀ a, f a = g a) : RefsIs m g := h.congr e
/-! put -/
def putA (t : Ab) (S P A : Int) : Ab × Int :=
 match gA t.sp S with
 | none => (t, 80)
 | some x => if x.q <= P then (t, 81) else ({ t with sp := sA t.sp { x with ps := mput x.ps P A } }, 0)
theorem put_ab {w s} (h : Whole w s) {S P A : Int} (hS : 1 <= S /\ S <= 15) (hP : 0 <= P /\ P <= 1023) (hA : 0 <= A /\ A <= 2000) :
  Calls Tryz.prog 93 #[.pointer (some ⟨s.p, 0, none⟩), .int .i64 S, .int .i64 P, .int .i64 A] w (Done w s (putA (ab s) S P A)) := by
 have hkA : K64 A := k64 (by omega) (by omega)
 unfold putA
 cases hg : gsp s.sp S with
 | none =>
  rw [ab_gspN hg]
  refine (put_none h.at' (k15 hS) hg).mono ?_
  rintro e w' ⟨rfl, rfl⟩
  exact Done.same h 80
 | some x =>
  rw [ab_gsp hg]
  have hxid := (gsp_some hg).2
  have hgx := gsp_id hg
  subst hxid
  have hm := ab_mem (gsp_some hg).1
  obtain ⟨i1, i2, i3, i4⟩ := h.inv.space hm
  by_cases hq : x.q <= P
  ·show Calls _ _ _ _ (Done w s (if x.q <= P then _ else _))
   rw [if_pos hq]
   refine (put_high h.at' (k15 hS) hgx hq).mono ?_
   rintro e w' ⟨rfl, rfl⟩
   exact Done.same h 81
  ·show Calls _ _ _ _ (Done w s (if x.q <= P then _ else _))
   rw [if_neg hq]
   have hlen : x.ps.length < 1000000 := by have := h.inv.plen hm; simp only [Sp.a] at this; omega
   have hrl := h.refs.len h.at'.hR.up
   have htop := h.inv.top
   have hinv : InvA { ab s with sp := sA (ab s).sp { x.a with ps := mput x.ps P A } } := h.inv.withS i1 i2 (fun p hp => by
    rcases mem_mput hp with rfl | hp
    ·exact ⟨⟨hP.1, by show P < x.q; omega⟩, hA⟩
    ·exact i3 p hp) (up_put i4 P A)
   have habs : ∀ m, ab (putS s x P A m) = { ab s with sp := sA (ab s).sp { x.a with ps := mput x.ps P A } } := fun m => by
    show (⟨(ssp s.sp _).map Sp.a, s.bad, s.worn⟩ : Ab) = _
    rw [sA_map]; rfl
   have hcnt := fun a => cntA_sA h.up hm (x' := { x.a with ps := mput x.ps P A }) rfl a
   cases ho : mget x.ps P with
   | none =>
    refine (put_new h.at' (k15 hS) (k1023 hP) hkA hgx (by omega) ho hlen (by omega) (by rw [h.refs.val]; omega) (by rw [h.refs.val]; have := htop A; omega)).mono ?_
    rintro e w' ⟨rfl, g, c⟩
    refine ⟨rfl, _, ⟨g, by rw [habs]; exact hinv, ?_⟩, habs _, c⟩
    rw [habs]
    refine (h.refs.inc hA (by have := htop A; omega)).of (fun a => ?_)
    have h1 := hcnt a
    have h2 := cntP_put x.ps P A a
    have h3 : mdel x.ps P = x.ps := mdel_none ((mget_none_iff _ _).1 ho)
    rw [h3] at h2
    simp only [Sp.a] at h1
    show _ = cntA (sA (ab s).sp { x.a with ps := mput x.ps P A }) a
    simp only [Sp.a]
    by_cases e : a = A
    ·subst e; simp at h2 |-; omega
    ·rw [if_neg e]; rw [if_neg (fun e2 => e e2.symm)] at h2; omega
   | some old =>
    have hmem := mget_mem ho
    have hold := (i3 _ hmem).2
    have hkO : K64 old := k64 (by simp only at hold; omega) (by simp only at hold; omega)
    have hc1 := cntP_del i4 hmem
    have hge : 1 <= cntA (ab s).sp old := by
     have h1 := cntA_dA h.up hm old
     have h2 := hc1 old
     simp only [Sp.a] at h1 h2
     simp at h2; omega
    have hl := h.refs.leave hge
    have hln : (lvm s.refs old).length < 1000000 := by
     have h1 : (lvm s.refs old).length <= s.refs.length + 1 := by
      unfold lvm
      split
      ·exact Nat.le_trans (mdel_sub _ _).length_le (mput_len _ _ _)
      ·exact mput_len _ _ _
     omega
    refine (put_old h.at' (k15 hS) (k1023 hP) hkA hgx (by omega) ho hkO (by rw [h.refs.val]; omega) (by rw [h.refs.val]; have := htop old; omega) (by omega) hlen hln (by rw [hl.val]; omega) (by rw [hl.val]; have := hl.top A; omega)).mono ?_
    rintro e w' ⟨rfl, g, c⟩
    refine ⟨rfl, _, ⟨g, by rw [habs]; exact hinv, ?_⟩, habs _, c⟩
    rw [habs]
    refine (hl.inc hA (by have := htop A; split <;> omega)).of (fun a => ?_)
    have h1 := hcnt a
    have h2 := cntP_put x.ps P A a
    have h3 := hc1 a
    simp only [Sp.a] at h1 h3
    show _ = cntA (sA (ab s).sp { x.a with ps := mput x.ps P A }) a
    simp only [Sp.a]
    have h5 : cntA (ab s).sp a >= cntP x.ps a := by have := cntA_dA h.up hm a; simp only [Sp.a] at this; omega
    by_cases e : a = A <;> by_cases e2 : a = old
    ·subst e; subst e2; simp at h2 h3 |-; omega
    ·subst e; rw [if_pos rfl] at h2 |-; rw [if_neg (fun e3 => e2 e3.symm)] at h3; rw [if_neg e2]; omega
    ·subst e2; rw [if_neg (fun e3 => e e3.symm)] at h2; rw [if_pos rfl] at h3; rw [if_neg e, if_pos rfl]; omega
    ·rw [if_neg (fun e3 => e e3.symm)] at h2; rw [if_neg (fun e3 => e2 e3.symm)] at h3; rw [if_neg e, if_neg e2]; omega
end Go.Proofs.YtcmmhfjnhlaepabGreatDoor.S8
namespace Go.Proofs.YtcmmhfjnhlaepabGreatDoor.S8
open Go Go.RowKit Go.Maps Gp Pg We
def trimA (t : Ab) (S P : Int) : Ab × Int :=
 match gA t.sp S with
 | none => (t, 80)
 | some x => if mget x.ps P = none then (t, 81) else ({ t with sp := sA t.sp { x with ps := mdel x.ps P } }, 0)
theorem trim_ab {w s} (h : Whole w s) {S P : Int} (hS : 1 <= S /\ S <= 15) (hP : 0 <= P /\ P <= 1023) :
  Calls Tryz.prog 94 #[.pointer (some ⟨s.p, 0, none⟩), .int .i64 S, .int .i64 P] w (Done w s (trimA (ab s) S P)) := by
 unfold trimA
 cases hg : gsp s.sp S with
 | none =>
  rw [ab_gspN hg]
  refine (trim_none h.at' (k15 hS) hg).mono ?_
  rintro e w' ⟨rfl, rfl⟩
  exact Done.same h 80
 | some x =>
  rw [ab_gsp hg]
  have hxid := (gsp_some hg).2
  have hgx := gsp_id hg
  subst hxid
  have hm := ab_mem (gsp_some hg).1
  obtain ⟨i1, i2, i3, i4⟩ := h.inv.space hm
  show Calls _ _ _ _ (Done w s (if mget x.ps P = none then _ else _))
  cases ho : mget x.ps P with
  | none =>
   rw [if_pos rfl]
   refine (trim_not h.at' (k15 hS) (k1023 hP) hgx ho).mono ?_
   rintro e w' ⟨rfl, rfl⟩
   exact Done.same h 81
  | some old =>
   rw [if_neg (by simp)]
   have hmem := mget_mem ho
   have hold := (i3 _ hmem).2
   have hkO : K64 old := k64 (by simp only at hold; omega) (by simp only at hold; omega)
   have hc1 := cntP_del i4 hmem
   have hrl := h.refs.len h.at'.hR.up
   have htop := h.inv.top
   have hge : 1 <= cntA (ab s).sp old := by
    have h1 := cntA_dA h.up hm old
    have h2 := hc1 old
    simp only [Sp.a] at h1 h2
    simp at h2; omega
   have habs : ab (trimS s x P (lvm s.refs old)) = { ab s with sp := sA (ab s).sp { x.a with ps := mdel x.ps P } } := by
    show (⟨(ssp s.sp _).map Sp.a, s.bad, s.worn⟩ : Ab) = _
    rw [sA_map]; rfl
   refine (trim_old h.at' (k15 hS) (k1023 hP) hgx ho hkO (by rw [h.refs.val]; omega) (by rw [h.refs.val]; have := htop old; omega) (by omega)).mono ?_
   rintro e w' ⟨rfl, g, c⟩
   refine ⟨rfl, _, ⟨g, ?_, ?_⟩, habs, c⟩
   ·rw [habs]
    exact h.inv.withS i1 i2 (fun p hp => i3 p ((mdel_sub _ _).subset hp)) (up_del i4 P)
   ·rw [habs]
    refine (h.refs.leave hge).of (fun a => ?_)
    have h1 := cntA_sA h.up hm (x' := { x.a with ps := mdel x.ps P }) rfl a
    have h3 := hc1 a
    simp only [Sp.a] at h1 h3
    show _ = cntA (sA (ab s).sp { x.a with ps := mdel x.ps P }) a
    simp only [Sp.a]
    by_cases e : a = old
    ·subst e; rw [if_pos rfl] at h3 |-; omega
    ·rw [if_neg (fun e2 => e e2.symm)] at h3; rw [if_neg e]; omega
def moveA (t : Ab) (A T : Int) : Ab × Int := if cntA t.sp A = 0 \/ cntA t.sp T ≠ 0 then (t, 82) else ({ t with sp := t.sp.map (mA A T) }, 0)
theorem move_ab {w s} (h : Whole w s) {A T : Int} (hA : 0 <= A /\ A <= 2000) (hT : 0 <= T /\ T <= 2000) :
  Calls Tryz.prog 95 #[.pointer (some ⟨s.p, 0, none⟩), .int .i64 A, .int .i64 T] w (Done w s (moveA (ab s) A T)) := by
 have kA : K64 A := k64 (by omega) (by omega)
 have kT : K64 T := k64 (by omega) (by omega)
 unfold moveA
 have vA := h.refs.val A
 have vT := h.refs.val T
 by_cases h0 : cntA (ab s).sp A = 0
 ·rw [if_pos (.inl h0)]
  refine (move_a h.at' kA (by rw [vA, h0]; rfl)).mono ?_
  rintro e w' ⟨rfl, rfl⟩
  exact Done.same h 82
 ·by_cases h1 : cntA (ab s).sp T = 0
  ·rw [if_neg (by omega)]
   have habs : ab (movS s A T) = { ab s with sp := (ab s).sp.map (mA A T) } := by
    show (⟨(s.sp.map (mvSp A T)).map Sp.a, s.bad, s.worn⟩ : Ab) = _
    rw [mA_map]; rfl
   have hne : A ≠ T := fun e => h0 (by rw [e]; exact h1)
   refine (move_c h.at' kA kT (by rw [vA]; omega) (by rw [vT, h1]; rfl) (fun x hx => k15 (h.inv.ids _ (ab_mem hx))) (by have := h.refs.len h.at'.hR.up; omega) (fun x hx => by have := h.inv.plen (ab_mem hx); simp only [Sp.a] at this; omega)).mono ?_
   rintro e w' ⟨rfl, g, c⟩
   refine ⟨rfl, _, ⟨g, by rw [habs]; exact h.inv.withM hT, ?_⟩, habs, c⟩
   rw [habs]
   refine ⟨fun a => ?_, fun a => ?_, fun a => ?_⟩
   ·show mget (mdel (mput s.refs T ((mget s.refs A).getD 0)) A) a = _
    rw [cntA_mv, vA]
    by_cases e : a = A
    ·subst e
     rw [mget_del_same, if_neg hne]
     simp
    ·rw [mget_del_ne e]
     by_cases e2 : a = T
     ·subst e2
      rw [mget_put, if_pos rfl, if_neg e, h1]
      rw [if_neg (by omega)]
      simp
     ·rw [mget_put_ne e2, h.refs.get, if_neg e2, if_neg e]
      simp
   ·show cntA ((ab s).sp.map (mA A T)) a ≠ 0 -> _
    rw [cntA_mv]
    intro hh
    by_cases e2 : a = T
    ·subst e2; exact hT
    ·rw [if_neg e2] at hh
     by_cases e : a = A
     ·subst e; exact hA
     ·rw [if_neg e] at hh
      exact h.refs.rng a (by omega)
   ·show cntA ((ab s).sp.map (mA A T)) a <= 100000
    have := (h.inv.withM (f := A) hT).top a
    simp only at this; omega
  ·rw [if_pos (.inr h1)]
   refine (move_b h.at' kA kT (by rw [vA]; omega) (by rw [vT]; omega)).mono ?_
   rintro e w' ⟨rfl, rfl⟩
   exact Done.same h 82
def addA (t : Ab) (S N : Int) : Ab × Int :=
 match gA t.sp S with
 | some _ => (t, 80)
 | none => ({ t with sp := iA ⟨S, N, false, []⟩ t.sp }, 0)
theorem add_ab {w s} (h : Whole w s) {S N : Int} (hS : 1 <= S /\ S <= 15) (hN : 1 <= N /\ N <= 1024) :
  Calls Tryz.prog 96 #[.pointer (some ⟨s.p, 0, none⟩), .int .i64 S, .int .i64 N] w (Done w s (addA (ab s) S N)) := by
 unfold addA
 cases hg : gsp s.sp S with
 | some x =>
  rw [ab_gsp hg]
  have hxid := (gsp_some hg).2
  subst hxid
  refine (add_some h.at' (k15 hS) (gsp_id hg)).mono ?_
  rintro e w' ⟨rfl, rfl⟩
  exact Done.same h 80
 | none =>
  have hgA := ab_gspN hg
  rw [hgA]
  refine (add_none h.at' (k15 hS) hg (by have := h.inv.len; simp only [ab, List.length_map] at this; omega)).mono ?_
  rintro e w' ⟨rfl, sb, pb, g, c⟩
  have habs : ab (addS s ⟨S, N, false, [], sb, pb⟩) = { ab s with sp := iA ⟨S, N, false, []⟩ (ab s).sp } := by
   show (⟨(isp _ s.sp).map Sp.a, s.bad, s.worn⟩ : Ab) = _
   rw [iA_map]; rfl
  refine ⟨rfl, _, ⟨g, ?_, ?_⟩, habs, c⟩
  ·rw [habs]
   exact h.inv.withI (x := ⟨S, N, false, []⟩) hgA hS hN (fun p hp => by cases hp) List.Pairwise.nil
  ·rw [habs]
   refine h.refs.of (fun a => ?_)
   show _ = cntA (iA ⟨S, N, false, []⟩ (ab s).sp) a
   rw [cntA_iA, cntP_nil, Nat.zero_add]
def dropA (t : Ab) (S : Int) : Ab × Int :=
 match gA t.sp S with
 | none => (t, 80)
 | some _ => ({ t with sp := dA t.sp S }, 0)
theorem drop_ab {w s} (h : Whole w s) {S : Int} (hS : 1 <= S /\ S <= 15) :
  Calls Tryz.prog 97 #[.pointer (some ⟨s.p, 0, none⟩), .int .i64 S] w (Done w s (dropA (ab s) S)) := by
 unfold dropA
 cases hg : gsp s.sp S with
 | none =>
  rw [ab_gspN hg]
  refine (drop_none h.at' (k15 hS) hg).mono ?_
  rintro e w' ⟨rfl, rfl⟩
  exact Done.same h 80
 | some x =>
  rw [ab_gsp hg]
  have hxid := (gsp_some hg).2
  have hgx := gsp_id hg
  subst hxid
  have hm := ab_mem (gsp_some hg).1
  obtain ⟨i1, i2, i3, i4⟩ := h.inv.space hm
  refine (drop_some h.at' (F := cntA (dA (ab s).sp x.id)) (k15 hS) hgx (h.refs.of (fun a => (cntA_dA h.up hm a).symm)) (fun p hp => (i3 p hp).2)).mono ?_
  rintro e w' ⟨rfl, M, g, r, c⟩
  have habs : ab (dropS s x.id M) = { ab s with sp := dA (ab s).sp x.id } := by
   show (⟨(dsp s.sp _).map Sp.a, s.bad, s.worn⟩ : Ab) = _
   rw [dA_map]; rfl
  refine ⟨rfl, _, ⟨g, by rw [habs]; exact h.inv.withD _, by rw [habs]; exact r⟩, habs, c⟩
def dblA (t : Ab) (S T : Int) : Ab × Int :=
 match gA t.sp S with
 | none => (t, 80)
 | some x => match gA t.sp T with
  | some _ => (t, 80)
  | none => ({ t with sp := iA ⟨T, x.q, false, x.ps⟩ t.sp }, 0)
theorem dbl_ab {w s} (h : Whole w s) {S T : Int} (hS : 1 <= S /\ S <= 15) (hT : 1 <= T /\ T <= 15) :
  Calls Tryz.prog 98 #[.pointer (some ⟨s.p, 0, none⟩), .int .i64 S, .int .i64 T] w (Done w s (dblA (ab s) S T)) := by
 unfold dblA
 cases hg : gsp s.sp S with
 | none =>
  rw [ab_gspN hg]
  refine (double_none h.at' (k15 hS) hg).mono ?_
  rintro e w' ⟨rfl, rfl⟩
  exact Done.same h 80
 | some x =>
  rw [ab_gsp hg]
  have hxid := (gsp_some hg).2
  have hgx := gsp_id hg
  subst hxid
  have hm := ab_mem (gsp_some hg).1
  obtain ⟨i1, i2, i3, i4⟩ := h.inv.space hm
  cases hg2 : gsp s.sp T with
  | some y =>
   show Calls _ _ _ _ (Done w s (match gA (ab s).sp T with | some _ => _ | none => _))
   rw [ab_gsp hg2]
   have hyid := (gsp_some hg2).2
   subst hyid
   refine (double_taken h.at' (k15 hS) (k15 hT) hgx (gsp_id hg2)).mono ?_
   rintro e w' ⟨rfl, rfl⟩
   exact Done.same h 80
  | none =>
   have hgA := ab_gspN hg2
   show Calls _ _ _ _ (Done w s (match gA (ab s).sp T with | some _ => _ | none => _))
   rw [hgA]
   have hl := h.inv.len
   simp only [ab, List.length_map] at hl
   refine (double_some h.at' (f := cntA (ab s).sp) (k15 hS) (k15 hT) hgx hg2 (by omega) h.refs (fun p hp => (i3 p hp).2) (fun a => by have h1 := h.inv.top a; have h2 := cntP_le x.ps a; have h3 := h.inv.plen hm; simp only [Sp.a] at h3; omega)).mono ?_
   rintro e w' ⟨rfl, sb, pb, M, g, r, c⟩
   have habs : ab (dblS s ⟨T, x.q, false, x.ps, sb, pb⟩ M) = { ab s with sp := iA ⟨T, x.q, false, x.ps⟩ (ab s).sp } := by
    show (⟨(isp _ s.sp).map Sp.a, s.bad, s.worn⟩ : Ab) = _
    rw [iA_map]; rfl
   refine ⟨rfl, _, ⟨g, ?_, ?_⟩, habs, c⟩
   ·rw [habs]
    exact h.inv.withI (x := ⟨T, x.q, false, x.ps⟩) hgA hT i2 i3 i4
   ·rw [habs]
    refine r.of (fun a => ?_)
    show _ = cntA (iA ⟨T, x.q, false, x.ps⟩ (ab s).sp) a
    rw [cntA_iA]; exact Nat.add_comm _ _
def sealA (t : Ab) (S : Int) : Ab × Int :=
 match gA t.sp S with
 | none => (t, 80)
 | some x => ({ t with sp := sA t.sp { x with sl := true } }, 0)
theorem seal_ab {w s} (h : Whole w s) {S : Int} (hS : 1 <= S /\ S <= 15) :
  Calls Tryz.prog 99 #[.pointer (some ⟨s.p, 0, none⟩), .int .i64 S] w (Done w s (sealA (ab s) S)) := by
 unfold sealA
 cases hg : gsp s.sp S with
 | none =>
  rw [ab_gspN hg]
  refine (seal_none h.at' (k15 hS) hg).mono ?_
  rintro e w' ⟨rfl, rfl⟩
  exact Done.same h 80
 | some x =>
  rw [ab_gsp hg]
  have hxid := (gsp_some hg).2
  have hgx := gsp_id hg
  subst hxid
  have hm := ab_mem (gsp_some hg).1
  obtain ⟨i1, i2, i3, i4⟩ := h.inv.space hm
  refine (seal_some h.at' (k15 hS) hgx).mono ?_
  rintro e w' ⟨rfl, g, c⟩
  have habs : ab (sealS s x) = { ab s with sp := sA (ab s).sp { x.a with sl := true } } := by
   show (⟨(ssp s.sp _).map Sp.a, s.bad, s.worn⟩ : Ab) = _
   rw [sA_map]; rfl
  refine ⟨rfl, _, ⟨g, by rw [habs]; exact h.inv.withS i1 i2 i3 i4, ?_⟩, habs, c⟩
  rw [habs]
  refine h.refs.of (fun a => ?_)
  have h1 := cntA_sA h.up hm (x' := { x.a with sl := true }) rfl a
  show _ = cntA (sA (ab s).sp { x.a with sl := true }) a
  simp only [Sp.a] at h1 |-
  omega
end Go.Proofs.YtcmmhfjnhlaepabGreatDoor.S8
namespace Go.Proofs.YtcmmhfjnhlaepabGreatDoor.S8
open Go Go.RowKit Go.Maps Gp Pg We
theorem Done.call {w w1 : World} {s : St} {r : Ab × Int} {e : Ending} {w' : World} (q : Below w.heap.size w w1) (h : Done w1 s r e w') : Done w s r e w' := by
 obtain ⟨h1, s', h2, h3, h4⟩ := h
 exact ⟨h1, s', h2, h3, (Ch.call q).trans h4⟩
theorem boxed {w w1 : World} {K S P A T N : Int} (q : Below (w.alloc (.cells #[.int .i64 K, .int .i64 S, .int .i64 P, .int .i64 A, .int .i64 T, .int .i64 N] 47)).heap.size (w.alloc (.cells #[.int .i64 K, .int .i64 S, .int .i64 P, .int .i64 A, .int .i64 T, .int .i64 N] 47)) w1) :
  Row w1 w.heap.size 47 .i64 [K, S, P, A, T, N] /\ Below w.heap.size w w1 :=
 ⟨(Row.fresh w 47 .i64 [K, S, P, A, T, N]).call q, ((Below.refl _ w).alloc (Nat.le_refl _) _).trans (q.mono (by rw [size_alloc]; omega))⟩
theorem Whole.bad {w w' : World} {s : St} {A : Int} (h : Whole w s) (hA : 0 <= A /\ A <= 31) (hm : Mp elU w' s.bB (mput s.bad A 0)) (q : w.mapTurned w' s.bB) : Whole w' { s with bad := mput s.bad A 0 } := by
 refine ⟨h.at'.badT hm q, ⟨h.inv.ids, h.inv.qs, h.inv.pss, h.inv.ups, h.inv.up, fun p hp => ?_, h.inv.worn, up_put h.inv.upb A 0, h.inv.upw⟩, h.refs⟩
 rcases mem_mput hp with rfl | hp
 ·exact ⟨hA, rfl⟩
 ·exact h.inv.bad p hp
theorem Whole.worn {w w' : World} {s : St} {A N : Int} (h : Whole w s) (hA : 0 <= A /\ A <= 31) (hN : 0 <= N /\ N <= 1073741824) (hm : Mp elI w' s.bW (mput s.worn A N)) (q : w.mapTurned w' s.bW) : Whole w' { s with worn := mput s.worn A N } := by
 refine ⟨h.at'.wornT hm q, ⟨h.inv.ids, h.inv.qs, h.inv.pss, h.inv.ups, h.inv.up, h.inv.bad, fun p hp => ?_, h.inv.upb, up_put h.inv.upw A N⟩, h.refs⟩
 rcases mem_mput hp with rfl | hp
 ·exact ⟨hA, hN⟩
 ·exact h.inv.worn p hp
set_option maxRecDepth 20000 in
theorem apply_bad {w : World} {s : St} (h : Whole w s) {K S P A T N : Int} (hm : Gp.mayB K S P A T N = false) :
  Calls Tryz.prog 48 #[.pointer (some ⟨s.p, 0, none⟩), rv K S P A T N] w (Done w s (ab s, 1)) := by
 have hck := fun W => checkB_any K S P A T N W
 rw [hm] at hck
 unfold rv at *
 have H := Hid.mk h
 have HC := Hid.mk hck
 clear h hck hm
 go_enter Tryz.func48, Tryz.ntmps48
 go_wp2_with (first | (go_at_call 91; refine (HC.out _).mono ?_; rintro e w1 ⟨rfl, b1⟩))
 go_ret
 exact Done.call (boxed b1).2 (Done.same (H.out.call (boxed b1).2) 1)
set_option maxRecDepth 20000 in
theorem apply_1 {w : World} {s : St} (h : Whole w s) {S P A T N : Int} (hm : Gp.mayB 1 S P A T N = true) (hS : 1 <= S /\ S <= 15) (hP : 0 <= P /\ P <= 1023) (hA : 0 <= A /\ A <= 2000) :
  Calls Tryz.prog 48 #[.pointer (some ⟨s.p, 0, none⟩), rv 1 S P A T N] w (Done w s (putA (ab s) S P A)) := by
 have hck := fun W => checkB_any 1 S P A T N W
 rw [hm] at hck
 unfold rv at *
 have H := Hid.mk h
 have HC := Hid.mk hck
 clear h hck hm
 go_enter Tryz.func48, Tryz.ntmps48
 go_upto_region 3 with (first | (go_at_call 91; refine (HC.out _).mono ?_; rintro e w1 ⟨rfl, b1⟩))
 have r1 := (boxed b1).1
 have W1 := H.out.call (boxed b1).2
 have hc : Calls Tryz.prog 93 #[.pointer (some ⟨s.p, 0, none⟩), .int .i64 S, .int .i64 P, .int .i64 A] w1 (Done w1 s (putA (ab s) S P A)) := put_ab W1 hS hP hA
 have hfl := fill_any W1.at'
 obtain ⟨c0, c1, c2, c3, c4, c5⟩ := r1.six
 replace hc := Hid.mk hc
 replace hfl := Hid.mk hfl
 have B1 : Hid (∀ r e w', Done w1 s r e w' -> Done w s r e w') := fun r e w' hh => Done.call (boxed b1).2 hh
 clear W1 r1 b1
 generalize w.heap.size = R at *
 go_wp2_with (first
  | (go_at_call 92; refine hfl.out.mono ?_; rintro e w2 ⟨rfl, rfl⟩)
  | (go_at_call 93; refine hc.out.mono ?_; intro e w2 hd; obtain ⟨rfl, hd2⟩ := hd))
 go_ret
 exact B1.out _ _ _ ⟨rfl, hd2⟩
set_option maxRecDepth 20000 in
theorem apply_2 {w : World} {s : St} (h : Whole w s) {S P A T N : Int} (hm : Gp.mayB 2 S P A T N = true) (hS : 1 <= S /\ S <= 15) (hP : 0 <= P /\ P <= 1023) :
  Calls Tryz.prog 48 #[.pointer (some ⟨s.p, 0, none⟩), rv 2 S P A T N] w (Done w s (trimA (ab s) S P)) := by
 have hck := fun W => checkB_any 2 S P A T N W
 rw [hm] at hck
 unfold rv at *
 have H := Hid.mk h
 have HC := Hid.mk hck
 clear h hck hm
 go_enter Tryz.func48, Tryz.ntmps48
 go_upto_region 3 with (first | (go_at_call 91; refine (HC.out _).mono ?_; rintro e w1 ⟨rfl, b1⟩))
 have r1 := (boxed b1).1
 have W1 := H.out.call (boxed b1).2
 have hc : Calls Tryz.prog 94 #[.pointer (some ⟨s.p, 0, none⟩), .int .i64 S, .int .i64 P] w1 (Done w1 s (trimA (ab s) S P)) := trim_ab W1 hS hP
 have hfl := fill_any W1.at'
 obtain ⟨c0, c1, c2, c3, c4, c5⟩ := r1.six
 replace hc := Hid.mk hc
 replace hfl := Hid.mk hfl
 have B1 : Hid (∀ r e w', Done w1 s r e w' -> Done w s r e w') := fun r e w' hh => Done.call (boxed b1).2 hh
 clear W1 r1 b1
 generalize w.heap.size = R at *
 go_wp2_with (first
  | (go_at_call 92; refine hfl.out.mono ?_; rintro e w2 ⟨rfl, rfl⟩)
  | (go_at_call 94; refine hc.out.mono ?_; intro e w2 hd; obtain ⟨rfl, hd2⟩ := hd))
 go_ret
 exact B1.out _ _ _ ⟨rfl, hd2⟩
set_option maxRecDepth 20000 in
theorem apply_3 {w : World} {s : St} (h : Whole w s) {S P A T N : Int} (hm : Gp.mayB 3 S P A T N = true) (hA : 0 <= A /\ A <= 2000) (hT : 0 <= T /\ T <= 2000) :
  Calls Tryz.prog 48 #[.pointer (some ⟨s.p, 0, none⟩), rv 3 S P A T N] w (Done w s (moveA (ab s) A T)) := by
 have hck := fun W => checkB_any 3 S P A T N W
 rw [hm] at hck
 unfold rv at *
 have H := Hid.mk h
 have HC := Hid.mk hck
 clear h hck hm
 go_enter Tryz.func48, Tryz.ntmps48
 go_upto_region 3 with (first | (go_at_call 91; refine (HC.out _).mono ?_; rintro e w1 ⟨rfl, b1⟩))
 have r1 := (boxed b1).1
 have W1 := H.out.call (boxed b1).2
 have hc : Calls Tryz.prog 95 #[.pointer (some ⟨s.p, 0, none⟩), .int .i64 A, .int .i64 T] w1 (Done w1 s (moveA (ab s) A T)) := move_ab W1 hA hT
 have hfl := fill_any W1.at'
 obtain ⟨c0, c1, c2, c3, c4, c5⟩ := r1.six
 replace hc := Hid.mk hc
 replace hfl := Hid.mk hfl
 have B1 : Hid (∀ r e w', Done w1 s r e w' -> Done w s r e w') := fun r e w' hh => Done.call (boxed b1).2 hh
 clear W1 r1 b1
 generalize w.heap.size = R at *
 go_wp2_with (first
  | (go_at_call 92; refine hfl.out.mono ?_; rintro e w2 ⟨rfl, rfl⟩)
  | (go_at_call 95; refine hc.out.mono ?_; intro e w2 hd; obtain ⟨rfl, hd2⟩ := hd))
 go_ret
 exact B1.out _ _ _ ⟨rfl, hd2⟩
set_option maxRecDepth 20000 in
theorem apply_4 {w : World} {s : St} (h : Whole w s) {S P A T N : Int} (hm : Gp.mayB 4 S P A T N = true) (hS : 1 <= S /\ S <= 15) (hN : 1 <= N /\ N <= 1024) :
  Calls Tryz.prog 48 #[.pointer (some ⟨s.p, 0, none⟩), rv 4 S P A T N] w (Done w s (addA (ab s) S N)) := by
 have hck := fun W => checkB_any 4 S P A T N W
 rw [hm] at hck
 unfold rv at *
 have H := Hid.mk h
 have HC := Hid.mk hck
 clear h hck hm
 go_enter Tryz.func48, Tryz.ntmps48
 go_upto_region 3 with (first | (go_at_call 91; refine (HC.out _).mono ?_; rintro e w1 ⟨rfl, b1⟩))
 have r1 := (boxed b1).1
 have W1 := H.out.call (boxed b1).2
 have hc : Calls Tryz.prog 96 #[.pointer (some ⟨s.p, 0, none⟩), .int .i64 S, .int .i64 N] w1 (Done w1 s (addA (ab s) S N)) := add_ab W1 hS hN
 have hfl := fill_any W1.at'
 obtain ⟨c0, c1, c2, c3, c4, c5⟩ := r1.six
 replace hc := Hid.mk hc
 replace hfl := Hid.mk hfl
 have B1 : Hid (∀ r e w', Done w1 s r e w' -> Done w s r e w') := fun r e w' hh => Done.call (boxed b1).2 hh
 clear W1 r1 b1
 generalize w.heap.size = R at *
 go_wp2_with (first
  | (go_at_call 92; refine hfl.out.mono ?_; rintro e w2 ⟨rfl, rfl⟩)
  | (go_at_call 96; refine hc.out.mono ?_; intro e w2 hd; obtain ⟨rfl, hd2⟩ := hd))
 go_ret
 exact B1.out _ _ _ ⟨rfl, hd2⟩
set_option maxRecDepth 20000 in
theorem apply_5 {w : World} {s : St} (h : Whole w s) {S P A T N : Int} (hm : Gp.mayB 5 S P A T N = true) (hS : 1 <= S /\ S <= 15) :
  Calls Tryz.prog 48 #[.pointer (some ⟨s.p, 0, none⟩), rv 5 S P A T N] w (Done w s (dropA (ab s) S)) := by
 have hck := fun W => checkB_any 5 S P A T N W
 rw [hm] at hck
 unfold rv at *
 have H := Hid.mk h
 have HC := Hid.mk hck
 clear h hck hm
 go_enter Tryz.func48, Tryz.ntmps48
 go_upto_region 3 with (first | (go_at_call 91; refine (HC.out _).mono ?_; rintro e w1 ⟨rfl, b1⟩))
 have r1 := (boxed b1).1
 have W1 := H.out.call (boxed b1).2
 have hc : Calls Tryz.prog 97 #[.pointer (some ⟨s.p, 0, none⟩), .int .i64 S] w1 (Done w1 s (dropA (ab s) S)) := drop_ab W1 hS
 have hfl := fill_any W1.at'
 obtain ⟨c0, c1, c2, c3, c4, c5⟩ := r1.six
 replace hc := Hid.mk hc
 replace hfl := Hid.mk hfl
 have B1 : Hid (∀ r e w', Done w1 s r e w' -> Done w s r e w') := fun r e w' hh => Done.call (boxed b1).2 hh
 clear W1 r1 b1
 generalize w.heap.size = R at *
 go_wp2_with (first
  | (go_at_call 92; refine hfl.out.mono ?_; rintro e w2 ⟨rfl, rfl⟩)
  | (go_at_call 97; refine hc.out.mono ?_; intro e w2 hd; obtain ⟨rfl, hd2⟩ := hd))
 go_ret
 exact B1.out _ _ _ ⟨rfl, hd2⟩
set_option maxRecDepth 20000 in
theorem apply_6 {w : World} {s : St} (h : Whole w s) {S P A T N : Int} (hm : Gp.mayB 6 S P A T N = true) (hS : 1 <= S /\ S <= 15) (hT : 1 <= T /\ T <= 15) :
  Calls Tryz.prog 48 #[.pointer (some ⟨s.p, 0, none⟩), rv 6 S P A T N] w (Done w s (dblA (ab s) S T)) := by
 have hck := fun W => checkB_any 6 S P A T N W
 rw [hm] at hck
 unfold rv at *
 have H := Hid.mk h
 have HC := Hid.mk hck
 clear h hck hm
 go_enter Tryz.func48, Tryz.ntmps48
 go_upto_region 3 with (first | (go_at_call 91; refine (HC.out _).mono ?_; rintro e w1 ⟨rfl, b1⟩))
 have r1 := (boxed b1).1
 have W1 := H.out.call (boxed b1).2
 have hc : Calls Tryz.prog 98 #[.pointer (some ⟨s.p, 0, none⟩), .int .i64 S, .int .i64 T] w1 (Done w1 s (dblA (ab s) S T)) := dbl_ab W1 hS hT
 have hfl := fill_any W1.at'
 obtain ⟨c0, c1, c2, c3, c4, c5⟩ := r1.six
 replace hc := Hid.mk hc
 replace hfl := Hid.mk hfl
 have B1 : Hid (∀ r e w', Done w1 s r e w' -> Done w s r e w') := fun r e w' hh => Done.call (boxed b1).2 hh
 clear W1 r1 b1
 generalize w.heap.size = R at *
 go_wp2_with (first
  | (go_at_call 92; refine hfl.out.mono ?_; rintro e w2 ⟨rfl, rfl⟩)
  | (go_at_call 98; refine hc.out.mono ?_; intro e w2 hd; obtain ⟨rfl, hd2⟩ := hd))
 go_ret
 exact B1.out _ _ _ ⟨rfl, hd2⟩
set_option maxRecDepth 20000 in
theorem apply_7 {w : World} {s : St} (h : Whole w s) {S P A T N : Int} (hm : Gp.mayB 7 S P A T N = true) (hS : 1 <= S /\ S <= 15) :
  Calls Tryz.prog 48 #[.pointer (some ⟨s.p, 0, none⟩), rv 7 S P A T N] w (Done w s (sealA (ab s) S)) := by
 have hck := fun W => checkB_any 7 S P A T N W
 rw [hm] at hck
 unfold rv at *
 have H := Hid.mk h
 have HC := Hid.mk hck
 clear h hck hm
 go_enter Tryz.func48, Tryz.ntmps48
 go_upto_region 3 with (first | (go_at_call 91; refine (HC.out _).mono ?_; rintro e w1 ⟨rfl, b1⟩))
 have r1 := (boxed b1).1
 have W1 := H.out.call (boxed b1).2
 have hc : Calls Tryz.prog 99 #[.pointer (some ⟨s.p, 0, none⟩), .int .i64 S] w1 (Done w1 s (sealA (ab s) S)) := seal_ab W1 hS
 have hfl := fill_any W1.at'
 obtain ⟨c0, c1, c2, c3, c4, c5⟩ := r1.six
 replace hc := Hid.mk hc
 replace hfl := Hid.mk hfl
 have B1 : Hid (∀ r e w', Done w1 s r e w' -> Done w s r e w') := fun r e w' hh => Done.call (boxed b1).2 hh
 clear W1 r1 b1
 generalize w.heap.size = R at *
 go_wp2_with (first
  | (go_at_call 92; refine hfl.out.mono ?_; rintro e w2 ⟨rfl, rfl⟩)
  | (go_at_call 99; refine hc.out.mono ?_; intro e w2 hd; obtain ⟨rfl, hd2⟩ := hd))
 go_ret
 exact B1.out _ _ _ ⟨rfl, hd2⟩
set_option maxRecDepth 20000 in
theorem apply_8 {w : World} {s : St} (h : Whole w s) {S P A T N : Int} (hm : Gp.mayB 8 S P A T N = true) (hA : 0 <= A /\ A <= 31) :
  Calls Tryz.prog 48 #[.pointer (some ⟨s.p, 0, none⟩), rv 8 S P A T N] w (Done w s (({ ab s with bad := mput s.bad A 0 }, 0))) := by
 have hck := fun W => checkB_any 8 S P A T N W
 rw [hm] at hck
 unfold rv at *
 have H := Hid.mk h
 have HC := Hid.mk hck
 clear h hck hm
 skip
 go_enter Tryz.func48, Tryz.ntmps48
 go_upto_region 3 with (first | (go_at_call 91; refine (HC.out _).mono ?_; rintro e w1 ⟨rfl, b1⟩))
 have r1 := (boxed b1).1
 have W1 := H.out.call (boxed b1).2
 have hfl := fill_any W1.at'
 obtain ⟨c0, c1, c2, c3, c4, c5⟩ := r1.six
 have hS0 := Hid.mk (And.intro (show w1.drew.cell? ⟨s.p, 2, none⟩ = some (.map (some s.bB)) from W1.at'.drew.c2) (show w1.drew.cell? ⟨w.heap.size, 3, none⟩ = some (.int .i64 A) from c3))
 obtain ⟨w3, hrun, m3, t3⟩ := W1.at'.hB.drew.store (m := s.bad) Tryz.underlying67 (by have := W1.inv.blen; simp only [ab] at this; omega) (k64 (by omega) (by omega) : K64 A) (val := .agg #[]) (v := 0) rfl
 have hS3 := Hid.mk (And.intro (show w3.cell? ⟨s.p, 2, none⟩ = some (.map (some s.bB)) from (W1.at'.drew.badT m3 t3).c2) (show w3.cell? ⟨w.heap.size, 3, none⟩ = some (.int .i64 A) from (World.cell?_of_block (turned_cells W1.at'.hB.drew t3 r1 |>.trans r1.symm)).trans c3))
 have hfin := Hid.mk (show Done w s ({ ab s with bad := mput s.bad A 0 }, 0) (.returned (.int .i64 0)) w3 from Done.call (boxed b1).2 ⟨rfl, { s with bad := mput s.bad A 0 }, Whole.bad (w := w1.drew) ⟨W1.at'.drew, W1.inv, W1.refs⟩ hA m3 t3, rfl, (Ch.call (Below.refl _ w1).drew).trans (Ch.turned t3 (mem_bB s) rfl rfl)⟩)
 replace hfl := Hid.mk hfl
 clear W1 r1 b1 m3 t3
 generalize w.heap.size = R at *
 go_upto_region 20 with (first | (go_at_call 92; refine hfl.out.mono ?_; rintro e w2 ⟨rfl, rfl⟩))
 refine wp_region_held_drew (S := fun w' => w'.cell? ⟨s.p, 2, none⟩ = some (.map (some s.bB)) /\ w'.cell? ⟨R, 3, none⟩ = some (.int .i64 A)) (by kernel_rfl) hS0.out (fun hHeld => ?_)
 refine tkC 0 hHeld ?_
 refine tkC 1 hHeld ?_
 refine tkC 2 hHeld ?_
 refine tkC 3 hHeld ?_
 refine tkC 4 hHeld ?_
 refine tkC 5 hHeld ?_
 refine tkC 6 hHeld ?_
 refine wpAnyH_ready (rs := [7]) (by kernel_rfl) (by simp) ?_
 refine arH rfl (fun K hK => ?_) AllReadyH.nil
 go_simp
 refine hK.out _ _ hS3.out (fun hHeld => ?_)
 clear hK K
 try simp only [Act.put, zA, zB, zC]
 refine wpAnyH_done (by kernel_rfl) ?_ _
 go_wp2_with fail
 go_ret
 exact hfin.out
set_option maxRecDepth 20000 in
theorem apply_9 {w : World} {s : St} (h : Whole w s) {S P A T N : Int} (hm : Gp.mayB 9 S P A T N = true) (hA : 0 <= A /\ A <= 31) (hN : 0 <= N /\ N <= 1073741824) :
  Calls Tryz.prog 48 #[.pointer (some ⟨s.p, 0, none⟩), rv 9 S P A T N] w (Done w s (({ ab s with worn := mput s.worn A (max ((mget s.worn A).getD 0) N) }, 0))) := by
 have hck := fun W => checkB_any 9 S P A T N W
 rw [hm] at hck
 unfold rv at *
 have H := Hid.mk h
 have HC := Hid.mk hck
 clear h hck hm
 skip
 go_enter Tryz.func48, Tryz.ntmps48
 go_upto_region 3 with (first | (go_at_call 91; refine (HC.out _).mono ?_; rintro e w1 ⟨rfl, b1⟩))
 have r1 := (boxed b1).1
 have W1 := H.out.call (boxed b1).2
 have hfl := fill_any W1.at'
 obtain ⟨c0, c1, c2, c3, c4, c5⟩ := r1.six
 have hl0 := W1.at'.hW.drew.look (k64 (by omega) (by omega) : K64 A)
 generalize hx0 : (mget s.worn A).getD 0 = x0 at *
 have hx1 : 0 <= x0 /\ x0 <= 1073741824 := by
  rw [<- hx0]
  cases hg : mget s.worn A with
  | none => simp
  | some v => exact (W1.inv.worn _ (mget_mem hg)).2
 have hS0 := Hid.mk (And.intro (show w1.drew.cell? ⟨s.p, 3, none⟩ = some (.map (some s.bW)) from W1.at'.drew.c3) (And.intro (show w1.drew.cell? ⟨w.heap.size, 3, none⟩ = some (.int .i64 A) from c3) (show w1.drew.cell? ⟨w.heap.size, 5, none⟩ = some (.int .i64 N) from c5)))
 obtain ⟨w3, hrun, m3, t3⟩ := W1.at'.hW.drew.store (m := s.worn) Tryz.underlying129 (by have := W1.inv.wlen; simp only [ab] at this; omega) (k64 (by omega) (by omega) : K64 A) (val := .int .i64 (max x0 N)) (v := max x0 N) rfl
 have hS3 := Hid.mk (And.intro (show w3.cell? ⟨s.p, 3, none⟩ = some (.map (some s.bW)) from (W1.at'.drew.wornT m3 t3).c3) (And.intro (show w3.cell? ⟨w.heap.size, 3, none⟩ = some (.int .i64 A) from (World.cell?_of_block (turned_cells W1.at'.hW.drew t3 r1 |>.trans r1.symm)).trans c3) (show w3.cell? ⟨w.heap.size, 5, none⟩ = some (.int .i64 N) from (World.cell?_of_block (turned_cells W1.at'.hW.drew t3 r1 |>.trans r1.symm)).trans c5)))
 have hfin := Hid.mk (show Done w s ({ ab s with worn := mput s.worn A (max x0 N) }, 0) (.returned (.int .i64 0)) w3 from Done.call (boxed b1).2 ⟨rfl, { s with worn := mput s.worn A (max x0 N) }, Whole.worn (w := w1.drew) ⟨W1.at'.drew, W1.inv, W1.refs⟩ hA (by omega) m3 t3, rfl, (Ch.call (Below.refl _ w1).drew).trans (Ch.turned t3 (mem_bW s) rfl rfl)⟩)
 replace hfl := Hid.mk hfl
 clear W1 r1 b1 m3 t3
 generalize w.heap.size = R at *
 go_upto_region 22 with (first | (go_at_call 92; refine hfl.out.mono ?_; rintro e w2 ⟨rfl, rfl⟩))
 refine wp_region_held_drew (S := fun w' => w'.cell? ⟨s.p, 3, none⟩ = some (.map (some s.bW)) /\ w'.cell? ⟨R, 3, none⟩ = some (.int .i64 A) /\ w'.cell? ⟨R, 5, none⟩ = some (.int .i64 N)) (by kernel_rfl) hS0.out (fun hHeld => ?_)
 refine tkC 0 hHeld ?_
 refine tkC 1 hHeld ?_
 refine tkC 2 hHeld ?_
 refine tkC 3 hHeld ?_
 refine tkC 4 hHeld ?_
 refine tkC 5 hHeld ?_
 refine tkC 6 hHeld ?_
 refine tkC 7 hHeld ?_
 refine tkC 8 hHeld ?_
 refine tkC 9 hHeld ?_
 refine tkC 10 hHeld ?_
 refine tkC 11 hHeld ?_
 refine tkC 13 hHeld ?_
 refine tkC 14 hHeld ?_
 refine wpAnyH_ready (rs := [12]) (by kernel_rfl) (by simp) ?_
 refine arH rfl (fun K hK => ?_) AllReadyH.nil
 go_simp
 refine hK.out _ _ hHeld (fun hHeld => ?_)
 clear hK K
 try simp only [Act.put, zA, zB, zC]
 refine tkC 15 hHeld ?_
 refine wpAnyH_ready (rs := [16]) (by kernel_rfl) (by simp) ?_
 refine arH rfl (fun K hK => ?_) AllReadyH.nil
 go_simp
 refine hK.out _ _ hS3.out (fun hHeld => ?_)
 clear hK K
 try simp only [Act.put, zA, zB, zC]
 refine wpAnyH_done (by kernel_rfl) ?_ _
 go_wp2_with fail
 go_ret
 exact hfin.out
theorem apply_any {w : World} {s : St} (h : Whole w s) (K S P A T N : Int) : Calls Tryz.prog 48 #[.pointer (some ⟨s.p, 0, none⟩), rv K S P A T N] w (Done w s (apA (ab s) K S P A T N)) := by
 unfold apA
 cases hm : Gp.mayB K S P A T N with
 | false => rw [if_pos rfl]; exact apply_bad h hm
 | true =>
  rw [if_neg (by simp)]
  have hR := mayB_iff.1 hm
  unfold mayR at hR
  rcases hR with ⟨rfl, hR⟩ | ⟨rfl, hR⟩ | ⟨rfl, hR⟩ | ⟨rfl, hR⟩ | ⟨rfl, hR⟩ | ⟨rfl, hR⟩ | ⟨rfl, hR⟩ | ⟨rfl, hR⟩ | ⟨rfl, hR⟩
  ·exact apply_1 h hm (by omega) (by omega) (by omega)
  ·exact apply_2 h hm (by omega) (by omega)
  ·exact apply_3 h hm (by omega) (by omega)
  ·exact apply_4 h hm (by omega) (by omega)
  ·exact apply_5 h hm (by omega)
  ·exact apply_6 h hm (by omega) (by omega)
  ·exact apply_7 h hm (by omega)
  ·exact apply_8 h hm (by omega)
  ·exact apply_9 h hm (by omega) (by omega)
end Go.Proofs.YtcmmhfjnhlaepabGreatDoor.S8
