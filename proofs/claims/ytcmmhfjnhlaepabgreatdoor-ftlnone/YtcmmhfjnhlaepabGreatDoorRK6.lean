/-
  The walks of write.New, of Life, Worn, Bads, of nil writers; of the law's Begun and tag. No condition. The walk of the law's Begun: a chip to which that happens, and a writer of its pages. No condition. The walk of Read where a page says something, and of no writer. Condition of the first: the table's cells hold what the text lays. What a writer and its chip know of each other, where nothing cuts the power: pages are written, or fail. Pure. Pages written one behind the other, block by block, where nothing happens. Pure. Tags of pages that belong together: the walks of seqOf, of the function that makes one tag, and of the one that gathers them. No condition beyond sizes. Reading pages, whatever they are; pages as they are found: the walks of Read where a page is not valid, and of the laws' own 'found'. Condition: the table's cells hold what the text lays. A page in whose writing the power failed: if it says anything, it says it under the tag that was written. Pure. Pages of any tag written one behind the other, until the power fails. Condition of the walk: the table's cells hold what the text lays.
-/
import Derived.Test.YtcmmhfjnhlaepabGreatDoorRK5
import Derived.Test.YtcmmhfjnhlaepabGreatDoorRK3
import Derived.Test.YtcmmhfjnhlaepabGreatDoorRK4
namespace Go.Proofs.YtcmmhfjnhlaepabGreatDoor
open Go Go.RowKit
set_option maxRecDepth 100000
/- no writer -/
set_option maxRecDepth 100000
def Pln (a : Option Addr) : Prop := a = a \/ ∃ g o, a = some ⟨g, o, none⟩
theorem cut_to {t e sz : Nat} (ht : Tryz.prog.underlying t = some (.slice e)) (hz : ∀ w, (Go.sizeOf e).run Tryz.prog w = .ok sz w) {a : Option Addr} (_ha : Pln a) (n cap m : Nat) (hm : m <= cap) (w : World) :
  (Instr.slice t (.slice a n cap) none (some (.int .i64 (m : Int))) none).run Tryz.prog w = .ok (.slice a m cap) w := by
 have ht' : Tryz.prog.underlying t = some (.slice (Tryz.prog.elem t)) := by simp [Program.elem, ht]
 have he : Tryz.prog.elem t = e := by simp [Program.elem, ht]
 rw [run_slice_h w t _ _ _ ht' .i64 _ (by omega) (by omega), he, hz]
 cases a
 ·simp [Result.andThen, sliced]
 ·simp [Result.andThen, sliced, Addr.add]
theorem size64 (w : World) : (Go.sizeOf 87).run Tryz.prog w = .ok 3 w := by kernel_rfl
theorem size3 (w : World) : (Go.sizeOf 3).run Tryz.prog w = .ok 1 w := by kernel_rfl
end Go.Proofs.YtcmmhfjnhlaepabGreatDoor
namespace Go.Proofs.YtcmmhfjnhlaepabGreatDoor
open Go Go.RowKit
set_option maxRecDepth 100000
theorem tb_resultR {fn : Func} {p u v : Tmp} (h : fn.results = #[.cell p 97, .tmp u, .tmp v]) {tmps : Array Value} {w : World} {g : Nat} {K S I O W : Int} (hp : tmps.getD p undef = .pointer (some ⟨g, 0, none⟩)) (ha : Pg.TB w g K S I O W) :
  (results fn tmps).run Tryz.prog w = .ok (.tuple #[Pg.tagV K S I O W, tmps.getD u undef, tmps.getD v undef]) w := by
 have hp' : tmps[p]?.getD undef = .pointer (some ⟨g, 0, none⟩) := by simpa using hp
 simp [results, h, hp', asAddr, Pg.tb_load ha]
def Says (C : Ch) (b p : Nat) (t : ByteArray) (K S I O W : Nat) : Prop := ∃ d s, C.pg b p = d ++ s /\ d.size = C.Z /\ Pg.Val d s t K S I O W
def RdS (w : World) (A : Wl) (X : Wx) (wx : World) : Prop := Pg.TB wx w.heap.size 0 0 0 0 0 /\ Wtr wx A X /\ Pg.Tab wx /\ Below w.heap.size w wx
theorem rds_keep {w : World} {A X} {wx w2 : World} (h : wx.cell? ⟨A.a, 0, none⟩ = some (.pointer (some ⟨A.L.a, 0, none⟩)) /\ RdS w A X wx) (b : Below wx.heap.size wx w2) : w2.cell? ⟨A.a, 0, none⟩ = some (.pointer (some ⟨A.L.a, 0, none⟩)) /\ RdS w A X w2 := by
 have h2 := h.2
 have k := h2.2.1.call b
 exact ⟨k.cells.1, h2.1.call b, k, h2.2.2.1.call b, below3 h2.2.2.2 b⟩
theorem usedB_of {C : Ch} {b p : Nat} (h : ∀ q, p <= q -> q < C.P -> C.pg b q = ⟨#[]⟩) : usedB C b p = false := by
 unfold usedB
 rw [List.any_eq_false]
 intro q hq
 simp only [decide_eq_true_eq, not_and, ne_eq, Decidable.not_not]
 exact fun h1 => h q h1 (List.mem_range.1 hq)
theorem pr_ok {C : Ch} {b p : Nat} {d s : ByteArray} (hoff : C.off = false) (hb : b < C.B) (hp : p < C.P) (hd : d.size = C.Z) (hs : s.size = 32) (hu : ∀ q, p <= q -> q < C.P -> C.pg b q = ⟨#[]⟩) (hc : C.cuts (C.did + 1) = none) (hde : C.dead b = false) (hf : C.fails (C.did + 1) = false) :
  progC C b p d s = (putPg { C with did := C.did + 1 } b p (kp C.Z (d ++ s)), 0) := by
 unfold progC
 rw [if_pos (refP_ok hoff hb hp), if_pos ⟨hd, hs⟩, Int.toNat_natCast, Int.toNat_natCast, if_neg (by rw [usedB_of hu]; decide), hc]
 simp only
 rw [hde, hf, if_neg (by decide)]
theorem pr_cut {C : Ch} {b p : Nat} {d s : ByteArray} {x : Int × Int} (hoff : C.off = false) (hb : b < C.B) (hp : p < C.P) (hd : d.size = C.Z) (hs : s.size = 32) (hu : ∀ q, p <= q -> q < C.P -> C.pg b q = ⟨#[]⟩) (hc : C.cuts (C.did + 1) = some x) :
  progC C b p d s = (putPg { C with did := C.did + 1, off := true } b p (kp C.Z (tornP C.Z (d ++ s) x.1 x.2)), 51) := by
 unfold progC
 rw [if_pos (refP_ok hoff hb hp), if_pos ⟨hd, hs⟩, Int.toNat_natCast, Int.toNat_natCast, if_neg (by rw [usedB_of hu]; decide), hc]
theorem allF_rep (n : Nat) : Pg.allF (rep n 255) = true := by
 unfold Pg.allF rep
 rw [List.all_eq_true]
 intro x hx
 have : x = 255 := List.eq_of_mem_replicate (by simpa using hx)
 rw [this]
 rfl
theorem kp_val {Z : Nat} {d s t : ByteArray} {K S I O W : Nat} (h : Pg.Val d s t K S I O W) : kp Z (d ++ s) = d ++ s := by
 unfold kp
 rw [if_neg]
 intro e
 have := allF_rep (Z + 32)
 rw [<- e, Pg.allF_append, h.not, Bool.and_false] at this
 cases this
theorem putPg_pg (C : Ch) (b p : Nat) (v : ByteArray) (i j : Nat) : (putPg C b p v).pg i j = if i = b /\ j = p then v else C.pg i j := by
 unfold putPg upd
 by_cases h1 : i = b <;> by_cases h2 : j = p <;> simp [h1, h2]
structure Fin (X : Wx) : Prop where
 off : X.C.off = false
 free : ∀ b, b < X.C.B -> X.xs.getD b 0 = 0 -> X.C.dead b = false /\ ∀ p, p < X.C.P -> X.C.pg b p = ⟨#[]⟩
 opn : ∀ b, b < X.C.B -> X.xs.getD b 0 = 1 -> X.C.dead b = false /\ ∀ p : Nat, X.nx <= p -> p < X.C.P -> X.C.pg b p = ⟨#[]⟩
 cnt : ∀ i, 0 <= X.wn.getD i 0 /\ X.wn.getD i 0 <= 60000
 geo : X.C.Z <= 256
theorem Fin.may {X : Wx} (h : Fin X) {K I O : Nat} (hm : Pg.mayB K I O ((0 : Nat) : Int)) (i : Nat) : Pg.mayB K I O (X.wn.getD i 0) := by
 have := h.cnt i
 unfold Pg.mayB at *
 omega
theorem Fin.tk {X : Wx} (h : Fin X) (ok : Lf.Ok X.C.B X.C.P X.xs X.o X.nx) {b X1 p} (ht : Tk X b X1 p) : b < X.C.B /\ ∃ q : Nat, p = (q : Int) /\ q < X.C.P /\ X.C.dead b = false /\ ∀ r : Nat, q <= r -> r < X.C.P -> X.C.pg b r = ⟨#[]⟩ := by
 have hk := ok.kb
 rcases ht with ⟨h1, _, rfl⟩ | ⟨_, h1, _, rfl⟩
 ·obtain ⟨h2, h3⟩ := ok.open_at b h1
  have h4 := ok.nxr
  have h5 := ok.nxo (by omega)
  obtain ⟨q, hq⟩ := Int.eq_ofNat_of_zero_le h4.1
  obtain ⟨d1, d2⟩ := h.opn b h2 h3
  exact ⟨h2, q, hq, by omega, d1, fun r hr hrP => d2 r (by omega) hrP⟩
 ·obtain ⟨d1, d2⟩ := h.free b h1.lt h1.free
  exact ⟨h1.lt, 0, rfl, by omega, d1, fun r _ hrP => d2 r hrP⟩
theorem fr_val (X : Wx) (b K n I O : Nat) (s : ByteArray) (hm : Pg.mayB K I O ((0 : Nat) : Int)) (hc : 0 <= X.wn.getD b 0 /\ X.wn.getD b 0 <= 60000) (hZ : X.C.Z <= 256) (hn : n < 18446744073709551616) (hs : s.size <= X.C.Z) : Pg.Val (frD X s) (frS X b K n I O s) s K n I O (X.wn.getD b 0).toNat /\ (frD X s).size = X.C.Z /\ (frS X b K n I O s).size = 32 :=
 ⟨Pg.Val.framed K n I O (X.wn.getD b 0).toNat (by unfold Pg.mayB at *; omega) hn s X.C.Z hs (by omega), Pg.padB_size s X.C.Z hs, Pg.spareB_size ..⟩
def Wx.put (X : Wx) (b p K n I O : Nat) (s : ByteArray) : Wx := { X with C := putPg { X.C with did := X.C.did + 1 } b p (frD X s ++ frS X b K n I O s) }
theorem Fin.wrote {X : Wx} (h : Fin X) (ok : Lf.Ok X.C.B X.C.P X.xs X.o X.nx) {b : Nat} {X1 : Wx} {p : Int} (ht : Tk X b X1 p) (K n I O : Nat) (hm : Pg.mayB K I O ((0 : Nat) : Int)) (hn : n < 18446744073709551616) (s : ByteArray) (hs : s.size <= X.C.Z) (hc : X.C.cuts (X.C.did + 1) = none) (hf : X.C.fails (X.C.did + 1) = false) :
  ∃ q : Nat, p = (q : Int) /\ q < X.C.P /\ b < X.C.B /\ X1.prE b p K n I O s = 0 /\ X1.prX b p K n I O s = X1.put b q K n I O s := by
 obtain ⟨hb, q, rfl, hq, hde, hpg⟩ := h.tk ok ht
 obtain ⟨e1, e2, _⟩ := ht.C
 have hv := fr_val X1 b K n I O s hm (by rw [e2]; exact h.cnt b) (by rw [e1]; exact h.geo) hn (by rw [e1]; exact hs)
 have hp := pr_ok (C := X1.C) (b := b) (p := q) (d := frD X1 s) (s := frS X1 b K n I O s) (by rw [e1]; exact h.off) (by rw [e1]; exact hb) (by rw [e1]; exact hq) hv.2.1 hv.2.2 (by rw [e1]; exact hpg) (by rw [e1]; exact hc) (by rw [e1]; exact hde) (by rw [e1]; exact hf)
 rw [kp_val hv.1] at hp
 refine ⟨q, rfl, hq, hb, ?_, ?_⟩
 ·unfold Wx.prE; rw [hp]
 ·unfold Wx.prX Wx.put; rw [hp]
def PlOk (X : Wx) (K n I O : Nat) (s : ByteArray) (pl er : Int) (Y : Wx) : Prop :=
 (pl = 0 /\ er = 130 /\ Y = X /\ X.o = -1 /\ ∀ i, i < X.C.B -> X.xs.getD i 0 ≠ 0) \/ ∃ (b : Nat) (X1 : Wx) (q : Nat), Tk X b X1 q /\ b < X.C.B /\ q < X.C.P /\ pl = b * X.C.P + q /\ er = 0 /\ Y = X1.put b q K n I O s
theorem append_plain {w : World} {A X} (h : Wtr w A X) (hT : Pg.Tab w) (hF : Fin X) (K n I O : Nat) (hm : Pg.mayB K I O ((0 : Nat) : Int)) (hn : n < 18446744073709551616) (s : ByteArray) (hs : s.size <= X.C.Z) (hd : X.C.did < 900000) (hl : X.bd.length <= 90000) (hc : X.C.cuts (X.C.did + 1) = none) (hf : X.C.fails (X.C.did + 1) = false) (W0 : Int) :
  Calls Tryz.prog 152 #[.pointer (some ⟨A.a, 0, none⟩), Pg.tagV K n I O W0, .string s] w fun e w' => ∃ pl er X' A', e = .returned (.tuple #[.int .i64 pl, .int .i64 er]) /\ PlOk X K n I O s pl er X' /\ Geq X' X /\ Wtr w' A' X' /\ Nxt A A' X.C.B w w' := by
 refine append_any h hT (fun Y => Y = X) (PlOk X K n I O s) K n I O W0 s rfl ⟨?_, ?_, ?_, ?_, ?_⟩
 ·rintro Y rfl
  exact ⟨hd, fun i _ => hF.may hm i, hs, hl⟩
 ·rintro Y rfl _ h1 h2
  exact .inl ⟨rfl, rfl, rfl, h1, h2⟩
 ·rintro Y b X1 p rfl ok _ _ _ ht _
  obtain ⟨q, rfl, hq, hb, _, hx⟩ := hF.wrote ok ht K n I O hm hn s hs hc hf
  exact .inr ⟨b, X1, q, ht, hb, hq, rfl, rfl, hx⟩
 ·rintro Y b X1 p rfl ok _ _ _ ht he
  obtain ⟨q, rfl, hq, hb, h0, hx⟩ := hF.wrote ok ht K n I O hm hn s hs hc hf
  exact absurd h0 he
 ·rintro Y b X1 p rfl ok _ _ _ ht he
  obtain ⟨q, rfl, hq, hb, h0, hx⟩ := hF.wrote ok ht K n I O hm hn s hs hc hf
  exact absurd h0 he
theorem put_says (X : Wx) (b q K n I O : Nat) (s : ByteArray) (hm : Pg.mayB K I O ((0 : Nat) : Int)) (hc : 0 <= X.wn.getD b 0 /\ X.wn.getD b 0 <= 60000) (hZ : X.C.Z <= 256) (hn : n < 18446744073709551616) (hs : s.size <= X.C.Z) : Says (X.put b q K n I O s).C b q s K n I O (X.wn.getD b 0).toNat := by
 have hv := fr_val X b K n I O s hm hc hZ hn hs
 exact ⟨_, _, by show (putPg _ b q _).pg b q = _; rw [putPg_pg, if_pos ⟨rfl, rfl⟩], hv.2.1, hv.1⟩
theorem put_says_other (X : Wx) (b q K n I O : Nat) (s : ByteArray) {b' q' : Nat} {t : ByteArray} {K' S' I' O' W' : Nat} (h : Says X.C b' q' t K' S' I' O' W') (hne : ¬ (b' = b /\ q' = q)) : Says (X.put b q K n I O s).C b' q' t K' S' I' O' W' := by
 obtain ⟨d, s', h1, h2, h3⟩ := h
 exact ⟨d, s', by show (putPg _ b q _).pg b' q' = _; rw [putPg_pg, if_neg hne]; exact h1, h2, h3⟩
theorem Tk.xs {X : Wx} {b X1 p} (ok : Lf.Ok X.C.B X.C.P X.xs X.o X.nx) (h : Tk X b X1 p) : b < X.C.B /\ X1.xs.length = X.C.B /\ X1.nx = p + 1 /\ (∀ i, X1.xs.getD i 0 = if i = b then (if p + 1 = X.C.P then 2 else 1) else X.xs.getD i 0) /\ X1.o = (if p + 1 = X.C.P then -1 else (b : Int)) /\ 0 <= p /\ p < X.C.P /\ Lf.Ok X1.C.B X1.C.P X1.xs X1.o X1.nx := by
 have hl := ok.len
 have hk := ok.kb
 rcases h with ⟨h1, rfl, rfl⟩ | ⟨h1, h2, rfl, rfl⟩
 ·obtain ⟨h2, h3⟩ := ok.open_at b h1
  have h5 := ok.nxo (by omega)
  have h4 := ok.nxr
  refine ⟨h2, ?_, rfl, ?_, rfl, h4.1, h5, ?_⟩
  ·show (Lf.tkX X.C.P X.xs b X.nx).length = _
   unfold Lf.tkX; split <;> simp [hl]
  ·intro i
   show (Lf.tkX X.C.P X.xs b X.nx).getD i 0 = _
   unfold Lf.tkX
   by_cases e : X.nx + 1 = X.C.P
   ·rw [if_pos e, if_pos e, Lf.getD_set X.xs i b 2 (by omega)]
   ·rw [if_neg e, if_neg e]
    by_cases e2 : i = b
    ·rw [if_pos e2, e2, h3]
    ·rw [if_neg e2]
  ·show Lf.Ok X.C.B X.C.P (Lf.tkX X.C.P X.xs b X.nx) (Lf.tkO X.C.P b X.nx) (X.nx + 1)
   unfold Lf.tkX Lf.tkO
   by_cases e : X.nx + 1 = X.C.P
   ·rw [if_pos e, if_pos e]; exact ok.last b h1 e
   ·rw [if_neg e, if_neg e, <- h1]; exact ok.more (by omega)
 ·have ok1 := Lf.Ok.opened (by rw [<- h1]; exact ok : Lf.Ok X.C.B X.C.P X.xs (-1) X.nx) b h2.lt
  refine ⟨h2.lt, ?_, rfl, ?_, rfl, by omega, by omega, ?_⟩
  ·show (Lf.tkX X.C.P (X.xs.set b 1) b 0).length = _
   unfold Lf.tkX; split <;> simp [hl]
  ·intro i
   show (Lf.tkX X.C.P (X.xs.set b 1) b 0).getD i 0 = _
   unfold Lf.tkX
   by_cases e : (0 : Int) + 1 = X.C.P
   ·rw [if_pos e, if_pos e, List.set_set, Lf.getD_set X.xs i b 2 (by have := h2.lt; omega)]
   ·rw [if_neg e, if_neg e, Lf.getD_set X.xs i b 1 (by have := h2.lt; omega)]
  ·show Lf.Ok X.C.B X.C.P (Lf.tkX X.C.P (X.xs.set b 1) b 0) (Lf.tkO X.C.P b 0) (0 + 1)
   unfold Lf.tkX Lf.tkO
   by_cases e : (0 : Int) + 1 = X.C.P
   ·rw [if_pos e, if_pos e]; exact ok1.last b rfl e
   ·rw [if_neg e, if_neg e]; exact ok1.more (by omega)
set_option maxRecDepth 100000
theorem Tk.others {X : Wx} {b X1 p} (ok : Lf.Ok X.C.B X.C.P X.xs X.o X.nx) (h : Tk X b X1 p) {i : Nat} (hi : i < X.C.B) (hne : i ≠ b) : X.xs.getD i 0 ≠ 1 := by
 intro e
 have := (ok.opn i hi).1 e
 rcases h with ⟨h1, _⟩ | ⟨h1, _⟩ <;> omega
theorem Fin.put {X : Wx} (h : Fin X) (ok : Lf.Ok X.C.B X.C.P X.xs X.o X.nx) {b : Nat} {X1 : Wx} {q : Nat} (ht : Tk X b X1 q) (K n I O : Nat) (s : ByteArray) : Fin (X1.put b q K n I O s) := by
 obtain ⟨hb, hl, hnx, hxs, _, _, _, _⟩ := ht.xs ok
 obtain ⟨e1, e2, e3⟩ := ht.C
 obtain ⟨_, q', hq', hqP, hde, hpg⟩ := h.tk ok ht
 obtain rfl : q = q' := by omega
 have hC : (X1.put b q K n I O s).C.B = X.C.B /\ (X1.put b q K n I O s).C.P = X.C.P /\ (X1.put b q K n I O s).C.dead = X.C.dead /\ (X1.put b q K n I O s).C.off = X.C.off /\ (X1.put b q K n I O s).C.Z = X.C.Z := by
  show X1.C.B = X.C.B /\ X1.C.P = X.C.P /\ X1.C.dead = X.C.dead /\ X1.C.off = X.C.off /\ X1.C.Z = X.C.Z
  rw [e1]; exact ⟨rfl, rfl, rfl, rfl, rfl⟩
 have hp : ∀ i p, ¬ (i = b /\ p = q) -> (X1.put b q K n I O s).C.pg i p = X.C.pg i p := by
  intro i p hne
  show (putPg _ b q _).pg i p = _
  rw [putPg_pg, if_neg hne]
  show X1.C.pg i p = X.C.pg i p
  rw [e1]
 obtain ⟨c1, c2, c3, c4, c5⟩ := hC
 refine ⟨by rw [c4]; exact h.off, fun i hi hx => ?_, fun i hi hx => ?_, fun i => ?_, by rw [c5]; exact h.geo⟩
 ·rw [c1] at hi
  have hx' : X1.xs.getD i 0 = 0 := hx
  rw [hxs i] at hx'
  by_cases e : i = b
  ·rw [if_pos e] at hx'; split at hx' <;> omega
  ·rw [if_neg e] at hx'
   obtain ⟨d1, d2⟩ := h.free i hi hx'
   exact ⟨by rw [c3]; exact d1, fun p hp' => by rw [hp i p (fun x => e x.1)]; exact d2 p (by rw [<- c2]; exact hp')⟩
 ·rw [c1] at hi
  have hx' : X1.xs.getD i 0 = 1 := hx
  rw [hxs i] at hx'
  by_cases e : i = b
  ·subst e
   refine ⟨by rw [c3]; exact hde, fun p hp1 hp2 => ?_⟩
   have hp1' : X1.nx <= p := hp1
   rw [hnx] at hp1'
   rw [hp i p (fun x => by omega)]
   exact hpg p (by omega) (by rw [<- c2]; exact hp2)
  ·rw [if_neg e] at hx'
   exact absurd hx' (ht.others ok hi e)
 ·have : (X1.put b q K n I O s).wn = X.wn := e2
  rw [this]; exact h.cnt i
abbrev Tg := Nat × Nat × Nat × Nat
def okT (q : Tg) : Prop := Pg.mayB q.1 q.2.2.1 q.2.2.2 ((0 : Nat) : Int) /\ q.2.1 < 18446744073709551616
structure Sq (D : Int) (X : Wx) (a r : Nat) (T : Nat -> ByteArray) (Q : Nat -> Tg) : Prop where
 fin : Fin X
 wz : ∀ i, i < X.C.B -> X.wn.getD i 0 = ((Q 999999).2.1 : Int)
 le : a < X.C.B /\ r < X.C.P \/ a = X.C.B /\ r = 0
 xs : ∀ i, i < X.C.B -> X.xs.getD i 0 = if i < a then 2 else if i = a /\ 0 < r then 1 else 0
 nx : 0 < r -> X.nx = r
 says : ∀ i p, (i < a /\ p < X.C.P) \/ (i = a /\ p < r) -> Says X.C i p (T (i * X.C.P + p)) (Q (i * X.C.P + p)).1 (Q (i * X.C.P + p)).2.1 (Q (i * X.C.P + p)).2.2.1 (Q (i * X.C.P + p)).2.2.2 (X.wn.getD i 0).toNat
 did : X.C.did + D = ((a * X.C.P + r : Nat) : Int)
 dl : -100000 <= D
 bd : X.bd = []
 unm : ∀ b, b < X.C.B -> X.C.mark b = false
theorem Sq.tk {D : Int} {X : Wx} {a r T Q} (h : Sq D X a r T Q) (ok : Lf.Ok X.C.B X.C.P X.xs X.o X.nx) {b : Nat} {X1 : Wx} {p : Int} (ht : Tk X b X1 p) : a < X.C.B /\ b = a /\ p = r := by
 have hab : a < X.C.B := by
  rcases h.le with q | q
  ·exact q.1
  ·have hb := (ht.xs ok).1
   exfalso
   have hx := h.xs b hb
   rw [if_pos (by omega)] at hx
   rcases ht with ⟨h1, _⟩ | ⟨_, h1, _⟩
   ·have := (ok.open_at b h1).2; omega
   ·have := h1.free; omega
 have hxa := h.xs a hab
 rw [if_neg (by omega)] at hxa
 by_cases hr : 0 < r
 ·rw [if_pos ⟨rfl, hr⟩] at hxa
  have ho := (ok.opn a hab).1 hxa
  rcases ht with ⟨h1, _, rfl⟩ | ⟨h1, _⟩
  ·exact ⟨hab, by omega, h.nx hr⟩
  ·omega
 ·rw [if_neg (fun x => hr x.2)] at hxa
  rcases ht with ⟨h1, _⟩ | ⟨_, h1, _, rfl⟩
  ·exfalso
   obtain ⟨h2, h3⟩ := ok.open_at b h1
   have hx := h.xs b h2
   rw [h3] at hx
   split at hx
   ·omega
   ·split at hx <;> omega
  ·refine ⟨hab, ?_, by omega⟩
   rcases Nat.lt_trichotomy b a with e | e | e
   ·exfalso
    have hx := h.xs b h1.lt
    rw [if_pos e, h1.free] at hx
    omega
   ·exact e
   ·exfalso
    have := h1.first a e hxa
    rw [h.wz _ h1.lt, h.wz _ hab] at this
    omega
theorem Sq.more {D : Int} {X : Wx} {a r T Q} (h : Sq D X a r T Q) (ok : Lf.Ok X.C.B X.C.P X.xs X.o X.nx) (hn : okT (Q (a * X.C.P + r))) (hs : (T (a * X.C.P + r)).size <= X.C.Z) {X1 : Wx} (ht : Tk X a X1 (r : Nat)) :
  ∃ a' r', a' * X.C.P + r' = a * X.C.P + r + 1 /\ (r' < X.C.P) /\ Sq D (X1.put a r (Q (a * X.C.P + r)).1 (Q (a * X.C.P + r)).2.1 (Q (a * X.C.P + r)).2.2.1 (Q (a * X.C.P + r)).2.2.2 (T (a * X.C.P + r))) a' r' T Q /\ (a' = a /\ r' = r + 1 \/ a' = a + 1 /\ r' = 0 /\ r + 1 = X.C.P) := by
 obtain ⟨hab, _, _⟩ := h.tk ok ht
 obtain ⟨hb, hl, hnx, hxs, ho, _, hrP, _⟩ := ht.xs ok
 obtain ⟨e1, e2, e3⟩ := ht.C
 have hk := ok.kb
 have hf := h.fin.put ok ht (Q (a * X.C.P + r)).1 (Q (a * X.C.P + r)).2.1 (Q (a * X.C.P + r)).2.2.1 (Q (a * X.C.P + r)).2.2.2 (T (a * X.C.P + r))
 have cB : (X1.put a r (Q (a * X.C.P + r)).1 (Q (a * X.C.P + r)).2.1 (Q (a * X.C.P + r)).2.2.1 (Q (a * X.C.P + r)).2.2.2 (T (a * X.C.P + r))).C.B = X.C.B := by show X1.C.B = X.C.B; rw [e1]
 have cP : (X1.put a r (Q (a * X.C.P + r)).1 (Q (a * X.C.P + r)).2.1 (Q (a * X.C.P + r)).2.2.1 (Q (a * X.C.P + r)).2.2.2 (T (a * X.C.P + r))).C.P = X.C.P := by show X1.C.P = X.C.P; rw [e1]
 have hW := h.wz
 have hwz : ∀ i, i < (X1.put a r (Q (a * X.C.P + r)).1 (Q (a * X.C.P + r)).2.1 (Q (a * X.C.P + r)).2.2.1 (Q (a * X.C.P + r)).2.2.2 (T (a * X.C.P + r))).C.B -> (X1.put a r (Q (a * X.C.P + r)).1 (Q (a * X.C.P + r)).2.1 (Q (a * X.C.P + r)).2.2.1 (Q (a * X.C.P + r)).2.2.2 (T (a * X.C.P + r))).wn.getD i 0 = ((Q 999999).2.1 : Int) := fun i hi => by
  show X1.wn.getD i 0 = _; rw [e2]; refine hW i ?_; rw [<- e1]; exact hi
 have hdid : (X1.put a r (Q (a * X.C.P + r)).1 (Q (a * X.C.P + r)).2.1 (Q (a * X.C.P + r)).2.2.1 (Q (a * X.C.P + r)).2.2.2 (T (a * X.C.P + r))).C.did + D = ((a * X.C.P + r + 1 : Nat) : Int) := by
  show X1.C.did + 1 + D = _; rw [e1]; have := h.did; omega
 have hsay : ∀ i p, (i < a /\ p < X.C.P) \/ (i = a /\ p < r + 1) -> Says (X1.put a r (Q (a * X.C.P + r)).1 (Q (a * X.C.P + r)).2.1 (Q (a * X.C.P + r)).2.2.1 (Q (a * X.C.P + r)).2.2.2 (T (a * X.C.P + r))).C i p (T (i * X.C.P + p)) (Q (i * X.C.P + p)).1 (Q (i * X.C.P + p)).2.1 (Q (i * X.C.P + p)).2.2.1 (Q (i * X.C.P + p)).2.2.2 (X1.wn.getD i 0).toNat := by
  intro i p hip
  by_cases e : i = a /\ p = r
  ·obtain ⟨rfl, rfl⟩ := e
   have := put_says X1 i p (Q (i * X.C.P + p)).1 (Q (i * X.C.P + p)).2.1 (Q (i * X.C.P + p)).2.2.1 (Q (i * X.C.P + p)).2.2.2 (T (i * X.C.P + p)) hn.1 (by rw [e2]; exact h.fin.cnt i) (by rw [e1]; exact h.fin.geo) hn.2 (by rw [e1]; exact hs)
   exact this
  ·exact put_says_other X1 a r _ _ _ _ _ (by rw [e1, e2]; exact h.says i p (by omega)) (fun x => e ⟨x.1, x.2⟩)
 by_cases e : r + 1 = X.C.P
 ·refine ⟨a + 1, 0, ?_, by omega, ⟨hf, hwz, ?_, fun i hi => ?_, fun x => by omega, fun i p hip => ?_, ?_, h.dl, by show X1.bd = []; rw [e3]; exact h.bd, fun b hb => by rw [cB] at hb; show X1.C.mark b = false; rw [e1]; exact h.unm b hb⟩, .inr ⟨rfl, rfl, e⟩⟩
  ·rw [Nat.succ_mul]; omega
  ·rw [cB, cP]; omega
  ·rw [cB] at hi
   show X1.xs.getD i 0 = _
   rw [hxs i, if_pos (show ((r : Nat) : Int) + 1 = X.C.P by omega)]
   have := h.xs i hi
   by_cases e2 : i = a
   ·rw [if_pos e2, if_pos (by omega)]
   ·rw [if_neg e2, this]
    by_cases e3 : i < a
    ·rw [if_pos e3, if_pos (by omega)]
    ·rw [if_neg e3, if_neg (fun x => e2 x.1), if_neg (by omega), if_neg (by omega)]
  ·rw [cP] at hip |-
   exact hsay i p (by omega)
  ·rw [hdid, cP, Nat.succ_mul]; omega
 ·refine ⟨a, r + 1, by omega, by omega, ⟨hf, hwz, ?_, fun i hi => ?_, fun x => ?_, fun i p hip => ?_, ?_, h.dl, by show X1.bd = []; rw [e3]; exact h.bd, fun b hb => by rw [cB] at hb; show X1.C.mark b = false; rw [e1]; exact h.unm b hb⟩, .inl ⟨rfl, rfl⟩⟩
  ·rw [cB, cP]; omega
  ·rw [cB] at hi
   show X1.xs.getD i 0 = _
   rw [hxs i, if_neg (show ¬ ((r : Nat) : Int) + 1 = X.C.P by omega)]
   have := h.xs i hi
   by_cases e2 : i = a
   ·rw [if_pos e2, if_neg (by omega), if_pos ⟨e2, by omega⟩]
   ·rw [if_neg e2, this]
    by_cases e3 : i < a
    ·rw [if_pos e3, if_pos e3]
    ·rw [if_neg e3, if_neg (fun x => e2 x.1), if_neg e3, if_neg (fun x => e2 x.1)]
  ·show X1.nx = _; rw [hnx]; omega
  ·rw [cP] at hip |-
   exact hsay i p (by omega)
  ·rw [hdid, cP]; omega
end Go.Proofs.YtcmmhfjnhlaepabGreatDoor
namespace Go.Proofs.YtcmmhfjnhlaepabGreatDoor
open Go Go.RowKit
set_option maxRecDepth 100000
def sqN (kind : Int) (s i : Nat) : Nat := if kind = 3 then s else s + i
theorem seqOf_any (kind : Int) (s i : Nat) (hs : s + i < 4294967296) (w : World) : Calls Tryz.prog 166 #[.int .i64 kind, .int .u64 s, .int .i64 i] w fun e w' => e = .returned (.int .u64 (sqN kind s i)) /\ w' = w := by
 unfold sqN
 by_cases h : kind = 3
 ·rw [if_pos h]
  go_enter Tryz.func166, Tryz.ntmps166
  go_wp2_with fail
  go_ret
  exact ⟨rfl, rfl⟩
 ·rw [if_neg h]
  have hw : IntKind.u64.wrap ((s : Int) + i) = ((s + i : Nat) : Int) := by rw [IntKind.wrap_u64]; omega
  have hc : IntKind.u64.wrap (i : Int) = (i : Int) := by rw [IntKind.wrap_u64]; omega
  go_enter Tryz.func166, Tryz.ntmps166
  go_wp2_with fail
  go_ret
  exact ⟨rfl, rfl⟩
structure Cau (w : World) (b2 b3 b4 : Nat) (kind : Int) (s : Nat) (v : Value) : Prop where
 c2 : w.cell? ⟨b2, 0, none⟩ = some (.int .i64 kind)
 c3 : w.cell? ⟨b3, 0, none⟩ = some (.int .u64 s)
 c4 : w.cell? ⟨b4, 0, none⟩ = some v
 lt : b2 < w.heap.size /\ b3 < w.heap.size /\ b4 < w.heap.size
theorem Cau.call {w w' : World} {b2 b3 b4 kind s v} (h : Cau w b2 b3 b4 kind s v) (b : Below w.heap.size w w') : Cau w' b2 b3 b4 kind s v := by
 have e : ∀ g, g < w.heap.size -> w'.cell? ⟨g, 0, none⟩ = w.cell? ⟨g, 0, none⟩ := fun g hg => b.cell (p := ⟨g, 0, none⟩) hg
 have := b.size
 have := h.lt
 exact ⟨(e _ h.lt.1).trans h.c2, (e _ h.lt.2.1).trans h.c3, (e _ h.lt.2.2).trans h.c4, by omega⟩
theorem Cau.off {w w' : World} {b2 b3 b4 kind s v} {S : Nat -> Prop} (h : Cau w b2 b3 b4 kind s v) (k : Kp S w w') (hs : ∀ i, S i -> i ≠ b2 /\ i ≠ b3 /\ i ≠ b4) : Cau w' b2 b3 b4 kind s v := by
 have e : ∀ g, g < w.heap.size -> ¬ S g -> w'.cell? ⟨g, 0, none⟩ = w.cell? ⟨g, 0, none⟩ := fun g hg hn => by unfold World.cell?; rw [k.block g hg hn]
 have := k.size
 have := h.lt
 exact ⟨(e _ h.lt.1 (fun x => (hs _ x).1 rfl)).trans h.c2, (e _ h.lt.2.1 (fun x => (hs _ x).2.1 rfl)).trans h.c3, (e _ h.lt.2.2 (fun x => (hs _ x).2.2 rfl)).trans h.c4, by omega⟩
theorem tag_of (i : Nat) (str : ByteArray) (b2 b3 b4 : Nat) (kind : Int) (s : Nat) (ta : Option Addr) (n tc : Nat) (hs : s + i < 4294967296) (w : World) (h : Cau w b2 b3 b4 kind s (.slice ta n tc)) :
  Calls Tryz.prog 165 #[.int .i64 i, .string str, .pointer (some ⟨b2, 0, none⟩), .pointer (some ⟨b3, 0, none⟩), .pointer (some ⟨b4, 0, none⟩)] w fun e w' => e = .returned (Pg.tagV kind (sqN kind s i) i n 0) /\ Below w.heap.size w w' := by
 have hsq := Hid.mk (fun w => seqOf_any kind s i hs w)
 have hC1 : Hid (∀ (q : Nat), Cau (w.alloc (.cells #[.int .i64 kind, .int .u64 q, .int .i64 i, .int .i64 n, .int .i64 0] 97)).drew b2 b3 b4 kind s (.slice ta n tc) /\ Below w.heap.size w (w.alloc (.cells #[.int .i64 kind, .int .u64 q, .int .i64 i, .int .i64 n, .int .i64 0] 97)).drew) := by
  intro q
  have B0 := Pg.below_one w (.cells #[.int .i64 kind, .int .u64 q, .int .i64 i, .int .i64 n, .int .i64 0] 97)
  have h1 := h.call B0
  exact ⟨⟨h1.c2, h1.c3, h1.c4, h1.lt⟩, B0.drew⟩
 have hS0 : Hid (Cau (w.alloc (.cells #[.int .i64 0, .int .u64 0, .int .i64 0, .int .i64 0, .int .i64 0] 97)).drew b2 b3 b4 kind s (.slice ta n tc) /\ Below w.heap.size w (w.alloc (.cells #[.int .i64 0, .int .u64 0, .int .i64 0, .int .i64 0, .int .i64 0] 97)).drew) := by
  have B0 := Pg.below_one w (.cells #[.int .i64 0, .int .u64 0, .int .i64 0, .int .i64 0, .int .i64 0] 97)
  have h1 := h.call B0
  exact ⟨⟨h1.c2, h1.c3, h1.c4, h1.lt⟩, B0.drew⟩
 clear h
 obtain ⟨q, hq⟩ : ∃ q, sqN kind s i = q := ⟨_, rfl⟩
 rw [hq] at hsq |-
 go_enter Tryz.func165, Tryz.ntmps165
 go_upto_region 1 with fail
 refine wp_region_held_drew (S := fun w' => Cau w' b2 b3 b4 kind s (.slice ta n tc) /\ Below w.heap.size w w') (by kernel_rfl) hS0.out (fun hHeld => ?_)
 refine tkF 0 (fun _ q => And.intro q.1.c2 (And.intro q.1.c3 q.1.c4)) hHeld ?_
 refine tkF 1 (fun _ q => And.intro q.1.c2 (And.intro q.1.c3 q.1.c4)) hHeld ?_
 refine tkF 2 (fun _ q => And.intro q.1.c2 (And.intro q.1.c3 q.1.c4)) hHeld ?_
 refine tkF 3 (fun _ q => And.intro q.1.c2 (And.intro q.1.c3 q.1.c4)) hHeld ?_
 refine tkF 5 (fun _ q => And.intro q.1.c2 (And.intro q.1.c3 q.1.c4)) hHeld ?_
 refine tkF 6 (fun _ q => And.intro q.1.c2 (And.intro q.1.c3 q.1.c4)) hHeld ?_
 refine tkF 7 (fun _ q => And.intro q.1.c2 (And.intro q.1.c3 q.1.c4)) hHeld ?_
 refine wpAnyH_ready (rs := [4]) (by kernel_rfl) (by simp) ?_
 refine arH rfl (fun K hK => ?_) AllReadyH.nil
 go_simp
 go_at_call 166
 refine (hsq.out _).mono ?_
 rintro e w3 ⟨rfl, rfl⟩
 refine hK.out _ _ hHeld (fun hHeld => ?_)
 clear hK K
 try simp only [Act.put, zA, zB, zC]
 refine tkF 8 (fun _ q => And.intro q.1.c2 (And.intro q.1.c3 q.1.c4)) hHeld ?_
 refine wpAnyH_ready (rs := [9]) (by kernel_rfl) (by simp) ?_
 refine arH rfl (fun K hK => ?_) AllReadyH.nil
 go_simp
 refine hK.out _ _ (hC1.out q) (fun hHeld => ?_)
 clear hK K
 try simp only [Act.put, zA, zB, zC]
 refine wpAnyH_done (by kernel_rfl) ?_ _
 go_wp2_with fail
 exact bodyPost_ret (v := .agg #[.int .i64 kind, .int .u64 q, .int .i64 i, .int .i64 n, .int .i64 0]) (by rw [results_cell1 rfl]; go_simp) rfl ⟨rfl, (hC1.out q).2⟩
def tgR (kind : Int) (s n k : Nat) : We.Rws := (List.range k).map fun i => [.int .i64 kind, .int .u64 (sqN kind s i), .int .i64 i, .int .i64 n, .int .i64 0]
theorem tgR_succ (kind : Int) (s n k : Nat) : tgR kind s n (k + 1) = tgR kind s n k ++ [[.int .i64 kind, .int .u64 (sqN kind s k), .int .i64 k, .int .i64 n, .int .i64 0]] := by unfold tgR; rw [List.range_succ, List.map_append]; rfl
theorem tgR_len (kind : Int) (s n k : Nat) : (tgR kind s n k).length = k := by simp [tgR]
def txW (ts : List ByteArray) : We.Rws := ts.map fun t => [.string t]
theorem txW_at {w : World} {B a n cap} {ts : List ByteArray} (h : We.Ow w B 9 1 (.slice a n cap) (txW ts)) {j : Nat} (hj : j < ts.length) : ∃ g, a = some ⟨g, 0, none⟩ /\ g < w.heap.size /\ w.cell? ⟨g, j, none⟩ = some (.string (ts.getD j ⟨#[]⟩)) := by
 obtain ⟨g, h1, _, h3, h4⟩ := h.at (j := j) (by unfold txW; rw [List.length_map]; exact hj)
 have := h4 0 (by omega)
 rw [Nat.mul_one, Nat.add_zero] at this
 refine ⟨g, h1, h3, this.trans ?_⟩
 simp [txW, List.getD_eq_getElem?_getD, hj]
set_option maxHeartbeats 1000000 in
theorem gather_tags (v : Value) (ts : List ByteArray) (b2 b3 b4 : Nat) (kind : Int) (s : Nat) (hs : s < 1000000) (w : World) (h : We.Ow w 0 9 1 v (txW ts)) (hlen : ts.length <= 20001) (hc : Cau w b2 b3 b4 kind s v) :
  Calls Tryz.prog 164 #[v, .func (.func 165) #[] #[.pointer (some ⟨b2, 0, none⟩), .pointer (some ⟨b3, 0, none⟩), .pointer (some ⟨b4, 0, none⟩)]] w fun e w' =>
  ∃ v', e = .returned v' /\ We.Ow w' w.heap.size 97 5 v' (tgR kind s ts.length ts.length) /\ Below w.heap.size w w' := by
 obtain ⟨a, cap, hv⟩ := h.form
 unfold txW at hv
 rw [List.length_map] at hv
 have H := Hid.mk h
 have HC := Hid.mk hc
 subst hv
 clear h hc
 generalize hn : ts.length = len at *
 have hmk : ∀ w : World, (Instr.makeSlice 222 (.int .i64 0) (.int .i64 len)).run Tryz.prog w = .ok (.slice (some ⟨w.heap.size, 0, none⟩) 0 len) (w.alloc (.cells (madeCells #[.int .i64 0, .int .u64 0, .int .i64 0, .int .i64 0, .int .i64 0] (len * 5)) 97)) := run_room Tryz.underlying222 info97 (by omega) len (by omega)
 go_enter Tryz.func164, Tryz.ntmps164
 go_upto_region 3 with fail
 have O0 : Hid (We.Ow (w.alloc (.cells (madeCells #[.int .i64 0, .int .u64 0, .int .i64 0, .int .i64 0, .int .i64 0] (len * 5)) 97)) w.heap.size 97 5 (.slice (some ⟨w.heap.size, 0, none⟩) 0 len) []) := room_own w (Nat.le_refl _) (Pg.tagV 0 0 0 0 0) 97 5 len (by omega)
 have B0 := Hid.mk (Pg.below_one w (.cells (madeCells #[.int .i64 0, .int .u64 0, .int .i64 0, .int .i64 0, .int .i64 0] (len * 5)) 97))
 generalize (w.alloc (.cells (madeCells #[.int .i64 0, .int .u64 0, .int .i64 0, .int .i64 0, .int .i64 0] (len * 5)) 97)) = W at *
 have HW := Hid.mk (fun g hg => (H.out.lt g hg).2)
 have HL := Hid.mk HC.out.lt
 have H0 : Hid (We.Ow W 0 9 1 (.slice a len cap) (txW ts)) := H.out.call B0.out
 have C0 : Hid (Cau W b2 b3 b4 kind s (.slice a len cap)) := HC.out.call B0.out
 clear H hmk HC
 go_loopw [5, 13] (fun v i wr => ∃ k : Nat, k <= len /\ i = .int .i64 k /\ We.Ow wr w.heap.size 97 5 v (tgR kind s len k) /\ We.Ow wr 0 9 1 (.slice a len cap) (txW ts) /\ Cau wr b2 b3 b4 kind s (.slice a len cap) /\ Below w.heap.size w wr) (fun _ i _ => len - (intOf i).toNat)
 case atStart => exact ⟨0, Nat.zero_le _, rfl, O0.out, H0.out, C0.out, B0.out⟩
 case round =>
  clear O0 H0 B0 C0
  obtain ⟨k, hk, rfl, ho, hl, hc, hb⟩ := hrel
  by_cases hlt : k < len
  ·have hltl : k < ts.length := by rw [hn]; exact hlt
   obtain ⟨g, rfl, hg, c0⟩ := txW_at hl hltl
   obtain ⟨a5, p5, rfl⟩ := ho.form
   rw [tgR_len] at ho |-
   have htg := Hid.mk (tag_of k (ts.getD k ⟨#[]⟩) b2 b3 b4 kind s _ len cap (by omega) wr hc)
   have HS := Hid.mk (And.intro ho (And.intro hl (And.intro hb hc)))
   clear ho hl hb hc
   generalize ts.getD k ⟨#[]⟩ = tx at *
   go_wp2_with (first
    | (go_at_call 165; refine htg.out.mono ?_; rintro e w1 ⟨rfl, b1⟩; unfold Pg.tagV)
    | (at_builtin; refine We.wp_app ei222 rfl (.tmp 18) (.tmp 23) rfl (HS.out.1.call b1) (below3 HS.out.2.2.1 b1).size #[.int .i64 kind, .int .u64 (sqN kind s k), .int .i64 k, .int .i64 len, .int .i64 0] rfl rfl rfl (by simp [Value.oneCell']) (by rw [tgR_len]; omega) ?_; intro v2 w3 q1 q2 q3))
   have r1 := HS.out.2.1.call b1
   have r2 := below3 HS.out.2.2.1 b1
   have r3 := HS.out.1.call b1
   have r4 := HS.out.2.2.2.call b1
   have hX : ∀ j, Value.ownBlock (.slice a5 k p5) = some j -> w.heap.size <= j := fun j hj => (r3.lt j hj).1
   refine ⟨⟨k + 1, by omega, by go_num, by rw [tgR_succ]; exact q1, r1.same (fun j hj => q2.block j (r1.lt j hj).2 (fun e => ?_)), r4.off (Kp.ofGrown (S := fun i => w.heap.size <= i) q2 (fun i hi => hX i hi)) (fun i hi => by have := HL.out; omega), r2.grown q2 r2.size hX⟩, by simp [intOf]; omega⟩
   have := hX j e.symm
   have := HW.out j hj
   omega
  ·obtain rfl : k = len := by omega
   have HS := Hid.mk (And.intro ho hb)
   clear ho hb hl hc
   go_wp2_with fail
   go_ret
   exact ⟨_, rfl, HS.out.1, HS.out.2⟩
set_option maxRecDepth 100000
structure EI2 (t e sz bytes : Nat) : Prop where
 under : Tryz.prog.underlying t = some (.slice e)
 info : ∃ i z, Tryz.prog.info? e = some i /\ i.zero = some z /\ i.size = sz /\ i.bytes = bytes /\ z.cells.size = sz
 pos : 0 < sz
 top : bytes <= 128
section
variable {ops : Array Oper} {rest : List Oper} {o : Oper} {a : Act} {Q : Exit -> Act -> World -> Prop}
theorem wp_app2 {t e sz bytes : Nat} (E : EI2 t e sz bytes) {w : World} {B : Nat} {v : Value} {rows : We.Rws} (hgd : o.guard = none) (s x : Operand) (ho : o.op = .call { callee := .builtin .append, args := #[s, x], argTypes := #[t, t] })
  (h : We.Ow w B e sz v rows) (hB : B <= w.heap.size) (cs : Array Value) (hs : a.eval s = v) (hx : a.eval x = .slice (some ⟨w.heap.size, 0, none⟩) 1 1) (hc : cs.size = sz) (h1 : ∀ u ∈ cs.toList, u.oneCell' = true) (hn : rows.length < 1000000)
  (hK : ∀ v' w', We.Ow w' B e sz v' (rows ++ [cs.toList]) -> w.grownBy w' v.ownBlock -> (v'.ownBlock = v.ownBlock \/ ∃ g, v'.ownBlock = some g /\ w.heap.size <= g) -> wpList Tryz.prog ops Q rest (a.put o.dst v') w') :
  wpList Tryz.prog ops Q (o :: rest) a (w.alloc (.cells cs e)) := by
 obtain ⟨i, z, q1, q2, q3, q4, q5⟩ := E.info
 have hl : cs.toList.length = 1 * sz := by rw [Array.length_toList, hc, Nat.one_mul]
 have hby : (rows.length + 1) * bytes <= 140737488355328 := by
  have := Nat.mul_le_mul_left (rows.length + 1) E.top
  omega
 refine wpList_append_own_at _ hgd s x t ho B e i z sz bytes E.under q1 q2 q3 q4 q5 E.pos v rows.length rows.flatten hs (h.own.alloc _) ⟨w.heap.size, 0, none⟩ 1 1 cs.toList hx hl (We.lit_cells w cs e) h1 (by simp [maxLen]; omega) hby (by rw [size_alloc]; omega) (fun v' w' p1 p2 _ p4 => ?_)
 have g : w.grownBy w' v.ownBlock := by
  have g1 := World.grownBy_alloc w (.cells cs e) v.ownBlock
  exact ⟨p2.os.trans g1.os, p2.tape.trans g1.tape, p2.output.trans g1.output, Nat.le_trans g1.size p2.size, fun k hk hne => (p2.block k (Nat.lt_of_lt_of_le hk g1.size) hne).trans (g1.block k hk hne)⟩
 refine hK v' w' (h.more (by rw [hl, Nat.one_mul]) h1 p1) g ?_
 rcases p4 with p4 | p4
 ·exact .inl p4
 ·exact .inr ⟨_, p4, by rw [size_alloc]; omega⟩
end
theorem ei80 : EI2 80 99 8 72 := ⟨Tryz.underlying80, ⟨_, _, rfl, rfl, rfl, rfl, rfl⟩, by omega, by omega⟩
theorem toList_extract (b : ByteArray) (i j : Nat) : (b.extract i j).data.toList = (b.data.toList.drop i).take (j - i) := by
 rw [ByteArray.data_extract, Array.toList_extract, List.extract_eq_take_drop]
theorem size_toList (b : ByteArray) : b.data.toList.length = b.size := by simp
theorem extract_split (Y : ByteArray) (a b : Nat) (h : Y.size = a + b) : Y = Y.extract 0 a ++ Y.extract a (a + b) := by
 apply ByteArray.ext
 apply Array.ext'
 rw [ByteArray.data_append, Array.toList_append, toList_extract, toList_extract, List.drop_zero, Nat.sub_zero, Nat.add_sub_cancel_left]
 have hl := size_toList Y
 rw [List.take_of_length_le (l := Y.data.toList.drop a) (by rw [List.length_drop]; omega), List.take_append_drop]
set_option maxRecDepth 100000
theorem Sq.rest {D : Int} {X : Wx} {a r T Q} (h : Sq D X a r T Q) {b p : Nat} (hb : b < X.C.B) (hp : p < X.C.P) (hab : a < b \/ (b = a /\ r <= p)) : X.C.pg b p = ⟨#[]⟩ := by
 have hx := h.xs b hb
 rw [if_neg (by omega)] at hx
 by_cases e : b = a /\ 0 < r
 ·rw [if_pos e] at hx
  have hn := h.nx e.2
  exact (h.fin.opn b hb hx).2 p (by omega) hp
 ·rw [if_neg e] at hx
  exact (h.fin.free b hb hx).2 p hp
structure Stp (X : Wx) (a r : Nat) (T : Nat -> ByteArray) (Q : Nat -> Tg) (kf : Int × Int) : Prop where
 off : X.C.off = true
 lt : a < X.C.B /\ r < X.C.P
 says : ∀ i p, (i < a /\ p < X.C.P) \/ (i = a /\ p < r) -> ∃ W, Says X.C i p (T (i * X.C.P + p)) (Q (i * X.C.P + p)).1 (Q (i * X.C.P + p)).2.1 (Q (i * X.C.P + p)).2.2.1 (Q (i * X.C.P + p)).2.2.2 W
 torn : ∃ d s W, Pg.Val d s (T (a * X.C.P + r)) (Q (a * X.C.P + r)).1 (Q (a * X.C.P + r)).2.1 (Q (a * X.C.P + r)).2.2.1 (Q (a * X.C.P + r)).2.2.2 W /\ d.size = X.C.Z /\ X.C.pg a r = kp X.C.Z (tornP X.C.Z (d ++ s) kf.1 kf.2)
 rest : ∀ b p, b < X.C.B -> p < X.C.P -> (a < b \/ (b = a /\ r < p)) -> X.C.pg b p = ⟨#[]⟩
theorem Says.same {C C' : Ch} {b p : Nat} {t : ByteArray} {K S I O W : Nat} (h : Says C b p t K S I O W) (e1 : C'.pg b p = C.pg b p) (e2 : C'.Z = C.Z) : Says C' b p t K S I O W := by
 obtain ⟨d, s, h1, h2, h3⟩ := h
 exact ⟨d, s, e1.trans h1, h2.trans e2.symm, h3⟩
def StQ (X : Wx) (K n I O : Nat) (s : ByteArray) (_pl er : Int) (Y : Wx) : Prop := er = 51 /\ ∃ b X1 p, Tk X b X1 p /\ Y = X1.prX b p K n I O s
theorem leave51 (X : Wx) (b : Nat) : X.leaveE b 51 = 51 := by unfold Wx.leaveE; rw [if_neg (by decide), if_neg (by decide)]
theorem append_w {w : World} {A X} (h : Wtr w A X) (hT : Pg.Tab w) {D : Int} {a r : Nat} {T : Nat -> ByteArray} {Q : Nat -> Tg} (hq : Sq D X a r T Q) (hab : a < X.C.B) (K n I O : Nat) (hQ : Q (a * X.C.P + r) = (K, n, I, O)) (hok : okT (K, n, I, O)) (s : ByteArray) (hss : T (a * X.C.P + r) = s) (hs : s.size <= X.C.Z)
  (At : Nat) (kf : Int × Int) (hc : ∀ i : Nat, X.C.did <= i -> X.C.cuts ((i : Int) + 1) = if i + D + 1 = At then some kf else none) (hf : ∀ i, X.C.fails i = false) (W0 : Int) :
  Calls Tryz.prog 152 #[.pointer (some ⟨A.a, 0, none⟩), Pg.tagV K n I O W0, .string s] w fun e w' => ∃ X' A', Wtr w' A' X' /\ Nxt A A' X.C.B w w' /\ Geq X' X /\ X'.C.cuts = X.C.cuts /\ X'.C.fails = X.C.fails ∧
   ((a * X.C.P + r + 1 ≠ At /\ e = .returned (.tuple #[.int .i64 ((a * X.C.P + r : Nat) : Int), .int .i64 0]) /\ ∃ a' r', a' * X.C.P + r' = a * X.C.P + r + 1 /\ Sq D X' a' r' T Q) \/ (a * X.C.P + r + 1 = At /\ (∃ pl : Int, e = .returned (.tuple #[.int .i64 pl, .int .i64 51])) /\ Stp X' a r T Q kf)) := by
 have hg := h.chip.geo
 have hr := hq.le
 have hdid := hq.did
 have hm := Lf.mul_range (a := (a : Int)) (b := (X.C.P : Int)) (A := 32) (B := 16) (by omega) (by omega)
 have ok := h.lif.ok
 have hok1 : Pg.mayB K I O ((0 : Nat) : Int) := hok.1
 have hok2 : n < 18446744073709551616 := hok.2
 obtain ⟨di, hdi⟩ := Int.eq_ofNat_of_zero_le h.chip.didr.1
 have hdn : (di : Int) + D = ((a * X.C.P + r : Nat) : Int) := by omega
 have hcd0 := hc di (by omega)
 rw [hdn, <- hdi] at hcd0
 have hcd : X.C.cuts (X.C.did + 1) = if a * X.C.P + r + 1 = At then some kf else none := by
  rw [hcd0]
  by_cases q : a * X.C.P + r + 1 = At
  ·rw [if_pos q, if_pos (by omega)]
  ·rw [if_neg q, if_neg (by omega)]
 have hful : ¬ (X.o = -1 /\ ∀ i, i < X.C.B -> X.xs.getD i 0 ≠ 0) := by
  rintro ⟨h4, h5⟩
  have hx := hq.xs a hab
  rw [if_neg (by omega)] at hx
  by_cases h0 : 0 < r
  ·rw [if_pos ⟨rfl, h0⟩] at hx
   have := (ok.opn a hab).1 hx
   omega
  ·rw [if_neg (fun x => h0 x.2)] at hx
   exact h5 a hab hx
 have hdl : X.C.did < 900000 := by
  have h1 := hdid
  have := hq.dl
  simp only [Int.natCast_add, Int.natCast_mul] at h1
  omega
 by_cases hcut : a * X.C.P + r + 1 = At
 ·rw [if_pos hcut] at hcd
  have hb51 : ∀ b X1 p, Tk X b X1 p -> Lf.Ok X.C.B X.C.P X.xs X.o X.nx -> (X1.prE b p K n I O s = 51) /\ b = a /\ p = r /\ r < X.C.P /\ (X1.prX b p K n I O s).C = putPg { X.C with did := X.C.did + 1, off := true } a r (kp X.C.Z (tornP X.C.Z (frD X1 s ++ frS X1 b K n I O s) kf.1 kf.2)) /\ Pg.Val (frD X1 s) (frS X1 b K n I O s) s K n I O (X.wn.getD b 0).toNat /\ (frD X1 s).size = X.C.Z := by
   intro b X1 p ht ok
   obtain ⟨hab, rfl, rfl⟩ := hq.tk ok ht
   obtain ⟨hb, q, hqe, hqP, hde, hpg⟩ := hq.fin.tk ok ht
   obtain rfl : r = q := by omega
   obtain ⟨e1, e2, _⟩ := ht.C
   have hv := fr_val X1 b K n I O s hok1 (by rw [e2]; exact hq.fin.cnt _) (by rw [e1]; exact hq.fin.geo) hok2 (by rw [e1]; exact hs)
   have hp := pr_cut (C := X1.C) (b := b) (p := r) (d := frD X1 s) (s := frS X1 b K n I O s) (x := kf) (by rw [e1]; exact hq.fin.off) (by rw [e1]; exact hb) (by rw [e1]; exact hqP) hv.2.1 hv.2.2 (by rw [e1]; exact hpg) (by rw [e1]; exact hcd)
   have hv1 := hv.1
   rw [e2] at hv1
   refine ⟨by unfold Wx.prE; rw [hp], rfl, rfl, hqP, ?_, hv1, by rw [<- e1]; exact hv.2.1⟩
   unfold Wx.prX
   rw [hp, <- e1]
  refine (append_any h hT (fun Y => Y = X) (StQ X K n I O s) K n I O W0 s rfl ⟨?_, ?_, ?_, ?_, ?_⟩).mono ?_
  ·rintro Y rfl
   exact ⟨hdl, fun i _ => hq.fin.may hok1 i, hs, by rw [hq.bd]; simp⟩
  ·rintro Y rfl _ h1 h2
   exact absurd ⟨h1, h2⟩ hful
  ·rintro Y b X1 p rfl ok _ _ _ ht he
   rw [(hb51 b X1 p ht ok).1] at he
   exact absurd he (by decide)
  ·rintro Y b X1 p rfl ok _ _ _ ht _ _
   rw [(hb51 b X1 p ht ok).1, leave51]
   exact ⟨rfl, b, X1, p, ht, rfl⟩
  ·rintro Y b X1 p rfl ok _ _ _ ht _ he
   rw [(hb51 b X1 p ht ok).1, leave51] at he
   exact absurd he (by decide)
  ·rintro e w' ⟨pl, er, X', A', rfl, ⟨rfl, b, X1, p, ht, rfl⟩, hg, hw, hN⟩
   obtain ⟨_, rfl, rfl, hrP, hC, hv, hfs⟩ := hb51 b X1 p ht ok
   refine ⟨_, A', hw, hN, hg, by rw [hC]; rfl, by rw [hC]; rfl, .inr ⟨hcut, ⟨pl, rfl⟩, ⟨by rw [hC]; rfl, by rw [hC]; exact ⟨hab, hrP⟩, fun i q hiq => ?_, ?_, fun i q hi hqP hiq => ?_⟩⟩⟩
   ·rw [hC] at hiq |-
    exact ⟨_, (hq.says i q hiq).same (by rw [putPg_pg, if_neg (fun x => by omega)]) rfl⟩
   ·rw [hC]
    refine ⟨_, _, (X.wn.getD b 0).toNat, ?_, hfs, by rw [putPg_pg, if_pos ⟨rfl, rfl⟩]; rfl⟩
    show Pg.Val _ _ (T (b * X.C.P + r)) (Q (b * X.C.P + r)).1 (Q (b * X.C.P + r)).2.1 (Q (b * X.C.P + r)).2.2.1 (Q (b * X.C.P + r)).2.2.2 _
    rw [hss, hQ]
    exact hv
   ·rw [hC] at hi hqP |-
    rw [putPg_pg, if_neg (fun x => by omega)]
    exact hq.rest hi hqP (by omega)
 ·rw [if_neg hcut] at hcd
  refine (append_plain h hT hq.fin K n I O hok1 hok2 s hs hdl (by rw [hq.bd]; simp) hcd (hf _) W0).mono ?_
  rintro e w' ⟨pl, er, X', A', rfl, hp, hgq, hw, hN⟩
  rcases hp with ⟨_, _, _, h4, h5⟩ | ⟨b, X1, q, ht, hb, hqP, rfl, rfl, rfl⟩
  ·exact absurd ⟨h4, h5⟩ hful
  ·obtain ⟨_, rfl, hqr⟩ := hq.tk ok ht
   obtain rfl : q = r := by omega
   obtain ⟨e1, e2, e3⟩ := ht.C
   obtain ⟨a', r', h1, h2, h3, h4⟩ := hq.more ok (by rw [hQ]; exact hok) (by rw [hss]; exact hs) ht
   rw [hQ, hss] at h3
   refine ⟨_, A', hw, hN, hgq, ?_, ?_, .inl ⟨hcut, by simp only [Int.natCast_add, Int.natCast_mul], a', r', h1, h3⟩⟩
   ·show X1.C.cuts = X.C.cuts; rw [e1]
   ·show X1.C.fails = X.C.fails; rw [e1]
end Go.Proofs.YtcmmhfjnhlaepabGreatDoor
