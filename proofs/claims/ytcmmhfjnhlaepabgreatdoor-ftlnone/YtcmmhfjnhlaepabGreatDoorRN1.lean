/-
  Records written as pages that belong together: the walk of Write. Conditions: the table's cells hold what the text lays; at most 20000 records that may be. All pages of a chip as they are found: the walk of All. Condition: the table's cells hold what the text lays; the power is on. Pages as they are found, in a slice that begins anywhere: what they say (the walk of Texts), the greatest place of valid ones (greatest), whether the first begins a group of one (groupLen). No condition. The journal's pages behind a checkpoint, by their places: the walk of journal, of pages whose places rise as they are found, at most 19. No other condition.
-/
import Derived.Test.YtcmmhfjnhlaepabGreatDoorRK6
import Derived.Test.YtcmmhfjnhlaepabGreatDoorRK8
import Derived.Test.YtcmmhfjnhlaepabGreatDoorRK4
namespace Go.Proofs.YtcmmhfjnhlaepabGreatDoor
open Go Go.RowKit
set_option maxRecDepth 100000
theorem packGo_small (n : Nat) (hn : 9 <= n) (l : List ByteArray) (hl : ∀ s ∈ l, s.size <= 9) : ∀ (ts : List ByteArray) (t : ByteArray), (∀ s ∈ ts, s.size <= n) -> t.size <= n -> ∀ s ∈ Gp.packGo n l ts t, s.size <= n := by
 induction l with
 | nil =>
  intro ts t h1 h2 s hs
  rw [Gp.packGo] at hs
  rcases List.mem_append.1 hs with h | h
  ·exact h1 s h
  ·rw [List.mem_singleton.1 h]; exact h2
 | cons x l ih =>
  intro ts t h1 h2 s hs
  have hx := hl x (by simp)
  rw [Gp.packGo] at hs
  split at hs
  ·refine ih (fun s hs => hl s (by simp [hs])) _ _ (fun u hu => ?_) (by omega) s hs
   rcases List.mem_append.1 hu with h | h
   ·exact h1 u h
   ·rw [List.mem_singleton.1 h]; exact h2
  ·rename_i hc
   refine ih (fun s hs => hl s (by simp [hs])) _ _ h1 ?_ s hs
   rw [ByteArray.size_append]
   omega
theorem txW_flat (ts : List ByteArray) : (txW ts).flatten = ts.map Value.string := by
 induction ts with
 | nil => rfl
 | cons t ts ih =>
  show ([.string t] :: txW ts).flatten = _
  rw [List.flatten_cons, ih]
  rfl
theorem txW_own {w : World} {B v} {ts : List ByteArray} (h : w.ownsRow B 9 1 v ts.length (ts.map Value.string)) : We.Ow w B 9 1 v (txW ts) := by
 refine ⟨?_, ?_, ?_⟩
 ·rw [txW_flat, show (txW ts).length = ts.length by simp [txW]]
  exact h
 ·intro r hr
  obtain ⟨t, _, rfl⟩ := List.mem_map.1 hr
  rfl
 ·intro r hr u hu
  obtain ⟨t, _, rfl⟩ := List.mem_map.1 hr
  rw [List.mem_singleton.1 hu]
  rfl
theorem tgR_at {w : World} {B a n cap} {kind : Int} {s m k : Nat} (h : We.Ow w B 97 5 (.slice a n cap) (tgR kind s m k)) {j : Nat} (hj : j < k) : ∃ g, a = some ⟨g, 0, none⟩ /\ g < w.heap.size /\ w.cell? ⟨g, j * 5, none⟩ = some (.int .i64 kind) /\ w.cell? ⟨g, j * 5 + 1, none⟩ = some (.int .u64 (sqN kind s j)) /\ w.cell? ⟨g, j * 5 + 2, none⟩ = some (.int .i64 j) /\ w.cell? ⟨g, j * 5 + 3, none⟩ = some (.int .i64 m) /\ w.cell? ⟨g, j * 5 + 4, none⟩ = some (.int .i64 0) := by
 obtain ⟨g, h1, _, h3, h4⟩ := h.at (j := j) (by rw [tgR_len]; exact hj)
 have hr : (tgR kind s m k).getD j [] = [.int .i64 kind, .int .u64 (sqN kind s j), .int .i64 j, .int .i64 m, .int .i64 0] := by simp [tgR, List.getD_eq_getElem?_getD, hj]
 rw [hr] at h4
 exact ⟨g, h1, h3, h4 0 (by omega), h4 1 (by omega), h4 2 (by omega), h4 3 (by omega), h4 4 (by omega)⟩
def plc (n0 k : Nat) : List Int := (List.range k).map fun i => ((n0 + i : Nat) : Int)
theorem plc_succ (n0 k : Nat) : rowsI (plc n0 (k + 1)) = rowsI (plc n0 k) ++ [[.int .i64 ((n0 + k : Nat) : Int)]] := by unfold plc; rw [List.range_succ, List.map_append]; simp [rowsI]
theorem plc_len (n0 k : Nat) : (plc n0 k).length = k := by simp [plc]
def nxv (K s k : Nat) : Nat := if k = 0 then s else sqN K s (k - 1) + 1
structure WrS (w : World) (A0 : Wl) (b13 : Nat) (tv gv : Value) (ts : List ByteArray) (K s m : Nat) (A : Wl) (X : Wx) (vp : Value) (n0 k : Nat) (wr : World) : Prop where
 wtr : Wtr wr A X
 tab : Pg.Tab wr
 nxt : Nxt A0 A X.C.B w wr
 cel : wr.heap[b13]? = some (.cells #[tv] 76 (0, 0))
 tx : We.Ow wr 0 9 1 tv (txW ts)
 tg : We.Ow wr 0 97 5 gv (tgR K s m m)
 pl : Ints wr w.heap.size vp (plc n0 k)
 dis : ∀ i, A.own X.C.B i -> i ≠ b13 /\ tv.ownBlock ≠ some i /\ gv.ownBlock ≠ some i /\ vp.ownBlock ≠ some i
 lo : w.heap.size <= b13
theorem ow_ne {w : World} {B B' e e' sz sz' v v' rows rows'} (h : We.Ow w B e sz v rows) (h' : We.Ow w B' e' sz' v' rows') (hne : e ≠ e') : ∀ g, v.ownBlock = some g -> v'.ownBlock ≠ some g := by
 intro g h1 h2
 have := Gp.owns_ne (h.lower (Nat.zero_le _)).own (h'.lower (Nat.zero_le _)).own hne
 rw [h1, h2] at this
 simp at this
theorem ow_ne_cell {w : World} {B e sz v rows} (h : We.Ow w B e sz v rows) {b t cs} (hb : w.heap[b]? = some (.cells cs t (0, 0))) (hne : e ≠ t) : v.ownBlock ≠ some b := by
 intro q
 rcases h.own.2 with ⟨rfl, _⟩ | ⟨g, cap, cur, rfl, _, hg, _⟩
 ·cases q
 ·obtain rfl : g = b := by simpa [Value.ownBlock] using q
  rw [hb] at hg
  simp at hg
  exact hne hg.2.symm
theorem WrS.call {w A0 b13 tv gv ts K s m A X vp n0 k} {wr w2 : World} (h : WrS w A0 b13 tv gv ts K s m A X vp n0 k wr) (b : Below wr.heap.size wr w2) : WrS w A0 b13 tv gv ts K s m A X vp n0 k w2 :=
 ⟨h.wtr.call b, h.tab.call b, ⟨h.nxt.kp.call b, h.nxt.own, h.nxt.a, h.nxt.L, h.nxt.la, h.nxt.lo, h.nxt.lg⟩, (b.block b13 (Array.getElem?_eq_some_iff.1 h.cel).1).trans h.cel, h.tx.call b, h.tg.call b, We.Ow.call h.pl b, h.dis, h.lo⟩
theorem WrS.drew {w A0 b13 tv gv ts K s m A X vp n0 k} {wr : World} (h : WrS w A0 b13 tv gv ts K s m A X vp n0 k wr) : WrS w A0 b13 tv gv ts K s m A X vp n0 k wr.drew :=
 ⟨h.wtr.drew, h.tab.drew, ⟨h.nxt.kp.drew, h.nxt.own, h.nxt.a, h.nxt.L, h.nxt.la, h.nxt.lo, h.nxt.lg⟩, h.cel, h.tx.drew, h.tg.drew, We.Ow.drew h.pl, h.dis, h.lo⟩
theorem WrS.next {w A0 b13 tv gv ts K s m A X vp n0 k A' X'} {wr w2 : World} (h : WrS w A0 b13 tv gv ts K s m A X vp n0 k wr) (hw : Wtr w2 A' X') (hg : X'.C.B = X.C.B) (n : Nxt A A' X.C.B wr w2) : WrS w A0 b13 tv gv ts K s m A' X' vp n0 k w2 := by
 have h13 := (Array.getElem?_eq_some_iff.1 h.cel).1
 have hp : ∀ g, vp.ownBlock = some g -> g < wr.heap.size := fun g hg => (We.Ow.lt h.pl g hg).2
 refine ⟨hw, Tab.off h.tab n.kp h.wtr.zero, by rw [hg]; exact h.nxt.trans n, (n.kp.block b13 h13 (fun x => (h.dis _ x).1 rfl)).trans h.cel, h.tx.same (fun g hg => n.kp.block g (h.tx.lt g hg).2 (fun x => (h.dis _ x).2.1 hg)), h.tg.same (fun g hg => n.kp.block g (h.tg.lt g hg).2 (fun x => (h.dis _ x).2.2.1 hg)), We.Ow.same h.pl (fun g hg => n.kp.block g (hp g hg) (fun x => (h.dis _ x).2.2.2 hg)), fun i hi => ?_, h.lo⟩
 rw [hg] at hi
 rcases n.own i hi with x | x
 ·exact h.dis i x
 ·refine ⟨by omega, fun q => ?_, fun q => ?_, fun q => ?_⟩
  ·have := (h.tx.lt i q).2; omega
  ·have := (h.tg.lt i q).2; omega
  ·have := hp i q; omega
theorem WrS.place {w A0 b13 tv gv ts K s m A X vp n0 k vp'} {wr w3 : World} (h : WrS w A0 b13 tv gv ts K s m A X vp n0 k wr) (hA0 : ∀ i, A0.own X.C.B i -> i < w.heap.size) (q1 : Ints w3 w.heap.size vp' (plc n0 (k + 1))) (q2 : wr.grownBy w3 vp.ownBlock) (q3 : vp'.ownBlock = vp.ownBlock \/ ∃ g, vp'.ownBlock = some g /\ wr.heap.size <= g) : WrS w A0 b13 tv gv ts K s m A X vp' n0 (k + 1) w3 := by
 have hX : ∀ j, vp.ownBlock = some j -> w.heap.size <= j := fun j hj => (We.Ow.lt h.pl j hj).1
 have k1 : Kp (fun i => vp.ownBlock = some i) wr w3 := Kp.ofGrown q2 (fun i hi => hi)
 have h13 := (Array.getElem?_eq_some_iff.1 h.cel).1
 have hc := h.cel
 have hcel : ∀ i, vp.ownBlock = some i -> Cel wr i := fun i hi => Ints.cel h.pl hi
 refine ⟨h.wtr.off k1 (fun i hi => ⟨fun x => (h.dis i x).2.2.2 hi, hcel i hi⟩), Tab.off h.tab k1 (fun hi => ?_), ⟨⟨k1.os.trans h.nxt.kp.os, k1.tape.trans h.nxt.kp.tape, k1.output.trans h.nxt.kp.output, Nat.le_trans h.nxt.kp.size k1.size, fun i hi hn => (k1.block i (Nat.lt_of_lt_of_le hi h.nxt.kp.size) (fun x => by have := hX i x; omega)).trans (h.nxt.kp.block i hi hn)⟩, h.nxt.own, h.nxt.a, h.nxt.L, h.nxt.la, h.nxt.lo, h.nxt.lg⟩, (k1.block b13 h13 (ow_ne_cell h.pl hc (by decide))).trans h.cel, h.tx.same (fun g hg => k1.block g (h.tx.lt g hg).2 (ow_ne h.tx h.pl (by decide) g hg)), h.tg.same (fun g hg => k1.block g (h.tg.lt g hg).2 (ow_ne h.tg h.pl (by decide) g hg)), q1, fun i hi => ?_, h.lo⟩
 ·have := hX 0 hi
  have := h.nxt.kp.size
  have h0 := h.tab.1
  have hz : 0 < w.heap.size := by
   by_cases e : 0 < w.heap.size
   ·exact e
   ·exfalso
    have := hA0 A0.a (.inl rfl)
    omega
  omega
 ·refine ⟨(h.dis i hi).1, (h.dis i hi).2.1, (h.dis i hi).2.2.1, fun q => ?_⟩
  rcases q3 with e | ⟨g, e, hg⟩
  ·rw [e] at q; exact (h.dis i hi).2.2.2 q
  ·rw [e] at q
   have := h.wtr.lt i hi
   have : g = i := by simpa using q
   omega
def Wr9 (b13 g18 : Nat) (ta : Addr) (m tc : Nat) (K q i : Nat) (tx : ByteArray) (w' : World) : Prop :=
 Pg.TB w' g18 K q i m 0 /\ w'.heap[b13]? = some (.cells #[.slice (some ta) m tc] 76 (0, 0)) /\ w'.cell? ⟨ta.block, ta.off + i, none⟩ = some (.string tx)
theorem Wr9.facts {b13 g18 g0 m tc K q i tx} {w' : World} (h : Wr9 b13 g18 ⟨g0, 0, none⟩ m tc K q i tx w') : w'.cell? ⟨g18, 0, none⟩ = some (.int .i64 K) /\ w'.cell? ⟨g18, 1, none⟩ = some (.int .u64 q) /\ w'.cell? ⟨g18, 2, none⟩ = some (.int .i64 i) /\ w'.cell? ⟨g18, 3, none⟩ = some (.int .i64 m) /\ w'.cell? ⟨g18, 4, none⟩ = some (.int .i64 0) /\ w'.cell? ⟨b13, 0, none⟩ = some (.slice (some ⟨g0, 0, none⟩) m tc) /\ w'.cell? ⟨g0, i, none⟩ = some (.string tx) := by
 obtain ⟨h1, h2, h3⟩ := h
 obtain ⟨c0, c1, c2, c3, c4⟩ := h1.five
 refine ⟨c0, c1, c2, c3, c4, by rw [cell_of_row _ _ 0 _ 76 _ h2]; rfl, ?_⟩
 rw [Nat.zero_add] at h3
 exact h3
theorem Wr9.kp {S : Nat -> Prop} {b13 g18 g0 m tc K q i tx} {w1 w2 : World} (h : Wr9 b13 g18 ⟨g0, 0, none⟩ m tc K q i tx w1) (k : Kp S w1 w2) (hs : ∀ j, S j -> j ≠ g18 /\ j ≠ b13 /\ j ≠ g0) : Wr9 b13 g18 ⟨g0, 0, none⟩ m tc K q i tx w2 := by
 obtain ⟨h1, h2, h3⟩ := h
 have hlt : g0 < w1.heap.size := by
  by_cases e : g0 < w1.heap.size
  ·exact e
  ·exfalso
   unfold World.cell? at h3
   dsimp only at h3
   rw [Array.getElem?_eq_none (by omega)] at h3
   cases h3
 exact ⟨(k.block g18 h1.lt (fun x => (hs _ x).1 rfl)).trans h1, (k.block b13 (Array.getElem?_eq_some_iff.1 h2).1 (fun x => (hs _ x).2.1 rfl)).trans h2, by rw [<- h3]; unfold World.cell?; rw [k.block g0 hlt (fun x => (hs _ x).2.2 rfl)]⟩
theorem Sq.room {D : Int} {X : Wx} {a r T Q} (h : Sq D X a r T Q) : a * X.C.P + r <= X.C.B * X.C.P := by
 rcases h.le with ⟨h1, h2⟩ | ⟨h1, h2⟩
 ·have := Nat.mul_le_mul_right X.C.P (show a + 1 <= X.C.B by omega)
  rw [Nat.succ_mul] at this
  omega
 ·rw [h1, h2]
  omega
theorem append_full {w : World} {A X} (h : Wtr w A X) (hT : Pg.Tab w) {D : Int} {r : Nat} {T : Nat -> ByteArray} {Q : Nat -> Tg} (hq : Sq D X X.C.B r T Q) (K n I O : Nat) (hok : okT (K, n, I, O)) (s : ByteArray) (hs : s.size <= X.C.Z) (W0 : Int) :
  Calls Tryz.prog 152 #[.pointer (some ⟨A.a, 0, none⟩), Pg.tagV K n I O W0, .string s] w fun e w' => ∃ A', Wtr w' A' X /\ Nxt A A' X.C.B w w' /\ e = .returned (.tuple #[.int .i64 0, .int .i64 130]) := by
 have hg := h.chip.geo
 have hr := hq.le
 have hdid := hq.did
 have hm := Lf.mul_range (a := (X.C.B : Int)) (b := (X.C.P : Int)) (A := 32) (B := 16) (by omega) (by omega)
 have hno : ∀ b X1 p, Tk X b X1 p -> Lf.Ok X.C.B X.C.P X.xs X.o X.nx -> False := fun b X1 p ht ok => by
  have := (hq.tk ok ht).1
  omega
 refine (append_any h hT (fun Y => Y = X) (fun pl er Y => pl = 0 /\ er = 130 /\ Y = X) K n I O W0 s rfl ⟨?_, ?_, ?_, ?_, ?_⟩).mono ?_
 ·rintro Y rfl
  refine ⟨?_, fun i _ => hq.fin.may hok.1 i, hs, by rw [hq.bd]; simp⟩
  have := hq.dl
  simp only [Int.natCast_add, Int.natCast_mul] at hdid
  omega
 ·rintro Y rfl _ h1 h2
  exact ⟨rfl, rfl, rfl⟩
 ·rintro Y b X1 p rfl ok _ _ _ ht _
  exact (hno b X1 p ht ok).elim
 ·rintro Y b X1 p rfl ok _ _ _ ht _ _
  exact (hno b X1 p ht ok).elim
 ·rintro Y b X1 p rfl ok _ _ _ ht _ _
  exact (hno b X1 p ht ok).elim
 ·rintro e w' ⟨pl, er, X', A', rfl, ⟨rfl, rfl, rfl⟩, _, hw, hN⟩
  exact ⟨A', hw, hN, rfl⟩
theorem append_e {w : World} {A X} (h : Wtr w A X) (hT : Pg.Tab w) {D : Int} {a r : Nat} {T : Nat -> ByteArray} {Q : Nat -> Tg} (hq : Sq D X a r T Q) (K n I O : Nat) (hQ : Q (a * X.C.P + r) = (K, n, I, O)) (hok : okT (K, n, I, O)) (s : ByteArray) (hss : T (a * X.C.P + r) = s) (hs : s.size <= X.C.Z)
  (At : Nat) (kf : Int × Int) (hc : ∀ i : Nat, X.C.did <= i -> X.C.cuts ((i : Int) + 1) = if i + D + 1 = At then some kf else none) (hf : ∀ i, X.C.fails i = false) (W0 : Int) :
  Calls Tryz.prog 152 #[.pointer (some ⟨A.a, 0, none⟩), Pg.tagV K n I O W0, .string s] w fun e w' => ∃ X' A', Wtr w' A' X' /\ Nxt A A' X.C.B w w' /\ Geq X' X /\ X'.C.cuts = X.C.cuts /\ X'.C.fails = X.C.fails ∧
   ((a * X.C.P + r + 1 ≠ At /\ a < X.C.B /\ e = .returned (.tuple #[.int .i64 ((a * X.C.P + r : Nat) : Int), .int .i64 0]) /\ ∃ a' r', a' * X.C.P + r' = a * X.C.P + r + 1 /\ Sq D X' a' r' T Q) ∨
    (a * X.C.P + r + 1 = At /\ a < X.C.B /\ (∃ pl : Int, e = .returned (.tuple #[.int .i64 pl, .int .i64 51])) /\ Stp X' a r T Q kf) ∨
    (a = X.C.B /\ r = 0 /\ (∃ pl : Int, e = .returned (.tuple #[.int .i64 pl, .int .i64 130])) /\ Sq D X' a r T Q)) := by
 by_cases hab : a < X.C.B
 ·refine (append_w h hT hq hab K n I O hQ hok s hss hs At kf hc hf W0).mono ?_
  rintro e w' ⟨X', A', h1, h2, h3, h4, h5, h6⟩
  rcases h6 with ⟨q1, q2, q3⟩ | ⟨q1, q2, q3⟩
  ·exact ⟨X', A', h1, h2, h3, h4, h5, .inl ⟨q1, hab, q2, q3⟩⟩
  ·exact ⟨X', A', h1, h2, h3, h4, h5, .inr (.inl ⟨q1, hab, q2, q3⟩)⟩
 ·have hle := hq.le
  obtain rfl : a = X.C.B := by omega
  refine (append_full h hT hq K n I O hok s hs W0).mono ?_
  rintro e w' ⟨A', h1, h2, rfl⟩
  exact ⟨X, A', h1, h2, ⟨rfl, rfl, rfl⟩, rfl, rfl, .inr (.inr ⟨rfl, by omega, ⟨0, rfl⟩, hq⟩)⟩
set_option maxHeartbeats 1600000 in
theorem write_any {w : World} {A X} (h : Wtr w A X) (hT : Pg.Tab w) {D : Int} {a r : Nat} {T : Nat -> ByteArray} {Q : Nat -> Tg} (hq : Sq D X a r T Q) (n0 : Nat) (hn0 : a * X.C.P + r = n0) (rs : List Gp.R6) (ra : Option Addr) (rc : Nat)
  (hx : Gp.RecsF w ra rs.length (fun i => rs.getD i (0, 0, 0, 0, 0, 0))) (hmay : ∀ r ∈ rs, Gp.R6.may r = true) (h30 : rs.length <= 20000) (K : Nat) (hK : 1 <= K /\ K <= 3) (s : Nat) (hs : s < 1000000)
  (sz : Nat) (hsz : 9 <= sz /\ sz <= X.C.Z) (ts : List ByteArray) (hts : Gp.packGo sz (rs.map Gp.R6.put) [] ⟨#[]⟩ = ts) (hTQ : ∀ i, i < ts.length -> T (n0 + i) = ts.getD i ⟨#[]⟩ /\ Q (n0 + i) = (K, sqN K s i, i, ts.length))
  (At : Nat) (kf : Int × Int) (hc : ∀ i : Nat, X.C.did <= i -> X.C.cuts ((i : Int) + 1) = if i + D + 1 = At then some kf else none) (hf : ∀ i, X.C.fails i = false) (hAt : At <= n0 \/ n0 < At) :
  Calls Tryz.prog 124 #[.pointer (some ⟨A.a, 0, none⟩), .slice ra rs.length rc, .int .i64 K, .int .u64 s, .int .i64 sz] w fun e w' => ∃ X' A', Wtr w' A' X' /\ Pg.Tab w' /\ Nxt A A' X.C.B w w' /\ Geq X' X /\ X'.C.cuts = X.C.cuts /\ X'.C.fails = X.C.fails ∧
   (((At <= n0 \/ n0 + ts.length < At) /\ n0 + ts.length <= X.C.B * X.C.P /\ (∃ v, e = .returned (.tuple #[v, .int .u64 (nxv K s ts.length), .int .i64 0]) /\ Ints w' w.heap.size v (plc n0 ts.length)) /\ ∃ a' r', a' * X.C.P + r' = n0 + ts.length /\ Sq D X' a' r' T Q) ∨
    (n0 < At /\ At <= n0 + ts.length /\ (∃ x : Int, e = .returned (.tuple #[.slice none 0 0, .int .u64 x, .int .i64 51])) /\ ∃ a' r', a' * X.C.P + r' + 1 = At /\ Stp X' a' r' T Q kf) ∨
    (X.C.B * X.C.P < n0 + ts.length /\ (∃ x : Int, e = .returned (.tuple #[.slice none 0 0, .int .u64 x, .int .i64 130])) /\ Sq D X' X.C.B 0 T Q)) := by
 have hpl := Gp.packGo_len sz (rs.map Gp.R6.put) [] ⟨#[]⟩
 rw [hts, List.length_map] at hpl
 simp only [List.length_nil, Nat.zero_add] at hpl
 have hsm : ∀ t ∈ ts, t.size <= sz := by
  rw [<- hts]
  refine packGo_small sz hsz.1 _ (fun u hu => ?_) _ _ (fun u hu => by cases hu) (by show 0 <= sz; omega)
  obtain ⟨y, hy, rfl⟩ := List.mem_map.1 hu
  exact (Gp.put6_le y (hmay y hy)).2
 have hpk := Hid.mk (fun w' (b : Below w.heap.size w w') => Gp.pack_any ra rc sz rs w' (hx.below b) hmay (by omega))
 rw [hts] at hpk
 obtain ⟨m, hm⟩ : ∃ m, ts.length = m := ⟨_, rfl⟩
 rw [hm] at hpl hpk hTQ |-
 have HIN := Hid.mk (And.intro h (And.intro hT (And.intro hq (And.intro hTQ (And.intro hsm (And.intro hc hf))))))
 have hgeo := h.chip.geo
 have hA0 := Hid.mk h.lt
 clear hx hmay hts h hT hq hTQ hsm hc hf
 go_enter Tryz.func124, Tryz.ntmps124
 go_upto_region 1 with fail
 have q2 := heap_alloc_new w (.cells #[.int .i64 (K : Int)] 3)
 have b12 := Pg.below_one (w.alloc (.cells #[.int .i64 (K : Int)] 3)) (.cells #[.int .u64 (s : Int)] 72)
 have q3 := heap_alloc_new (w.alloc (.cells #[.int .i64 (K : Int)] 3)) (.cells #[.int .u64 (s : Int)] 72)
 rw [size_alloc] at q3
 have B2 : Hid (Below w.heap.size w ((w.alloc (.cells #[.int .i64 (K : Int)] 3)).alloc (.cells #[.int .u64 (s : Int)] 72))) := below3 (Pg.below_one w _) b12
 have e2 : ((w.alloc (.cells #[.int .i64 (K : Int)] 3)).alloc (.cells #[.int .u64 (s : Int)] 72)).heap[w.heap.size]? = some (.cells #[.int .i64 (K : Int)] 3 (0, 0)) := (b12.block w.heap.size (by rw [size_alloc]; omega)).trans q2
 have HC : Hid (∀ v : Value, ∀ w1, Below ((w.alloc (.cells #[.int .i64 (K : Int)] 3)).alloc (.cells #[.int .u64 (s : Int)] 72)).heap.size ((w.alloc (.cells #[.int .i64 (K : Int)] 3)).alloc (.cells #[.int .u64 (s : Int)] 72)) w1 -> Cau (w1.alloc (.cells #[v] 76)) w.heap.size (w.heap.size + 1) w1.heap.size K s v) := by
  intro v w1 b1
  have z1 := size_alloc w (.cells #[.int .i64 (K : Int)] 3)
  have z2 := size_alloc (w.alloc (.cells #[.int .i64 (K : Int)] 3)) (.cells #[.int .u64 (s : Int)] 72)
  have z3 := size_alloc w1 (.cells #[v] 76)
  have z4 := b1.size
  have b3 := Pg.below_one w1 (.cells #[v] 76)
  have f2 := (b3.block w.heap.size (by omega)).trans ((b1.block w.heap.size (by omega)).trans e2)
  have f3 := (b3.block (w.heap.size + 1) (by omega)).trans ((b1.block (w.heap.size + 1) (by omega)).trans q3)
  exact ⟨by rw [cell_of_row _ _ 0 _ 3 _ f2]; rfl, by rw [cell_of_row _ _ 0 _ 72 _ f3]; rfl, by rw [cell_of_row _ _ 0 _ 76 _ (heap_alloc_new w1 (.cells #[v] 76))]; rfl, by omega⟩
 clear q2 q3 b12 e2
 generalize w.heap.size + 1 = b8 at *
 obtain ⟨b7, hb7⟩ : ∃ b, b = w.heap.size := ⟨_, rfl⟩
 rw [<- hb7] at HC
 rw [<- hb7]
 clear hb7
 generalize ((w.alloc (.cells #[.int .i64 (K : Int)] 3)).alloc (.cells #[.int .u64 (s : Int)] 72)) = W2 at *
 go_upto_region 2 with (first
  | (go_at_call 163; refine (hpk.out _ B2.out).mono ?_; rintro e w1 ⟨v, rfl, o1, b1⟩; obtain ⟨ta', tc, rfl⟩ := Gp.owns_form o1))
 have o2 := txW_own (ts := ts) (by rw [hm]; exact o1)
 have hC3 := HC.out (.slice ta' m tc) w1 b1
 have b3 := Pg.below_one w1 (.cells #[.slice ta' m tc] 76)
 have HT3 : Hid (We.Ow (w1.alloc (.cells #[.slice ta' m tc] 76)) 0 9 1 (.slice ta' m tc) (txW ts)) := (o2.lower (Nat.zero_le _)).call b3
 have HC3 := Hid.mk hC3
 have H13 := Hid.mk (heap_alloc_new w1 (.cells #[.slice ta' m tc] 76))
 have B3 : Hid (Below w.heap.size w (w1.alloc (.cells #[.slice ta' m tc] 76))) := below3 (below3 B2.out b1) b3
 have L13 : Hid (w.heap.size <= w1.heap.size) := (below3 B2.out b1).size
 have LT : Hid (∀ g, Value.ownBlock (.slice ta' m tc) = some g -> w.heap.size <= g) := fun g hg => Nat.le_trans B2.out.size (o2.lt g hg).1
 obtain ⟨g0, hta⟩ : ∃ g0, ta' = some ⟨g0, 0, none⟩ := by
  obtain ⟨g0, e, _⟩ := txW_at o2 (j := 0) (by omega)
  exact ⟨g0, e⟩
 subst hta
 clear o1 o2 hC3 b3 HC hpk B2 b1
 generalize (w1.alloc (.cells #[.slice (some ⟨g0, 0, none⟩) m tc] 76)) = W3 at *
 generalize w1.heap.size = b13 at *
 have hc4 := HC3.out.c4
 have hgt := Hid.mk (gather_tags (.slice (some ⟨g0, 0, none⟩) m tc) ts b7 b8 b13 K s hs W3 HT3.out (by omega) HC3.out)
 rw [hm] at hgt
 go_upto_region 3 with (first
  | (go_at_call 164; refine hgt.out.mono ?_; rintro e w4 ⟨gv, rfl, o4, b4⟩; obtain ⟨ga, gc, rfl⟩ := o4.form))
 rw [tgR_len] at o4 |-
 have hc3 := (HC3.out.call b4).c3
 have HG4 := Hid.mk (And.intro o4 b4)
 clear o4 b4 hgt hc4
 have hmk : ∀ w : World, (Instr.makeSlice 30 (.int .i64 0) (.int .i64 m)).run Tryz.prog w = .ok (.slice (some ⟨w.heap.size, 0, none⟩) 0 m) (w.alloc (.cells (madeCells #[.int .i64 0] m) 3)) := fun w => by
  have := run_room Tryz.underlying30 info3 (by omega) m (by omega) w
  rw [Nat.mul_one] at this
  exact this
 have hc8 : (w4.alloc (.cells (madeCells #[.int .i64 0] m) 3)).cell? ⟨b8, 0, none⟩ = some (.int .u64 s) := ((Pg.below_one w4 _).cell (p := ⟨b8, 0, none⟩) (HC3.out.call HG4.out.2).lt.2.1).trans hc3
 go_upto_region 6 with fail
 have b5 := Pg.below_one w4 (.cells (madeCells #[.int .i64 0] m) 3)
 have o5 := room_own w4 (B := w.heap.size) (Nat.le_trans B3.out.size HG4.out.2.size) (.int .i64 0) 3 1 m (by omega)
 rw [Nat.mul_one] at o5
 replace o5 : Ints (w4.alloc (.cells (madeCells #[.int .i64 0] m) 3)) w.heap.size (.slice (some ⟨w4.heap.size, 0, none⟩) 0 m) (plc n0 0) := o5
 have S0 : WrS w A b13 (.slice (some ⟨g0, 0, none⟩) m tc) (.slice ga m gc) ts K s m A X (.slice (some ⟨w4.heap.size, 0, none⟩) 0 m) n0 0 (w4.alloc (.cells (madeCells #[.int .i64 0] m) 3)) := by
  have bb : Below w.heap.size w (w4.alloc (.cells (madeCells #[.int .i64 0] m) 3)) := below3 (below3 B3.out HG4.out.2) b5
  have b45 := below3 HG4.out.2 b5
  have e13 := (Array.getElem?_eq_some_iff.1 H13.out).1
  refine ⟨HIN.out.1.call bb, HIN.out.2.1.call bb, Nxt.of (Kp.ofBelow bb), (b45.block b13 e13).trans H13.out, HT3.out.call b45, (HG4.out.1.lower (Nat.zero_le _)).call b5, o5, fun i hi => ?_, L13.out⟩
  have hlt := hA0.out i hi
  refine ⟨by have := L13.out; omega, fun q => ?_, fun q => ?_, fun q => ?_⟩
  ·have := LT.out i q; omega
  ·have := (HG4.out.1.lt i q).1; have := B3.out.size; omega
  ·have := (We.Ow.lt o5 i q).1; omega
 replace S0 := Hid.mk S0
 clear b5 o5 HG4 B3 L13 LT H13 HT3 HC3 hmk hc3 hc8
 generalize (w4.alloc (.cells (madeCells #[.int .i64 0] m) 3)) = W5 at *
 go_loopw [15, 16, 33] (fun vp nx i wr => ∃ (k : Nat) (A' : Wl) (X' : Wx) (a' r' : Nat), k <= m /\ i = .int .i64 k /\ nx = .int .u64 (nxv K s k) /\ a' * X.C.P + r' = n0 + k /\ Sq D X' a' r' T Q /\ Geq X' X /\ X'.C.cuts = X.C.cuts /\ X'.C.fails = X.C.fails /\ (At <= n0 \/ n0 + k < At) /\ WrS w A b13 (.slice (some ⟨g0, 0, none⟩) m tc) (.slice ga m gc) ts K s m A' X' vp n0 k wr) (fun _ _ i _ => m - (intOf i).toNat)
 case atStart => exact ⟨0, A, X, a, r, Nat.zero_le _, rfl, rfl, hn0, HIN.out.2.2.1, ⟨rfl, rfl, rfl⟩, rfl, rfl, by omega, S0.out⟩
 case round =>
  clear S0
  obtain ⟨k, A', X', a', r', hk, rfl, rfl, har, hq', hg', hcu, hfa, hat, hs'⟩ := hrel
  by_cases hlt : k < m
  ·have hltI : (k : Int) < (m : Int) := by omega
   obtain ⟨gg, rfl, hgg, c0, c1, c2, c3, c4⟩ := tgR_at hs'.tg hlt
   obtain ⟨q, hqq⟩ : ∃ q, sqN K s k = q := ⟨_, rfl⟩
   have hqs : q < 1030000 := by rw [<- hqq]; unfold sqN; split <;> omega
   rw [hqq] at c1
   have hwq : IntKind.u64.wrap ((q : Int) + 1) = ((q + 1 : Nat) : Int) := by rw [IntKind.wrap_u64]; omega
   obtain ⟨g0', hg0, _, d0⟩ := txW_at hs'.tx (j := k) (by omega)
   obtain rfl : g0 = g0' := by simpa using hg0
   obtain ⟨tx, htx⟩ : ∃ tx, ts.getD k ⟨#[]⟩ = tx := ⟨_, rfl⟩
   rw [htx] at d0
   have htxs : tx.size <= sz := by rw [<- htx]; exact HIN.out.2.2.2.2.1 _ (by simp [List.getD_eq_getElem?_getD, show k < ts.length by omega])
   have hTk := HIN.out.2.2.2.1 k hlt
   rw [htx, hqq] at hTk
   have hX'B : X'.C.B = X.C.B := hg'.1
   have hX'P : X'.C.P = X.C.P := hg'.2.1
   have hfr := Pg.TB.fresh wr K q k m 0
   have b18 := Pg.below_one wr (.cells #[.int .i64 (K : Int), .int .u64 (q : Int), .int .i64 (k : Int), .int .i64 (m : Int), .int .i64 0] 97)
   have s18 := (hs'.call b18).drew
   have hd0 : (wr.alloc (.cells #[.int .i64 (K : Int), .int .u64 (q : Int), .int .i64 (k : Int), .int .i64 (m : Int), .int .i64 0] 97)).cell? ⟨g0, k, none⟩ = some (.string tx) := (b18.cell (p := ⟨g0, k, none⟩) (hs'.tx.lt g0 rfl).2).trans d0
   have hS9 : Hid (Wr9 b13 wr.heap.size ⟨g0, 0, none⟩ m tc K q k tx (wr.alloc (.cells #[.int .i64 (K : Int), .int .u64 (q : Int), .int .i64 (k : Int), .int .i64 (m : Int), .int .i64 0] 97)).drew) := ⟨hfr, s18.cel, by rw [Nat.zero_add]; exact hd0⟩
   have hdis : Hid (∀ i, A'.own X'.C.B i -> i ≠ wr.heap.size /\ i ≠ b13 /\ i ≠ g0) := fun i hi => ⟨by have := hs'.wtr.lt i hi; omega, (hs'.dis i hi).1, fun e => (hs'.dis i hi).2.1 (by rw [e]; rfl)⟩
   have haw := append_e s18.wtr s18.tab hq' K q k m (by rw [hX'P, har]; exact hTk.2) ⟨by unfold Pg.mayB; dsimp only; omega, by dsimp only; omega⟩ tx (by rw [hX'P, har]; exact hTk.1) (by rw [hg'.2.2]; omega) At kf (fun i hi => by rw [hcu]; exact HIN.out.2.2.2.2.2.1 i (by have e1 := hq'.did; have e2 := HIN.out.2.2.1.did; rw [hX'P, har] at e1; rw [hn0] at e2; omega)) (by rw [hfa]; exact HIN.out.2.2.2.2.2.2) 0
   have eA : A'.a = A.a := hs'.nxt.a
   rw [eA, hX'P, har] at haw
   unfold Pg.tagV at haw
   replace haw := Hid.mk haw
   obtain ⟨pa, pc, rfl⟩ := Ints.form hs'.pl
   rw [plc_len] at hs' s18 |-
   replace s18 := Hid.mk s18
   have hpos : Hid (wr.heap.size < (wr.alloc (.cells #[.int .i64 (K : Int), .int .u64 (q : Int), .int .i64 (k : Int), .int .i64 (m : Int), .int .i64 0] 97)).heap.size) := Hid.mk (by rw [size_alloc]; omega)
   have hnx : Hid (nxv K s (k + 1) = q + 1) := Hid.mk (by unfold nxv; rw [if_neg (by omega), Nat.add_sub_cancel, hqq])
   clear hs' hfr b18 hd0 htx hTk d0
   go_upto_region 9 with fail
   refine wp_region_held_drew (S := fun w' => Wr9 b13 wr.heap.size ⟨g0, 0, none⟩ m tc K q k tx w') (by kernel_rfl) hS9.out (fun hHeld => ?_)
   refine tkF 0 (fun _ q => Wr9.facts q) hHeld ?_
   refine tkF 1 (fun _ q => Wr9.facts q) hHeld ?_
   refine tkF 2 (fun _ q => Wr9.facts q) hHeld ?_
   refine tkF 3 (fun _ q => Wr9.facts q) hHeld ?_
   refine tkF 4 (fun _ q => Wr9.facts q) hHeld ?_
   refine tkF 5 (fun _ q => Wr9.facts q) hHeld ?_
   refine wpAnyH_ready (rs := [6]) (by kernel_rfl) (by simp) ?_
   refine arH rfl (fun K hK => ?_) AllReadyH.nil
   go_simp
   go_at_call 152
   refine haw.out.mono ?_
   rintro e w5 ⟨X5, A5, hw5, n5, g5, cu5, fa5, hcase⟩
   have hW5 := Hid.mk (s18.out.next hw5 g5.1 n5)
   have hH5 := hHeld.kp n5.kp hdis.out
   have hge := Hid.mk (And.intro g5 (And.intro cu5 fa5))
   clear hw5 n5 g5 cu5 fa5 haw hS9 hdis
   rcases hcase with ⟨hne, hab5, rfl, a5, r5, har5, hq5⟩ | ⟨heq, hab5, ⟨pl, rfl⟩, hst⟩ | ⟨hfull, hr0, ⟨pl, rfl⟩, hst⟩
   ·have hq5' := Hid.mk (And.intro har5 hq5)
    clear har5 hq5
    refine hK.out _ _ hH5 (fun hHeld => ?_)
    clear hK K
    try simp only [Act.put, zA, zB, zC]
    refine tkF 7 (fun _ q => Wr9.facts q) hHeld ?_
    refine tkF 8 (fun _ q => Wr9.facts q) hHeld ?_
    refine tkF 9 (fun _ q => Wr9.facts q) hHeld ?_
    refine tkF 10 (fun _ q => Wr9.facts q) hHeld ?_
    refine tkF 11 (fun _ q => Wr9.facts q) hHeld ?_
    refine wpAnyH_done (by kernel_rfl) ?_ _
    clear hH5
    go_wp2_with (first
     | (at_builtin; refine We.wp_app ei30 rfl (.tmp 55) (.tmp 57) rfl hW5.out.pl (Nat.le_trans (by have := hW5.out.nxt.kp.size; exact this) (Nat.le_refl _)) #[.int .i64 ((n0 + k : Nat) : Int)] rfl rfl rfl (by simp [Value.oneCell']) (by unfold rowsI; rw [List.length_map, plc_len]; omega) ?_; intro v2 w6 q1 q2 q3))
    have hX5B : X5.C.B = X.C.B := hge.out.1.1.trans hX'B
    refine ⟨⟨k + 1, A5, X5, a5, r5, by omega, by go_num, (by rw [hnx.out]; go_num), hq5'.out.1, hq5'.out.2, ⟨hX5B, hge.out.1.2.1.trans hX'P, hge.out.1.2.2.trans hg'.2.2⟩, hge.out.2.1.trans hcu, hge.out.2.2.trans hfa, by omega, hW5.out.place (by rw [hX5B]; exact hA0.out) (by unfold Ints; rw [plc_succ]; exact q1) q2 q3⟩, by simp [intOf]; omega⟩
   ·have hst' := Hid.mk hst
    clear hst
    refine hK.out _ _ hH5 (fun hHeld => ?_)
    clear hK K
    try simp only [Act.put, zA, zB, zC]
    refine tkF 7 (fun _ q => Wr9.facts q) hHeld ?_
    refine tkF 8 (fun _ q => Wr9.facts q) hHeld ?_
    refine tkF 9 (fun _ q => Wr9.facts q) hHeld ?_
    refine tkF 10 (fun _ q => Wr9.facts q) hHeld ?_
    refine tkF 11 (fun _ q => Wr9.facts q) hHeld ?_
    refine wpAnyH_done (by kernel_rfl) ?_ _
    clear hH5
    go_wp2_with fail
    go_ret3
    have hX5B : X5.C.B = X.C.B := hge.out.1.1.trans hX'B
    have hst2 := hst'.out
    exact ⟨X5, A5, hW5.out.wtr, hW5.out.tab, by have := hW5.out.nxt; rw [hX5B] at this; exact this, ⟨hX5B, hge.out.1.2.1.trans hX'P, hge.out.1.2.2.trans hg'.2.2⟩, hge.out.2.1.trans hcu, hge.out.2.2.trans hfa, .inr (.inl ⟨by omega, by omega, ⟨_, rfl⟩, a', r', by omega, hst2⟩)⟩
   ·have hst' := Hid.mk hst
    clear hst
    refine hK.out _ _ hH5 (fun hHeld => ?_)
    clear hK K
    try simp only [Act.put, zA, zB, zC]
    refine tkF 7 (fun _ q => Wr9.facts q) hHeld ?_
    refine tkF 8 (fun _ q => Wr9.facts q) hHeld ?_
    refine tkF 9 (fun _ q => Wr9.facts q) hHeld ?_
    refine tkF 10 (fun _ q => Wr9.facts q) hHeld ?_
    refine tkF 11 (fun _ q => Wr9.facts q) hHeld ?_
    refine wpAnyH_done (by kernel_rfl) ?_ _
    clear hH5
    go_wp2_with fail
    go_ret3
    have hX5B : X5.C.B = X.C.B := hge.out.1.1.trans hX'B
    have hst2 := hst'.out
    exact ⟨X5, A5, hW5.out.wtr, hW5.out.tab, by have := hW5.out.nxt; rw [hX5B] at this; exact this, ⟨hX5B, hge.out.1.2.1.trans hX'P, hge.out.1.2.2.trans hg'.2.2⟩, hge.out.2.1.trans hcu, hge.out.2.2.trans hfa, .inr (.inr ⟨by have e1 := har; rw [hfull, hr0, hX'B] at e1; omega, ⟨_, rfl⟩, by rw [hfull, hr0, hX'B] at hst2; exact hst2⟩)⟩
  ·obtain rfl : k = m := by omega
   have HS := Hid.mk (And.intro hs' (And.intro har (And.intro hq' (And.intro hg' (And.intro hcu (And.intro hfa hat))))))
   clear hs' har hq' hg' hcu hfa hat
   go_wp2_with fail
   go_ret3
   exact ⟨X', A', HS.out.1.wtr, HS.out.1.tab, by have := HS.out.1.nxt; rw [HS.out.2.2.2.1.1] at this; exact this, HS.out.2.2.2.1, HS.out.2.2.2.2.1, HS.out.2.2.2.2.2.1, (by have e := HS.out.2.2.1.room; rw [HS.out.2.2.2.1.1, HS.out.2.2.2.1.2.1] at e; have e2 := HS.out.2.1; exact .inl ⟨HS.out.2.2.2.2.2.2, by omega, ⟨_, rfl, HS.out.1.pl⟩, a', r', HS.out.2.1, HS.out.2.2.1⟩)⟩
end Go.Proofs.YtcmmhfjnhlaepabGreatDoor
namespace Go.Proofs.YtcmmhfjnhlaepabGreatDoor
open Go Go.RowKit
def LkIs (C : Ch) (i : Nat) (f : Fd) : Prop := f.a = i /\ ∃ d s, seen C (i / C.P) (i % C.P) = d ++ s /\ d.size = C.Z /\ s.size = 32 /\ ∀ w, Pg.Tab w -> Calls Tryz.prog 83 #[.string d, .string s] w fun e w' => e = .returned (.tuple #[.int .i64 f.c, Pg.tagV f.K f.S f.I f.O f.W, .string f.t]) /\ Below w.heap.size w w'
def fal (F : Nat -> Fd) (n : Nat) : List Fd := (List.range n).map F
theorem fal_len (F : Nat -> Fd) (n : Nat) : (fal F n).length = n := by simp [fal]
theorem fal_succ (F : Nat -> Fd) (n : Nat) : (fal F (n + 1)).map Fd.row = (fal F n).map Fd.row ++ [(F n).row] := by unfold fal; rw [List.range_succ, List.map_append, List.map_append]; rfl
theorem run_room_found (n : Nat) (hn : n <= 1000) (w : World) : (Instr.makeSlice 80 (.int .i64 0) (.int .i64 n)).run Tryz.prog w = .ok (.slice (some ⟨w.heap.size, 0, none⟩) 0 n) (w.alloc (.cells (madeCells fdZc (n * 8)) 99)) := by
 obtain ⟨i, hi, hzz⟩ := Option.map_eq_some_iff.1 Tryz.info99
 simp only [Prod.mk.injEq] at hzz
 obtain ⟨hz, hs, hb'⟩ := hzz
 have hr := run_make (P := Tryz.prog) w 80 99 i fdZv Tryz.underlying80 hi hz .i64 .i64 0 n (by omega) (by omega) (by rw [hb']; omega) (by omega)
 rw [hs, Int.toNat_natCast] at hr
 exact hr
structure AlS (w : World) (L : Ly) (C : Ch) (g : Nat) (v : Value) (F : Nat -> Fd) (k : Nat) (wr : World) : Prop where
 out : We.Ow wr w.heap.size 99 8 v ((fal F k).map Fd.row)
 chip : Chip wr L C
 tab : Pg.Tab wr
 geo : wr.heap[g]? = some (.cells #[.int .i64 C.B, .int .i64 C.P, .int .i64 C.Z] 23 (0, 0))
 below : Below w.heap.size w wr
theorem AlS.call {w L C g v F k} {wr w2 : World} (h : AlS w L C g v F k wr) (b : Below wr.heap.size wr w2) : AlS w L C g v F k w2 :=
 ⟨h.out.call b, h.chip.call b, h.tab.call b, (b.block g (Array.getElem?_eq_some_iff.1 h.geo).1).trans h.geo, below3 h.below b⟩
theorem AlS.cells {w L C g v F k} {wr : World} (h : AlS w L C g v F k wr) : wr.cell? ⟨g, 0, none⟩ = some (.int .i64 C.B) /\ wr.cell? ⟨g, 1, none⟩ = some (.int .i64 C.P) := by
 refine ⟨?_, ?_⟩ <;> (rw [cell_of_row wr g _ _ 23 _ h.geo]; rfl)
theorem AlS.more {w L C g v v2 F k} {wr w3 : World} (h : AlS w L C g v F k wr) (hL : ∀ i, L.own C.B i -> i < w.heap.size) (hw : 0 < w.heap.size) {r : List Value} (hr : (F k).row = r) (q1 : We.Ow w3 w.heap.size 99 8 v2 ((fal F k).map Fd.row ++ [r])) (q2 : wr.grownBy w3 v.ownBlock) : AlS w L C g v2 F (k + 1) w3 := by
 have hX : ∀ j, v.ownBlock = some j -> w.heap.size <= j := fun j hj => (h.out.lt j hj).1
 have k1 : Kp (fun i => v.ownBlock = some i) wr w3 := Kp.ofGrown q2 (fun i hi => hi)
 have hc : ∀ i, v.ownBlock = some i -> Cel wr i := fun i hi => by
  rcases h.out.own.2 with ⟨rfl, _⟩ | ⟨g', cap, cur, rfl, _, hg, _⟩
  ·cases hi
  ·obtain rfl : g' = i := by simpa [Value.ownBlock] using hi
   exact ⟨_, _, _, hg⟩
 refine ⟨by rw [fal_succ, hr]; exact q1, h.chip.off k1 (fun i hi => ⟨fun q => ?_, hc i hi⟩), Tab.off h.tab k1 (fun hi => ?_), (k1.block g (Array.getElem?_eq_some_iff.1 h.geo).1 (ow_ne_cell h.out h.geo (by decide))).trans h.geo, h.below.grown q2 h.below.size hX⟩
 ·have := hX i hi
  have := hL i q
  omega
 ·have := hX 0 hi
  omega
set_option maxRecDepth 20000 in
set_option maxHeartbeats 1000000 in
theorem all_any {w : World} {L C} (h : Chip w L C) (hT : Pg.Tab w) (hoff : C.off = false) (F : Nat -> Fd) (hF : ∀ i, i < C.B * C.P -> LkIs C i (F i)) : Calls Tryz.prog 61 #[.pointer (some ⟨L.a, 0, none⟩)] w fun e w' =>
  ∃ v, e = .returned (.tuple #[v, .int .i64 0]) /\ We.Ow w' w.heap.size 99 8 v ((fal F (C.B * C.P)).map Fd.row) /\ Below w.heap.size w w' := by
 have hgeo := h.geo
 have hL := Hid.mk (And.intro (fun i (hi : L.own C.B i) => h.lt hi) hT.1)
 have hrd : ∀ b p, b < C.B -> p < C.P -> ∃ d s : ByteArray, (F (b * C.P + p)).a = ((b * C.P + p : Nat) : Int) /\ (∀ w', Chip w' L C -> Calls Tryz.prog 82 #[.pointer (some ⟨L.a, 0, none⟩), .int .i64 b, .int .i64 p] w' fun e w'' => e = .returned (.tuple #[.string d, .string s, .int .i64 0]) /\ Below w'.heap.size w' w'') ∧
   ∀ w, Pg.Tab w -> Calls Tryz.prog 83 #[.string d, .string s] w fun e w' => e = .returned (.tuple #[.int .i64 (F (b * C.P + p)).c, Pg.tagV (F (b * C.P + p)).K (F (b * C.P + p)).S (F (b * C.P + p)).I (F (b * C.P + p)).O (F (b * C.P + p)).W, .string (F (b * C.P + p)).t]) /\ Below w.heap.size w w' := by
  intro b p hb hp
  have hlt : b * C.P + p < C.B * C.P := by
   have := Nat.mul_le_mul_right C.P (show b + 1 <= C.B by omega)
   rw [Nat.succ_mul] at this
   omega
  obtain ⟨ha, d, s, hse, hds, hss, hlk⟩ := hF _ hlt
  rw [show (b * C.P + p) / C.P = b by rw [Nat.add_comm, Nat.add_mul_div_right _ _ (by omega), Nat.div_eq_of_lt hp, Nat.zero_add], show (b * C.P + p) % C.P = p by rw [Nat.add_comm, Nat.add_mul_mod_self_right, Nat.mod_eq_of_lt hp]] at hse
  refine ⟨d, s, ha, fun w' hw => ?_, hlk⟩
  have e2 : rdV C b p = .tuple #[.string d, .string s, .int .i64 0] := by
   unfold rdV
   rw [if_pos (refP_ok hoff hb hp), Int.toNat_natCast, Int.toNat_natCast, hse, <- hds, Pg.extract_left]
   have e : d.size + 32 = (d ++ s).size := by rw [ByteArray.size_append, hss]
   rw [e, Pg.extract_right]
  have := read_any hw b p
  rw [e2] at this
  exact this
 have HR := Hid.mk hrd
 have HG := Hid.mk (fun (w : World) (h : Chip w L C) => geom_any h)
 have H0 := Hid.mk (And.intro h hT)
 have hm := Nat.mul_le_mul (show C.B <= 32 by omega) (show C.P <= 16 by omega)
 have hmI : (C.B : Int) * (C.P : Int) = ((C.B * C.P : Nat) : Int) := by rw [Int.natCast_mul]
 have hmk := run_room_found (C.B * C.P) (by omega)
 rw [<- hmI] at hmk
 have hmr : 0 <= (C.B : Int) * (C.P : Int) /\ (C.B : Int) * (C.P : Int) <= 512 := by omega
 clear h hT hF hrd hoff hmI
 go_enter Tryz.func61, Tryz.ntmps61
 go_upto_region 4 with (first
  | (go_at_call 8; refine (HG.out _ H0.out.1).mono ?_; rintro e w1 ⟨rfl, b1⟩))
 have b2 := Pg.below_one w1 (.cells #[.int .i64 (C.B : Int), .int .i64 (C.P : Int), .int .i64 (C.Z : Int)] 23)
 have hG := heap_alloc_new w1 (.cells #[.int .i64 (C.B : Int), .int .i64 (C.P : Int), .int .i64 (C.Z : Int)] 23)
 have g0 : (w1.alloc (.cells #[.int .i64 (C.B : Int), .int .i64 (C.P : Int), .int .i64 (C.Z : Int)] 23)).cell? ⟨w1.heap.size, 0, none⟩ = some (.int .i64 C.B) := by rw [cell_of_row _ _ 0 _ 23 _ hG]; rfl
 have g1 : (w1.alloc (.cells #[.int .i64 (C.B : Int), .int .i64 (C.P : Int), .int .i64 (C.Z : Int)] 23)).cell? ⟨w1.heap.size, 1, none⟩ = some (.int .i64 C.P) := by rw [cell_of_row _ _ 1 _ 23 _ hG]; rfl
 have HB := Hid.mk (And.intro (below3 b1 b2) (And.intro ((H0.out.1.call b1).call b2) (And.intro ((H0.out.2.call b1).call b2) hG)))
 clear b1 b2 H0 hG
 generalize (w1.alloc (.cells #[.int .i64 (C.B : Int), .int .i64 (C.P : Int), .int .i64 (C.Z : Int)] 23)) = W1 at *
 generalize w1.heap.size = g at *
 go_upto_region 5 with fail
 have b3 := Pg.below_one W1 (.cells (madeCells fdZc (C.B * C.P * 8)) 99)
 have o3 := room_own W1 (B := w.heap.size) HB.out.1.size fdZv 99 8 (C.B * C.P) (by omega)
 have S0 : Hid (AlS w L C g (.slice (some ⟨W1.heap.size, 0, none⟩) 0 (C.B * C.P)) F 0 (W1.alloc (.cells (madeCells fdZc (C.B * C.P * 8)) 99))) :=
  ⟨o3, HB.out.2.1.call b3, HB.out.2.2.1.call b3, (b3.block g (Array.getElem?_eq_some_iff.1 HB.out.2.2.2).1).trans HB.out.2.2.2, below3 HB.out.1 b3⟩
 obtain ⟨g0, g1⟩ := S0.out.cells
 clear b3 o3 HB hmk
 generalize (W1.alloc (.cells (madeCells fdZc (C.B * C.P * 8)) 99)) = W2 at *
 go_upto_region 6 with fail
 go_loopw [5, 26] (fun v i wr => ∃ b : Nat, b <= C.B /\ i = .int .i64 b /\ AlS w L C g v F (b * C.P) wr) (fun _ i _ => C.B - (intOf i).toNat)
 case atStart => exact ⟨0, Nat.zero_le _, rfl, by rw [Nat.zero_mul]; exact S0.out⟩
 case round =>
  clear S0 g0 g1
  obtain ⟨b, hb, rfl, hs⟩ := hrel
  by_cases hlt : b < C.B
  ·have hltI : (b : Int) < (C.B : Int) := by omega
   obtain ⟨g0, g1⟩ := hs.cells
   have HS := Hid.mk hs
   clear hs
   go_upto_region 9 with fail
   go_loopw [5, 31] (fun v i wr => ∃ p : Nat, p <= C.P /\ i = .int .i64 p /\ AlS w L C g v F (b * C.P + p) wr) (fun _ i _ => C.P - (intOf i).toNat)
   case atStart => exact ⟨0, Nat.zero_le _, rfl, by rw [Nat.add_zero]; exact HS.out⟩
   case round =>
    clear HS g0 g1
    obtain ⟨p, hp, rfl, hs⟩ := hrel
    by_cases hlp : p < C.P
    ·have hlpI : (p : Int) < (C.P : Int) := by omega
     obtain ⟨d, s, ha, hr, hl⟩ := HR.out b p hlt hlp
     have hmm := Nat.mul_le_mul (show b <= 32 by omega) (show C.P <= 16 by omega)
     have hmi : ((b * C.P + p : Nat) : Int) = (b : Int) * (C.P : Int) + (p : Int) := by rw [Int.natCast_add, Int.natCast_mul]
     have hmr2 := Lf.mul_range (a := (b : Int)) (b := (C.P : Int)) (A := 32) (B := 16) (by omega) (by omega)
     have hrow : Hid ((F (b * C.P + p)).row = [.int .i64 ((b : Int) * (C.P : Int) + (p : Int)), .int .i64 (F (b * C.P + p)).c, .int .i64 (F (b * C.P + p)).K, .int .u64 (F (b * C.P + p)).S, .int .i64 (F (b * C.P + p)).I, .int .i64 (F (b * C.P + p)).O, .int .i64 (F (b * C.P + p)).W, .string (F (b * C.P + p)).t]) := Hid.mk (by unfold Fd.row; rw [ha, hmi])
     replace hr := Hid.mk hr
     replace hl := Hid.mk hl
     generalize (F (b * C.P + p)).c = fc at *
     generalize (F (b * C.P + p)).K = fK at *
     generalize (F (b * C.P + p)).S = fS at *
     generalize (F (b * C.P + p)).I = fI at *
     generalize (F (b * C.P + p)).O = fO at *
     generalize (F (b * C.P + p)).W = fW at *
     generalize (F (b * C.P + p)).t = ft at *
     unfold Pg.tagV at hl
     obtain ⟨a5, p5, rfl⟩ := hs.out.form
     rw [List.length_map, fal_len] at hs |-
     have HS := Hid.mk hs
     clear hs ha hmi
     go_upto_region 15 with (first
      | (go_at_call 82; refine (hr.out _ HS.out.chip).mono ?_; rintro e w1 ⟨rfl, b1⟩)
      | (go_at_call 83; refine (hl.out _ (HS.out.call b1).tab).mono ?_; rintro e w2 ⟨rfl, b2⟩))
     have b3 := Pg.below_one w2 (.cells #[.int .i64 fK, .int .u64 fS, .int .i64 fI, .int .i64 fO, .int .i64 fW] 97)
     have hTB := Pg.TB.fresh w2 fK fS fI fO fW
     have hV := Hid.mk (((HS.out.call b1).call b2).call b3)
     obtain ⟨g0, g1⟩ := hV.out.cells
     clear b1 b2 b3 HS hr hl
     generalize (w2.alloc (.cells #[.int .i64 fK, .int .u64 fS, .int .i64 fI, .int .i64 fO, .int .i64 fW] 97)) = V at *
     generalize w2.heap.size = g12 at *
     obtain ⟨d0, d1, d2, d3, d4⟩ := hTB.five
     clear hTB
     go_wp2_with (first
      | (at_builtin; refine wp_app2 ei80 rfl (.tmp 52) (.tmp 63) rfl hV.out.out hV.out.below.size #[.int .i64 ((b : Int) * (C.P : Int) + (p : Int)), .int .i64 fc, .int .i64 fK, .int .u64 fS, .int .i64 fI, .int .i64 fO, .int .i64 fW, .string ft] rfl rfl rfl (by simp [Value.oneCell']) (by rw [List.length_map, fal_len]; omega) ?_; intro v2 w3 q1 q2 q3))
     exact ⟨⟨p + 1, by omega, by go_num, by rw [<- Nat.add_assoc]; exact hV.out.more hL.out.1 hL.out.2 hrow.out q1 q2⟩, by simp [intOf]; omega⟩
    ·obtain rfl : p = C.P := by omega
     have HS := Hid.mk hs
     clear hs
     go_wp2_with fail
     exact ⟨⟨b + 1, by omega, by go_num, by rw [Nat.succ_mul]; exact HS.out⟩, by simp [intOf]; omega⟩
  ·obtain rfl : b = C.B := by omega
   have HS := Hid.mk hs
   clear hs
   go_wp2_with fail
   go_ret2
   exact ⟨_, rfl, HS.out.out, HS.out.below⟩
end Go.Proofs.YtcmmhfjnhlaepabGreatDoor
namespace Go.Proofs.YtcmmhfjnhlaepabGreatDoor
open Go Go.RowKit
def FdAt (w : World) (g o : Nat) (f : Fd) : Prop := w.cell? ⟨g, o, none⟩ = some (.int .i64 f.a) /\ w.cell? ⟨g, o + 1, none⟩ = some (.int .i64 f.c) /\ w.cell? ⟨g, o + 2, none⟩ = some (.int .i64 f.K) /\ w.cell? ⟨g, o + 3, none⟩ = some (.int .u64 f.S) /\ w.cell? ⟨g, o + 4, none⟩ = some (.int .i64 f.I) /\ w.cell? ⟨g, o + 5, none⟩ = some (.int .i64 f.O) /\ w.cell? ⟨g, o + 6, none⟩ = some (.int .i64 f.W) /\ w.cell? ⟨g, o + 7, none⟩ = some (.string f.t)
def FdsF (w : World) (a : Option Addr) (l : List Fd) : Prop := ∀ j, j < l.length -> ∃ g o, a = some ⟨g, o, none⟩ /\ g < w.heap.size /\ FdAt w g (o + j * 8) (l.getD j fdZ)
theorem FdAt.same {w w' : World} {g o f} (h : FdAt w g o f) (e : w'.heap[g]? = w.heap[g]?) : FdAt w' g o f := by
 have e2 : ∀ j, w'.cell? ⟨g, j, none⟩ = w.cell? ⟨g, j, none⟩ := fun j => by unfold World.cell?; rw [e]
 unfold FdAt
 simp only [e2]
 exact h
theorem FdsF.same {w w' : World} {a l} (h : FdsF w a l) (hs : w.heap.size <= w'.heap.size) (e : ∀ g o, a = some ⟨g, o, none⟩ -> w'.heap[g]? = w.heap[g]?) : FdsF w' a l := by
 intro j hj
 obtain ⟨g, o, ha, hg, hf⟩ := h j hj
 exact ⟨g, o, ha, Nat.lt_of_lt_of_le hg hs, hf.same (e g o ha)⟩
theorem FdsF.below {w w' : World} {a l} (h : FdsF w a l) (b : Below w.heap.size w w') : FdsF w' a l := by
 intro j hj
 obtain ⟨g, o, ha, hg, hf⟩ := h j hj
 exact ⟨g, o, ha, Nat.lt_of_lt_of_le hg b.size, hf.same (b.block g hg)⟩
theorem FdsF.of {w : World} {B a n cap} {l : List Fd} (h : We.Ow w B 99 8 (.slice a n cap) (l.map Fd.row)) : FdsF w a l := by
 intro j hj
 obtain ⟨g, ha, hg, hc⟩ := Ow.fd h hj rfl
 exact ⟨g, 0, ha, hg, by rw [Nat.zero_add]; exact hc⟩
theorem FdsF.tail {w : World} {g o : Nat} {l : List Fd} (h : FdsF w (some ⟨g, o, none⟩) l) (k : Nat) : FdsF w (some ⟨g, o + k * 8, none⟩) (l.drop k) := by
 intro j hj
 rw [List.length_drop] at hj
 obtain ⟨g', o', ha, hg, hf⟩ := h (k + j) (by omega)
 obtain ⟨rfl, rfl⟩ : g = g' /\ o = o' := by simpa using ha
 refine ⟨g, o + k * 8, rfl, hg, ?_⟩
 have e1 : (l.drop k).getD j fdZ = l.getD (k + j) fdZ := by simp [List.getD_eq_getElem?_getD]
 rw [e1, show o + k * 8 + j * 8 = o + (k + j) * 8 by omega]
 exact hf
theorem take_fd (l : List Fd) (k : Nat) (h : k < l.length) : l.take (k + 1) = l.take k ++ [l.getD k fdZ] := by
 rw [List.take_succ_eq_append_getElem h]
 simp [List.getD_eq_getElem?_getD, h]
set_option maxHeartbeats 1000000 in
theorem gatherF (a : Option Addr) (cap : Nat) (l : List Fd) (w : World) (h : FdsF w a l) (hlen : l.length <= 1000) : Calls Tryz.prog 175 #[.slice a l.length cap, .func (.func 176) #[] #[]] w fun e w' =>
  ∃ v', e = .returned v' /\ We.Ow w' w.heap.size 9 1 v' (txR l) /\ Below w.heap.size w w' := by
 have H := Hid.mk h
 clear h
 generalize hn : l.length = len at *
 have hmk := run_room Tryz.underlying76 Tryz.info9 (by omega) len (by omega)
 go_enter Tryz.func175, Tryz.ntmps175
 go_upto_region 3 with fail
 have O0 := room_own w (Nat.le_refl _) (.string ⟨#[]⟩) 9 1 len (by omega)
 rw [Nat.mul_one] at O0
 replace O0 : Hid (We.Ow (w.alloc (.cells (madeCells #[.string ⟨#[]⟩] len) 9)) w.heap.size 9 1 (.slice (some ⟨w.heap.size, 0, none⟩) 0 len) []) := O0
 have B0 := Hid.mk (Pg.below_one w (.cells (madeCells #[.string ⟨#[]⟩] len) 9))
 generalize (w.alloc (.cells (madeCells #[.string ⟨#[]⟩] len) 9)) = W at *
 clear hmk
 go_loopw [5, 13] (fun v i wr => ∃ k : Nat, k <= len /\ i = .int .i64 k /\ We.Ow wr w.heap.size 9 1 v (txR (l.take k)) /\ Below w.heap.size w wr) (fun _ i _ => len - (intOf i).toNat)
 case atStart => exact ⟨0, Nat.zero_le _, rfl, O0.out, B0.out⟩
 case round =>
  clear O0 B0
  obtain ⟨k, hk, rfl, ho, hb⟩ := hrel
  by_cases hlt : k < len
  ·have hltl : k < l.length := by rw [hn]; exact hlt
   have hll := H.out.below hb k hltl
   have htk : txR (l.take (k + 1)) = txR (l.take k) ++ [[.string (l.getD k fdZ).t]] := by
    rw [take_fd l k hltl]
    simp [txR]
   generalize l.getD k fdZ = f at *
   have htl : (txR (l.take k)).length = k := by simp [txR]; omega
   obtain ⟨g, o, rfl, hg, c0, c1, c2, c3, c4, c5, c6, c7⟩ := hll
   obtain ⟨a5, p5, rfl⟩ := ho.form
   rw [htl] at ho |-
   have HS := Hid.mk (And.intro ho hb)
   have htx := Hid.mk (fun w => text_of k f w)
   replace htk := Hid.mk htk
   clear ho hb
   go_wp2_with (first
    | (go_at_call 176; refine (htx.out _).mono ?_; rintro e w1 ⟨rfl, b1⟩)
    | (at_builtin; refine We.wp_app ei76 rfl (.tmp 18) (.tmp 23) rfl ((HS.out.1.call (Pg.below_one wr _)).call b1) (below3 (below3 HS.out.2 (Pg.below_one wr _)) b1).size #[.string f.t] rfl rfl rfl (by simp [Value.oneCell']) (by omega) ?_; intro v2 w3 q1 q2 q3))
   have r2 := below3 (below3 HS.out.2 (Pg.below_one wr _)) b1
   have r3 := (HS.out.1.call (Pg.below_one wr _)).call b1
   exact ⟨⟨k + 1, by omega, by go_num, by rw [htk.out]; exact q1, r2.grown q2 r2.size (fun j hj => (r3.lt j hj).1)⟩, by simp [intOf]; omega⟩
  ·obtain rfl : k = len := by omega
   rw [List.take_of_length_le (by omega)] at ho
   have HS := Hid.mk (And.intro ho hb)
   clear ho hb
   go_wp2_with fail
   go_ret
   exact ⟨_, rfl, HS.out.1, HS.out.2⟩
theorem textsF (a : Option Addr) (cap : Nat) (l : List Fd) (w : World) (h : FdsF w a l) (hlen : l.length <= 1000) : Calls Tryz.prog 134 #[.slice a l.length cap] w fun e w' =>
  ∃ v', e = .returned v' /\ We.Ow w' w.heap.size 9 1 v' (txR l) /\ Below w.heap.size w w' := by
 have hq := Hid.mk (gatherF a cap l w h hlen)
 clear h
 go_enter Tryz.func134, Tryz.ntmps134
 go_wp2_with (first | (go_at_call 175; refine hq.out.mono ?_; rintro e w1 ⟨v', rfl, o1, b1⟩))
 go_ret
 exact ⟨_, rfl, o1, b1⟩
def grt (l : List Fd) : Int := l.foldl (fun m f => if f.c = 1 then max m f.S else m) 0
theorem grt_snoc (l : List Fd) (f : Fd) : grt (l ++ [f]) = if f.c = 1 then max (grt l) f.S else grt l := by unfold grt; rw [List.foldl_append]; rfl
theorem greatest_any (a : Option Addr) (cap : Nat) (l : List Fd) (w : World) (h : FdsF w a l) (hlen : l.length <= 1000) : Calls Tryz.prog 77 #[.slice a l.length cap] w fun e w' => e = .returned (.int .u64 (grt l)) /\ Below w.heap.size w w' := by
 have H := Hid.mk h
 clear h
 generalize hn : l.length = len at *
 go_enter Tryz.func77, Tryz.ntmps77
 go_upto_region 3 with fail
 go_loopw [3, 8] (fun m i wr => ∃ k : Nat, k <= len /\ i = .int .i64 k /\ m = .int .u64 (grt (l.take k)) /\ Below w.heap.size w wr) (fun _ i _ => len - (intOf i).toNat)
 case atStart => exact ⟨0, Nat.zero_le _, rfl, rfl, Below.refl _ _⟩
 case round =>
  obtain ⟨k, hk, rfl, rfl, hb⟩ := hrel
  by_cases hlt : k < len
  ·have hltl : k < l.length := by rw [hn]; exact hlt
   have hll := H.out.below hb k hltl
   have hgk : grt (l.take (k + 1)) = if (l.getD k fdZ).c = 1 then max (grt (l.take k)) (l.getD k fdZ).S else grt (l.take k) := by rw [take_fd l k hltl, grt_snoc]
   generalize l.getD k fdZ = f at *
   generalize grt (l.take k) = m at *
   obtain ⟨fa, fc, fK, fS, fI, fO, fW, ft⟩ := f
   obtain ⟨g, o, rfl, hg, c0, c1, c2, c3, c4, c5, c6, c7⟩ := hll
   dsimp only at c0 c1 c2 c3 c4 c5 c6 c7 hgk
   have hfr := Fd8.fresh wr ⟨fa, fc, fK, fS, fI, fO, fW, ft⟩
   dsimp only at hfr
   have hb2 := Hid.mk (below3 hb (Pg.below_one wr (.cells #[.int .i64 fa, .int .i64 fc, .int .i64 fK, .int .u64 fS, .int .i64 fI, .int .i64 fO, .int .i64 fW, .string ft] 99)))
   replace hgk := Hid.mk hgk
   clear hb
   go_upto_region 5 with fail
   obtain ⟨d0, d1, d2, d3, d4, d5, d6, d7⟩ := hfr
   dsimp only at d0 d1 d2 d3 d4 d5 d6 d7
   clear c0 c1 c2 c3 c4 c5 c6 c7
   generalize (wr.alloc (.cells #[.int .i64 fa, .int .i64 fc, .int .i64 fK, .int .u64 fS, .int .i64 fI, .int .i64 fO, .int .i64 fW, .string ft] 99)) = V at *
   generalize wr.heap.size = g5 at *
   by_cases h1 : fc = 1
   ·subst h1
    rw [if_pos rfl] at hgk
    go_wp2_with fail
    exact ⟨⟨k + 1, by omega, by go_num, by rw [hgk.out], hb2.out⟩, by simp [intOf]; omega⟩
   ·rw [if_neg h1] at hgk
    have hcb : (fc == 1) = false := by simpa using h1
    go_wp2_with fail
    exact ⟨⟨k + 1, by omega, by go_num, by rw [hgk.out], hb2.out⟩, by simp [intOf]; omega⟩
  ·obtain rfl : k = len := by omega
   rw [List.take_of_length_le (by omega)]
   have hb2 := Hid.mk hb
   clear hb
   go_wp2_with fail
   go_ret
   exact ⟨rfl, hb2.out⟩
theorem size70f (w : World) : (Go.sizeOf 99).run Tryz.prog w = .ok 8 w := by kernel_rfl
theorem cut_from {a : Option Addr} (l : List Fd) (n cap m : Nat) (hm : m <= n) (hn : n <= cap) (hl : l.length = n) : ∃ a' : Option Addr, (∀ w, (Instr.slice 80 (.slice a n cap) (some (.int .i64 (m : Int))) none none).run Tryz.prog w = .ok (.slice a' (n - m) (cap - m)) w) /\ (∀ w, FdsF w a l -> FdsF w a' (l.drop m)) /\ a'.map Addr.block = a.map Addr.block := by
 have ht' : Tryz.prog.underlying 80 = some (.slice (Tryz.prog.elem 80)) := by simp [Program.elem, Tryz.underlying80]
 have he : Tryz.prog.elem 80 = 99 := by simp [Program.elem, Tryz.underlying80]
 have hr : ∀ w, (Instr.slice 80 (.slice a n cap) (some (.int .i64 (m : Int))) none none).run Tryz.prog w = _ := fun w => by rw [run_slice_l w 80 _ _ _ ht' .i64 _ (by omega) (by omega), he, size70f]
 by_cases hc : m < n
 ·cases a with
  | none =>
   refine ⟨none, fun w => ?_, fun w h => ?_, rfl⟩
   ·rw [hr]
    simp [Result.andThen, sliced]
   ·obtain ⟨g, o, q, _⟩ := h 0 (by omega)
    cases q
  | some x =>
   refine ⟨some (x.add (m * 8)), fun w => ?_, fun w h => ?_, ?_⟩
   ·rw [hr]
    simp [Result.andThen, sliced]
    omega
   ·obtain ⟨g, o, q, _⟩ := h 0 (by omega)
    obtain rfl : x = ⟨g, o, none⟩ := by simpa using q
    have := h.tail m
    have e : (⟨g, o, none⟩ : Addr).add (m * 8) = ⟨g, o + m * 8, none⟩ := by unfold Addr.add; split <;> simp_all
    rw [e]
    exact this
   ·unfold Addr.add; simp only [Option.map_some]; split <;> rfl
 ·obtain rfl : m = n := by omega
  cases a with
  | none =>
   refine ⟨none, fun w => ?_, fun w h j hj => ?_, rfl⟩
   ·rw [hr]
    simp [Result.andThen, sliced]
   ·rw [List.length_drop] at hj
    omega
  | some x =>
   by_cases hcap : cap = m
   ·refine ⟨some x, fun w => ?_, fun w h j hj => ?_, rfl⟩
    ·rw [hr]
     simp [Result.andThen, sliced, hcap]
    ·rw [List.length_drop] at hj
     omega
   ·refine ⟨some (x.add (m * 8)), fun w => ?_, fun w h j hj => ?_, ?_⟩
    ·rw [hr]
     simp [Result.andThen, sliced]
     omega
    ·rw [List.length_drop] at hj
     omega
    ·unfold Addr.add; simp only [Option.map_some]; split <;> rfl
theorem groupLen_one (g o n cap : Nat) (f : Fd) (w : World) (hg : g < w.heap.size) (h : FdAt w g o f) (hO : f.O = 1) (hI : f.I = 0) (hn : 1 <= n /\ n <= 1000) (hc : n <= cap) (hS : U64 f.S) : Calls Tryz.prog 80 #[.slice (some ⟨g, o, none⟩) n cap] w fun e w' => e = .returned (.tuple #[.int .i64 1, .bool true]) /\ Below w.heap.size w w' := by
 obtain ⟨fa, fc, fK, fS, fI, fO, fW, ft⟩ := f
 dsimp only at hO hI hS
 subst hO hI
 have H := Hid.mk h
 obtain ⟨c0, c1, c2, c3, c4, c5, c6, c7⟩ := h
 dsimp only at c0 c1 c2 c3 c4 c5 c6 c7
 have hto : ∀ w, (Instr.slice 80 (.slice (some ⟨g, o, none⟩) n cap) none (some (.int .i64 1)) none).run Tryz.prog w = .ok (.slice (some ⟨g, o, none⟩) 1 cap) w := fun w => cut_to Tryz.underlying80 size70f (.inl rfl) n cap 1 (by omega) w
 go_enter Tryz.func80, Tryz.ntmps80
 go_upto_region 2 with fail
 have hT := Pg.TB.fresh w fK fS 0 1 fW
 have b1 := Pg.below_one w (.cells #[.int .i64 fK, .int .u64 fS, .int .i64 0, .int .i64 1, .int .i64 fW] 97)
 have HB : Hid (FdAt (w.alloc (.cells #[.int .i64 fK, .int .u64 fS, .int .i64 0, .int .i64 1, .int .i64 fW] 97)) g o ⟨fa, fc, fK, fS, 0, 1, fW, ft⟩) := H.out.same (b1.block g hg)
 have hg2 : g < (w.alloc (.cells #[.int .i64 fK, .int .u64 fS, .int .i64 0, .int .i64 1, .int .i64 fW] 97)).heap.size := Nat.lt_of_lt_of_le hg b1.size
 have HT := Hid.mk (And.intro hT (And.intro b1 (And.intro hT.lt hg2)))
 obtain ⟨d0, d1, d2, d3, d4⟩ := hT.five
 clear c0 c1 c2 c3 c4 c5 c6 c7 H hT b1 hg2
 generalize (w.alloc (.cells #[.int .i64 fK, .int .u64 fS, .int .i64 0, .int .i64 1, .int .i64 fW] 97)) = W at *
 generalize hg4 : w.heap.size = g4 at *
 replace hg4 := Hid.mk hg4
 have hlen : (1 : Int) <= (n : Int) := by omega
 go_upto_region 5 with fail
 clear d0 d1 d2 d3 d4
 go_loopw [26] (fun i wr => ∃ k : Nat, k <= 1 /\ i = .int .i64 k /\ Below W.heap.size W wr) (fun i _ => 1 - (intOf i).toNat)
 case atStart => exact ⟨0, Nat.zero_le _, rfl, Below.refl _ _⟩
 case round =>
  obtain ⟨k, hk, rfl, hb⟩ := hrel
  have hT1 := HT.out.1.call hb
  obtain ⟨d0, d1, d2, d3, d4⟩ := hT1.five
  by_cases h0 : k = 0
  ·subst h0
   obtain ⟨c0, c1, c2, c3, c4, c5, c6, c7⟩ := HB.out.same (hb.block g HT.out.2.2.2)
   dsimp only at c0 c1 c2 c3 c4 c5 c6 c7
   have hfr := Fd8.fresh wr ⟨fa, fc, fK, fS, 0, 1, fW, ft⟩
   dsimp only at hfr
   have b2 := Pg.below_one wr (.cells #[.int .i64 fa, .int .i64 fc, .int .i64 fK, .int .u64 fS, .int .i64 0, .int .i64 1, .int .i64 fW, .string ft] 99)
   have hT2 := hT1.call b2
   obtain ⟨t0, t1, t2, t3, t4⟩ := hT2.five
   have hb2 := Hid.mk (below3 hb b2)
   obtain ⟨e0, e1, e2, e3, e4, e5, e6, e7⟩ := hfr
   dsimp only at e0 e1 e2 e3 e4 e5 e6 e7
   clear hb hT1 hT2 b2
   go_upto_region 7 with fail
   clear c0 c1 c2 c3 c4 c5 c6 c7 d0 d1 d2 d3 d4
   generalize (wr.alloc (.cells #[.int .i64 fa, .int .i64 fc, .int .i64 fK, .int .u64 fS, .int .i64 0, .int .i64 1, .int .i64 fW, .string ft] 99)) = V at *
   generalize wr.heap.size = g6 at *
   have hw0 : IntKind.u64.wrap fS = fS := by unfold U64 at hS; rw [IntKind.wrap_u64]; omega
   go_wp2_with fail
   exact ⟨⟨1, by omega, by go_num, hb2.out⟩, by simp [intOf]⟩
  ·obtain rfl : k = 1 := by omega
   have hb2 := Hid.mk hb
   clear hb hT1
   go_wp2_with fail
   go_ret2
   have hb3 := HT.out.2.1
   rw [<- hg4.out] at hb3
   exact ⟨rfl, below3 hb3 hb2.out⟩
end Go.Proofs.YtcmmhfjnhlaepabGreatDoor
namespace Go.Proofs.YtcmmhfjnhlaepabGreatDoor
open Go Go.RowKit
theorem nan_any (x : Int) (w : World) : Calls Tryz.prog 178 #[.int .u64 x] w fun e w' => e = .returned (.bool false) /\ w' = w := by
 go_enter Tryz.func178, Tryz.ntmps178
 go_wp2_with fail
 go_ret
 exact ⟨rfl, rfl⟩
theorem cmp_gt (x y : Int) (h : y < x) (w : World) : Calls Tryz.prog 137 #[.int .u64 x, .int .u64 y] w fun e w' => e = .returned (.int .i64 1) /\ w' = w := by
 have h1 : ¬ x < y := by omega
 go_enter Tryz.func137, Tryz.ntmps137
 go_wp2_with (first | (go_at_call 178; refine (nan_any _ _).mono ?_; rintro e w' ⟨rfl, rfl⟩))
 go_ret
 exact ⟨rfl, rfl⟩
theorem bySeq_gt (f f' : Fd) (h : f'.S < f.S) (w : World) : Calls Tryz.prog 136 #[f.val, f'.val] w fun e w' => e = .returned (.int .i64 1) /\ Below w.heap.size w w' := by
 obtain ⟨a, c, K, S, I, O, W, t⟩ := f
 obtain ⟨a', c', K', S', I', O', W', t'⟩ := f'
 dsimp only at h
 unfold Fd.val
 dsimp only
 have hb := Hid.mk (below3 (Pg.below_one w (.cells #[.int .i64 a, .int .i64 c, .int .i64 K, .int .u64 S, .int .i64 I, .int .i64 O, .int .i64 W, .string t] 99)) (Pg.below_one (w.alloc (.cells #[.int .i64 a, .int .i64 c, .int .i64 K, .int .u64 S, .int .i64 I, .int .i64 O, .int .i64 W, .string t] 99)) (.cells #[.int .i64 a', .int .i64 c', .int .i64 K', .int .u64 S', .int .i64 I', .int .i64 O', .int .i64 W', .string t'] 99)))
 go_enter Tryz.func136, Tryz.ntmps136
 go_wp2_with (first | (go_at_call 137; refine (cmp_gt _ _ h _).mono ?_; rintro e w' ⟨rfl, rfl⟩))
 go_ret
 exact ⟨rfl, hb.out⟩
def Rising (l : List Fd) : Prop := ∀ j, j + 1 < l.length -> (l.getD j fdZ).S < (l.getD (j + 1) fdZ).S
def Two8 (g o o' : Nat) (f f' : Fd) (w' : World) : Prop := (w'.cell? ⟨g, o, none⟩ = some (.int .i64 f.a) /\ w'.cell? ⟨g, o + 1, none⟩ = some (.int .i64 f.c) /\ w'.cell? ⟨g, o + 2, none⟩ = some (.int .i64 f.K) /\ w'.cell? ⟨g, o + 3, none⟩ = some (.int .u64 f.S) /\ w'.cell? ⟨g, o + 4, none⟩ = some (.int .i64 f.I) /\ w'.cell? ⟨g, o + 5, none⟩ = some (.int .i64 f.O) /\ w'.cell? ⟨g, o + 6, none⟩ = some (.int .i64 f.W) /\ w'.cell? ⟨g, o + 7, none⟩ = some (.string f.t)) ∧
 (w'.cell? ⟨g, o', none⟩ = some (.int .i64 f'.a) /\ w'.cell? ⟨g, o' + 1, none⟩ = some (.int .i64 f'.c) /\ w'.cell? ⟨g, o' + 2, none⟩ = some (.int .i64 f'.K) /\ w'.cell? ⟨g, o' + 3, none⟩ = some (.int .u64 f'.S) /\ w'.cell? ⟨g, o' + 4, none⟩ = some (.int .i64 f'.I) /\ w'.cell? ⟨g, o' + 5, none⟩ = some (.int .i64 f'.O) /\ w'.cell? ⟨g, o' + 6, none⟩ = some (.int .i64 f'.W) /\ w'.cell? ⟨g, o' + 7, none⟩ = some (.string f'.t))
set_option maxRecDepth 20000 in
set_option maxHeartbeats 1000000 in
theorem insert_rising (a : Option Addr) (cap : Nat) (l : List Fd) (w : World) (h : FdsF w a l) (hr : Rising l) (hlen : l.length <= 1000) : Calls Tryz.prog 208 #[.slice a l.length cap, .int .i64 0, .int .i64 l.length, .func (.func 136) #[] #[]] w fun e w' => e = .returned (.tuple #[]) /\ Below w.heap.size w w' := by
 have H := Hid.mk (And.intro h hr)
 clear h hr
 generalize hn : l.length = len at *
 replace hn := Hid.mk hn
 go_enter Tryz.func208, Tryz.ntmps208
 go_upto_region 1 with fail
 go_loopw [8] (fun i wr => ∃ k : Nat, 1 <= k /\ (k <= len \/ k = 1) /\ i = .int .i64 k /\ Below w.heap.size w wr) (fun i _ => len - (intOf i).toNat)
 case atStart => exact ⟨1, Nat.le_refl _, .inr rfl, rfl, Below.refl _ _⟩
 case round =>
  obtain ⟨k, hk1, hk, rfl, hb⟩ := hrel
  by_cases hlt : k < len
  ·obtain ⟨j, hkj⟩ : ∃ j, k = j + 1 := ⟨k - 1, by omega⟩
   obtain ⟨g, o, rfl, hg, hf⟩ := H.out.1.below hb k (by rw [hn.out]; exact hlt)
   obtain ⟨g', o', hq, _, hf'⟩ := H.out.1.below hb j (by rw [hn.out]; omega)
   obtain ⟨rfl, rfl⟩ : g = g' /\ o = o' := by simpa using hq
   have hlt2 := H.out.2 j (by rw [hn.out]; omega)
   rw [<- hkj] at hlt2
   generalize l.getD k fdZ = f at *
   generalize l.getD j fdZ = f' at *
   have hcmp := Hid.mk (fun w => bySeq_gt f f' hlt2 w)
   have kS : Hid (∀ w', Below wr.heap.size wr w' -> Below wr.heap.size wr w' /\ Two8 g (o + k * 8) (o + j * 8) f f' w') := fun w' b => ⟨b, hf.same (b.block g hg), hf'.same (b.block g hg)⟩
   have hb2 := Hid.mk hb
   have hkI : (k : Int) < (len : Int) := by omega
   have hk0 : (0 : Int) < (k : Int) := by omega
   have hjI : (j : Int) < (len : Int) := by omega
   have hsub : IntKind.i64.wrap ((k : Int) - 1) = (j : Int) := by rw [IntKind.wrap_i64]; omega
   have hd : decide ((0 : Int) < (k : Int)) = true := decide_eq_true hk0
   have hd2 : decide (0 < k) = true := decide_eq_true (by omega)
   replace hkj := Hid.mk hkj
   clear hf hf' hb hq hlt2
   unfold Two8 at kS
   go_upto_region 4 with fail
   go_loopw [9] (fun v wx => v = .int .i64 (k : Int) /\ Below wr.heap.size wr wx) (fun _ _ => 0)
   case atStart => exact ⟨rfl, Below.refl _ _⟩
   case round =>
    obtain ⟨rfl, hb3⟩ := hrel
    have kT := Hid.mk (fun w' (b : Below wr.heap.size wr w') => And.intro b (kS.out w' (below3 hb3 b)).2)
    replace hb3 := Hid.mk hb3
    go_upto_region 4 with fail
    go_region_held3 (fun w' => Below wr.heap.size wr w' /\ (w'.cell? ⟨g, o + k * 8, none⟩ = some (.int .i64 f.a) /\ w'.cell? ⟨g, o + k * 8 + 1, none⟩ = some (.int .i64 f.c) /\ w'.cell? ⟨g, o + k * 8 + 2, none⟩ = some (.int .i64 f.K) /\ w'.cell? ⟨g, o + k * 8 + 3, none⟩ = some (.int .u64 f.S) /\ w'.cell? ⟨g, o + k * 8 + 4, none⟩ = some (.int .i64 f.I) /\ w'.cell? ⟨g, o + k * 8 + 5, none⟩ = some (.int .i64 f.O) /\ w'.cell? ⟨g, o + k * 8 + 6, none⟩ = some (.int .i64 f.W) /\ w'.cell? ⟨g, o + k * 8 + 7, none⟩ = some (.string f.t)) /\ (w'.cell? ⟨g, o + j * 8, none⟩ = some (.int .i64 f'.a) /\ w'.cell? ⟨g, o + j * 8 + 1, none⟩ = some (.int .i64 f'.c) /\ w'.cell? ⟨g, o + j * 8 + 2, none⟩ = some (.int .i64 f'.K) /\ w'.cell? ⟨g, o + j * 8 + 3, none⟩ = some (.int .u64 f'.S) /\ w'.cell? ⟨g, o + j * 8 + 4, none⟩ = some (.int .i64 f'.I) /\ w'.cell? ⟨g, o + j * 8 + 5, none⟩ = some (.int .i64 f'.O) /\ w'.cell? ⟨g, o + j * 8 + 6, none⟩ = some (.int .i64 f'.W) /\ w'.cell? ⟨g, o + j * 8 + 7, none⟩ = some (.string f'.t)))
     (first | assumption | exact kT.out _ (Below.refl _ wr).drew | exact kT.out _ (below3 (And.left (by assumption)) (by assumption)) | exact kT.out _ (below3 (Below.refl _ wr).drew (by assumption)) | fail)
     (first | (go_at_call 136; refine (hcmp.out _).mono ?_; rintro e w5 ⟨rfl, b5⟩))
    have hb5 : Hid (Below wr.heap.size wr w5) := (by assumption : _ /\ _).1
    have hb6 := Hid.mk (below3 hb2.out (below3 hb3.out hb5.out))
    clear hb5
    go_wp2_with fail
    exact ⟨⟨k + 1, by omega, by omega, by go_num, hb6.out⟩, by simp [intOf]; omega⟩
  ·have hb2 := Hid.mk hb
   clear hb
   have hge : ¬ (k : Int) < (len : Int) := by omega
   go_wp2_with fail
   go_end0
   exact ⟨rfl, hb2.out⟩
theorem stable_rising (a : Option Addr) (cap : Nat) (l : List Fd) (w : World) (h : FdsF w a l) (hr : Rising l) (hlen : l.length <= 19) : Calls Tryz.prog 177 #[.slice a l.length cap, .int .i64 l.length, .func (.func 136) #[] #[]] w fun e w' => e = .returned (.tuple #[]) /\ Below w.heap.size w w' := by
 have hi := Hid.mk (insert_rising a cap l w h hr (by omega))
 clear h hr
 generalize l.length = len at *
 have h1 : ¬ (20 : Int) <= (len : Int) := by omega
 have h2 : ¬ (20 : Int) < (len : Int) := by omega
 go_enter Tryz.func177, Tryz.ntmps177
 go_upto_region 2 with fail
 go_loopw [7, 8] (fun x y wr => x = .int .i64 0 /\ y = .int .i64 20 /\ wr = w) (fun _ _ _ => 0)
 case atStart => exact ⟨rfl, rfl, rfl⟩
 case round =>
  obtain ⟨rfl, rfl, rfl⟩ := hrel
  go_upto_region 7 with (first | (go_at_call 208; refine hi.out.mono ?_; rintro e w1 ⟨rfl, b1⟩))
  replace b1 := Hid.mk b1
  go_loopw [6] (fun x wr => x = .int .i64 20 /\ wr = w1) (fun _ _ => 0)
  case atStart => exact ⟨rfl, rfl⟩
  case round =>
   obtain ⟨rfl, rfl⟩ := hrel
   go_wp2_with fail
   go_end0
   exact ⟨rfl, b1.out⟩
theorem sort_rising (a : Option Addr) (cap : Nat) (l : List Fd) (w : World) (h : FdsF w a l) (hr : Rising l) (hlen : l.length <= 19) : Calls Tryz.prog 135 #[.slice a l.length cap, .func (.func 136) #[] #[]] w fun e w' => e = .returned (.tuple #[]) /\ Below w.heap.size w w' := by
 have hi := Hid.mk (stable_rising a cap l w h hr hlen)
 clear h hr
 generalize l.length = len at *
 go_enter Tryz.func135, Tryz.ntmps135
 go_wp2_with (first | (go_at_call 177; refine hi.out.mono ?_; rintro e w1 ⟨rfl, b1⟩))
 go_end0
 exact ⟨rfl, b1⟩
def isJ (chk : Int) (f : Fd) : Bool := decide (f.c = 1 /\ f.K = 2 /\ chk < f.S)
def jrn (chk : Int) (l : List Fd) : List Fd := l.filter (isJ chk)
theorem jrn_snoc (chk : Int) (l : List Fd) (f : Fd) : jrn chk (l ++ [f]) = jrn chk l ++ if isJ chk f = true then [f] else [] := by
 unfold jrn
 rw [List.filter_append]
 by_cases h : isJ chk f = true
 ·rw [if_pos h, List.filter_cons_of_pos h]; rfl
 ·rw [if_neg h, List.filter_cons_of_neg h]; rfl
theorem jrn_le (chk : Int) (l : List Fd) : (jrn chk l).length <= l.length := List.length_filter_le _ _
set_option maxRecDepth 20000 in
set_option maxHeartbeats 1000000 in
theorem journal_any (a : Option Addr) (cap : Nat) (l : List Fd) (chk : Int) (w : World) (h : FdsF w a l) (hlen : l.length <= 1000) (hj : (jrn chk l).length <= 19) (hr : Rising (jrn chk l)) : Calls Tryz.prog 79 #[.slice a l.length cap, .int .u64 chk] w fun e w' =>
  ∃ v, e = .returned v /\ We.Ow w' w.heap.size 99 8 v ((jrn chk l).map Fd.row) /\ Below w.heap.size w w' := by
 have H := Hid.mk h
 have HJ := Hid.mk (And.intro hj hr)
 clear h hj hr
 generalize hn : l.length = len at *
 go_enter Tryz.func79, Tryz.ntmps79
 go_upto_region 3 with fail
 go_loopw [5, 10] (fun v i wr => ∃ k : Nat, k <= len /\ i = .int .i64 k /\ We.Ow wr w.heap.size 99 8 v ((jrn chk (l.take k)).map Fd.row) /\ Below w.heap.size w wr) (fun _ i _ => len - (intOf i).toNat)
 case atStart => exact ⟨0, Nat.zero_le _, rfl, We.Ow.nil _ _ _ _, Below.refl _ _⟩
 case round =>
  obtain ⟨k, hk, rfl, hs⟩ := hrel
  by_cases hlt : k < len
  ·have hltl : k < l.length := by rw [hn]; exact hlt
   have hll := H.out.below hs.2 k hltl
   have hjk : jrn chk (l.take (k + 1)) = jrn chk (l.take k) ++ if isJ chk (l.getD k fdZ) = true then [l.getD k fdZ] else [] := by rw [take_fd l k hltl, jrn_snoc]
   have hjl := jrn_le chk (l.take k)
   rw [List.length_take] at hjl
   generalize l.getD k fdZ = f at *
   generalize jrn chk (l.take k) = J at *
   obtain ⟨fa, fc, fK, fS, fI, fO, fW, ft⟩ := f
   obtain ⟨g, o, rfl, hg, c0, c1, c2, c3, c4, c5, c6, c7⟩ := hll
   dsimp only at c0 c1 c2 c3 c4 c5 c6 c7
   have hfr := Fd8.fresh wr ⟨fa, fc, fK, fS, fI, fO, fW, ft⟩
   have b1 := Pg.below_one wr (.cells #[.int .i64 fa, .int .i64 fc, .int .i64 fK, .int .u64 fS, .int .i64 fI, .int .i64 fO, .int .i64 fW, .string ft] 99)
   have hs2 := Hid.mk (And.intro (hs.1.call b1) (below3 hs.2 b1))
   obtain ⟨a5, p5, rfl⟩ := hs.1.form
   rw [List.length_map] at hs2 |-
   obtain ⟨d0, d1, d2, d3, d4, d5, d6, d7⟩ := hfr
   dsimp only at d0 d1 d2 d3 d4 d5 d6 d7
   clear hs b1
   by_cases h1 : fc = 1
   ·by_cases h2 : fK = 2
    ·by_cases h3 : chk < fS
     ·subst h1 h2
      rw [if_pos (show isJ chk _ = true from decide_eq_true ⟨rfl, rfl, h3⟩)] at hjk
      replace hjk := Hid.mk hjk
      go_upto_region 5 with fail
      clear c0 c1 c2 c3 c4 c5 c6 c7
      generalize (wr.alloc (.cells #[.int .i64 fa, .int .i64 1, .int .i64 2, .int .u64 fS, .int .i64 fI, .int .i64 fO, .int .i64 fW, .string ft] 99)) = V at *
      generalize wr.heap.size = g7 at *
      go_wp2_with (first
       | (at_builtin; refine wp_app2 ei80 rfl (.tmp 30) (.tmp 32) rfl hs2.out.1 hs2.out.2.size #[.int .i64 fa, .int .i64 1, .int .i64 2, .int .u64 fS, .int .i64 fI, .int .i64 fO, .int .i64 fW, .string ft] rfl rfl rfl (by simp [Value.oneCell']) (by rw [List.length_map]; omega) ?_; intro v2 w3 q1 q2 q3))
      refine ⟨⟨k + 1, by omega, by go_num, ?_, hs2.out.2.grown q2 hs2.out.2.size (fun j hj => (hs2.out.1.lt j hj).1)⟩, by simp [intOf]; omega⟩
      rw [hjk.out, List.map_append]
      exact q1
     ·rw [if_neg (fun q => h3 (of_decide_eq_true q).2.2)] at hjk
      subst h1 h2
      replace hjk := Hid.mk hjk
      go_upto_region 5 with fail
      clear c0 c1 c2 c3 c4 c5 c6 c7
      generalize (wr.alloc (.cells #[.int .i64 fa, .int .i64 1, .int .i64 2, .int .u64 fS, .int .i64 fI, .int .i64 fO, .int .i64 fW, .string ft] 99)) = V at *
      generalize wr.heap.size = g7 at *
      go_wp2_with fail
      exact ⟨⟨k + 1, by omega, by go_num, by rw [hjk.out, List.append_nil]; exact hs2.out.1, hs2.out.2⟩, by simp [intOf]; omega⟩
    ·rw [if_neg (fun q => h2 (of_decide_eq_true q).2.1)] at hjk
     subst h1
     have hKb : (fK == 2) = false := by simpa using h2
     replace hjk := Hid.mk hjk
     go_upto_region 5 with fail
     clear c0 c1 c2 c3 c4 c5 c6 c7
     generalize (wr.alloc (.cells #[.int .i64 fa, .int .i64 1, .int .i64 fK, .int .u64 fS, .int .i64 fI, .int .i64 fO, .int .i64 fW, .string ft] 99)) = V at *
     generalize wr.heap.size = g7 at *
     go_wp2_with fail
     exact ⟨⟨k + 1, by omega, by go_num, by rw [hjk.out, List.append_nil]; exact hs2.out.1, hs2.out.2⟩, by simp [intOf]; omega⟩
   ·rw [if_neg (fun q => h1 (of_decide_eq_true q).1)] at hjk
    have hCb : (fc == 1) = false := by simpa using h1
    replace hjk := Hid.mk hjk
    go_upto_region 5 with fail
    clear c0 c1 c2 c3 c4 c5 c6 c7
    generalize (wr.alloc (.cells #[.int .i64 fa, .int .i64 fc, .int .i64 fK, .int .u64 fS, .int .i64 fI, .int .i64 fO, .int .i64 fW, .string ft] 99)) = V at *
    generalize wr.heap.size = g7 at *
    go_wp2_with fail
    exact ⟨⟨k + 1, by omega, by go_num, by rw [hjk.out, List.append_nil]; exact hs2.out.1, hs2.out.2⟩, by simp [intOf]; omega⟩
  ·obtain rfl : k = len := by omega
   rw [List.take_of_length_le (by omega)] at hs
   obtain ⟨a5, p5, rfl⟩ := hs.1.form
   rw [List.length_map] at hs |-
   have hso := Hid.mk (sort_rising a5 p5 (jrn chk l) wr (FdsF.of hs.1) HJ.out.2 HJ.out.1)
   replace hs := Hid.mk hs
   go_wp2_with (first | (go_at_call 135; refine hso.out.mono ?_; rintro e w1 ⟨rfl, b1⟩))
   go_ret
   exact ⟨_, rfl, hs.out.1.call b1, below3 hs.out.2 b1⟩
end Go.Proofs.YtcmmhfjnhlaepabGreatDoor
