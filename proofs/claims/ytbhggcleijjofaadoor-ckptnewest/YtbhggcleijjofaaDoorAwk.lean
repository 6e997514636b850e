/-
  Records written as pages that belong together: the walk of Write. Conditions: the table's cells hold what the text lays; at most 30 records that may be; pages of 64 bytes. Pages as they are found on a chip, and the newest checkpoint among them. Pure. The laws' own 'awake': a checkpoint of one page. Condition: the table's cells hold what the text lays.
-/
import Derived.Test.YtbhggcleijjofaaDoorApw
import Derived.Test.YtbhggcleijjofaaDoorGPck
import Derived.Test.YtbhggcleijjofaaDoorNws
namespace Go.Proofs.YtbhggcleijjofaaDoor
open Go Go.RowKit

set_option maxRecDepth 100000

theorem packGo_small (n : Nat) (hn : 9 ≤ n) (l : List ByteArray) (hl : ∀ s ∈ l, s.size ≤ 9) : ∀ (ts : List ByteArray) (t : ByteArray), (∀ s ∈ ts, s.size ≤ n) → t.size ≤ n → ∀ s ∈ Gp.packGo n l ts t, s.size ≤ n := by
  induction l with
  | nil =>
    intro ts t h1 h2 s hs
    rw [Gp.packGo] at hs
    rcases List.mem_append.1 hs with h | h
    · exact h1 s h
    · rw [List.mem_singleton.1 h]; exact h2
  | cons x l ih =>
    intro ts t h1 h2 s hs
    have hx := hl x (by simp)
    rw [Gp.packGo] at hs
    split at hs
    · refine ih (fun s hs => hl s (by simp [hs])) _ _ (fun u hu => ?_) (by omega) s hs
      rcases List.mem_append.1 hu with h | h
      · exact h1 u h
      · rw [List.mem_singleton.1 h]; exact h2
    · rename_i hc
      refine ih (fun s hs => hl s (by simp [hs])) _ _ h1 ?_ s hs
      rw [ByteArray.size_append]
      omega
theorem txW_flat (ts : List ByteArray) : (txW ts).flatten = ts.map Value.string := by
  induction ts with
  | nil => rfl
  | cons t ts ih =>
    show ([.string t] :: txW ts).flatten = _
    rw [List.flatten_cons, ih]
    rfl
theorem txW_own {w : World} {B v} {ts : List ByteArray} (h : w.ownsRow B 9 1 v ts.length (ts.map Value.string)) : We.Ow w B 9 1 v (txW ts) := by
  refine ⟨?_, ?_, ?_⟩
  · rw [txW_flat, show (txW ts).length = ts.length by simp [txW]]
    exact h
  · intro r hr
    obtain ⟨t, _, rfl⟩ := List.mem_map.1 hr
    rfl
  · intro r hr u hu
    obtain ⟨t, _, rfl⟩ := List.mem_map.1 hr
    rw [List.mem_singleton.1 hu]
    rfl
theorem tgR_at {w : World} {B a n cap} {kind : Int} {s m k : Nat} (h : We.Ow w B 43 5 (.slice a n cap) (tgR kind s m k)) {j : Nat} (hj : j < k) : ∃ g, a = some ⟨g, 0, none⟩ ∧ g < w.heap.size ∧ w.cell? ⟨g, j * 5, none⟩ = some (.int .i64 kind) ∧ w.cell? ⟨g, j * 5 + 1, none⟩ = some (.int .u64 (sqN kind s j)) ∧ w.cell? ⟨g, j * 5 + 2, none⟩ = some (.int .i64 j) ∧ w.cell? ⟨g, j * 5 + 3, none⟩ = some (.int .i64 m) ∧ w.cell? ⟨g, j * 5 + 4, none⟩ = some (.int .i64 0) := by
  obtain ⟨g, h1, _, h3, h4⟩ := h.at (j := j) (by rw [tgR_len]; exact hj)
  have hr : (tgR kind s m k).getD j [] = [.int .i64 kind, .int .u64 (sqN kind s j), .int .i64 j, .int .i64 m, .int .i64 0] := by simp [tgR, List.getD_eq_getElem?_getD, hj]
  rw [hr] at h4
  exact ⟨g, h1, h3, h4 0 (by omega), h4 1 (by omega), h4 2 (by omega), h4 3 (by omega), h4 4 (by omega)⟩
/-- places one behind the other -/
def plc (n0 k : Nat) : List Int := (List.range k).map fun i => ((n0 + i : Nat) : Int)
theorem plc_succ (n0 k : Nat) : rowsI (plc n0 (k + 1)) = rowsI (plc n0 k) ++ [[.int .i64 ((n0 + k : Nat) : Int)]] := by unfold plc; rw [List.range_succ, List.map_append]; simp [rowsI]
theorem plc_len (n0 k : Nat) : (plc n0 k).length = k := by simp [plc]
/-- the place behind k pages -/
def nxv (K s k : Nat) : Nat := if k = 0 then s else sqN K s (k - 1) + 1
/-- what Write holds -/
structure WrS (w : World) (A0 : Wl) (b13 : Nat) (tv gv : Value) (ts : List ByteArray) (K s m : Nat) (A : Wl) (X : Wx) (vp : Value) (n0 k : Nat) (wr : World) : Prop where
  wtr : Wtr wr A X
  tab : Pg.Tab wr
  nxt : Nxt A0 A X.C.B w wr
  cel : wr.heap[b13]? = some (.cells #[tv] 37 (0, 0))
  tx : We.Ow wr 0 9 1 tv (txW ts)
  tg : We.Ow wr 0 43 5 gv (tgR K s m m)
  pl : Ints wr w.heap.size vp (plc n0 k)
  dis : ∀ i, A.own X.C.B i → i ≠ b13 ∧ tv.ownBlock ≠ some i ∧ gv.ownBlock ≠ some i ∧ vp.ownBlock ≠ some i
  lo : w.heap.size ≤ b13
theorem ow_ne {w : World} {B B' e e' sz sz' v v' rows rows'} (h : We.Ow w B e sz v rows) (h' : We.Ow w B' e' sz' v' rows') (hne : e ≠ e') : ∀ g, v.ownBlock = some g → v'.ownBlock ≠ some g := by
  intro g h1 h2
  have := Gp.owns_ne (h.lower (Nat.zero_le _)).own (h'.lower (Nat.zero_le _)).own hne
  rw [h1, h2] at this
  simp at this
theorem ow_ne_cell {w : World} {B e sz v rows} (h : We.Ow w B e sz v rows) {b t cs} (hb : w.heap[b]? = some (.cells cs t (0, 0))) (hne : e ≠ t) : v.ownBlock ≠ some b := by
  intro q
  rcases h.own.2 with ⟨rfl, _⟩ | ⟨g, cap, cur, rfl, _, hg, _⟩
  · cases q
  · obtain rfl : g = b := by simpa [Value.ownBlock] using q
    rw [hb] at hg
    simp at hg
    exact hne hg.2.symm
theorem WrS.call {w A0 b13 tv gv ts K s m A X vp n0 k} {wr w2 : World} (h : WrS w A0 b13 tv gv ts K s m A X vp n0 k wr) (b : Below wr.heap.size wr w2) : WrS w A0 b13 tv gv ts K s m A X vp n0 k w2 :=
  ⟨h.wtr.call b, h.tab.call b, ⟨h.nxt.kp.call b, h.nxt.own, h.nxt.a, h.nxt.L, h.nxt.la, h.nxt.lo, h.nxt.lg⟩, (b.block b13 (Array.getElem?_eq_some_iff.1 h.cel).1).trans h.cel, h.tx.call b, h.tg.call b, We.Ow.call h.pl b, h.dis, h.lo⟩
theorem WrS.drew {w A0 b13 tv gv ts K s m A X vp n0 k} {wr : World} (h : WrS w A0 b13 tv gv ts K s m A X vp n0 k wr) : WrS w A0 b13 tv gv ts K s m A X vp n0 k wr.drew :=
  ⟨h.wtr.drew, h.tab.drew, ⟨h.nxt.kp.drew, h.nxt.own, h.nxt.a, h.nxt.L, h.nxt.la, h.nxt.lo, h.nxt.lg⟩, h.cel, h.tx.drew, h.tg.drew, We.Ow.drew h.pl, h.dis, h.lo⟩
theorem WrS.next {w A0 b13 tv gv ts K s m A X vp n0 k A' X'} {wr w2 : World} (h : WrS w A0 b13 tv gv ts K s m A X vp n0 k wr) (hw : Wtr w2 A' X') (hg : X'.C.B = X.C.B) (n : Nxt A A' X.C.B wr w2) : WrS w A0 b13 tv gv ts K s m A' X' vp n0 k w2 := by
  have h13 := (Array.getElem?_eq_some_iff.1 h.cel).1
  have hp : ∀ g, vp.ownBlock = some g → g < wr.heap.size := fun g hg => (We.Ow.lt h.pl g hg).2
  refine ⟨hw, Tab.off h.tab n.kp h.wtr.zero, by rw [hg]; exact h.nxt.trans n, (n.kp.block b13 h13 (fun x => (h.dis _ x).1 rfl)).trans h.cel, h.tx.same (fun g hg => n.kp.block g (h.tx.lt g hg).2 (fun x => (h.dis _ x).2.1 hg)), h.tg.same (fun g hg => n.kp.block g (h.tg.lt g hg).2 (fun x => (h.dis _ x).2.2.1 hg)), We.Ow.same h.pl (fun g hg => n.kp.block g (hp g hg) (fun x => (h.dis _ x).2.2.2 hg)), fun i hi => ?_, h.lo⟩
  rw [hg] at hi
  rcases n.own i hi with x | x
  · exact h.dis i x
  · refine ⟨by omega, fun q => ?_, fun q => ?_, fun q => ?_⟩
    · have := (h.tx.lt i q).2; omega
    · have := (h.tg.lt i q).2; omega
    · have := hp i q; omega
theorem WrS.place {w A0 b13 tv gv ts K s m A X vp n0 k vp'} {wr w3 : World} (h : WrS w A0 b13 tv gv ts K s m A X vp n0 k wr) (hA0 : ∀ i, A0.own X.C.B i → i < w.heap.size) (q1 : Ints w3 w.heap.size vp' (plc n0 (k + 1))) (q2 : wr.grownBy w3 vp.ownBlock) (q3 : vp'.ownBlock = vp.ownBlock ∨ ∃ g, vp'.ownBlock = some g ∧ wr.heap.size ≤ g) : WrS w A0 b13 tv gv ts K s m A X vp' n0 (k + 1) w3 := by
  have hX : ∀ j, vp.ownBlock = some j → w.heap.size ≤ j := fun j hj => (We.Ow.lt h.pl j hj).1
  have k1 : Kp (fun i => vp.ownBlock = some i) wr w3 := Kp.ofGrown q2 (fun i hi => hi)
  have h13 := (Array.getElem?_eq_some_iff.1 h.cel).1
  have hc := h.cel
  have hcel : ∀ i, vp.ownBlock = some i → Cel wr i := fun i hi => Ints.cel h.pl hi
  refine ⟨h.wtr.off k1 (fun i hi => ⟨fun x => (h.dis i x).2.2.2 hi, hcel i hi⟩), Tab.off h.tab k1 (fun hi => ?_), ⟨⟨k1.os.trans h.nxt.kp.os, k1.tape.trans h.nxt.kp.tape, k1.output.trans h.nxt.kp.output, Nat.le_trans h.nxt.kp.size k1.size, fun i hi hn => (k1.block i (Nat.lt_of_lt_of_le hi h.nxt.kp.size) (fun x => by have := hX i x; omega)).trans (h.nxt.kp.block i hi hn)⟩, h.nxt.own, h.nxt.a, h.nxt.L, h.nxt.la, h.nxt.lo, h.nxt.lg⟩, (k1.block b13 h13 (ow_ne_cell h.pl hc (by decide))).trans h.cel, h.tx.same (fun g hg => k1.block g (h.tx.lt g hg).2 (ow_ne h.tx h.pl (by decide) g hg)), h.tg.same (fun g hg => k1.block g (h.tg.lt g hg).2 (ow_ne h.tg h.pl (by decide) g hg)), q1, fun i hi => ?_, h.lo⟩
  · have := hX 0 hi
    have := h.nxt.kp.size
    have h0 := h.tab.1
    have hz : 0 < w.heap.size := by
      by_cases e : 0 < w.heap.size
      · exact e
      · exfalso
        have := hA0 A0.a (.inl rfl)
        omega
    omega
  · refine ⟨(h.dis i hi).1, (h.dis i hi).2.1, (h.dis i hi).2.2.1, fun q => ?_⟩
    rcases q3 with e | ⟨g, e, hg⟩
    · rw [e] at q; exact (h.dis i hi).2.2.2 q
    · rw [e] at q
      have := h.wtr.lt i hi
      have : g = i := by simpa using q
      omega
/-- what Write holds at its only drawn place -/
def Wr9 (b13 g18 : Nat) (ta : Addr) (m tc : Nat) (K q i : Nat) (tx : ByteArray) (w' : World) : Prop :=
  Pg.TB w' g18 K q i m 0 ∧ w'.heap[b13]? = some (.cells #[.slice (some ta) m tc] 37 (0, 0)) ∧ w'.cell? ⟨ta.block, ta.off + i, none⟩ = some (.string tx)
theorem Wr9.facts {b13 g18 g0 m tc K q i tx} {w' : World} (h : Wr9 b13 g18 ⟨g0, 0, none⟩ m tc K q i tx w') : w'.cell? ⟨g18, 0, none⟩ = some (.int .i64 K) ∧ w'.cell? ⟨g18, 1, none⟩ = some (.int .u64 q) ∧ w'.cell? ⟨g18, 2, none⟩ = some (.int .i64 i) ∧ w'.cell? ⟨g18, 3, none⟩ = some (.int .i64 m) ∧ w'.cell? ⟨g18, 4, none⟩ = some (.int .i64 0) ∧ w'.cell? ⟨b13, 0, none⟩ = some (.slice (some ⟨g0, 0, none⟩) m tc) ∧ w'.cell? ⟨g0, i, none⟩ = some (.string tx) := by
  obtain ⟨h1, h2, h3⟩ := h
  obtain ⟨c0, c1, c2, c3, c4⟩ := h1.five
  refine ⟨c0, c1, c2, c3, c4, by rw [cell_of_row _ _ 0 _ 37 _ h2]; rfl, ?_⟩
  rw [Nat.zero_add] at h3
  exact h3
theorem Wr9.kp {S : Nat → Prop} {b13 g18 g0 m tc K q i tx} {w1 w2 : World} (h : Wr9 b13 g18 ⟨g0, 0, none⟩ m tc K q i tx w1) (k : Kp S w1 w2) (hs : ∀ j, S j → j ≠ g18 ∧ j ≠ b13 ∧ j ≠ g0) : Wr9 b13 g18 ⟨g0, 0, none⟩ m tc K q i tx w2 := by
  obtain ⟨h1, h2, h3⟩ := h
  have hlt : g0 < w1.heap.size := by
    by_cases e : g0 < w1.heap.size
    · exact e
    · exfalso
      unfold World.cell? at h3
      dsimp only at h3
      rw [Array.getElem?_eq_none (by omega)] at h3
      cases h3
  exact ⟨(k.block g18 h1.lt (fun x => (hs _ x).1 rfl)).trans h1, (k.block b13 (Array.getElem?_eq_some_iff.1 h2).1 (fun x => (hs _ x).2.1 rfl)).trans h2, by rw [← h3]; unfold World.cell?; rw [k.block g0 hlt (fun x => (hs _ x).2.2 rfl)]⟩
set_option maxHeartbeats 800000 in
theorem write_any {w : World} {A X} (h : Wtr w A X) (hT : Pg.Tab w) {D a r : Nat} {T : Nat → ByteArray} {Q : Nat → Tg} (hq : Sq D X a r T Q) (n0 : Nat) (hn0 : a * X.C.P + r = n0) (rs : List Gp.R6) (ra : Option Addr) (rc : Nat)
    (hx : Gp.RecsF w ra rs.length (fun i => rs.getD i (0, 0, 0, 0, 0, 0))) (hmay : ∀ r ∈ rs, Gp.R6.may r = true) (h30 : rs.length ≤ 30) (K : Nat) (hK : 1 ≤ K ∧ K ≤ 3) (s : Nat) (hs : s < 1000000)
    (sz : Nat) (hsz : 9 ≤ sz ∧ sz ≤ X.C.Z) (ts : List ByteArray) (hts : Gp.packGo sz (rs.map Gp.R6.put) [] ⟨#[]⟩ = ts) (hTQ : ∀ i, i < ts.length → T (n0 + i) = ts.getD i ⟨#[]⟩ ∧ Q (n0 + i) = (K, sqN K s i, i, ts.length)) (hroom : n0 + ts.length ≤ X.C.B * X.C.P)
    (At : Nat) (kf : Int × Int) (hc : ∀ i : Nat, X.C.cuts ((i : Int) + 1) = if i + D + 1 = At then some kf else none) (hf : ∀ i, X.C.fails i = false) (hAt : At ≤ n0 ∨ n0 < At) :
    Calls Tryd.prog 11 #[.pointer (some ⟨A.a, 0, none⟩), .slice ra rs.length rc, .int .i64 K, .int .u64 s, .int .i64 sz] w fun e w' => ∃ X' A', Wtr w' A' X' ∧ Pg.Tab w' ∧ Nxt A A' X.C.B w w' ∧ Geq X' X ∧ X'.C.cuts = X.C.cuts ∧ X'.C.fails = X.C.fails ∧
      (((At ≤ n0 ∨ n0 + ts.length < At) ∧ (∃ v, e = .returned (.tuple #[v, .int .u64 (nxv K s ts.length), .int .i64 0]) ∧ Ints w' w.heap.size v (plc n0 ts.length)) ∧ ∃ a' r', a' * X.C.P + r' = n0 + ts.length ∧ Sq D X' a' r' T Q) ∨
       (n0 < At ∧ At ≤ n0 + ts.length ∧ (∃ x : Int, e = .returned (.tuple #[.slice none 0 0, .int .u64 x, .int .i64 51])) ∧ ∃ a' r', a' * X.C.P + r' + 1 = At ∧ Stp X' a' r' T Q kf)) := by
  have hpl := Gp.packGo_len sz (rs.map Gp.R6.put) [] ⟨#[]⟩
  rw [hts, List.length_map] at hpl
  simp only [List.length_nil, Nat.zero_add] at hpl
  have hsm : ∀ t ∈ ts, t.size ≤ sz := by
    rw [← hts]
    refine packGo_small sz hsz.1 _ (fun u hu => ?_) _ _ (fun u hu => by cases hu) (by show 0 ≤ sz; omega)
    obtain ⟨y, hy, rfl⟩ := List.mem_map.1 hu
    exact (Gp.put6_le y (hmay y hy)).2
  have hpk := Hid.mk (fun w' (b : Below w.heap.size w w') => Gp.pack_any ra rc sz rs w' (hx.below b) hmay (by omega))
  rw [hts] at hpk
  obtain ⟨m, hm⟩ : ∃ m, ts.length = m := ⟨_, rfl⟩
  rw [hm] at hpl hpk hTQ hroom ⊢
  have HIN := Hid.mk (And.intro h (And.intro hT (And.intro hq (And.intro hTQ (And.intro hsm (And.intro hc hf))))))
  have hgeo := h.chip.geo
  have hA0 := Hid.mk h.lt
  clear hx hmay hts h hT hq hTQ hsm hc hf
  go_enter Tryd.func11, Tryd.ntmps11
  go_upto_region 1 with fail
  have q2 := heap_alloc_new w (.cells #[.int .i64 (K : Int)] 3)
  have b12 := Pg.below_one (w.alloc (.cells #[.int .i64 (K : Int)] 3)) (.cells #[.int .u64 (s : Int)] 23)
  have q3 := heap_alloc_new (w.alloc (.cells #[.int .i64 (K : Int)] 3)) (.cells #[.int .u64 (s : Int)] 23)
  rw [size_alloc] at q3
  have B2 : Hid (Below w.heap.size w ((w.alloc (.cells #[.int .i64 (K : Int)] 3)).alloc (.cells #[.int .u64 (s : Int)] 23))) := below3 (Pg.below_one w _) b12
  have e2 : ((w.alloc (.cells #[.int .i64 (K : Int)] 3)).alloc (.cells #[.int .u64 (s : Int)] 23)).heap[w.heap.size]? = some (.cells #[.int .i64 (K : Int)] 3 (0, 0)) := (b12.block w.heap.size (by rw [size_alloc]; omega)).trans q2
  have HC : Hid (∀ v : Value, ∀ w1, Below ((w.alloc (.cells #[.int .i64 (K : Int)] 3)).alloc (.cells #[.int .u64 (s : Int)] 23)).heap.size ((w.alloc (.cells #[.int .i64 (K : Int)] 3)).alloc (.cells #[.int .u64 (s : Int)] 23)) w1 → Cau (w1.alloc (.cells #[v] 37)) w.heap.size (w.heap.size + 1) w1.heap.size K s v) := by
    intro v w1 b1
    have z1 := size_alloc w (.cells #[.int .i64 (K : Int)] 3)
    have z2 := size_alloc (w.alloc (.cells #[.int .i64 (K : Int)] 3)) (.cells #[.int .u64 (s : Int)] 23)
    have z3 := size_alloc w1 (.cells #[v] 37)
    have z4 := b1.size
    have b3 := Pg.below_one w1 (.cells #[v] 37)
    have f2 := (b3.block w.heap.size (by omega)).trans ((b1.block w.heap.size (by omega)).trans e2)
    have f3 := (b3.block (w.heap.size + 1) (by omega)).trans ((b1.block (w.heap.size + 1) (by omega)).trans q3)
    exact ⟨by rw [cell_of_row _ _ 0 _ 3 _ f2]; rfl, by rw [cell_of_row _ _ 0 _ 23 _ f3]; rfl, by rw [cell_of_row _ _ 0 _ 37 _ (heap_alloc_new w1 (.cells #[v] 37))]; rfl, by omega⟩
  clear q2 q3 b12 e2
  generalize w.heap.size + 1 = b8 at *
  obtain ⟨b7, hb7⟩ : ∃ b, b = w.heap.size := ⟨_, rfl⟩
  rw [← hb7] at HC
  rw [← hb7]
  clear hb7
  generalize ((w.alloc (.cells #[.int .i64 (K : Int)] 3)).alloc (.cells #[.int .u64 (s : Int)] 23)) = W2 at *
  go_upto_region 2 with (first
    | (go_at_call 10; refine (hpk.out _ B2.out).mono ?_; rintro e w1 ⟨v, rfl, o1, b1⟩; obtain ⟨ta', tc, rfl⟩ := Gp.owns_form o1))
  have o2 := txW_own (ts := ts) (by rw [hm]; exact o1)
  have hC3 := HC.out (.slice ta' m tc) w1 b1
  have b3 := Pg.below_one w1 (.cells #[.slice ta' m tc] 37)
  have HT3 : Hid (We.Ow (w1.alloc (.cells #[.slice ta' m tc] 37)) 0 9 1 (.slice ta' m tc) (txW ts)) := (o2.lower (Nat.zero_le _)).call b3
  have HC3 := Hid.mk hC3
  have H13 := Hid.mk (heap_alloc_new w1 (.cells #[.slice ta' m tc] 37))
  have B3 : Hid (Below w.heap.size w (w1.alloc (.cells #[.slice ta' m tc] 37))) := below3 (below3 B2.out b1) b3
  have L13 : Hid (w.heap.size ≤ w1.heap.size) := (below3 B2.out b1).size
  have LT : Hid (∀ g, Value.ownBlock (.slice ta' m tc) = some g → w.heap.size ≤ g) := fun g hg => Nat.le_trans B2.out.size (o2.lt g hg).1
  obtain ⟨g0, hta⟩ : ∃ g0, ta' = some ⟨g0, 0, none⟩ := by
    obtain ⟨g0, e, _⟩ := txW_at o2 (j := 0) (by omega)
    exact ⟨g0, e⟩
  subst hta
  clear o1 o2 hC3 b3 HC hpk B2 b1
  generalize (w1.alloc (.cells #[.slice (some ⟨g0, 0, none⟩) m tc] 37)) = W3 at *
  generalize w1.heap.size = b13 at *
  have hc4 := HC3.out.c4
  have hgt := Hid.mk (gather_tags (.slice (some ⟨g0, 0, none⟩) m tc) ts b7 b8 b13 K s hs W3 HT3.out (by omega) HC3.out)
  rw [hm] at hgt
  go_upto_region 3 with (first
    | (go_at_call 25; refine hgt.out.mono ?_; rintro e w4 ⟨gv, rfl, o4, b4⟩; obtain ⟨ga, gc, rfl⟩ := o4.form))
  rw [tgR_len] at o4 ⊢
  have hc3 := (HC3.out.call b4).c3
  have HG4 := Hid.mk (And.intro o4 b4)
  clear o4 b4 hgt hc4
  have hmk : ∀ w : World, (Instr.makeSlice 31 (.int .i64 0) (.int .i64 m)).run Tryd.prog w = .ok (.slice (some ⟨w.heap.size, 0, none⟩) 0 m) (w.alloc (.cells (madeCells #[.int .i64 0] m) 3)) := fun w => by
    have := run_room Tryd.underlying31 info3 (by omega) m (by omega) w
    rw [Nat.mul_one] at this
    exact this
  have hc8 : (w4.alloc (.cells (madeCells #[.int .i64 0] m) 3)).cell? ⟨b8, 0, none⟩ = some (.int .u64 s) := ((Pg.below_one w4 _).cell (p := ⟨b8, 0, none⟩) (HC3.out.call HG4.out.2).lt.2.1).trans hc3
  go_upto_region 6 with fail
  have b5 := Pg.below_one w4 (.cells (madeCells #[.int .i64 0] m) 3)
  have o5 := room_own w4 (B := w.heap.size) (Nat.le_trans B3.out.size HG4.out.2.size) (.int .i64 0) 3 1 m (by omega)
  rw [Nat.mul_one] at o5
  replace o5 : Ints (w4.alloc (.cells (madeCells #[.int .i64 0] m) 3)) w.heap.size (.slice (some ⟨w4.heap.size, 0, none⟩) 0 m) (plc n0 0) := o5
  have S0 : WrS w A b13 (.slice (some ⟨g0, 0, none⟩) m tc) (.slice ga m gc) ts K s m A X (.slice (some ⟨w4.heap.size, 0, none⟩) 0 m) n0 0 (w4.alloc (.cells (madeCells #[.int .i64 0] m) 3)) := by
    have bb : Below w.heap.size w (w4.alloc (.cells (madeCells #[.int .i64 0] m) 3)) := below3 (below3 B3.out HG4.out.2) b5
    have b45 := below3 HG4.out.2 b5
    have e13 := (Array.getElem?_eq_some_iff.1 H13.out).1
    refine ⟨HIN.out.1.call bb, HIN.out.2.1.call bb, Nxt.of (Kp.ofBelow bb), (b45.block b13 e13).trans H13.out, HT3.out.call b45, (HG4.out.1.lower (Nat.zero_le _)).call b5, o5, fun i hi => ?_, L13.out⟩
    have hlt := hA0.out i hi
    refine ⟨by have := L13.out; omega, fun q => ?_, fun q => ?_, fun q => ?_⟩
    · have := LT.out i q; omega
    · have := (HG4.out.1.lt i q).1; have := B3.out.size; omega
    · have := (We.Ow.lt o5 i q).1; omega
  replace S0 := Hid.mk S0
  clear b5 o5 HG4 B3 L13 LT H13 HT3 HC3 hmk hc3 hc8
  generalize (w4.alloc (.cells (madeCells #[.int .i64 0] m) 3)) = W5 at *
  go_loopw [15, 16, 33] (fun vp nx i wr => ∃ (k : Nat) (A' : Wl) (X' : Wx) (a' r' : Nat), k ≤ m ∧ i = .int .i64 k ∧ nx = .int .u64 (nxv K s k) ∧ a' * X.C.P + r' = n0 + k ∧ Sq D X' a' r' T Q ∧ Geq X' X ∧ X'.C.cuts = X.C.cuts ∧ X'.C.fails = X.C.fails ∧ (At ≤ n0 ∨ n0 + k < At) ∧ WrS w A b13 (.slice (some ⟨g0, 0, none⟩) m tc) (.slice ga m gc) ts K s m A' X' vp n0 k wr) (fun _ _ i _ => m - (intOf i).toNat)
  case atStart => exact ⟨0, A, X, a, r, Nat.zero_le _, rfl, rfl, hn0, HIN.out.2.2.1, ⟨rfl, rfl, rfl⟩, rfl, rfl, by omega, S0.out⟩
  case round =>
    clear S0
    obtain ⟨k, A', X', a', r', hk, rfl, rfl, har, hq', hg', hcu, hfa, hat, hs'⟩ := hrel
    by_cases hlt : k < m
    · have hltI : (k : Int) < (m : Int) := by omega
      obtain ⟨gg, rfl, hgg, c0, c1, c2, c3, c4⟩ := tgR_at hs'.tg hlt
      obtain ⟨q, hqq⟩ : ∃ q, sqN K s k = q := ⟨_, rfl⟩
      have hqs : q < 1000200 := by rw [← hqq]; unfold sqN; split <;> omega
      rw [hqq] at c1
      have hwq : IntKind.u64.wrap ((q : Int) + 1) = ((q + 1 : Nat) : Int) := by rw [IntKind.wrap_u64]; omega
      obtain ⟨g0', hg0, _, d0⟩ := txW_at hs'.tx (j := k) (by omega)
      obtain rfl : g0 = g0' := by simpa using hg0
      obtain ⟨tx, htx⟩ : ∃ tx, ts.getD k ⟨#[]⟩ = tx := ⟨_, rfl⟩
      rw [htx] at d0
      have htxs : tx.size ≤ sz := by rw [← htx]; exact HIN.out.2.2.2.2.1 _ (by simp [List.getD_eq_getElem?_getD, show k < ts.length by omega])
      have hTk := HIN.out.2.2.2.1 k hlt
      rw [htx, hqq] at hTk
      have hX'B : X'.C.B = X.C.B := hg'.1
      have hX'P : X'.C.P = X.C.P := hg'.2.1
      have hab : a' < X'.C.B := by
        by_cases e : a' < X'.C.B
        · exact e
        · exfalso
          have := hq'.le
          have e2 : a' = X'.C.B ∧ r' = 0 := by omega
          rw [e2.1, e2.2, hX'B] at har
          omega
      have hfr := Pg.TB.fresh wr K q k m 0
      have b18 := Pg.below_one wr (.cells #[.int .i64 (K : Int), .int .u64 (q : Int), .int .i64 (k : Int), .int .i64 (m : Int), .int .i64 0] 43)
      have s18 := (hs'.call b18).drew
      have hd0 : (wr.alloc (.cells #[.int .i64 (K : Int), .int .u64 (q : Int), .int .i64 (k : Int), .int .i64 (m : Int), .int .i64 0] 43)).cell? ⟨g0, k, none⟩ = some (.string tx) := (b18.cell (p := ⟨g0, k, none⟩) (hs'.tx.lt g0 rfl).2).trans d0
      have hS9 : Hid (Wr9 b13 wr.heap.size ⟨g0, 0, none⟩ m tc K q k tx (wr.alloc (.cells #[.int .i64 (K : Int), .int .u64 (q : Int), .int .i64 (k : Int), .int .i64 (m : Int), .int .i64 0] 43)).drew) := ⟨hfr, s18.cel, by rw [Nat.zero_add]; exact hd0⟩
      have hdis : Hid (∀ i, A'.own X'.C.B i → i ≠ wr.heap.size ∧ i ≠ b13 ∧ i ≠ g0) := fun i hi => ⟨by have := hs'.wtr.lt i hi; omega, (hs'.dis i hi).1, fun e => (hs'.dis i hi).2.1 (by rw [e]; rfl)⟩
      have haw := append_w s18.wtr s18.tab hq' hab K q k m (by rw [hX'P, har]; exact hTk.2) ⟨by unfold Pg.mayB; dsimp only; omega, by dsimp only; omega⟩ tx (by rw [hX'P, har]; exact hTk.1) (by rw [hg'.2.2]; omega) At kf (by rw [hcu]; exact HIN.out.2.2.2.2.2.1) (by rw [hfa]; exact HIN.out.2.2.2.2.2.2) 0
      have eA : A'.a = A.a := hs'.nxt.a
      rw [eA, hX'P, har] at haw
      unfold Pg.tagV at haw
      replace haw := Hid.mk haw
      obtain ⟨pa, pc, rfl⟩ := Ints.form hs'.pl
      rw [plc_len] at hs' s18 ⊢
      replace s18 := Hid.mk s18
      have hpos : Hid (wr.heap.size < (wr.alloc (.cells #[.int .i64 (K : Int), .int .u64 (q : Int), .int .i64 (k : Int), .int .i64 (m : Int), .int .i64 0] 43)).heap.size) := Hid.mk (by rw [size_alloc]; omega)
      have hnx : Hid (nxv K s (k + 1) = q + 1) := Hid.mk (by unfold nxv; rw [if_neg (by omega), Nat.add_sub_cancel, hqq])
      clear hs' hfr b18 hd0 htx hTk d0
      go_upto_region 9 with fail
      refine wp_region_held_drew (S := fun w' => Wr9 b13 wr.heap.size ⟨g0, 0, none⟩ m tc K q k tx w') (by kernel_rfl) hS9.out (fun hHeld => ?_)
      refine wpAnyH_take (i := 0) (oi := { dst := some 42, op := Op.move (Operand.tmp 0), type := 25, pos := "ckpt.go:33", after := #[], guard := none }) (v := ?vv0) rfl (by kernel_rfl) (by kernel_rfl) (by kernel_rfl) (fun _ _ _ h => h) (Or.inl ⟨by rfl, ?yy0⟩) hHeld ?rr0
      case yy0 => (intro w0 hSw; obtain ⟨x0, x1, x2, x3, x4, x5, x6⟩ := Wr9.facts hSw; go_simp; try with_reducible rfl)
      try simp only [Act.put, List.setIfInBounds_toArray, List.set_cons_zero, List.set_cons_succ]
      refine wpAnyH_take (i := 1) (oi := { dst := some 43, op := Op.load 43 (Operand.tmp 18), type := 43, pos := "ckpt.go:33", after := #[], guard := none }) (v := ?vv1) rfl (by kernel_rfl) (by kernel_rfl) (by kernel_rfl) (fun _ _ _ h => h) (Or.inl ⟨by rfl, ?yy1⟩) hHeld ?rr1
      case yy1 => (intro w0 hSw; obtain ⟨x0, x1, x2, x3, x4, x5, x6⟩ := Wr9.facts hSw; go_simp; try with_reducible rfl)
      try simp only [Act.put, List.setIfInBounds_toArray, List.set_cons_zero, List.set_cons_succ]
      refine wpAnyH_take (i := 2) (oi := { dst := some 44, op := Op.load 37 (Operand.tmp 13), type := 37, pos := "ckpt.go:33", after := #[], guard := none }) (v := ?vv2) rfl (by kernel_rfl) (by kernel_rfl) (by kernel_rfl) (fun _ _ _ h => h) (Or.inl ⟨by rfl, ?yy2⟩) hHeld ?rr2
      case yy2 => (intro w0 hSw; obtain ⟨x0, x1, x2, x3, x4, x5, x6⟩ := Wr9.facts hSw; go_simp; try with_reducible rfl)
      try simp only [Act.put, List.setIfInBounds_toArray, List.set_cons_zero, List.set_cons_succ]
      refine wpAnyH_take (i := 3) (oi := { dst := some 45, op := Op.move (Operand.tmp 17), type := 3, pos := "ckpt.go:33", after := #[], guard := none }) (v := ?vv3) rfl (by kernel_rfl) (by kernel_rfl) (by kernel_rfl) (fun _ _ _ h => h) (Or.inl ⟨by rfl, ?yy3⟩) hHeld ?rr3
      case yy3 => (intro w0 hSw; obtain ⟨x0, x1, x2, x3, x4, x5, x6⟩ := Wr9.facts hSw; go_simp; try with_reducible rfl)
      try simp only [Act.put, List.setIfInBounds_toArray, List.set_cons_zero, List.set_cons_succ]
      refine wpAnyH_take (i := 4) (oi := { dst := some 46, op := Op.indexAddr 37 (Operand.tmp 44) (Operand.tmp 45), type := 0, pos := "ckpt.go:33", after := #[{ on := 2, ground := Ground.data }, { on := 3, ground := Ground.data }], guard := none }) (v := ?vv4) rfl (by kernel_rfl) (by kernel_rfl) (by kernel_rfl) (fun _ _ _ h => h) (Or.inl ⟨by rfl, ?yy4⟩) hHeld ?rr4
      case yy4 => (intro w0 hSw; obtain ⟨x0, x1, x2, x3, x4, x5, x6⟩ := Wr9.facts hSw; go_simp; try with_reducible rfl)
      try simp only [Act.put, List.setIfInBounds_toArray, List.set_cons_zero, List.set_cons_succ]
      refine wpAnyH_take (i := 5) (oi := { dst := some 47, op := Op.load 9 (Operand.tmp 46), type := 9, pos := "ckpt.go:33", after := #[{ on := 4, ground := Ground.data }], guard := none }) (v := ?vv5) rfl (by kernel_rfl) (by kernel_rfl) (by kernel_rfl) (fun _ _ _ h => h) (Or.inl ⟨by rfl, ?yy5⟩) hHeld ?rr5
      case yy5 => (intro w0 hSw; obtain ⟨x0, x1, x2, x3, x4, x5, x6⟩ := Wr9.facts hSw; go_simp; try with_reducible rfl)
      try simp only [Act.put, List.setIfInBounds_toArray, List.set_cons_zero, List.set_cons_succ]
      refine wpAnyH_ready (rs := [6]) (by kernel_rfl) (by simp) ?_
      refine AllReadyH.cons (o := { dst := some 48, op := Op.call { callee := Callee.value (Operand.func 28), args := #[Operand.tmp 42, Operand.tmp 43, Operand.tmp 47], argTypes := #[25, 43, 9] }, type := 86, pos := "ckpt.go:33", after := #[{ on := 0, ground := Ground.data }, { on := 1, ground := Ground.data }, { on := 5, ground := Ground.data }], guard := none }) rfl (fun K hK => ?_) AllReadyH.nil
      go_simp
      go_at_call 28
      refine haw.out.mono ?_
      rintro e w5 ⟨X5, A5, hw5, n5, g5, cu5, fa5, hcase⟩
      have hW5 := Hid.mk (s18.out.next hw5 g5.1 n5)
      have hH5 := hHeld.kp n5.kp hdis.out
      have hge := Hid.mk (And.intro g5 (And.intro cu5 fa5))
      clear hw5 n5 g5 cu5 fa5 haw hS9 hdis
      rcases hcase with ⟨hne, rfl, a5, r5, har5, hq5⟩ | ⟨heq, ⟨pl, rfl⟩, hst⟩
      · have hq5' := Hid.mk (And.intro har5 hq5)
        clear har5 hq5
        refine hK.out _ _ hH5 (fun hHeld => ?_)
        clear hK K
        try simp only [Act.put, List.setIfInBounds_toArray, List.set_cons_zero, List.set_cons_succ]
        refine wpAnyH_take (i := 7) (oi := { dst := some 41, op := Op.move (Operand.tmp 48), type := 86, pos := "ckpt.go:33", after := #[{ on := 6, ground := Ground.data }], guard := none }) (v := ?vvp7) rfl (by kernel_rfl) (by kernel_rfl) (by kernel_rfl) (fun _ _ _ h => h) (Or.inl ⟨by rfl, ?yyp7⟩) hHeld ?rrp7
        case yyp7 => (intro w0 hSw; obtain ⟨x0, x1, x2, x3, x4, x5, x6⟩ := Wr9.facts hSw; go_simp; try with_reducible rfl)
        try simp only [Act.put, List.setIfInBounds_toArray, List.set_cons_zero, List.set_cons_succ]
        refine wpAnyH_take (i := 8) (oi := { dst := some 49, op := Op.extract (Operand.tmp 41) 0, type := 3, pos := "ckpt.go:33", after := #[{ on := 7, ground := Ground.data }], guard := none }) (v := ?vvp8) rfl (by kernel_rfl) (by kernel_rfl) (by kernel_rfl) (fun _ _ _ h => h) (Or.inl ⟨by rfl, ?yyp8⟩) hHeld ?rrp8
        case yyp8 => (intro w0 hSw; obtain ⟨x0, x1, x2, x3, x4, x5, x6⟩ := Wr9.facts hSw; go_simp; try with_reducible rfl)
        try simp only [Act.put, List.setIfInBounds_toArray, List.set_cons_zero, List.set_cons_succ]
        refine wpAnyH_take (i := 9) (oi := { dst := some 50, op := Op.extract (Operand.tmp 41) 1, type := 39, pos := "ckpt.go:33", after := #[{ on := 7, ground := Ground.data }, { on := 10, ground := Ground.gcOnly Departure.lateStores }], guard := none }) (v := ?vvp9) rfl (by kernel_rfl) (by kernel_rfl) (by kernel_rfl) (fun _ _ _ h => h) (Or.inl ⟨by rfl, ?yyp9⟩) hHeld ?rrp9
        case yyp9 => (intro w0 hSw; obtain ⟨x0, x1, x2, x3, x4, x5, x6⟩ := Wr9.facts hSw; go_simp; try with_reducible rfl)
        try simp only [Act.put, List.setIfInBounds_toArray, List.set_cons_zero, List.set_cons_succ]
        refine wpAnyH_take (i := 10) (oi := { dst := some 19, op := Op.assign (Operand.tmp 49), type := 3, pos := "ckpt.go:33", after := #[{ on := 8, ground := Ground.data }, { on := 6, ground := Ground.chain }, { on := 0, ground := Ground.phase }, { on := 1, ground := Ground.phase }, { on := 2, ground := Ground.phase }, { on := 3, ground := Ground.phase }, { on := 4, ground := Ground.phase }, { on := 5, ground := Ground.phase }, { on := 6, ground := Ground.phase }, { on := 7, ground := Ground.phase }, { on := 8, ground := Ground.phase }, { on := 9, ground := Ground.textOnly Departure.lateStores }], guard := none }) (v := ?vvp10) rfl (by kernel_rfl) (by kernel_rfl) (by kernel_rfl) (fun _ _ _ h => h) (Or.inl ⟨by rfl, ?yyp10⟩) hHeld ?rrp10
        case yyp10 => (intro w0 hSw; obtain ⟨x0, x1, x2, x3, x4, x5, x6⟩ := Wr9.facts hSw; go_simp; try with_reducible rfl)
        try simp only [Act.put, List.setIfInBounds_toArray, List.set_cons_zero, List.set_cons_succ]
        refine wpAnyH_take (i := 11) (oi := { dst := some 20, op := Op.assign (Operand.tmp 50), type := 39, pos := "ckpt.go:33", after := #[{ on := 9, ground := Ground.data }, { on := 10, ground := Ground.chain }, { on := 0, ground := Ground.phase }, { on := 1, ground := Ground.phase }, { on := 2, ground := Ground.phase }, { on := 3, ground := Ground.phase }, { on := 4, ground := Ground.phase }, { on := 5, ground := Ground.phase }, { on := 6, ground := Ground.phase }, { on := 7, ground := Ground.phase }, { on := 8, ground := Ground.phase }, { on := 9, ground := Ground.phase }, { on := 10, ground := Ground.phase }], guard := none }) (v := ?vvp11) rfl (by kernel_rfl) (by kernel_rfl) (by kernel_rfl) (fun _ _ _ h => h) (Or.inl ⟨by rfl, ?yyp11⟩) hHeld ?rrp11
        case yyp11 => (intro w0 hSw; obtain ⟨x0, x1, x2, x3, x4, x5, x6⟩ := Wr9.facts hSw; go_simp; try with_reducible rfl)
        try simp only [Act.put, List.setIfInBounds_toArray, List.set_cons_zero, List.set_cons_succ]
        refine wpAnyH_done (by kernel_rfl) ?_ _
        clear hH5
        go_wp2_with (first
          | (at_builtin; refine We.wp_app ei31 rfl (.tmp 55) (.tmp 57) rfl hW5.out.pl (Nat.le_trans (by have := hW5.out.nxt.kp.size; exact this) (Nat.le_refl _)) #[.int .i64 ((n0 + k : Nat) : Int)] rfl rfl rfl (by simp [Value.oneCell']) (by unfold rowsI; rw [List.length_map, plc_len]; omega) ?_; intro v2 w6 q1 q2 q3))
        have hX5B : X5.C.B = X.C.B := hge.out.1.1.trans hX'B
        refine ⟨⟨k + 1, A5, X5, a5, r5, by omega, by go_num, (by rw [hnx.out]; go_num), hq5'.out.1, hq5'.out.2, ⟨hX5B, hge.out.1.2.1.trans hX'P, hge.out.1.2.2.trans hg'.2.2⟩, hge.out.2.1.trans hcu, hge.out.2.2.trans hfa, by omega, hW5.out.place (by rw [hX5B]; exact hA0.out) (by unfold Ints; rw [plc_succ]; exact q1) q2 q3⟩, by simp [intOf]; omega⟩
      · have hst' := Hid.mk hst
        clear hst
        refine hK.out _ _ hH5 (fun hHeld => ?_)
        clear hK K
        try simp only [Act.put, List.setIfInBounds_toArray, List.set_cons_zero, List.set_cons_succ]
        refine wpAnyH_take (i := 7) (oi := { dst := some 41, op := Op.move (Operand.tmp 48), type := 86, pos := "ckpt.go:33", after := #[{ on := 6, ground := Ground.data }], guard := none }) (v := ?vvq7) rfl (by kernel_rfl) (by kernel_rfl) (by kernel_rfl) (fun _ _ _ h => h) (Or.inl ⟨by rfl, ?yyq7⟩) hHeld ?rrq7
        case yyq7 => (intro w0 hSw; obtain ⟨x0, x1, x2, x3, x4, x5, x6⟩ := Wr9.facts hSw; go_simp; try with_reducible rfl)
        try simp only [Act.put, List.setIfInBounds_toArray, List.set_cons_zero, List.set_cons_succ]
        refine wpAnyH_take (i := 8) (oi := { dst := some 49, op := Op.extract (Operand.tmp 41) 0, type := 3, pos := "ckpt.go:33", after := #[{ on := 7, ground := Ground.data }], guard := none }) (v := ?vvq8) rfl (by kernel_rfl) (by kernel_rfl) (by kernel_rfl) (fun _ _ _ h => h) (Or.inl ⟨by rfl, ?yyq8⟩) hHeld ?rrq8
        case yyq8 => (intro w0 hSw; obtain ⟨x0, x1, x2, x3, x4, x5, x6⟩ := Wr9.facts hSw; go_simp; try with_reducible rfl)
        try simp only [Act.put, List.setIfInBounds_toArray, List.set_cons_zero, List.set_cons_succ]
        refine wpAnyH_take (i := 9) (oi := { dst := some 50, op := Op.extract (Operand.tmp 41) 1, type := 39, pos := "ckpt.go:33", after := #[{ on := 7, ground := Ground.data }, { on := 10, ground := Ground.gcOnly Departure.lateStores }], guard := none }) (v := ?vvq9) rfl (by kernel_rfl) (by kernel_rfl) (by kernel_rfl) (fun _ _ _ h => h) (Or.inl ⟨by rfl, ?yyq9⟩) hHeld ?rrq9
        case yyq9 => (intro w0 hSw; obtain ⟨x0, x1, x2, x3, x4, x5, x6⟩ := Wr9.facts hSw; go_simp; try with_reducible rfl)
        try simp only [Act.put, List.setIfInBounds_toArray, List.set_cons_zero, List.set_cons_succ]
        refine wpAnyH_take (i := 10) (oi := { dst := some 19, op := Op.assign (Operand.tmp 49), type := 3, pos := "ckpt.go:33", after := #[{ on := 8, ground := Ground.data }, { on := 6, ground := Ground.chain }, { on := 0, ground := Ground.phase }, { on := 1, ground := Ground.phase }, { on := 2, ground := Ground.phase }, { on := 3, ground := Ground.phase }, { on := 4, ground := Ground.phase }, { on := 5, ground := Ground.phase }, { on := 6, ground := Ground.phase }, { on := 7, ground := Ground.phase }, { on := 8, ground := Ground.phase }, { on := 9, ground := Ground.textOnly Departure.lateStores }], guard := none }) (v := ?vvq10) rfl (by kernel_rfl) (by kernel_rfl) (by kernel_rfl) (fun _ _ _ h => h) (Or.inl ⟨by rfl, ?yyq10⟩) hHeld ?rrq10
        case yyq10 => (intro w0 hSw; obtain ⟨x0, x1, x2, x3, x4, x5, x6⟩ := Wr9.facts hSw; go_simp; try with_reducible rfl)
        try simp only [Act.put, List.setIfInBounds_toArray, List.set_cons_zero, List.set_cons_succ]
        refine wpAnyH_take (i := 11) (oi := { dst := some 20, op := Op.assign (Operand.tmp 50), type := 39, pos := "ckpt.go:33", after := #[{ on := 9, ground := Ground.data }, { on := 10, ground := Ground.chain }, { on := 0, ground := Ground.phase }, { on := 1, ground := Ground.phase }, { on := 2, ground := Ground.phase }, { on := 3, ground := Ground.phase }, { on := 4, ground := Ground.phase }, { on := 5, ground := Ground.phase }, { on := 6, ground := Ground.phase }, { on := 7, ground := Ground.phase }, { on := 8, ground := Ground.phase }, { on := 9, ground := Ground.phase }, { on := 10, ground := Ground.phase }], guard := none }) (v := ?vvq11) rfl (by kernel_rfl) (by kernel_rfl) (by kernel_rfl) (fun _ _ _ h => h) (Or.inl ⟨by rfl, ?yyq11⟩) hHeld ?rrq11
        case yyq11 => (intro w0 hSw; obtain ⟨x0, x1, x2, x3, x4, x5, x6⟩ := Wr9.facts hSw; go_simp; try with_reducible rfl)
        try simp only [Act.put, List.setIfInBounds_toArray, List.set_cons_zero, List.set_cons_succ]
        refine wpAnyH_done (by kernel_rfl) ?_ _
        clear hH5
        go_wp2_with fail
        go_ret3
        have hX5B : X5.C.B = X.C.B := hge.out.1.1.trans hX'B
        have hst2 := hst'.out
        exact ⟨X5, A5, hW5.out.wtr, hW5.out.tab, by have := hW5.out.nxt; rw [hX5B] at this; exact this, ⟨hX5B, hge.out.1.2.1.trans hX'P, hge.out.1.2.2.trans hg'.2.2⟩, hge.out.2.1.trans hcu, hge.out.2.2.trans hfa, .inr ⟨by omega, by omega, ⟨_, rfl⟩, a', r', by omega, hst2⟩⟩
    · obtain rfl : k = m := by omega
      have HS := Hid.mk (And.intro hs' (And.intro har (And.intro hq' (And.intro hg' (And.intro hcu (And.intro hfa hat))))))
      clear hs' har hq' hg' hcu hfa hat
      go_wp2_with fail
      go_ret3
      exact ⟨X', A', HS.out.1.wtr, HS.out.1.tab, by have := HS.out.1.nxt; rw [HS.out.2.2.2.1.1] at this; exact this, HS.out.2.2.2.1, HS.out.2.2.2.2.1, HS.out.2.2.2.2.2.1, .inl ⟨HS.out.2.2.2.2.2.2, ⟨_, rfl, HS.out.1.pl⟩, a', r', HS.out.2.1, HS.out.2.2.1⟩⟩
set_option maxRecDepth 100000

theorem fdL_mem {G : Nat → Option (ByteArray × Tg)} {m : Nat} {f : Fd} : f ∈ fdL G m ↔ ∃ i, i < m ∧ fdOf G i = f := by unfold fdL; simp
theorem fdOf_some {G : Nat → Option (ByteArray × Tg)} {i : Nat} {t : ByteArray} {K S I O : Nat} (h : G i = some (t, K, S, I, O)) : fdOf G i = ⟨i, 1, K, S, I, O, 0, t⟩ := by unfold fdOf; rw [h]
theorem fdOf_isC {G : Nat → Option (ByteArray × Tg)} {i : Nat} (h : isC (fdOf G i) = true) : ∃ t S I O, G i = some (t, 3, S, I, O) ∧ I < O := by
  have hc := of_decide_eq_true h
  cases hG : G i with
  | none => unfold fdOf at hc; rw [hG] at hc; simp at hc
  | some x =>
    obtain ⟨t, K, S, I, O⟩ := x
    rw [fdOf_some hG] at hc
    dsimp only at hc
    obtain rfl : K = 3 := by omega
    exact ⟨t, S, I, O, rfl, by omega⟩
theorem fd_isC {G : Nat → Option (ByteArray × Tg)} {i : Nat} {t : ByteArray} {S I O : Nat} (h : G i = some (t, 3, S, I, O)) (hI : I < O) : isC (fdOf G i) = true := by
  rw [fdOf_some h]
  exact decide_eq_true ⟨rfl, rfl, by dsimp only; omega, by dsimp only; omega⟩
/-- pages whose numbers are small -/
def GOk (G : Nat → Option (ByteArray × Tg)) (m : Nat) : Prop := ∀ i, i < m → ∀ t K S I O, G i = some (t, K, S, I, O) → S < 18446744073709551616 ∧ I < O ∧ O ≤ 1000
theorem fd_ok {G : Nat → Option (ByteArray × Tg)} {m : Nat} (h : GOk G m) : ∀ f ∈ fdL G m, f.ok := by
  intro f hf
  obtain ⟨i, hi, rfl⟩ := fdL_mem.1 hf
  cases hG : G i with
  | none =>
    unfold fdOf
    rw [hG]
    unfold Fd.ok U64 N64
    dsimp only
    omega
  | some x =>
    obtain ⟨t, K, S, I, O⟩ := x
    have := h i hi t K S I O hG
    rw [fdOf_some hG]
    unfold Fd.ok U64 N64
    dsimp only
    omega
theorem has_found {G : Nat → Option (ByteArray × Tg)} {m : Nat} {S O n : Nat} (hn : n < O) : hasP (fdL G m) S O n = true ↔ ∃ i, i < m ∧ ∃ t, G i = some (t, 3, S, n, O) := by
  rw [hasP_iff]
  constructor
  · rintro ⟨f, hf, hC, h1, h2, h3⟩
    obtain ⟨i, hi, rfl⟩ := fdL_mem.1 hf
    obtain ⟨t, S', I', O', hG, _⟩ := fdOf_isC hC
    rw [fdOf_some hG] at h1 h2 h3
    dsimp only at h1 h2 h3
    obtain rfl : S' = S := by omega
    obtain rfl : O' = O := by omega
    obtain rfl : I' = n := by omega
    exact ⟨i, hi, t, hG⟩
  · rintro ⟨i, hi, t, hG⟩
    refine ⟨fdOf G i, fdL_mem.2 ⟨i, hi, rfl⟩, fd_isC hG hn, ?_⟩
    rw [fdOf_some hG]
    exact ⟨rfl, rfl, rfl⟩
/-- a whole checkpoint, above which there is none, is the newest -/
theorem newest_is {G : Nat → Option (ByteArray × Tg)} {m s o : Nat} (ho : 0 < o) (hall : ∀ j, j < o → ∃ i, i < m ∧ ∃ t, G i = some (t, 3, s, j, o))
    (hmax : ∀ i, i < m → ∀ t S I O, G i = some (t, 3, S, I, O) → I < O → (S ≤ s ∧ (S = s → O = o)) ∨ ∃ j, j < O ∧ ∀ i, i < m → ∀ t, G i ≠ some (t, 3, S, j, O)) : nwW (fdL G m) = some ((s : Int), (o : Int)) := by
  obtain ⟨i0, hi0, t0, hG0⟩ := hall 0 ho
  have hw : (cntC (fdL G m)).2 [(s : Int), (o : Int)] = (o : Int) := (cnt_whole _ _ _).2 (fun j hj => (has_found hj).2 (hall j hj))
  obtain ⟨s', o', hN, hle⟩ := nwW_max (l := fdL G m) (f := fdOf G i0) (fdL_mem.2 ⟨i0, hi0, rfl⟩) (fd_isC hG0 ho) (by rw [fdOf_some hG0]; exact hw)
  rw [fdOf_some hG0] at hle
  dsimp only at hle
  obtain ⟨f, hf, hC, h1, h2, h3⟩ := nwW_mem hN
  obtain ⟨i, hi, rfl⟩ := fdL_mem.1 hf
  obtain ⟨t, S, I, O, hG, hIO⟩ := fdOf_isC hC
  rw [fdOf_some hG] at h1 h2
  dsimp only at h1 h2
  subst h1 h2
  rcases hmax i hi t S I O hG hIO with ⟨h4, h5⟩ | ⟨j, hj, hno⟩
  · obtain rfl : S = s := by omega
    rw [hN, h5 rfl]
  · exfalso
    have := (cnt_whole _ _ _).1 h3 j hj
    obtain ⟨i', hi', t', hG'⟩ := (has_found hj).1 this
    exact hno i' hi' t' hG'
/-- what the pages of a checkpoint are -/
theorem pgs_at (l : List Fd) (s : Int) (o : Nat) : (pgs l s o).length = o ∧ ∀ j : Nat, hasP l s o j = true → ∃ f ∈ l, isC f = true ∧ f.S = s ∧ f.O = o ∧ f.I = j ∧ (pgs l s o).getD j fdZ = f := by
  induction l using snoc_ind with
  | h0 =>
    refine ⟨by simp [pgs], fun j hj => ?_⟩
    unfold hasP at hj
    simp at hj
  | h1 l f ih =>
    have hsn : pgs (l ++ [f]) s o = stP s o (pgs l s o) f := by unfold pgs; rw [List.foldl_append]; rfl
    rw [hsn]
    refine ⟨by rw [stP_len]; exact ih.1, fun j hj => ?_⟩
    unfold stP
    by_cases hc : isC f = true ∧ f.S = s ∧ f.O = o
    · rw [if_pos hc]
      have hi := of_decide_eq_true hc.1
      by_cases e : f.I = j
      · refine ⟨f, by simp, hc.1, hc.2.1, hc.2.2, e, ?_⟩
        have : j < (pgs l s o).length := by rw [ih.1]; omega
        rw [e, Int.toNat_natCast]
        simp [List.getD_eq_getElem?_getD, this]
      · rw [hasP_snoc, decide_eq_false (fun h => e h.2.2), Bool.and_false, Bool.or_false] at hj
        obtain ⟨g, hg, h1, h2, h3, h4, h5⟩ := ih.2 j hj
        refine ⟨g, by simp [hg], h1, h2, h3, h4, ?_⟩
        have hne : f.I.toNat ≠ j := by omega
        rw [← h5]
        simp [List.getD_eq_getElem?_getD, hne]
    · rw [if_neg hc]
      have hf : (isC f && decide (f.S = s ∧ f.O = o ∧ f.I = (j : Int))) = false := by
        cases hC : isC f with
        | false => rfl
        | true => rw [Bool.true_and, decide_eq_false (fun h => hc ⟨hC, h.1, h.2.1⟩)]
      rw [hasP_snoc, hf, Bool.or_false] at hj
      obtain ⟨g, hg, h1⟩ := ih.2 j hj
      exact ⟨g, by simp [hg], h1⟩
/-- pages that were written are there, the others are not -/
theorem Sq.pgs {D : Nat} {X : Wx} {a r T Q} (h : Sq D X a r T Q) (hP : 0 < X.C.P) {i : Nat} (hi : i < X.C.B * X.C.P) : PgIs X.C (i / X.C.P) (i % X.C.P) (if i < a * X.C.P + r then some (T i, Q i) else none) := by
  have hB : i / X.C.P < X.C.B := Nat.div_lt_of_lt_mul (by rw [Nat.mul_comm]; omega)
  have hm : i % X.C.P < X.C.P := Nat.mod_lt _ hP
  have hdm : i / X.C.P * X.C.P + i % X.C.P = i := by rw [Nat.mul_comm]; exact Nat.div_add_mod i X.C.P
  have hr := h.le
  generalize hb : i / X.C.P = b at *
  generalize hp : i % X.C.P = p at *
  have hcmp : (i < a * X.C.P + r) ↔ ((b < a ∧ p < X.C.P) ∨ (b = a ∧ p < r)) := by
    rcases Nat.lt_trichotomy b a with e | e | e
    · have := Nat.mul_le_mul_right X.C.P (show b + 1 ≤ a by omega)
      rw [Nat.succ_mul] at this
      omega
    · subst e; omega
    · have := Nat.mul_le_mul_right X.C.P (show a + 1 ≤ b by omega)
      rw [Nat.succ_mul] at this
      omega
  by_cases e : i < a * X.C.P + r
  · rw [if_pos e]
    have := h.says b p (hcmp.1 e)
    rw [hdm] at this
    exact this
  · rw [if_neg e]
    refine nov_rep _ _ _ (h.rest hB hm ?_)
    have := mt hcmp.2 e
    omega
set_option maxRecDepth 100000

theorem beg_cuts (b p z : Nat) (kf : Int × Int) : ∀ i : Nat, (begX b p z [] []).C.cuts ((i : Int) + 1) = if i + 0 + 1 = 0 then some kf else none := fun i => by
  rw [if_neg (by omega)]
  rfl
/-- places in memory -/
theorem Ints.one {w : World} {B a n cap n0 k} (h : Ints w B (.slice a n cap) (plc n0 k)) {j : Nat} (hj : j < k) : ∃ g, a = some ⟨g, 0, none⟩ ∧ n = k ∧ w.cell? ⟨g, j, none⟩ = some (.int .i64 ((n0 + j : Nat) : Int)) := by
  obtain ⟨g, h1, _, h3, h4⟩ := h.cell (j := j) (by rw [plc_len]; exact hj)
  refine ⟨g, h1, by rw [h3, plc_len], ?_⟩
  rw [h4.1]
  simp [plc, List.getD_eq_getElem?_getD, hj]
def r1 : Gp.R6 := (5, 3, 0, 0, 0, 0)
theorem r1_may : Gp.R6.may r1 = true := by decide
def ts1 : List ByteArray := Gp.packGo (64 : Nat) ([r1].map Gp.R6.put) [] ⟨#[]⟩
theorem ts1_len : ts1.length = 1 := by
  unfold ts1
  rw [List.map_cons, List.map_nil, Gp.packGo, if_neg (fun h => by have : (⟨#[]⟩ : ByteArray).size = 0 := rfl; omega), Gp.packGo]
  rfl
theorem recs1 (w : World) : Gp.RecsF (w.alloc (.cells #[.int .i64 5, .int .i64 3, .int .i64 0, .int .i64 0, .int .i64 0, .int .i64 0] 74)) (some ⟨w.heap.size, 0, none⟩) 1 (fun i => [r1].getD i (0, 0, 0, 0, 0, 0)) := by
  intro i hi
  obtain rfl : i = 0 := by omega
  have h := heap_alloc_new w (.cells #[.int .i64 5, .int .i64 3, .int .i64 0, .int .i64 0, .int .i64 0, .int .i64 0] 74)
  refine ⟨w.heap.size, 0, rfl, by rw [size_alloc]; omega, ?_, ?_, ?_, ?_, ?_, ?_⟩ <;> (rw [cell_of_row _ _ _ _ 74 _ h]; rfl)
/-- a checkpoint of all that was written is the newest -/
theorem newest_one {T : Nat → ByteArray} {s n m : Nat} (hn : 0 < n) (hnm : n ≤ m) : nwW (fdL (fun i => if i < n then some (T i, 3, s, i, n) else none) m) = some ((s : Int), (n : Int)) := by
  refine newest_is hn (fun j hj => ⟨j, by omega, T j, by rw [if_pos hj]⟩) (fun i hi t S I O hG hIO => .inl ?_)
  split at hG
  · simp at hG
    omega
  · cases hG
set_option maxHeartbeats 1000000 in
theorem awake_any (w : World) (hT : Pg.Tab w) : Calls Tryd.prog 7 #[] w fun e w' => e = .returned (.bool true) ∧ Below w.heap.size w w' := by
  have hbg := Hid.mk (begun_none 0 0 0 w hT.1)
  have HT := Hid.mk hT
  clear hT
  go_enter Tryd.func7, Tryd.ntmps7
  go_upto_region 4 with (first
    | (go_at_call 6; refine hbg.out.mono ?_; rintro e w1 ⟨b, p, z, A, rfl, h1⟩; have H1 := Hid.mk h1; clear h1))
  have hg := H1.out.geo
  have hbp : 32 ≤ b * p := Nat.mul_le_mul (show 8 ≤ b by omega) (show 4 ≤ p by omega)
  have R1 := Run.beg H1.out HT.out
  have S1 := Sq.beg b p z [] [] (by omega) (by omega) (by omega) (fun i => ts1.getD i ⟨#[]⟩) (fun i => (3, sqN (3 : Nat) 7 i, i, ts1.length))
  have R2 := R1.call (Pg.below_one w1 (.cells #[.int .i64 5, .int .i64 3, .int .i64 0, .int .i64 0, .int .i64 0, .int .i64 0] 74))
  have hw := write_any R2.wtr R2.tab S1 0 (by simp) [r1] (some ⟨w1.heap.size, 0, none⟩) 1 (recs1 w1) (fun r hr => by rw [List.mem_singleton.1 hr]; exact r1_may) (by simp) 3 (by omega) 7 (by omega) 64 ⟨by omega, by show 64 ≤ z; omega⟩ ts1 rfl (fun i hi => ⟨by rw [Nat.zero_add], by rw [Nat.zero_add]⟩) (by rw [ts1_len]; show 0 + 1 ≤ b * p; omega) 0 (0, 0) (beg_cuts b p z _) (fun _ => rfl) (.inl (Nat.le_refl _))
  rw [ts1_len] at hw S1
  have HW := Hid.mk hw
  have HR := Hid.mk R2
  clear hw R1 R2 S1 H1 HT hbg
  go_upto_region 5 with (first
    | (go_at_call 11; refine HW.out.mono ?_; rintro e w3 ⟨X3, A3, t3, tb3, n3, g3, cu3, fa3, hcase⟩; rcases hcase with ⟨_, ⟨v3, rfl, o3⟩, a3, r3, ar3, S3⟩ | ⟨h0, _⟩; rotate_left; exact absurd h0 (by omega); have H3 := Hid.mk (And.intro (HR.out.next t3 n3) (And.intro g3 (And.intro ar3 S3))); have eA := n3.a; clear t3 tb3 n3 g3 cu3 fa3 ar3 S3 HW HR))
  obtain ⟨R3, g3, ar3, S3⟩ := H3.out
  have hP : X3.C.P = p := g3.2.1
  have hB : X3.C.B = b := g3.1
  have hPP : (begX b p z [] []).C.P = p := rfl
  rw [hPP] at ar3
  have hpg : ∀ i, i < 8 → PgIs X3.C (i / X3.C.P) (i % X3.C.P) ((fun i => if i < 1 then some (ts1.getD i ⟨#[]⟩, 3, 7, i, 1) else none) i) := by
    intro i hi
    have := S3.pgs (by rw [hP]; omega) (i := i) (by rw [hB, hP]; omega)
    rw [hP, ar3] at this
    rw [hP]
    exact this
  have hfd := found_any R3.wtr R3.tab S3.fin.off (fun i => if i < 1 then some (ts1.getD i ⟨#[]⟩, 3, 7, i, 1) else none) 8 (by rw [hB, hP]; omega) (by omega) hpg
  rw [eA] at hfd
  have hok : GOk (fun i => if i < 1 then some (ts1.getD i ⟨#[]⟩, 3, 7, i, 1) else none) 8 := by
    intro i hi t K S I O hG
    dsimp only at hG
    split at hG
    · simp at hG
      omega
    · cases hG
  have hnw := newest_one (T := fun i => ts1.getD i ⟨#[]⟩) (s := 7) (n := 1) (m := 8) (by omega) (by omega)
  generalize (fun i : Nat => if i < 1 then some (ts1.getD i ⟨#[]⟩, 3, 7, i, 1) else none) = G at *
  obtain ⟨ga, gc, rfl⟩ := Ints.form o3
  rw [plc_len] at o3 ⊢
  obtain ⟨g4, rfl, _, d0⟩ := Ints.one o3 (j := 0) (by omega)
  have HF := Hid.mk hfd
  have HN := Hid.mk (And.intro hok hnw)
  have HB := Hid.mk R3.below
  have hg4 := (We.Ow.lt o3 g4 rfl).2
  have hnx : (nxv 3 7 1 : Int) = 8 := rfl
  rw [hnx]
  clear hpg hfd hok hnw H3 R3 g3 ar3 S3 o3 eA hPP
  go_upto_region 6 with (first
    | (go_at_call 18; refine HF.out.mono ?_; rintro e w4 ⟨v4, rfl, o4, b4⟩)
    | (go_at_call 14; refine (newest_some v4 (fdL G 8) w4 (o4.lower (Nat.zero_le _)) (fd_ok HN.out.1) (by rw [fdL_len]; omega) 7 1 HN.out.2 (by omega)).mono ?_; rintro e w5 ⟨v5, rfl, o5, l5, b5⟩))
  obtain ⟨a5, p5, rfl⟩ := o5.form
  rw [List.length_map, l5] at o5 ⊢
  have htx := Hid.mk (texts_any _ _ w5 (o5.lower (Nat.zero_le _)) (by rw [l5]; omega))
  have c0 : w5.cell? ⟨g4, 0, none⟩ = some (.int .i64 0) := (b5.cell (p := ⟨g4, 0, none⟩) (Nat.lt_of_lt_of_le hg4 b4.size)).trans ((b4.cell (p := ⟨g4, 0, none⟩) hg4).trans d0)
  have B5 := Hid.mk (below3 (below3 HB.out b4) b5)
  have htl : (txR (pgs (fdL G 8) 7 (1 : Nat))).length = 1 := by unfold txR; rw [List.length_map]; exact l5
  replace htl := Hid.mk htl
  clear HF HN HB d0 o4 b4 o5 b5
  go_wp2_with (first
    | (go_at_call 15; refine htx.out.mono ?_; rintro e w6 ⟨v6, rfl, o6, b6⟩; obtain ⟨a6, p6, rfl⟩ := o6.form; rw [htl.out]))
  go_ret
  exact ⟨rfl, below3 B5.out b6⟩
end Go.Proofs.YtbhggcleijjofaaDoor
