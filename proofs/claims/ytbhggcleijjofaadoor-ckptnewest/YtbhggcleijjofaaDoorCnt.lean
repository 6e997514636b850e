/-
  Pages that were found: which are a checkpoint's, and to which they belong; how many of each there are: the walks of isCheck, setOf, countParts. No condition.
-/
import Derived.Test.YtbhggcleijjofaaDoorKey
import Derived.Test.YtbhggcleijjofaaDoorVal
import Derived.Test.YtbhggcleijjofaaDoorRest
import Derived.Deep.Cut
import Derived.Deep.CutBlock
import Derived.Deep.CutRange
namespace Go.Proofs.YtbhggcleijjofaaDoor
open Go Go.RowKit
set_option maxRecDepth 100000

/-- a page that was found: where, its class, its tag, what it says -/
structure Fd where
  a : Int
  c : Int
  K : Int
  S : Int
  I : Int
  O : Int
  W : Int
  t : ByteArray
def Fd.row (f : Fd) : List Value := [.int .i64 f.a, .int .i64 f.c, .int .i64 f.K, .int .u64 f.S, .int .i64 f.I, .int .i64 f.O, .int .i64 f.W, .string f.t]
def Fd.val (f : Fd) : Value := .agg #[.int .i64 f.a, .int .i64 f.c, .int .i64 f.K, .int .u64 f.S, .int .i64 f.I, .int .i64 f.O, .int .i64 f.W, .string f.t]
/-- its numbers are ones that its types have -/
def Fd.ok (f : Fd) : Prop := U64 f.S ∧ N64 f.I ∧ N64 f.O
/-- one of a checkpoint -/
def isC (f : Fd) : Bool := decide (f.c = 1 ∧ f.K = 3 ∧ 0 ≤ f.I ∧ f.I < f.O)
set_option maxHeartbeats 1000000 in
theorem isCheck_any (f : Fd) (w : World) : Calls Tryd.prog 32 #[f.val] w fun e w' => e = .returned (.bool (isC f)) ∧ Below w.heap.size w w' := by
  obtain ⟨a, c, K, S, I, O, W, t⟩ := f
  unfold Fd.val isC
  dsimp only
  by_cases h1 : c = 1
  · by_cases h2 : K = 3
    · by_cases h3 : 0 ≤ I
      · by_cases h4 : I < O
        · rw [decide_eq_true ⟨h1, h2, h3, h4⟩]
          go_enter Tryd.func32, Tryd.ntmps32
          go_wp2_with fail
          go_ret
          exact ⟨rfl, Pg.below_one w _⟩
        · rw [decide_eq_false (fun h => h4 h.2.2.2)]
          go_enter Tryd.func32, Tryd.ntmps32
          go_wp2_with fail
          go_ret
          exact ⟨rfl, Pg.below_one w _⟩
      · rw [decide_eq_false (fun h => h3 h.2.2.1)]
        go_enter Tryd.func32, Tryd.ntmps32
        go_wp2_with fail
        go_ret
        exact ⟨rfl, Pg.below_one w _⟩
    · rw [decide_eq_false (fun h => h2 h.2.1)]
      go_enter Tryd.func32, Tryd.ntmps32
      go_wp2_with fail
      go_ret
      exact ⟨rfl, Pg.below_one w _⟩
  · rw [decide_eq_false (fun h => h1 h.1)]
    go_enter Tryd.func32, Tryd.ntmps32
    go_wp2_with fail
    go_ret
    exact ⟨rfl, Pg.below_one w _⟩
theorem setOf_any (K S I O W : Int) (w : World) : Calls Tryd.prog 33 #[.agg #[.int .i64 K, .int .u64 S, .int .i64 I, .int .i64 O, .int .i64 W]] w fun e w' => e = .returned (.agg #[.int .u64 S, .int .i64 O]) ∧ Below w.heap.size w w' := by
  go_enter Tryd.func33, Tryd.ntmps33
  go_wp2_with fail
  exact bodyPost_ret (v := .agg #[.int .u64 S, .int .i64 O]) (by rw [results_cell1 rfl]; go_simp) rfl ⟨rfl, below_two w _ _⟩

/-- counting pages of checkpoints: how often each was found, and of each checkpoint how many there are -/
def stepC (p : (List Int → Int) × (List Int → Int)) (f : Fd) : (List Int → Int) × (List Int → Int) :=
  if isC f = true then
    (updF p.1 [f.S, f.O, f.I] (p.1 [f.S, f.O, f.I] + 1), if p.1 [f.S, f.O, f.I] + 1 = 1 then updF p.2 [f.S, f.O] (p.2 [f.S, f.O] + 1) else p.2)
  else p
def cntC (l : List Fd) : (List Int → Int) × (List Int → Int) := l.foldl stepC (fun _ => 0, fun _ => 0)
theorem cntC_snoc (l : List Fd) (f : Fd) : cntC (l ++ [f]) = stepC (cntC l) f := by unfold cntC; rw [List.foldl_append]; rfl
theorem stepC_new (F3 F4 : List Int → Int) (f : Fd) (h : isC f = true) {c d : Int} (hc : F3 [f.S, f.O, f.I] = c) (hd : F4 [f.S, f.O] = d) (h0 : c + 1 = 1) : stepC (F3, F4) f = (updF F3 [f.S, f.O, f.I] (c + 1), updF F4 [f.S, f.O] (d + 1)) := by
  subst hc hd
  unfold stepC
  rw [if_pos h]
  dsimp only
  rw [if_pos h0]
theorem stepC_old (F3 F4 : List Int → Int) (f : Fd) (h : isC f = true) {c : Int} (hc : F3 [f.S, f.O, f.I] = c) (h0 : ¬ c + 1 = 1) : stepC (F3, F4) f = (updF F3 [f.S, f.O, f.I] (c + 1), F4) := by
  subst hc
  unfold stepC
  rw [if_pos h]
  dsimp only
  rw [if_neg h0]
/-- eight cells of a page -/
def Fd8 (w : World) (g : Nat) (f : Fd) : Prop := w.cell? ⟨g, 0, none⟩ = some (.int .i64 f.a) ∧ w.cell? ⟨g, 1, none⟩ = some (.int .i64 f.c) ∧ w.cell? ⟨g, 2, none⟩ = some (.int .i64 f.K) ∧ w.cell? ⟨g, 3, none⟩ = some (.int .u64 f.S) ∧ w.cell? ⟨g, 4, none⟩ = some (.int .i64 f.I) ∧ w.cell? ⟨g, 5, none⟩ = some (.int .i64 f.O) ∧ w.cell? ⟨g, 6, none⟩ = some (.int .i64 f.W) ∧ w.cell? ⟨g, 7, none⟩ = some (.string f.t)
theorem Fd8.fresh (w : World) (f : Fd) : Fd8 (w.alloc (.cells #[.int .i64 f.a, .int .i64 f.c, .int .i64 f.K, .int .u64 f.S, .int .i64 f.I, .int .i64 f.O, .int .i64 f.W, .string f.t] 53)) w.heap.size f := by
  have h := heap_alloc_new w (.cells #[.int .i64 f.a, .int .i64 f.c, .int .i64 f.K, .int .u64 f.S, .int .i64 f.I, .int .i64 f.O, .int .i64 f.W, .string f.t] 53)
  refine ⟨?_, ?_, ?_, ?_, ?_, ?_, ?_, ?_⟩ <;> (rw [cell_of_row _ _ _ _ 53 _ h]; rfl)
theorem Fd8.call {w w' : World} {g f} (h : Fd8 w g f) (hg : g < w.heap.size) (b : Below w.heap.size w w') : Fd8 w' g f := by
  have e : ∀ j, w'.cell? ⟨g, j, none⟩ = w.cell? ⟨g, j, none⟩ := fun j => b.cell (p := ⟨g, j, none⟩) hg
  unfold Fd8
  simp only [e]
  exact h
theorem Fd8.kp {S : Nat → Prop} {w w' : World} {g f} (h : Fd8 w g f) (hg : g < w.heap.size) (k : Kp S w w') (hs : ¬ S g) : Fd8 w' g f := by
  have e : ∀ j, w'.cell? ⟨g, j, none⟩ = w.cell? ⟨g, j, none⟩ := fun j => by unfold World.cell?; rw [k.block g hg hs]
  unfold Fd8
  simp only [e]
  exact h
/-- a page of a slice -/
theorem Ow.fd {w : World} {B a n cap} {l : List Fd} (h : We.Ow w B 53 8 (.slice a n cap) (l.map Fd.row)) {j : Nat} (hj : j < l.length) {f : Fd} (hf : l.getD j ⟨0, 0, 0, 0, 0, 0, 0, ⟨#[]⟩⟩ = f) :
    ∃ g, a = some ⟨g, 0, none⟩ ∧ g < w.heap.size ∧ w.cell? ⟨g, j * 8, none⟩ = some (.int .i64 f.a) ∧ w.cell? ⟨g, j * 8 + 1, none⟩ = some (.int .i64 f.c) ∧ w.cell? ⟨g, j * 8 + 2, none⟩ = some (.int .i64 f.K) ∧ w.cell? ⟨g, j * 8 + 3, none⟩ = some (.int .u64 f.S) ∧ w.cell? ⟨g, j * 8 + 4, none⟩ = some (.int .i64 f.I) ∧ w.cell? ⟨g, j * 8 + 5, none⟩ = some (.int .i64 f.O) ∧ w.cell? ⟨g, j * 8 + 6, none⟩ = some (.int .i64 f.W) ∧ w.cell? ⟨g, j * 8 + 7, none⟩ = some (.string f.t) := by
  obtain ⟨g, h1, _, h3, h4⟩ := h.at (j := j) (by rw [List.length_map]; exact hj)
  have hr : (l.map Fd.row).getD j [] = f.row := by
    rw [← hf]
    simp [List.getD_eq_getElem?_getD, hj]
  rw [hr] at h4
  exact ⟨g, h1, h3, h4 0 (by omega), h4 1 (by omega), h4 2 (by omega), h4 3 (by omega), h4 4 (by omega), h4 5 (by omega), h4 6 (by omega), h4 7 (by omega)⟩
/-- what countParts holds: the slice that it reads, two maps -/
structure CnS (w : World) (l : Value × List Fd) (b3 b4 n : Nat) (F3 F4 : List Int → Int) (wr : World) : Prop where
  own : We.Ow wr 0 53 8 l.1 (l.2.map Fd.row)
  below : Below w.heap.size w wr
  m3 : MapF 156 wr b3 n F3
  m4 : MapF 95 wr b4 n F4
  ne : b3 ≠ b4
  lo : w.heap.size ≤ b3 ∧ w.heap.size ≤ b4
theorem CnS.call {w l b3 b4 n F3 F4} {wr w2 : World} (h : CnS w l b3 b4 n F3 F4 wr) (b : Below wr.heap.size wr w2) : CnS w l b3 b4 n F3 F4 w2 := ⟨h.own.call b, below3 h.below b, h.m3.call b, h.m4.call b, h.ne, h.lo⟩
theorem fd_keep {w l b3 b4 n F3 F4 g f} {wr w2 : World} (h : Fd8 wr g f ∧ CnS w l b3 b4 n F3 F4 wr ∧ g < wr.heap.size) (b : Below wr.heap.size wr w2) : Fd8 w2 g f ∧ CnS w l b3 b4 n F3 F4 w2 ∧ g < w2.heap.size :=
  ⟨h.1.call h.2.2 b, h.2.1.call b, Nat.lt_of_lt_of_le h.2.2 b.size⟩
theorem look3 {w : World} {b n F} {S O I : Int} (h : MapF 156 w b n F) (hk : ∃ y, keyOf Tryd.prog 156 (kV [S, O, I]) = some y) {c : Int} (hc : F [S, O, I] = c) : (Instr.lookup 154 (.map (some b)) (.agg #[.int .u64 S, .int .i64 O, .int .i64 I]) false).run Tryd.prog w = .ok (.int .i64 c) w :=
  hc ▸ MapF.look law156 Tryd.underlying154 h hk
theorem look2 {w : World} {b n F} {S O : Int} (h : MapF 95 w b n F) (hk : ∃ y, keyOf Tryd.prog 95 (kV [S, O]) = some y) {c : Int} (hc : F [S, O] = c) : (Instr.lookup 132 (.map (some b)) (.agg #[.int .u64 S, .int .i64 O]) false).run Tryd.prog w = .ok (.int .i64 c) w :=
  hc ▸ MapF.look law95 Tryd.underlying132 h hk
theorem entry3 {w : World} {b n F} {S O I : Int} (h : MapF 156 w b n F) (hn : n < 1000000) (hk : ∃ y, keyOf Tryd.prog 156 (kV [S, O, I]) = some y) {c : Int} (hc : F [S, O, I] = c) :
    ∃ (st : Nat) (w1 : World), (Instr.mapEntry 154 (.map (some b)) (.agg #[.int .u64 S, .int .i64 O, .int .i64 I])).run Tryd.prog w = .ok (.tuple #[.int .i64 c, .int .i64 st]) w1 ∧ MapF 156 w1 b (n + 1) F ∧ Kp (fun i => i = b) w w1 ∧ w1.heap.size = w.heap.size ∧
      ∀ (w2 : World) (x : Int), w2.heap[b]? = w1.heap[b]? → ∃ w3, (Instr.entryStore 154 (.map (some b)) (.int .i64 st) (.int .i64 x)).run Tryd.prog w2 = .ok () w3 ∧ MapF 156 w3 b (n + 1) (updF F [S, O, I] x) ∧ Kp (fun i => i = b) w2 w3 ∧ w3.heap.size = w2.heap.size := by
  subst hc
  exact MapF.entry law156 Tryd.underlying154 h hn hk
theorem entry2 {w : World} {b n F} {S O : Int} (h : MapF 95 w b n F) (hn : n < 1000000) (hk : ∃ y, keyOf Tryd.prog 95 (kV [S, O]) = some y) {c : Int} (hc : F [S, O] = c) :
    ∃ (st : Nat) (w1 : World), (Instr.mapEntry 132 (.map (some b)) (.agg #[.int .u64 S, .int .i64 O])).run Tryd.prog w = .ok (.tuple #[.int .i64 c, .int .i64 st]) w1 ∧ MapF 95 w1 b (n + 1) F ∧ Kp (fun i => i = b) w w1 ∧ w1.heap.size = w.heap.size ∧
      ∀ (w2 : World) (x : Int), w2.heap[b]? = w1.heap[b]? → ∃ w3, (Instr.entryStore 132 (.map (some b)) (.int .i64 st) (.int .i64 x)).run Tryd.prog w2 = .ok () w3 ∧ MapF 95 w3 b (n + 1) (updF F [S, O] x) ∧ Kp (fun i => i = b) w2 w3 ∧ w3.heap.size = w2.heap.size := by
  subst hc
  exact MapF.entry law95 Tryd.underlying132 h hn hk
theorem own_ne_map {w : World} {B e sz v rows k b n F} (h : We.Ow w B e sz v rows) (m : MapF k w b n F) : v.ownBlock ≠ some b := by
  intro q
  obtain ⟨es, c, hb⟩ := m.obj
  rcases h.own.2 with ⟨rfl, _⟩ | ⟨g, cap, cur, rfl, _, hg, _⟩
  · cases q
  · obtain rfl : g = b := by simpa [Value.ownBlock] using q
    rw [hb] at hg
    cases hg
theorem CnS.kp {S : Nat → Prop} {w l b3 b4 n F3 F4} {wr w2 : World} (h : CnS w l b3 b4 n F3 F4 wr) (k : Kp S wr w2) (h3 : ¬ S b3) (h4 : ¬ S b4) (ho : ∀ g, l.1.ownBlock = some g → ¬ S g) (hlo : ∀ i, S i → w.heap.size ≤ i) : CnS w l b3 b4 n F3 F4 w2 :=
  ⟨h.own.same (fun g hg => k.block g (h.own.lt g hg).2 (ho g hg)), Kp.below h.below k h.below.size hlo, h.m3.same (k.block _ h.m3.lt h3), h.m4.same (k.block _ h.m4.lt h4), h.ne, h.lo⟩
/-- the maps, one of them written -/
theorem CnS.put3 {w l b3 b4 n F3 F4} {wr w2 : World} (h : CnS w l b3 b4 n F3 F4 wr) {n' : Nat} (hn : n ≤ n') {F3'} (m : MapF 156 w2 b3 n' F3') (k : Kp (fun i => i = b3) wr w2) : CnS w l b3 b4 n' F3' F4 w2 :=
  ⟨h.own.same (fun g hg => k.block g (h.own.lt g hg).2 (fun e => own_ne_map h.own h.m3 (by rw [hg, e]))), Kp.below h.below k h.below.size (fun i hi => by have := h.lo; omega), m, (h.m4.same (k.block _ h.m4.lt (fun e => h.ne e.symm))).mono hn, h.ne, h.lo⟩
theorem CnS.put4 {w l b3 b4 n F3 F4} {wr w2 : World} (h : CnS w l b3 b4 n F3 F4 wr) {n' : Nat} (hn : n ≤ n') {F4'} (m : MapF 95 w2 b4 n' F4') (k : Kp (fun i => i = b4) wr w2) : CnS w l b3 b4 n' F3 F4' w2 :=
  ⟨h.own.same (fun g hg => k.block g (h.own.lt g hg).2 (fun e => own_ne_map h.own h.m4 (by rw [hg, e]))), Kp.below h.below k h.below.size (fun i hi => by have := h.lo; omega), (h.m3.same (k.block _ h.m3.lt (fun e => h.ne e))).mono hn, m, h.ne, h.lo⟩
/-- a part in memory -/
def Pt3 (w : World) (g : Nat) (f : Fd) : Prop := w.cell? ⟨g, 0, none⟩ = some (.int .u64 f.S) ∧ w.cell? ⟨g, 1, none⟩ = some (.int .i64 f.O) ∧ w.cell? ⟨g, 2, none⟩ = some (.int .i64 f.I) ∧ ∃ c t m, w.heap[g]? = some (.cells c t m)
theorem Pt3.of {w : World} {g : Nat} {f : Fd} (h : w.heap[g]? = some (.cells #[.int .u64 f.S, .int .i64 f.O, .int .i64 f.I] 156 (0, 0))) : Pt3 w g f :=
  ⟨by rw [cell_of_row _ _ _ _ 156 _ h]; rfl, by rw [cell_of_row _ _ _ _ 156 _ h]; rfl, by rw [cell_of_row _ _ _ _ 156 _ h]; rfl, _, _, _, h⟩
theorem Pt3.kp {S : Nat → Prop} {w w' : World} {g f} (h : Pt3 w g f) (k : Kp S w w') (hs : ¬ S g) : Pt3 w' g f := by
  obtain ⟨h0, h1, h2, c, t, m, hg⟩ := h
  have hlt : g < w.heap.size := (Array.getElem?_eq_some_iff.1 hg).1
  have e : ∀ j, w'.cell? ⟨g, j, none⟩ = w.cell? ⟨g, j, none⟩ := fun j => by unfold World.cell?; rw [k.block g hlt hs]
  exact ⟨(e 0).trans h0, (e 1).trans h1, (e 2).trans h2, c, t, m, (k.block g hlt hs).trans hg⟩
theorem Pt3.ne_map {w : World} {g f k b n F} (h : Pt3 w g f) (m : MapF k w b n F) : ¬ g = b := by
  rintro rfl
  obtain ⟨_, _, _, c, t, q, hg⟩ := h
  obtain ⟨es, c2, hb⟩ := m.obj
  rw [hb] at hg
  cases hg
theorem part_cells {w : World} {g : Nat} {x y z : Value} (h : w.heap[g]? = some (.cells #[x, y, z] 156 (0, 0))) : w.cell? ⟨g, 0, none⟩ = some x ∧ w.cell? ⟨g, 1, none⟩ = some y ∧ w.cell? ⟨g, 2, none⟩ = some z :=
  ⟨by rw [cell_of_row _ _ _ _ 156 _ h]; rfl, by rw [cell_of_row _ _ _ _ 156 _ h]; rfl, by rw [cell_of_row _ _ _ _ 156 _ h]; rfl⟩
theorem part_frozen {w : World} {g : Nat} {x y z : Value} (h : w.heap[g]? = some (.cells #[x, y, z] 156 (0, 0))) : w.frozen? ⟨g, 0, none⟩ = false ∧ w.frozen? ⟨g, 1, none⟩ = false ∧ w.frozen? ⟨g, 2, none⟩ = false :=
  ⟨frozen_of_row w g 0 _ 156 h, frozen_of_row w g 1 _ 156 h, frozen_of_row w g 2 _ 156 h⟩
theorem part_set {w l b3 b4 n F3 F4 g6 f} {w1 w3 : World} {g7 : Nat} {x y z : Value} (h1 : Fd8 w1 g6 f ∧ CnS w l b3 b4 n F3 F4 w1 ∧ g6 < w1.heap.size) (hg : g7 = w1.heap.size) (h : Fd8 w3 g6 f ∧ CnS w l b3 b4 n F3 F4 w3 ∧ g6 < w3.heap.size) (hp : w3.heap[g7]? = some (.cells #[x, y, z] 156 (0, 0))) (a b c : Value) :
    (Fd8 (((w3.setCell ⟨g7, 0, none⟩ a).setCell ⟨g7, 1, none⟩ b).setCell ⟨g7, 2, none⟩ c) g6 f ∧ CnS w l b3 b4 n F3 F4 (((w3.setCell ⟨g7, 0, none⟩ a).setCell ⟨g7, 1, none⟩ b).setCell ⟨g7, 2, none⟩ c) ∧ g6 < (((w3.setCell ⟨g7, 0, none⟩ a).setCell ⟨g7, 1, none⟩ b).setCell ⟨g7, 2, none⟩ c).heap.size) ∧
      (((w3.setCell ⟨g7, 0, none⟩ a).setCell ⟨g7, 1, none⟩ b).setCell ⟨g7, 2, none⟩ c).heap[g7]? = some (.cells #[a, b, c] 156 (0, 0)) := by
  have k : Kp (fun i => i = g7) w3 (((w3.setCell ⟨g7, 0, none⟩ a).setCell ⟨g7, 1, none⟩ b).setCell ⟨g7, 2, none⟩ c) :=
    Kp.setCell (p := ⟨g7, 2, none⟩) (Kp.setCell (p := ⟨g7, 1, none⟩) (Kp.setCell (p := ⟨g7, 0, none⟩) (Kp.refl (fun i => i = g7) w3) (show g7 = g7 from rfl) a) (show g7 = g7 from rfl) b) (show g7 = g7 from rfl) c
  have q1 := heap_setCell_same w3 g7 0 _ 156 a hp
  have q2 := heap_setCell_same _ g7 1 _ 156 b q1
  have q3 := heap_setCell_same _ g7 2 _ 156 c q2
  have e3 := h1.2.1.m3.lt
  have e4 := h1.2.1.m4.lt
  have e6 := h1.2.2
  refine ⟨⟨h.1.kp h.2.2 k (by omega), h.2.1.kp k (by omega) (by omega) (fun g hg' => ?_) (fun i hi => ?_), Nat.lt_of_lt_of_le h.2.2 k.size⟩, q3⟩
  · have := (h1.2.1.own.lt g hg').2
    omega
  · have := h1.2.1.below.size
    omega
theorem cntC_le (l : List Fd) : (∀ y, 0 ≤ (cntC l).1 y ∧ (cntC l).1 y ≤ l.length) ∧ ∀ y, 0 ≤ (cntC l).2 y ∧ (cntC l).2 y ≤ l.length := by
  have h : ∀ (r : List Fd) (p : (List Int → Int) × (List Int → Int)) (n : Nat), ((∀ y, 0 ≤ p.1 y ∧ p.1 y ≤ n) ∧ ∀ y, 0 ≤ p.2 y ∧ p.2 y ≤ n) → (∀ y, 0 ≤ (r.foldl stepC p).1 y ∧ (r.foldl stepC p).1 y ≤ (n + r.length : Nat)) ∧ ∀ y, 0 ≤ (r.foldl stepC p).2 y ∧ (r.foldl stepC p).2 y ≤ (n + r.length : Nat) := by
    intro r
    induction r with
    | nil => intro p n h; exact h
    | cons f r ih =>
      intro p n h
      have := ih (stepC p f) (n + 1) ?_
      · rw [List.foldl_cons, List.length_cons]
        rw [show n + (r.length + 1) = n + 1 + r.length by omega]
        exact this
      · unfold stepC updF
        have hu : ∀ (G : List Int → Int) (z : List Int), (∀ y, 0 ≤ G y ∧ G y ≤ n) → ∀ y, 0 ≤ (if y = z then G z + 1 else G y) ∧ (if y = z then G z + 1 else G y) ≤ ((n + 1 : Nat) : Int) := by
          intro G z hG y
          have h1 := hG z
          have h2 := hG y
          split <;> omega
        have hm : ∀ (G : List Int → Int), (∀ y, 0 ≤ G y ∧ G y ≤ n) → ∀ y, 0 ≤ G y ∧ G y ≤ ((n + 1 : Nat) : Int) := by
          intro G hG y
          have h2 := hG y
          omega
        split
        · refine ⟨hu p.1 _ h.1, ?_⟩
          dsimp only
          split
          · exact hu p.2 _ h.2
          · exact hm p.2 h.2
        · exact ⟨hm p.1 h.1, hm p.2 h.2⟩
  have := h l (fun _ => 0, fun _ => 0) 0 ⟨fun y => by simp, fun y => by simp⟩
  rw [Nat.zero_add] at this
  exact this
set_option maxHeartbeats 2000000 in
theorem countParts_any (v : Value) (l : List Fd) (w : World) (h : We.Ow w 0 53 8 v (l.map Fd.row)) (hl : ∀ f ∈ l, f.ok) (hlen : l.length ≤ 1000) : Calls Tryd.prog 53 #[v] w fun e w' =>
    ∃ b n, e = .returned (.map (some b)) ∧ MapF 95 w' b n (cntC l).2 ∧ Below w.heap.size w w' := by
  obtain ⟨a, cap, hv⟩ := h.form
  rw [List.length_map] at hv
  have H := Hid.mk h
  have HL := Hid.mk hl
  subst hv
  clear h hl
  generalize hn : l.length = len at *
  have hmm := @run_makeMap Tryd.prog
  go_enter Tryd.func53, Tryd.ntmps53
  go_upto_region 4 with fail
  have C0 : CnS w (.slice a len cap, l) w.heap.size (w.heap.size + 1) 0 (fun _ => 0) (fun _ => 0) ((w.alloc (.map #[] 0)).alloc (.map #[] 0)) := by
    have b1 := Pg.below_one w (.map #[] 0)
    have b2 := Pg.below_one (w.alloc (.map #[] 0)) (.map #[] 0)
    have m4 := MapF.made 95 (w.alloc (.map #[] 0))
    rw [size_alloc] at m4
    exact ⟨(H.out.call b1).call b2, below3 b1 b2, (MapF.made 156 w).call b2, m4, by omega, by omega⟩
  generalize w.heap.size + 1 = b4 at *
  obtain ⟨b3, hb3⟩ : ∃ b, b = w.heap.size := ⟨_, rfl⟩
  rw [← hb3] at C0
  rw [← hb3]
  replace C0 := Hid.mk C0
  clear H hmm hb3
  generalize ((w.alloc (.map #[] 0)).alloc (.map #[] 0)) = W at *
  go_loopw [12] (fun i wr => ∃ k : Nat, k ≤ len ∧ i = .int .i64 k ∧ CnS w (.slice a len cap, l) b3 b4 (2 * k) (cntC (l.take k)).1 (cntC (l.take k)).2 wr) (fun i _ => len - (intOf i).toNat)
  case atStart => exact ⟨0, Nat.zero_le _, rfl, C0.out⟩
  case round =>
    clear C0
    obtain ⟨k, hk, rfl, hs⟩ := hrel
    by_cases hlt : k < len
    · have hltl : k < l.length := by rw [hn]; exact hlt
      obtain ⟨f, hf⟩ : ∃ f, l.getD k ⟨0, 0, 0, 0, 0, 0, 0, ⟨#[]⟩⟩ = f := ⟨_, rfl⟩
      have hfm : f ∈ l := by rw [← hf]; simp [List.getD_eq_getElem?_getD, hltl]
      have hok := HL.out f hfm
      have htk : l.take (k + 1) = l.take k ++ [f] := by
        rw [List.take_succ_eq_append_getElem hltl, ← hf]
        simp [List.getD_eq_getElem?_getD, hltl]
      obtain ⟨g, rfl, hg, c0, c1, c2, c3, c4, c5, c6, c7⟩ := Ow.fd hs.own hltl hf
      have hcn := cntC_snoc (l.take k) f
      have hle := cntC_le (l.take k)
      rw [List.length_take, Nat.min_eq_left (by omega)] at hle
      rw [← htk] at hcn
      generalize cntC (l.take k) = C at *
      obtain ⟨F3, F4⟩ := C
      replace hcn := Hid.mk hcn
      have hc3 := hle.1 [f.S, f.O, f.I]
      have hc4 := hle.2 [f.S, f.O]
      dsimp only at hc3 hc4
      clear htk hle
      replace hs := Hid.mk hs
      have hic := Hid.mk (isCheck_any f)
      have hset := Hid.mk (setOf_any f.K f.S f.I f.O f.W)
      have F8 := Hid.mk (fun w => Fd8.fresh w f)
      by_cases hC : isC f = true
      · go_upto_region 7 with (first
          | (go_at_call 32; refine (hic.out _).mono ?_; rintro e w1 ⟨rfl, b1⟩; rw [hC]))
        have hS7 : Hid (Fd8 w1.drew wr.heap.size f ∧ CnS w (.slice (some ⟨g, 0, none⟩) len cap, l) b3 b4 (2 * k) F3 F4 w1.drew ∧ wr.heap.size < w1.drew.heap.size) := by
          have h1 := fd_keep ⟨F8.out wr, hs.out.call (Pg.below_one wr _), by rw [size_alloc]; omega⟩ b1
          exact ⟨h1.1, ⟨h1.2.1.own.drew, h1.2.1.below.drew, h1.2.1.m3, h1.2.1.m4, h1.2.1.ne, h1.2.1.lo⟩, h1.2.2⟩
        clear b1 hs hg c0 c1 c2 c3 c4 c5 c6 c7 F8
        generalize wr.heap.size = g6 at *
        go_cut [7] from 13 to 43 (fun v7 wx => ∃ g7, v7 = .pointer (some ⟨g7, 0, none⟩) ∧ w.heap.size ≤ g7 ∧ wx.heap[g7]? = some (.cells #[.int .u64 f.S, .int .i64 f.O, .int .i64 f.I] 156 (0, 0)) ∧ CnS w (.slice (some ⟨g, 0, none⟩) len cap, l) b3 b4 (2 * k) F3 F4 wx)
        case first => as_aux_lemma =>
          refine wp_region_held_drew (S := fun w' => Fd8 w' g6 f ∧ CnS w (.slice (some ⟨g, 0, none⟩) len cap, l) b3 b4 (2 * k) F3 F4 w' ∧ g6 < w'.heap.size) (by kernel_rfl) hS7.out (fun hHeld => ?_)
          refine wpAnyH_take (i := 0) (oi := { dst := some 19, op := Op.fieldAddr 53 (Operand.tmp 6) 2, type := 0, pos := "ckpt.go:92", after := #[], guard := none }) (v := ?vva0) rfl (by kernel_rfl) (by kernel_rfl) (by kernel_rfl) (fun _ _ _ h => h) (Or.inl ⟨by rfl, ?yya0⟩) hHeld ?rra0
          case yya0 => (intro w0 hSw; obtain ⟨⟨s0, s1, s2, s3, s4, s5, s6, s7⟩, _⟩ := hSw; go_simp; try with_reducible rfl)
          try simp only [Act.put, List.setIfInBounds_toArray, List.set_cons_zero, List.set_cons_succ]
          refine wpAnyH_take (i := 1) (oi := { dst := some 20, op := Op.load 43 (Operand.tmp 19), type := 43, pos := "ckpt.go:92", after := #[{ on := 0, ground := Ground.data }], guard := none }) (v := ?vva1) rfl (by kernel_rfl) (by kernel_rfl) (by kernel_rfl) (fun _ _ _ h => h) (Or.inl ⟨by rfl, ?yya1⟩) hHeld ?rra1
          case yya1 => (intro w0 hSw; obtain ⟨⟨s0, s1, s2, s3, s4, s5, s6, s7⟩, _⟩ := hSw; go_simp; try with_reducible rfl)
          try simp only [Act.put, List.setIfInBounds_toArray, List.set_cons_zero, List.set_cons_succ]
          refine wpAnyH_take (i := 3) (oi := { dst := some 22, op := Op.fieldAddr 53 (Operand.tmp 6) 2, type := 0, pos := "ckpt.go:92", after := #[], guard := none }) (v := ?vva3) rfl (by kernel_rfl) (by kernel_rfl) (by kernel_rfl) (fun _ _ _ h => h) (Or.inl ⟨by rfl, ?yya3⟩) hHeld ?rra3
          case yya3 => (intro w0 hSw; obtain ⟨⟨s0, s1, s2, s3, s4, s5, s6, s7⟩, _⟩ := hSw; go_simp; try with_reducible rfl)
          try simp only [Act.put, List.setIfInBounds_toArray, List.set_cons_zero, List.set_cons_succ]
          refine wpAnyH_take (i := 4) (oi := { dst := some 23, op := Op.fieldAddr 43 (Operand.tmp 22) 2, type := 0, pos := "ckpt.go:92", after := #[{ on := 3, ground := Ground.data }], guard := none }) (v := ?vva4) rfl (by kernel_rfl) (by kernel_rfl) (by kernel_rfl) (fun _ _ _ h => h) (Or.inl ⟨by rfl, ?yya4⟩) hHeld ?rra4
          case yya4 => (intro w0 hSw; obtain ⟨⟨s0, s1, s2, s3, s4, s5, s6, s7⟩, _⟩ := hSw; go_simp; try with_reducible rfl)
          try simp only [Act.put, List.setIfInBounds_toArray, List.set_cons_zero, List.set_cons_succ]
          refine wpAnyH_take (i := 5) (oi := { dst := some 24, op := Op.load 3 (Operand.tmp 23), type := 3, pos := "ckpt.go:92", after := #[{ on := 4, ground := Ground.data }], guard := none }) (v := ?vva5) rfl (by kernel_rfl) (by kernel_rfl) (by kernel_rfl) (fun _ _ _ h => h) (Or.inl ⟨by rfl, ?yya5⟩) hHeld ?rra5
          case yya5 => (intro w0 hSw; obtain ⟨⟨s0, s1, s2, s3, s4, s5, s6, s7⟩, _⟩ := hSw; go_simp; try with_reducible rfl)
          try simp only [Act.put, List.setIfInBounds_toArray, List.set_cons_zero, List.set_cons_succ]
          refine wpAnyH_ready (rs := [2, 7]) (by kernel_rfl) (by simp) ?_
          refine AllReadyH.cons (o := { dst := some 21, op := Op.call { callee := Callee.value (Operand.func 33), args := #[Operand.tmp 20], argTypes := #[43] }, type := 95, pos := "ckpt.go:92", after := #[{ on := 1, ground := Ground.data }], guard := none }) rfl (fun K hK => ?_) ?_
          · go_simp
            go_at_call 33
            refine (hset.out _).mono ?_
            rintro e w3 ⟨rfl, k3⟩
            refine hK.out _ _ (fd_keep hHeld k3) (fun hHeld => ?_)
            clear hK K
            try simp only [Act.put, List.setIfInBounds_toArray, List.set_cons_zero, List.set_cons_succ]
            have hG3 := Hid.mk hHeld
            refine wpAnyH_take (i := 6) (oi := { dst := some 25, op := Op.build 156 #[(0, Operand.tmp 21), (1, Operand.tmp 24)], type := 156, pos := "ckpt.go:92", after := #[{ on := 2, ground := Ground.data }, { on := 5, ground := Ground.data }], guard := none }) (v := ?vvap6) rfl (by kernel_rfl) (by kernel_rfl) (by kernel_rfl) (fun _ _ _ h => h) (Or.inl ⟨by rfl, ?yyap6⟩) hHeld ?rrap6
            case yyap6 => (intro w0 hSw; obtain ⟨⟨s0, s1, s2, s3, s4, s5, s6, s7⟩, _⟩ := hSw; go_simp; try with_reducible rfl)
            try simp only [Act.put, List.setIfInBounds_toArray, List.set_cons_zero, List.set_cons_succ]
            refine wpAnyH_ready (rs := [7]) (by kernel_rfl) (by simp) ?_
            refine AllReadyH.cons (o := { dst := some 7, op := Op.alloc 156, type := 0, pos := "ckpt.go:92", after := #[], guard := none }) rfl (fun K hK => ?_) AllReadyH.nil
            go_simp
            refine hK.out _ _ (fd_keep hHeld (Pg.below_one _ _)) (fun hHeld => ?_)
            clear hK K
            try simp only [Act.put, List.setIfInBounds_toArray, List.set_cons_zero, List.set_cons_succ]
            refine wpAnyH_ready (rs := [8]) (by kernel_rfl) (by simp) ?_
            refine AllReadyH.cons (o := { dst := none, op := Op.store 156 (Operand.tmp 7) (Operand.tmp 25), type := 0, pos := "ckpt.go:92", after := #[{ on := 7, ground := Ground.data }, { on := 6, ground := Ground.data }, { on := 2, ground := Ground.chain }, { on := 0, ground := Ground.phase }, { on := 1, ground := Ground.phase }, { on := 2, ground := Ground.phase }, { on := 3, ground := Ground.phase }, { on := 4, ground := Ground.phase }, { on := 5, ground := Ground.phase }, { on := 6, ground := Ground.phase }, { on := 7, ground := Ground.phase }], guard := none }) rfl (fun K hK => ?_) AllReadyH.nil
            go_simp
            have hH1 := fd_keep hG3.out (Pg.below_one w3 (.cells #[.int .u64 f.S, .int .i64 f.O, .int .i64 f.I] 156))
            refine hK.out _ _ hH1 (fun hHeld => ?_)
            clear hK K
            try simp only [Act.put, List.setIfInBounds_toArray, List.set_cons_zero, List.set_cons_succ]
            refine wpAnyH_done (by kernel_rfl) ?_ _
            go_wp2_with fail
            go_meet
            exact ⟨_, rfl, hG3.out.2.1.below.size, heap_alloc_new w3 _, hH1.2.1⟩
          · have hH0 := Hid.mk hHeld
            refine AllReadyH.cons (o := { dst := some 7, op := Op.alloc 156, type := 0, pos := "ckpt.go:92", after := #[], guard := none }) rfl (fun K hK => ?_) AllReadyH.nil
            go_simp
            refine hK.out _ _ (fd_keep hHeld (Pg.below_one _ _)) (fun hHeld => ?_)
            clear hK K
            try simp only [Act.put, List.setIfInBounds_toArray, List.set_cons_zero, List.set_cons_succ]
            refine wpAnyH_ready (rs := [2]) (by kernel_rfl) (by simp) ?_
            refine AllReadyH.cons (o := { dst := some 21, op := Op.call { callee := Callee.value (Operand.func 33), args := #[Operand.tmp 20], argTypes := #[43] }, type := 95, pos := "ckpt.go:92", after := #[{ on := 1, ground := Ground.data }], guard := none }) rfl (fun K hK => ?_) AllReadyH.nil
            go_simp
            go_at_call 33
            refine (hset.out _).mono ?_
            rintro e w3 ⟨rfl, k3⟩
            have hp7 := (k3.block w1.heap.size (by show w1.heap.size < (w1.alloc _).heap.size; rw [size_alloc]; omega)).trans (heap_alloc_new w1 _)
            refine hK.out _ _ (fd_keep hHeld k3) (fun hHeld => ?_)
            clear hK K
            try simp only [Act.put, List.setIfInBounds_toArray, List.set_cons_zero, List.set_cons_succ]
            refine wpAnyH_take (i := 6) (oi := { dst := some 25, op := Op.build 156 #[(0, Operand.tmp 21), (1, Operand.tmp 24)], type := 156, pos := "ckpt.go:92", after := #[{ on := 2, ground := Ground.data }, { on := 5, ground := Ground.data }], guard := none }) (v := ?vvaq6) rfl (by kernel_rfl) (by kernel_rfl) (by kernel_rfl) (fun _ _ _ h => h) (Or.inl ⟨by rfl, ?yyaq6⟩) hHeld ?rraq6
            case yyaq6 => (intro w0 hSw; obtain ⟨⟨s0, s1, s2, s3, s4, s5, s6, s7⟩, _⟩ := hSw; go_simp; try with_reducible rfl)
            try simp only [Act.put, List.setIfInBounds_toArray, List.set_cons_zero, List.set_cons_succ]
            refine wpAnyH_ready (rs := [8]) (by kernel_rfl) (by simp) ?_
            refine AllReadyH.cons (o := { dst := none, op := Op.store 156 (Operand.tmp 7) (Operand.tmp 25), type := 0, pos := "ckpt.go:92", after := #[{ on := 7, ground := Ground.data }, { on := 6, ground := Ground.data }, { on := 2, ground := Ground.chain }, { on := 0, ground := Ground.phase }, { on := 1, ground := Ground.phase }, { on := 2, ground := Ground.phase }, { on := 3, ground := Ground.phase }, { on := 4, ground := Ground.phase }, { on := 5, ground := Ground.phase }, { on := 6, ground := Ground.phase }, { on := 7, ground := Ground.phase }], guard := none }) rfl (fun K hK => ?_) AllReadyH.nil
            have hH2 := part_set hH0.out rfl hHeld hp7 (.int .u64 f.S) (.int .i64 f.O) (.int .i64 f.I)
            obtain ⟨e0, e1, e2⟩ := part_cells hp7
            obtain ⟨f0, f1, f2⟩ := part_frozen hp7
            go_simp
            refine hK.out _ _ hH2.1 (fun hHeld => ?_)
            clear hK K
            try simp only [Act.put, List.setIfInBounds_toArray, List.set_cons_zero, List.set_cons_succ]
            refine wpAnyH_done (by kernel_rfl) ?_ _
            go_wp2_with fail
            go_meet
            exact ⟨_, rfl, hH0.out.2.1.below.size, hH2.2, hH2.1.2.1⟩
        case rest => as_aux_lemma =>
          obtain ⟨g7, rfl, h7lo, hp7, hs⟩ := hcut
          have P7 := Pt3.of hp7
          obtain ⟨c, hcc⟩ : ∃ c, F3 [f.S, f.O, f.I] = c := ⟨_, rfl⟩
          obtain ⟨d, hdd⟩ : ∃ d, F4 [f.S, f.O] = d := ⟨_, rfl⟩
          rw [hcc] at hc3
          rw [hdd] at hc4
          have hw3 : IntKind.i64.wrap (c + 1) = c + 1 := by rw [IntKind.wrap_i64]; omega
          have hw4 : IntKind.i64.wrap (d + 1) = d + 1 := by rw [IntKind.wrap_i64]; omega
          have hk3 := key156 hok.1 hok.2.2 hok.2.1
          have hk4 := key95 hok.1 hok.2.2
          have hs0 := Hid.mk hs
          have hS8 : Hid (Pt3 wc.drew g7 f) := P7
          clear hs hS7 P7 hp7 hic hset
          go_upto_region 8 with fail
          go_cut [13] from 14 to 43 (fun _ wx => Pt3 wx g7 f ∧ CnS w (.slice (some ⟨g, 0, none⟩) len cap, l) b3 b4 (2 * k + 1) (updF F3 [f.S, f.O, f.I] (c + 1)) F4 wx)
          case first => as_aux_lemma =>
            refine wp_region_held_drew (S := fun w' => Pt3 w' g7 f) (by kernel_rfl) hS8.out (fun hHeld => ?_)
            refine wpAnyH_take (i := 0) (oi := { dst := some 26, op := Op.move (Operand.tmp 3), type := 154, pos := "ckpt.go:93", after := #[], guard := none }) (v := ?vvb0) rfl (by kernel_rfl) (by kernel_rfl) (by kernel_rfl) (fun _ _ _ h => h) (Or.inl ⟨by rfl, ?yyb0⟩) hHeld ?rrb0
            case yyb0 => (intro w0 hSw; obtain ⟨s0, s1, s2, _⟩ := hSw; go_simp; try with_reducible rfl)
            try simp only [Act.put, List.setIfInBounds_toArray, List.set_cons_zero, List.set_cons_succ]
            refine wpAnyH_take (i := 1) (oi := { dst := some 27, op := Op.load 156 (Operand.tmp 7), type := 156, pos := "ckpt.go:93", after := #[], guard := none }) (v := ?vvb1) rfl (by kernel_rfl) (by kernel_rfl) (by kernel_rfl) (fun _ _ _ h => h) (Or.inl ⟨by rfl, ?yyb1⟩) hHeld ?rrb1
            case yyb1 => (intro w0 hSw; obtain ⟨s0, s1, s2, _⟩ := hSw; go_simp; try with_reducible rfl)
            try simp only [Act.put, List.setIfInBounds_toArray, List.set_cons_zero, List.set_cons_succ]
            refine wpAnyH_ready (rs := [2, 4]) (by kernel_rfl) (by simp) ?_
            refine AllReadyH.cons (o := { dst := some 28, op := Op.lookup 154 (Operand.tmp 26) (Operand.tmp 27) false, type := 3, pos := "ckpt.go:93", after := #[{ on := 0, ground := Ground.data }, { on := 1, ground := Ground.data }], guard := none }) rfl (fun K hK => ?_) ?_
            · have hl := look3 (w := wc.drew) hs0.out.m3 hk3 hcc
              go_simp
              refine hK.out _ _ hHeld (fun hHeld => ?_)
              clear hK K
              try simp only [Act.put, List.setIfInBounds_toArray, List.set_cons_zero, List.set_cons_succ]
              refine wpAnyH_take (i := 3) (oi := { dst := some 29, op := Op.binOp BinOp.add 3 (Operand.tmp 28) (Operand.const (Value.int IntKind.i64 1)) 3, type := 3, pos := "ckpt.go:93", after := #[{ on := 2, ground := Ground.data }], guard := none }) (v := ?vvbp3) rfl (by kernel_rfl) (by kernel_rfl) (by kernel_rfl) (fun _ _ _ h => h) (Or.inl ⟨by rfl, ?yybp3⟩) hHeld ?rrbp3
              case yybp3 => (intro w0 hSw; obtain ⟨s0, s1, s2, _⟩ := hSw; go_simp; try with_reducible rfl)
              try simp only [Act.put, List.setIfInBounds_toArray, List.set_cons_zero, List.set_cons_succ]
              refine wpAnyH_ready (rs := [4]) (by kernel_rfl) (by simp) ?_
              refine AllReadyH.cons (o := { dst := some 30, op := Op.mapEntry 154 (Operand.tmp 26) (Operand.tmp 27), type := 0, pos := "ckpt.go:93", after := #[{ on := 0, ground := Ground.data }, { on := 1, ground := Ground.data }, { on := 0, ground := Ground.phase }, { on := 1, ground := Ground.phase }, { on := 2, ground := Ground.textOnly Departure.mapOpAssignEntry }, { on := 3, ground := Ground.textOnly Departure.mapOpAssignEntry }], guard := none }) rfl (fun K hK => ?_) AllReadyH.nil
              obtain ⟨st, w4, hme, hm4, kp4, hsz4, hnext⟩ := entry3 (w := wc.drew) hs0.out.m3 (by omega) hk3 hcc
              go_simp
              refine hK.out _ _ (hHeld.kp kp4 (Pt3.ne_map (w := wc.drew) (k := 156) hHeld hs0.out.m3)) (fun hHeld => ?_)
              clear hK K
              try simp only [Act.put, List.setIfInBounds_toArray, List.set_cons_zero, List.set_cons_succ]
              refine wpAnyH_take (i := 5) (oi := { dst := some 31, op := Op.extract (Operand.tmp 30) 1, type := 3, pos := "ckpt.go:93", after := #[{ on := 4, ground := Ground.data }], guard := none }) (v := ?vvbp5) rfl (by kernel_rfl) (by kernel_rfl) (by kernel_rfl) (fun _ _ _ h => h) (Or.inl ⟨by rfl, ?yybp5⟩) hHeld ?rrbp5
              case yybp5 => (intro w0 hSw; obtain ⟨s0, s1, s2, _⟩ := hSw; go_simp; try with_reducible rfl)
              try simp only [Act.put, List.setIfInBounds_toArray, List.set_cons_zero, List.set_cons_succ]
              refine wpAnyH_ready (rs := [6]) (by kernel_rfl) (by simp) ?_
              refine AllReadyH.cons (o := { dst := none, op := Op.entryStore 154 (Operand.tmp 26) (Operand.tmp 31) (Operand.tmp 29), type := 0, pos := "ckpt.go:93", after := #[{ on := 0, ground := Ground.data }, { on := 5, ground := Ground.data }, { on := 3, ground := Ground.data }, { on := 4, ground := Ground.chain }, { on := 0, ground := Ground.phase }, { on := 1, ground := Ground.phase }, { on := 2, ground := Ground.phase }, { on := 3, ground := Ground.phase }, { on := 4, ground := Ground.phase }, { on := 5, ground := Ground.phase }], guard := none }) rfl (fun K hK => ?_) AllReadyH.nil
              obtain ⟨w5, hes, hm5, kp5, hsz5⟩ := hnext w4 (c + 1) rfl
              go_simp
              refine hK.out _ _ (hHeld.kp kp5 (Pt3.ne_map (k := 156) hHeld hm4)) (fun hHeld => ?_)
              clear hK K
              try simp only [Act.put, List.setIfInBounds_toArray, List.set_cons_zero, List.set_cons_succ]
              refine wpAnyH_done (by kernel_rfl) ?_ _
              go_wp2_with fail
              go_meet
              exact ⟨hHeld, hs0.out.put3 (Nat.le_succ _) hm5 ⟨kp5.os.trans kp4.os, kp5.tape.trans kp4.tape, kp5.output.trans kp4.output, Nat.le_trans kp4.size kp5.size, (Kp.trans kp4 kp5).block⟩⟩
            · refine AllReadyH.cons (o := { dst := some 30, op := Op.mapEntry 154 (Operand.tmp 26) (Operand.tmp 27), type := 0, pos := "ckpt.go:93", after := #[{ on := 0, ground := Ground.data }, { on := 1, ground := Ground.data }, { on := 0, ground := Ground.phase }, { on := 1, ground := Ground.phase }, { on := 2, ground := Ground.textOnly Departure.mapOpAssignEntry }, { on := 3, ground := Ground.textOnly Departure.mapOpAssignEntry }], guard := none }) rfl (fun K hK => ?_) AllReadyH.nil
              obtain ⟨st, w4, hme, hm4, kp4, hsz4, hnext⟩ := entry3 (w := wc.drew) hs0.out.m3 (by omega) hk3 hcc
              go_simp
              refine hK.out _ _ (hHeld.kp kp4 (Pt3.ne_map (w := wc.drew) (k := 156) hHeld hs0.out.m3)) (fun hHeld => ?_)
              clear hK K
              try simp only [Act.put, List.setIfInBounds_toArray, List.set_cons_zero, List.set_cons_succ]
              refine wpAnyH_take (i := 5) (oi := { dst := some 31, op := Op.extract (Operand.tmp 30) 1, type := 3, pos := "ckpt.go:93", after := #[{ on := 4, ground := Ground.data }], guard := none }) (v := ?vvbq5) rfl (by kernel_rfl) (by kernel_rfl) (by kernel_rfl) (fun _ _ _ h => h) (Or.inl ⟨by rfl, ?yybq5⟩) hHeld ?rrbq5
              case yybq5 => (intro w0 hSw; obtain ⟨s0, s1, s2, _⟩ := hSw; go_simp; try with_reducible rfl)
              try simp only [Act.put, List.setIfInBounds_toArray, List.set_cons_zero, List.set_cons_succ]
              refine wpAnyH_ready (rs := [2]) (by kernel_rfl) (by simp) ?_
              refine AllReadyH.cons (o := { dst := some 28, op := Op.lookup 154 (Operand.tmp 26) (Operand.tmp 27) false, type := 3, pos := "ckpt.go:93", after := #[{ on := 0, ground := Ground.data }, { on := 1, ground := Ground.data }], guard := none }) rfl (fun K hK => ?_) AllReadyH.nil
              have hl := look3 (w := w4) hm4 hk3 hcc
              go_simp
              refine hK.out _ _ hHeld (fun hHeld => ?_)
              clear hK K
              try simp only [Act.put, List.setIfInBounds_toArray, List.set_cons_zero, List.set_cons_succ]
              refine wpAnyH_take (i := 3) (oi := { dst := some 29, op := Op.binOp BinOp.add 3 (Operand.tmp 28) (Operand.const (Value.int IntKind.i64 1)) 3, type := 3, pos := "ckpt.go:93", after := #[{ on := 2, ground := Ground.data }], guard := none }) (v := ?vvbq3) rfl (by kernel_rfl) (by kernel_rfl) (by kernel_rfl) (fun _ _ _ h => h) (Or.inl ⟨by rfl, ?yybq3⟩) hHeld ?rrbq3
              case yybq3 => (intro w0 hSw; obtain ⟨s0, s1, s2, _⟩ := hSw; go_simp; try with_reducible rfl)
              try simp only [Act.put, List.setIfInBounds_toArray, List.set_cons_zero, List.set_cons_succ]
              refine wpAnyH_ready (rs := [6]) (by kernel_rfl) (by simp) ?_
              refine AllReadyH.cons (o := { dst := none, op := Op.entryStore 154 (Operand.tmp 26) (Operand.tmp 31) (Operand.tmp 29), type := 0, pos := "ckpt.go:93", after := #[{ on := 0, ground := Ground.data }, { on := 5, ground := Ground.data }, { on := 3, ground := Ground.data }, { on := 4, ground := Ground.chain }, { on := 0, ground := Ground.phase }, { on := 1, ground := Ground.phase }, { on := 2, ground := Ground.phase }, { on := 3, ground := Ground.phase }, { on := 4, ground := Ground.phase }, { on := 5, ground := Ground.phase }], guard := none }) rfl (fun K hK => ?_) AllReadyH.nil
              obtain ⟨w5, hes, hm5, kp5, hsz5⟩ := hnext w4 (c + 1) rfl
              go_simp
              refine hK.out _ _ (hHeld.kp kp5 (Pt3.ne_map (k := 156) hHeld hm4)) (fun hHeld => ?_)
              clear hK K
              try simp only [Act.put, List.setIfInBounds_toArray, List.set_cons_zero, List.set_cons_succ]
              refine wpAnyH_done (by kernel_rfl) ?_ _
              go_wp2_with fail
              go_meet
              exact ⟨hHeld, hs0.out.put3 (Nat.le_succ _) hm5 ⟨kp5.os.trans kp4.os, kp5.tape.trans kp4.tape, kp5.output.trans kp4.output, Nat.le_trans kp4.size kp5.size, (Kp.trans kp4 kp5).block⟩⟩
          case rest => as_aux_lemma =>
            obtain ⟨P8, hs1⟩ := hcut
            have hl9 := look3 (w := wc) hs1.m3 hk3 (c := c + 1) (by unfold updF; rw [if_pos rfl])
            have hP8 := Hid.mk P8
            obtain ⟨d0, d1, d2, -⟩ := P8
            replace hs1 := Hid.mk hs1
            clear hs0 hS8
            by_cases hc0 : c = 0
            · subst hc0
              go_upto_region 10 with fail
              have hS10 : Hid (Pt3 wc.drew g7 f) := hP8
              clear d0 d1 d2 hl9
              refine wp_region_held_drew (S := fun w' => Pt3 w' g7 f) (by kernel_rfl) hS10.out (fun hHeld => ?_)
              refine wpAnyH_take (i := 0) (oi := { dst := some 36, op := Op.move (Operand.tmp 4), type := 132, pos := "ckpt.go:95", after := #[], guard := none }) (v := ?vvc0) rfl (by kernel_rfl) (by kernel_rfl) (by kernel_rfl) (fun _ _ _ h => h) (Or.inl ⟨by rfl, ?yyc0⟩) hHeld ?rrc0
              case yyc0 => (intro w0 hSw; obtain ⟨s0, s1, s2, _⟩ := hSw; go_simp; try with_reducible rfl)
              try simp only [Act.put, List.setIfInBounds_toArray, List.set_cons_zero, List.set_cons_succ]
              refine wpAnyH_take (i := 1) (oi := { dst := some 37, op := Op.fieldAddr 156 (Operand.tmp 7) 0, type := 0, pos := "ckpt.go:95", after := #[], guard := none }) (v := ?vvc1) rfl (by kernel_rfl) (by kernel_rfl) (by kernel_rfl) (fun _ _ _ h => h) (Or.inl ⟨by rfl, ?yyc1⟩) hHeld ?rrc1
              case yyc1 => (intro w0 hSw; obtain ⟨s0, s1, s2, _⟩ := hSw; go_simp; try with_reducible rfl)
              try simp only [Act.put, List.setIfInBounds_toArray, List.set_cons_zero, List.set_cons_succ]
              refine wpAnyH_take (i := 2) (oi := { dst := some 38, op := Op.load 95 (Operand.tmp 37), type := 95, pos := "ckpt.go:95", after := #[{ on := 1, ground := Ground.data }], guard := none }) (v := ?vvc2) rfl (by kernel_rfl) (by kernel_rfl) (by kernel_rfl) (fun _ _ _ h => h) (Or.inl ⟨by rfl, ?yyc2⟩) hHeld ?rrc2
              case yyc2 => (intro w0 hSw; obtain ⟨s0, s1, s2, _⟩ := hSw; go_simp; try with_reducible rfl)
              try simp only [Act.put, List.setIfInBounds_toArray, List.set_cons_zero, List.set_cons_succ]
              refine wpAnyH_ready (rs := [3, 5]) (by kernel_rfl) (by simp) ?_
              refine AllReadyH.cons (o := { dst := some 39, op := Op.lookup 132 (Operand.tmp 36) (Operand.tmp 38) false, type := 3, pos := "ckpt.go:95", after := #[{ on := 0, ground := Ground.data }, { on := 2, ground := Ground.data }], guard := none }) rfl (fun K hK => ?_) ?_
              · have hl := look2 (w := wc.drew) hs1.out.m4 hk4 hdd
                go_simp
                refine hK.out _ _ hHeld (fun hHeld => ?_)
                clear hK K
                try simp only [Act.put, List.setIfInBounds_toArray, List.set_cons_zero, List.set_cons_succ]
                refine wpAnyH_take (i := 4) (oi := { dst := some 40, op := Op.binOp BinOp.add 3 (Operand.tmp 39) (Operand.const (Value.int IntKind.i64 1)) 3, type := 3, pos := "ckpt.go:95", after := #[{ on := 3, ground := Ground.data }], guard := none }) (v := ?vvcp4) rfl (by kernel_rfl) (by kernel_rfl) (by kernel_rfl) (fun _ _ _ h => h) (Or.inl ⟨by rfl, ?yycp4⟩) hHeld ?rrcp4
                case yycp4 => (intro w0 hSw; obtain ⟨s0, s1, s2, _⟩ := hSw; go_simp; try with_reducible rfl)
                try simp only [Act.put, List.setIfInBounds_toArray, List.set_cons_zero, List.set_cons_succ]
                refine wpAnyH_ready (rs := [5]) (by kernel_rfl) (by simp) ?_
                refine AllReadyH.cons (o := { dst := some 41, op := Op.mapEntry 132 (Operand.tmp 36) (Operand.tmp 38), type := 0, pos := "ckpt.go:95", after := #[{ on := 0, ground := Ground.data }, { on := 2, ground := Ground.data }, { on := 0, ground := Ground.phase }, { on := 1, ground := Ground.phase }, { on := 2, ground := Ground.phase }, { on := 3, ground := Ground.textOnly Departure.mapOpAssignEntry }, { on := 4, ground := Ground.textOnly Departure.mapOpAssignEntry }], guard := none }) rfl (fun K hK => ?_) AllReadyH.nil
                obtain ⟨st, w4, hme, hm4, kp4, hsz4, hnext⟩ := entry2 (w := wc.drew) hs1.out.m4 (by omega) hk4 hdd
                go_simp
                refine hK.out _ _ (hHeld.kp kp4 (Pt3.ne_map (w := wc.drew) (k := 95) hHeld hs1.out.m4)) (fun hHeld => ?_)
                clear hK K
                try simp only [Act.put, List.setIfInBounds_toArray, List.set_cons_zero, List.set_cons_succ]
                refine wpAnyH_take (i := 6) (oi := { dst := some 42, op := Op.extract (Operand.tmp 41) 1, type := 3, pos := "ckpt.go:95", after := #[{ on := 5, ground := Ground.data }], guard := none }) (v := ?vvcp6) rfl (by kernel_rfl) (by kernel_rfl) (by kernel_rfl) (fun _ _ _ h => h) (Or.inl ⟨by rfl, ?yycp6⟩) hHeld ?rrcp6
                case yycp6 => (intro w0 hSw; obtain ⟨s0, s1, s2, _⟩ := hSw; go_simp; try with_reducible rfl)
                try simp only [Act.put, List.setIfInBounds_toArray, List.set_cons_zero, List.set_cons_succ]
                refine wpAnyH_ready (rs := [7]) (by kernel_rfl) (by simp) ?_
                refine AllReadyH.cons (o := { dst := none, op := Op.entryStore 132 (Operand.tmp 36) (Operand.tmp 42) (Operand.tmp 40), type := 0, pos := "ckpt.go:95", after := #[{ on := 0, ground := Ground.data }, { on := 6, ground := Ground.data }, { on := 4, ground := Ground.data }, { on := 5, ground := Ground.chain }, { on := 0, ground := Ground.phase }, { on := 1, ground := Ground.phase }, { on := 2, ground := Ground.phase }, { on := 3, ground := Ground.phase }, { on := 4, ground := Ground.phase }, { on := 5, ground := Ground.phase }, { on := 6, ground := Ground.phase }], guard := none }) rfl (fun K hK => ?_) AllReadyH.nil
                obtain ⟨w5, hes, hm5, kp5, hsz5⟩ := hnext w4 (d + 1) rfl
                go_simp
                refine hK.out _ _ (hHeld.kp kp5 (Pt3.ne_map (k := 95) hHeld hm4)) (fun hHeld => ?_)
                clear hK K
                try simp only [Act.put, List.setIfInBounds_toArray, List.set_cons_zero, List.set_cons_succ]
                refine wpAnyH_done (by kernel_rfl) ?_ _
                go_wp2_with fail
                refine ⟨⟨k + 1, by omega, by go_num, ?_⟩, by simp [intOf]; omega⟩
                rw [hcn.out, stepC_new F3 F4 f hC hcc hdd rfl]
                exact hs1.out.put4 (Nat.le_succ _) hm5 ⟨kp5.os.trans kp4.os, kp5.tape.trans kp4.tape, kp5.output.trans kp4.output, Nat.le_trans kp4.size kp5.size, (Kp.trans kp4 kp5).block⟩
              · refine AllReadyH.cons (o := { dst := some 41, op := Op.mapEntry 132 (Operand.tmp 36) (Operand.tmp 38), type := 0, pos := "ckpt.go:95", after := #[{ on := 0, ground := Ground.data }, { on := 2, ground := Ground.data }, { on := 0, ground := Ground.phase }, { on := 1, ground := Ground.phase }, { on := 2, ground := Ground.phase }, { on := 3, ground := Ground.textOnly Departure.mapOpAssignEntry }, { on := 4, ground := Ground.textOnly Departure.mapOpAssignEntry }], guard := none }) rfl (fun K hK => ?_) AllReadyH.nil
                obtain ⟨st, w4, hme, hm4, kp4, hsz4, hnext⟩ := entry2 (w := wc.drew) hs1.out.m4 (by omega) hk4 hdd
                go_simp
                refine hK.out _ _ (hHeld.kp kp4 (Pt3.ne_map (w := wc.drew) (k := 95) hHeld hs1.out.m4)) (fun hHeld => ?_)
                clear hK K
                try simp only [Act.put, List.setIfInBounds_toArray, List.set_cons_zero, List.set_cons_succ]
                refine wpAnyH_take (i := 6) (oi := { dst := some 42, op := Op.extract (Operand.tmp 41) 1, type := 3, pos := "ckpt.go:95", after := #[{ on := 5, ground := Ground.data }], guard := none }) (v := ?vvcq6) rfl (by kernel_rfl) (by kernel_rfl) (by kernel_rfl) (fun _ _ _ h => h) (Or.inl ⟨by rfl, ?yycq6⟩) hHeld ?rrcq6
                case yycq6 => (intro w0 hSw; obtain ⟨s0, s1, s2, _⟩ := hSw; go_simp; try with_reducible rfl)
                try simp only [Act.put, List.setIfInBounds_toArray, List.set_cons_zero, List.set_cons_succ]
                refine wpAnyH_ready (rs := [3]) (by kernel_rfl) (by simp) ?_
                refine AllReadyH.cons (o := { dst := some 39, op := Op.lookup 132 (Operand.tmp 36) (Operand.tmp 38) false, type := 3, pos := "ckpt.go:95", after := #[{ on := 0, ground := Ground.data }, { on := 2, ground := Ground.data }], guard := none }) rfl (fun K hK => ?_) AllReadyH.nil
                have hl := look2 (w := w4) hm4 hk4 hdd
                go_simp
                refine hK.out _ _ hHeld (fun hHeld => ?_)
                clear hK K
                try simp only [Act.put, List.setIfInBounds_toArray, List.set_cons_zero, List.set_cons_succ]
                refine wpAnyH_take (i := 4) (oi := { dst := some 40, op := Op.binOp BinOp.add 3 (Operand.tmp 39) (Operand.const (Value.int IntKind.i64 1)) 3, type := 3, pos := "ckpt.go:95", after := #[{ on := 3, ground := Ground.data }], guard := none }) (v := ?vvcq4) rfl (by kernel_rfl) (by kernel_rfl) (by kernel_rfl) (fun _ _ _ h => h) (Or.inl ⟨by rfl, ?yycq4⟩) hHeld ?rrcq4
                case yycq4 => (intro w0 hSw; obtain ⟨s0, s1, s2, _⟩ := hSw; go_simp; try with_reducible rfl)
                try simp only [Act.put, List.setIfInBounds_toArray, List.set_cons_zero, List.set_cons_succ]
                refine wpAnyH_ready (rs := [7]) (by kernel_rfl) (by simp) ?_
                refine AllReadyH.cons (o := { dst := none, op := Op.entryStore 132 (Operand.tmp 36) (Operand.tmp 42) (Operand.tmp 40), type := 0, pos := "ckpt.go:95", after := #[{ on := 0, ground := Ground.data }, { on := 6, ground := Ground.data }, { on := 4, ground := Ground.data }, { on := 5, ground := Ground.chain }, { on := 0, ground := Ground.phase }, { on := 1, ground := Ground.phase }, { on := 2, ground := Ground.phase }, { on := 3, ground := Ground.phase }, { on := 4, ground := Ground.phase }, { on := 5, ground := Ground.phase }, { on := 6, ground := Ground.phase }], guard := none }) rfl (fun K hK => ?_) AllReadyH.nil
                obtain ⟨w5, hes, hm5, kp5, hsz5⟩ := hnext w4 (d + 1) rfl
                go_simp
                refine hK.out _ _ (hHeld.kp kp5 (Pt3.ne_map (k := 95) hHeld hm4)) (fun hHeld => ?_)
                clear hK K
                try simp only [Act.put, List.setIfInBounds_toArray, List.set_cons_zero, List.set_cons_succ]
                refine wpAnyH_done (by kernel_rfl) ?_ _
                go_wp2_with fail
                refine ⟨⟨k + 1, by omega, by go_num, ?_⟩, by simp [intOf]; omega⟩
                rw [hcn.out, stepC_new F3 F4 f hC hcc hdd rfl]
                exact hs1.out.put4 (Nat.le_succ _) hm5 ⟨kp5.os.trans kp4.os, kp5.tape.trans kp4.tape, kp5.output.trans kp4.output, Nat.le_trans kp4.size kp5.size, (Kp.trans kp4 kp5).block⟩
            · have hc1 : ¬ c + 1 = 1 := by omega
              go_wp2_with fail
              refine ⟨⟨k + 1, by omega, by go_num, ?_⟩, by simp [intOf]; omega⟩
              rw [hcn.out, stepC_old F3 F4 f hC hcc hc1]
              exact ⟨hs1.out.own, hs1.out.below, hs1.out.m3.mono (by omega), hs1.out.m4.mono (by omega), hs1.out.ne, hs1.out.lo⟩
      · have hCf : isC f = false := by simpa using hC
        go_wp2_with (first
          | (go_at_call 32; refine (hic.out _).mono ?_; rintro e w1 ⟨rfl, b1⟩; rw [hCf]))
        refine ⟨⟨k + 1, by omega, by go_num, ?_⟩, by simp [intOf]; omega⟩
        rw [hcn.out]
        unfold stepC
        rw [if_neg hC]
        have h1 := (hs.out.call (Pg.below_one wr _)).call b1
        exact ⟨h1.own, h1.below, h1.m3.mono (by omega), h1.m4.mono (by omega), h1.ne, h1.lo⟩
    · obtain rfl : k = len := by omega
      rw [List.take_of_length_le (by omega)] at hs
      have HS := Hid.mk hs
      clear hs
      go_wp2_with fail
      go_ret
      exact ⟨_, _, rfl, HS.out.m4, HS.out.below⟩
end Go.Proofs.YtbhggcleijjofaaDoor
