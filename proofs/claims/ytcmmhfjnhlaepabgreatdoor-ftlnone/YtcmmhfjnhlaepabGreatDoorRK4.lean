/-
  Pages that were found: which are a checkpoint's, and to which they belong; how many of each there are: the walks of isCheck, setOf, countParts. No condition. The newest checkpoint that is whole: which it is: the walk of newestWhole. No condition. The pages of the newest checkpoint that is whole: the walk of Newest. Condition: a checkpoint has at most 1000 pages. Which checkpoint is the newest whole one, said plainly. Pure. What pages say: the walk of Texts, and of the function that gathers for it. No condition.
-/
import Derived.Test.YtcmmhfjnhlaepabGreatDoorRK1
import Derived.Test.YtcmmhfjnhlaepabGreatDoorRK2
import Derived.Test.YtcmmhfjnhlaepabGreatDoorRK3
import Derived.Deep.Cut
import Derived.Deep.CutBlock
import Derived.Deep.CutRange
import Derived.Laws.ResultCell
import Derived.Laws.StructEq
namespace Go.Proofs.YtcmmhfjnhlaepabGreatDoor
open Go Go.RowKit
set_option maxRecDepth 100000
structure Fd where
 a : Int
 c : Int
 K : Int
 S : Int
 I : Int
 O : Int
 W : Int
 t : ByteArray
def Fd.row (f : Fd) : List Value := [.int .i64 f.a, .int .i64 f.c, .int .i64 f.K, .int .u64 f.S, .int .i64 f.I, .int .i64 f.O, .int .i64 f.W, .string f.t]
def Fd.val (f : Fd) : Value := .agg #[.int .i64 f.a, .int .i64 f.c, .int .i64 f.K, .int .u64 f.S, .int .i64 f.I, .int .i64 f.O, .int .i64 f.W, .string f.t]
def Fd.ok (f : Fd) : Prop := U64 f.S /\ N64 f.I /\ N64 f.O
def isC (f : Fd) : Bool := decide (f.c = 1 /\ f.K = 3 /\ 0 <= f.I /\ f.I < f.O)
set_option maxHeartbeats 1000000 in
theorem isCheck_any (f : Fd) (w : World) : Calls Tryz.prog 131 #[f.val] w fun e w' => e = .returned (.bool (isC f)) /\ Below w.heap.size w w' := by
 obtain ⟨a, c, K, S, I, O, W, t⟩ := f
 unfold Fd.val isC
 dsimp only
 by_cases h1 : c = 1
 ·by_cases h2 : K = 3
  ·by_cases h3 : 0 <= I
   ·by_cases h4 : I < O
    ·rw [decide_eq_true ⟨h1, h2, h3, h4⟩]
     go_enter Tryz.func131, Tryz.ntmps131
     go_wp2_with fail
     go_ret
     exact ⟨rfl, Pg.below_one w _⟩
    ·rw [decide_eq_false (fun h => h4 h.2.2.2)]
     go_enter Tryz.func131, Tryz.ntmps131
     go_wp2_with fail
     go_ret
     exact ⟨rfl, Pg.below_one w _⟩
   ·rw [decide_eq_false (fun h => h3 h.2.2.1)]
    go_enter Tryz.func131, Tryz.ntmps131
    go_wp2_with fail
    go_ret
    exact ⟨rfl, Pg.below_one w _⟩
  ·rw [decide_eq_false (fun h => h2 h.2.1)]
   go_enter Tryz.func131, Tryz.ntmps131
   go_wp2_with fail
   go_ret
   exact ⟨rfl, Pg.below_one w _⟩
 ·rw [decide_eq_false (fun h => h1 h.1)]
  go_enter Tryz.func131, Tryz.ntmps131
  go_wp2_with fail
  go_ret
  exact ⟨rfl, Pg.below_one w _⟩
theorem setOf_any (K S I O W : Int) (w : World) : Calls Tryz.prog 132 #[.agg #[.int .i64 K, .int .u64 S, .int .i64 I, .int .i64 O, .int .i64 W]] w fun e w' => e = .returned (.agg #[.int .u64 S, .int .i64 O]) /\ Below w.heap.size w w' := by
 go_enter Tryz.func132, Tryz.ntmps132
 go_wp2_with fail
 exact bodyPost_ret (v := .agg #[.int .u64 S, .int .i64 O]) (by rw [results_cell1 rfl]; go_simp) rfl ⟨rfl, below_two w _ _⟩
def stepC (p : (List Int -> Int) × (List Int -> Int)) (f : Fd) : (List Int -> Int) × (List Int -> Int) :=
 if isC f = true then
  (updF p.1 [f.S, f.O, f.I] (p.1 [f.S, f.O, f.I] + 1), if p.1 [f.S, f.O, f.I] + 1 = 1 then updF p.2 [f.S, f.O] (p.2 [f.S, f.O] + 1) else p.2)
 else p
def cntC (l : List Fd) : (List Int -> Int) × (List Int -> Int) := l.foldl stepC (fun _ => 0, fun _ => 0)
theorem cntC_snoc (l : List Fd) (f : Fd) : cntC (l ++ [f]) = stepC (cntC l) f := by unfold cntC; rw [List.foldl_append]; rfl
theorem stepC_new (F3 F4 : List Int -> Int) (f : Fd) (h : isC f = true) {c d : Int} (hc : F3 [f.S, f.O, f.I] = c) (hd : F4 [f.S, f.O] = d) (h0 : c + 1 = 1) : stepC (F3, F4) f = (updF F3 [f.S, f.O, f.I] (c + 1), updF F4 [f.S, f.O] (d + 1)) := by
 subst hc hd
 unfold stepC
 rw [if_pos h]
 dsimp only
 rw [if_pos h0]
theorem stepC_old (F3 F4 : List Int -> Int) (f : Fd) (h : isC f = true) {c : Int} (hc : F3 [f.S, f.O, f.I] = c) (h0 : ¬ c + 1 = 1) : stepC (F3, F4) f = (updF F3 [f.S, f.O, f.I] (c + 1), F4) := by
 subst hc
 unfold stepC
 rw [if_pos h]
 dsimp only
 rw [if_neg h0]
abbrev Fd8 (w : World) (g : Nat) (f : Fd) : Prop := w.cell? ⟨g, 0, none⟩ = some (.int .i64 f.a) /\ w.cell? ⟨g, 1, none⟩ = some (.int .i64 f.c) /\ w.cell? ⟨g, 2, none⟩ = some (.int .i64 f.K) /\ w.cell? ⟨g, 3, none⟩ = some (.int .u64 f.S) /\ w.cell? ⟨g, 4, none⟩ = some (.int .i64 f.I) /\ w.cell? ⟨g, 5, none⟩ = some (.int .i64 f.O) /\ w.cell? ⟨g, 6, none⟩ = some (.int .i64 f.W) /\ w.cell? ⟨g, 7, none⟩ = some (.string f.t)
theorem Fd8.fresh (w : World) (f : Fd) : Fd8 (w.alloc (.cells #[.int .i64 f.a, .int .i64 f.c, .int .i64 f.K, .int .u64 f.S, .int .i64 f.I, .int .i64 f.O, .int .i64 f.W, .string f.t] 99)) w.heap.size f := by
 have h := heap_alloc_new w (.cells #[.int .i64 f.a, .int .i64 f.c, .int .i64 f.K, .int .u64 f.S, .int .i64 f.I, .int .i64 f.O, .int .i64 f.W, .string f.t] 99)
 refine ⟨?_, ?_, ?_, ?_, ?_, ?_, ?_, ?_⟩ <;> (rw [cell_of_row _ _ _ _ 99 _ h]; rfl)
theorem Fd8.call {w w' : World} {g f} (h : Fd8 w g f) (hg : g < w.heap.size) (b : Below w.heap.size w w') : Fd8 w' g f := by
 have e : ∀ j, w'.cell? ⟨g, j, none⟩ = w.cell? ⟨g, j, none⟩ := fun j => b.cell (p := ⟨g, j, none⟩) hg
 unfold Fd8
 simp only [e]
 exact h
theorem Fd8.kp {S : Nat -> Prop} {w w' : World} {g f} (h : Fd8 w g f) (hg : g < w.heap.size) (k : Kp S w w') (hs : ¬ S g) : Fd8 w' g f := by
 have e : ∀ j, w'.cell? ⟨g, j, none⟩ = w.cell? ⟨g, j, none⟩ := fun j => by unfold World.cell?; rw [k.block g hg hs]
 unfold Fd8
 simp only [e]
 exact h
theorem Ow.fd {w : World} {B a n cap} {l : List Fd} (h : We.Ow w B 99 8 (.slice a n cap) (l.map Fd.row)) {j : Nat} (hj : j < l.length) {f : Fd} (hf : l.getD j ⟨0, 0, 0, 0, 0, 0, 0, ⟨#[]⟩⟩ = f) :
  ∃ g, a = some ⟨g, 0, none⟩ /\ g < w.heap.size /\ w.cell? ⟨g, j * 8, none⟩ = some (.int .i64 f.a) /\ w.cell? ⟨g, j * 8 + 1, none⟩ = some (.int .i64 f.c) /\ w.cell? ⟨g, j * 8 + 2, none⟩ = some (.int .i64 f.K) /\ w.cell? ⟨g, j * 8 + 3, none⟩ = some (.int .u64 f.S) /\ w.cell? ⟨g, j * 8 + 4, none⟩ = some (.int .i64 f.I) /\ w.cell? ⟨g, j * 8 + 5, none⟩ = some (.int .i64 f.O) /\ w.cell? ⟨g, j * 8 + 6, none⟩ = some (.int .i64 f.W) /\ w.cell? ⟨g, j * 8 + 7, none⟩ = some (.string f.t) := by
 obtain ⟨g, h1, _, h3, h4⟩ := h.at (j := j) (by rw [List.length_map]; exact hj)
 have hr : (l.map Fd.row).getD j [] = f.row := by
  rw [<- hf]
  simp [List.getD_eq_getElem?_getD, hj]
 rw [hr] at h4
 exact ⟨g, h1, h3, h4 0 (by omega), h4 1 (by omega), h4 2 (by omega), h4 3 (by omega), h4 4 (by omega), h4 5 (by omega), h4 6 (by omega), h4 7 (by omega)⟩
structure CnS (w : World) (l : Value × List Fd) (b3 b4 n : Nat) (F3 F4 : List Int -> Int) (wr : World) : Prop where
 own : We.Ow wr 0 99 8 l.1 (l.2.map Fd.row)
 below : Below w.heap.size w wr
 m3 : MapF 261 wr b3 n F3
 m4 : MapF 180 wr b4 n F4
 ne : b3 ≠ b4
 lo : w.heap.size <= b3 /\ w.heap.size <= b4
theorem CnS.call {w l b3 b4 n F3 F4} {wr w2 : World} (h : CnS w l b3 b4 n F3 F4 wr) (b : Below wr.heap.size wr w2) : CnS w l b3 b4 n F3 F4 w2 := ⟨h.own.call b, below3 h.below b, h.m3.call b, h.m4.call b, h.ne, h.lo⟩
theorem fd_keep {w l b3 b4 n F3 F4 g f} {wr w2 : World} (h : Fd8 wr g f /\ CnS w l b3 b4 n F3 F4 wr /\ g < wr.heap.size) (b : Below wr.heap.size wr w2) : Fd8 w2 g f /\ CnS w l b3 b4 n F3 F4 w2 /\ g < w2.heap.size :=
 ⟨h.1.call h.2.2 b, h.2.1.call b, Nat.lt_of_lt_of_le h.2.2 b.size⟩
theorem look3 {w : World} {b n F} {S O I : Int} (h : MapF 261 w b n F) (hk : ∃ y, keyOf Tryz.prog 261 (kV [S, O, I]) = some y) {c : Int} (hc : F [S, O, I] = c) : (Instr.lookup 259 (.map (some b)) (.agg #[.int .u64 S, .int .i64 O, .int .i64 I]) false).run Tryz.prog w = .ok (.int .i64 c) w :=
 hc ▸ MapF.look law156 Tryz.underlying259 h hk
theorem look2 {w : World} {b n F} {S O : Int} (h : MapF 180 w b n F) (hk : ∃ y, keyOf Tryz.prog 180 (kV [S, O]) = some y) {c : Int} (hc : F [S, O] = c) : (Instr.lookup 230 (.map (some b)) (.agg #[.int .u64 S, .int .i64 O]) false).run Tryz.prog w = .ok (.int .i64 c) w :=
 hc ▸ MapF.look law95 Tryz.underlying230 h hk
theorem entry3 {w : World} {b n F} {S O I : Int} (h : MapF 261 w b n F) (hn : n < 1000000) (hk : ∃ y, keyOf Tryz.prog 261 (kV [S, O, I]) = some y) {c : Int} (hc : F [S, O, I] = c) :
  ∃ (st : Nat) (w1 : World), (Instr.mapEntry 259 (.map (some b)) (.agg #[.int .u64 S, .int .i64 O, .int .i64 I])).run Tryz.prog w = .ok (.tuple #[.int .i64 c, .int .i64 st]) w1 /\ MapF 261 w1 b (n + 1) F /\ Kp (fun i => i = b) w w1 /\ w1.heap.size = w.heap.size ∧
   ∀ (w2 : World) (x : Int), w2.heap[b]? = w1.heap[b]? -> ∃ w3, (Instr.entryStore 259 (.map (some b)) (.int .i64 st) (.int .i64 x)).run Tryz.prog w2 = .ok () w3 /\ MapF 261 w3 b (n + 1) (updF F [S, O, I] x) /\ Kp (fun i => i = b) w2 w3 /\ w3.heap.size = w2.heap.size := by
 subst hc
 exact MapF.entry law156 Tryz.underlying259 h hn hk
theorem entry2 {w : World} {b n F} {S O : Int} (h : MapF 180 w b n F) (hn : n < 1000000) (hk : ∃ y, keyOf Tryz.prog 180 (kV [S, O]) = some y) {c : Int} (hc : F [S, O] = c) :
  ∃ (st : Nat) (w1 : World), (Instr.mapEntry 230 (.map (some b)) (.agg #[.int .u64 S, .int .i64 O])).run Tryz.prog w = .ok (.tuple #[.int .i64 c, .int .i64 st]) w1 /\ MapF 180 w1 b (n + 1) F /\ Kp (fun i => i = b) w w1 /\ w1.heap.size = w.heap.size ∧
   ∀ (w2 : World) (x : Int), w2.heap[b]? = w1.heap[b]? -> ∃ w3, (Instr.entryStore 230 (.map (some b)) (.int .i64 st) (.int .i64 x)).run Tryz.prog w2 = .ok () w3 /\ MapF 180 w3 b (n + 1) (updF F [S, O] x) /\ Kp (fun i => i = b) w2 w3 /\ w3.heap.size = w2.heap.size := by
 subst hc
 exact MapF.entry law95 Tryz.underlying230 h hn hk
theorem own_ne_map {w : World} {B e sz v rows k b n F} (h : We.Ow w B e sz v rows) (m : MapF k w b n F) : v.ownBlock ≠ some b := by
 intro q
 obtain ⟨es, c, hb⟩ := m.obj
 rcases h.own.2 with ⟨rfl, _⟩ | ⟨g, cap, cur, rfl, _, hg, _⟩
 ·cases q
 ·obtain rfl : g = b := by simpa [Value.ownBlock] using q
  rw [hb] at hg
  cases hg
theorem CnS.kp {S : Nat -> Prop} {w l b3 b4 n F3 F4} {wr w2 : World} (h : CnS w l b3 b4 n F3 F4 wr) (k : Kp S wr w2) (h3 : ¬ S b3) (h4 : ¬ S b4) (ho : ∀ g, l.1.ownBlock = some g -> ¬ S g) (hlo : ∀ i, S i -> w.heap.size <= i) : CnS w l b3 b4 n F3 F4 w2 :=
 ⟨h.own.same (fun g hg => k.block g (h.own.lt g hg).2 (ho g hg)), Kp.below h.below k h.below.size hlo, h.m3.same (k.block _ h.m3.lt h3), h.m4.same (k.block _ h.m4.lt h4), h.ne, h.lo⟩
theorem CnS.put3 {w l b3 b4 n F3 F4} {wr w2 : World} (h : CnS w l b3 b4 n F3 F4 wr) {n' : Nat} (hn : n <= n') {F3'} (m : MapF 261 w2 b3 n' F3') (k : Kp (fun i => i = b3) wr w2) : CnS w l b3 b4 n' F3' F4 w2 :=
 ⟨h.own.same (fun g hg => k.block g (h.own.lt g hg).2 (fun e => own_ne_map h.own h.m3 (by rw [hg, e]))), Kp.below h.below k h.below.size (fun i hi => by have := h.lo; omega), m, (h.m4.same (k.block _ h.m4.lt (fun e => h.ne e.symm))).mono hn, h.ne, h.lo⟩
theorem CnS.put4 {w l b3 b4 n F3 F4} {wr w2 : World} (h : CnS w l b3 b4 n F3 F4 wr) {n' : Nat} (hn : n <= n') {F4'} (m : MapF 180 w2 b4 n' F4') (k : Kp (fun i => i = b4) wr w2) : CnS w l b3 b4 n' F3 F4' w2 :=
 ⟨h.own.same (fun g hg => k.block g (h.own.lt g hg).2 (fun e => own_ne_map h.own h.m4 (by rw [hg, e]))), Kp.below h.below k h.below.size (fun i hi => by have := h.lo; omega), (h.m3.same (k.block _ h.m3.lt (fun e => h.ne e))).mono hn, m, h.ne, h.lo⟩
abbrev Pt3 (w : World) (g : Nat) (f : Fd) : Prop := w.cell? ⟨g, 0, none⟩ = some (.int .u64 f.S) /\ w.cell? ⟨g, 1, none⟩ = some (.int .i64 f.O) /\ w.cell? ⟨g, 2, none⟩ = some (.int .i64 f.I) /\ ∃ c t m, w.heap[g]? = some (.cells c t m)
theorem Pt3.of {w : World} {g : Nat} {f : Fd} (h : w.heap[g]? = some (.cells #[.int .u64 f.S, .int .i64 f.O, .int .i64 f.I] 261 (0, 0))) : Pt3 w g f :=
 ⟨by rw [cell_of_row _ _ _ _ 261 _ h]; rfl, by rw [cell_of_row _ _ _ _ 261 _ h]; rfl, by rw [cell_of_row _ _ _ _ 261 _ h]; rfl, _, _, _, h⟩
theorem Pt3.kp {S : Nat -> Prop} {w w' : World} {g f} (h : Pt3 w g f) (k : Kp S w w') (hs : ¬ S g) : Pt3 w' g f := by
 obtain ⟨h0, h1, h2, c, t, m, hg⟩ := h
 have hlt : g < w.heap.size := (Array.getElem?_eq_some_iff.1 hg).1
 have e : ∀ j, w'.cell? ⟨g, j, none⟩ = w.cell? ⟨g, j, none⟩ := fun j => by unfold World.cell?; rw [k.block g hlt hs]
 exact ⟨(e 0).trans h0, (e 1).trans h1, (e 2).trans h2, c, t, m, (k.block g hlt hs).trans hg⟩
theorem Pt3.ne_map {w : World} {g f k b n F} (h : Pt3 w g f) (m : MapF k w b n F) : ¬ g = b := by
 rintro rfl
 obtain ⟨_, _, _, c, t, q, hg⟩ := h
 obtain ⟨es, c2, hb⟩ := m.obj
 rw [hb] at hg
 cases hg
theorem part_cells {w : World} {g : Nat} {x y z : Value} (h : w.heap[g]? = some (.cells #[x, y, z] 261 (0, 0))) : w.cell? ⟨g, 0, none⟩ = some x /\ w.cell? ⟨g, 1, none⟩ = some y /\ w.cell? ⟨g, 2, none⟩ = some z :=
 ⟨by rw [cell_of_row _ _ _ _ 261 _ h]; rfl, by rw [cell_of_row _ _ _ _ 261 _ h]; rfl, by rw [cell_of_row _ _ _ _ 261 _ h]; rfl⟩
theorem part_frozen {w : World} {g : Nat} {x y z : Value} (h : w.heap[g]? = some (.cells #[x, y, z] 261 (0, 0))) : w.frozen? ⟨g, 0, none⟩ = false /\ w.frozen? ⟨g, 1, none⟩ = false /\ w.frozen? ⟨g, 2, none⟩ = false :=
 ⟨frozen_of_row w g 0 _ 261 h, frozen_of_row w g 1 _ 261 h, frozen_of_row w g 2 _ 261 h⟩
theorem part_set {w l b3 b4 n F3 F4 g6 f} {w1 w3 : World} {g7 : Nat} {x y z : Value} (h1 : Fd8 w1 g6 f /\ CnS w l b3 b4 n F3 F4 w1 /\ g6 < w1.heap.size) (hg : g7 = w1.heap.size) (h : Fd8 w3 g6 f /\ CnS w l b3 b4 n F3 F4 w3 /\ g6 < w3.heap.size) (hp : w3.heap[g7]? = some (.cells #[x, y, z] 261 (0, 0))) (a b c : Value) :
  (Fd8 (((w3.setCell ⟨g7, 0, none⟩ a).setCell ⟨g7, 1, none⟩ b).setCell ⟨g7, 2, none⟩ c) g6 f /\ CnS w l b3 b4 n F3 F4 (((w3.setCell ⟨g7, 0, none⟩ a).setCell ⟨g7, 1, none⟩ b).setCell ⟨g7, 2, none⟩ c) /\ g6 < (((w3.setCell ⟨g7, 0, none⟩ a).setCell ⟨g7, 1, none⟩ b).setCell ⟨g7, 2, none⟩ c).heap.size) ∧
   (((w3.setCell ⟨g7, 0, none⟩ a).setCell ⟨g7, 1, none⟩ b).setCell ⟨g7, 2, none⟩ c).heap[g7]? = some (.cells #[a, b, c] 261 (0, 0)) := by
 have k : Kp (fun i => i = g7) w3 (((w3.setCell ⟨g7, 0, none⟩ a).setCell ⟨g7, 1, none⟩ b).setCell ⟨g7, 2, none⟩ c) :=
  Kp.setCell (p := ⟨g7, 2, none⟩) (Kp.setCell (p := ⟨g7, 1, none⟩) (Kp.setCell (p := ⟨g7, 0, none⟩) (Kp.refl (fun i => i = g7) w3) (show g7 = g7 from rfl) a) (show g7 = g7 from rfl) b) (show g7 = g7 from rfl) c
 have q1 := heap_setCell_same w3 g7 0 _ 261 a hp
 have q2 := heap_setCell_same _ g7 1 _ 261 b q1
 have q3 := heap_setCell_same _ g7 2 _ 261 c q2
 have e3 := h1.2.1.m3.lt
 have e4 := h1.2.1.m4.lt
 have e6 := h1.2.2
 refine ⟨⟨h.1.kp h.2.2 k (by omega), h.2.1.kp k (by omega) (by omega) (fun g hg' => ?_) (fun i hi => ?_), Nat.lt_of_lt_of_le h.2.2 k.size⟩, q3⟩
 ·have := (h1.2.1.own.lt g hg').2
  omega
 ·have := h1.2.1.below.size
  omega
theorem cntC_le (l : List Fd) : (∀ y, 0 <= (cntC l).1 y /\ (cntC l).1 y <= l.length) /\ ∀ y, 0 <= (cntC l).2 y /\ (cntC l).2 y <= l.length := by
 have h : ∀ (r : List Fd) (p : (List Int -> Int) × (List Int -> Int)) (n : Nat), ((∀ y, 0 <= p.1 y /\ p.1 y <= n) /\ ∀ y, 0 <= p.2 y /\ p.2 y <= n) -> (∀ y, 0 <= (r.foldl stepC p).1 y /\ (r.foldl stepC p).1 y <= (n + r.length : Nat)) /\ ∀ y, 0 <= (r.foldl stepC p).2 y /\ (r.foldl stepC p).2 y <= (n + r.length : Nat) := by
  intro r
  induction r with
  | nil => intro p n h; exact h
  | cons f r ih =>
   intro p n h
   have := ih (stepC p f) (n + 1) ?_
   ·rw [List.foldl_cons, List.length_cons]
    rw [show n + (r.length + 1) = n + 1 + r.length by omega]
    exact this
   ·unfold stepC updF
    have hu : ∀ (G : List Int -> Int) (z : List Int), (∀ y, 0 <= G y /\ G y <= n) -> ∀ y, 0 <= (if y = z then G z + 1 else G y) /\ (if y = z then G z + 1 else G y) <= ((n + 1 : Nat) : Int) := by
     intro G z hG y
     have h1 := hG z
     have h2 := hG y
     split <;> omega
    have hm : ∀ (G : List Int -> Int), (∀ y, 0 <= G y /\ G y <= n) -> ∀ y, 0 <= G y /\ G y <= ((n + 1 : Nat) : Int) := by
     intro G hG y
     have h2 := hG y
     omega
    split
    ·refine ⟨hu p.1 _ h.1, ?_⟩
     dsimp only
     split
     ·exact hu p.2 _ h.2
     ·exact hm p.2 h.2
    ·exact ⟨hm p.1 h.1, hm p.2 h.2⟩
 have := h l (fun _ => 0, fun _ => 0) 0 ⟨fun y => by simp, fun y => by simp⟩
 rw [Nat.zero_add] at this
 exact this
set_option maxHeartbeats 2000000 in
theorem countParts_any (v : Value) (l : List Fd) (w : World) (h : We.Ow w 0 99 8 v (l.map Fd.row)) (hl : ∀ f ∈ l, f.ok) (hlen : l.length <= 1000) : Calls Tryz.prog 171 #[v] w fun e w' =>
  ∃ b n, e = .returned (.map (some b)) /\ MapF 180 w' b n (cntC l).2 /\ Below w.heap.size w w' := by
 obtain ⟨a, cap, hv⟩ := h.form
 rw [List.length_map] at hv
 have H := Hid.mk h
 have HL := Hid.mk hl
 subst hv
 clear h hl
 generalize hn : l.length = len at *
 have hmm := @run_makeMap Tryz.prog
 go_enter Tryz.func171, Tryz.ntmps171
 go_upto_region 4 with fail
 have C0 : CnS w (.slice a len cap, l) w.heap.size (w.heap.size + 1) 0 (fun _ => 0) (fun _ => 0) ((w.alloc (.map #[] 0)).alloc (.map #[] 0)) := by
  have b1 := Pg.below_one w (.map #[] 0)
  have b2 := Pg.below_one (w.alloc (.map #[] 0)) (.map #[] 0)
  have m4 := MapF.made 180 (w.alloc (.map #[] 0))
  rw [size_alloc] at m4
  exact ⟨(H.out.call b1).call b2, below3 b1 b2, (MapF.made 261 w).call b2, m4, by omega, by omega⟩
 generalize w.heap.size + 1 = b4 at *
 obtain ⟨b3, hb3⟩ : ∃ b, b = w.heap.size := ⟨_, rfl⟩
 rw [<- hb3] at C0
 rw [<- hb3]
 replace C0 := Hid.mk C0
 clear H hmm hb3
 generalize ((w.alloc (.map #[] 0)).alloc (.map #[] 0)) = W at *
 go_loopw [12] (fun i wr => ∃ k : Nat, k <= len /\ i = .int .i64 k /\ CnS w (.slice a len cap, l) b3 b4 (2 * k) (cntC (l.take k)).1 (cntC (l.take k)).2 wr) (fun i _ => len - (intOf i).toNat)
 case atStart => exact ⟨0, Nat.zero_le _, rfl, C0.out⟩
 case round =>
  clear C0
  obtain ⟨k, hk, rfl, hs⟩ := hrel
  by_cases hlt : k < len
  ·have hltl : k < l.length := by rw [hn]; exact hlt
   obtain ⟨f, hf⟩ : ∃ f, l.getD k ⟨0, 0, 0, 0, 0, 0, 0, ⟨#[]⟩⟩ = f := ⟨_, rfl⟩
   have hfm : f ∈ l := by rw [<- hf]; simp [List.getD_eq_getElem?_getD, hltl]
   have hok := HL.out f hfm
   have htk : l.take (k + 1) = l.take k ++ [f] := by
    rw [List.take_succ_eq_append_getElem hltl, <- hf]
    simp [List.getD_eq_getElem?_getD, hltl]
   obtain ⟨g, rfl, hg, c0, c1, c2, c3, c4, c5, c6, c7⟩ := Ow.fd hs.own hltl hf
   have hcn := cntC_snoc (l.take k) f
   have hle := cntC_le (l.take k)
   rw [List.length_take, Nat.min_eq_left (by omega)] at hle
   rw [<- htk] at hcn
   generalize cntC (l.take k) = C at *
   obtain ⟨F3, F4⟩ := C
   replace hcn := Hid.mk hcn
   have hc3 := hle.1 [f.S, f.O, f.I]
   have hc4 := hle.2 [f.S, f.O]
   dsimp only at hc3 hc4
   clear htk hle
   replace hs := Hid.mk hs
   have hic := Hid.mk (isCheck_any f)
   have hset := Hid.mk (setOf_any f.K f.S f.I f.O f.W)
   have F8 := Hid.mk (fun w => Fd8.fresh w f)
   by_cases hC : isC f = true
   ·go_upto_region 7 with (first
     | (go_at_call 131; refine (hic.out _).mono ?_; rintro e w1 ⟨rfl, b1⟩; rw [hC]))
    have hS7 : Hid (Fd8 w1.drew wr.heap.size f /\ CnS w (.slice (some ⟨g, 0, none⟩) len cap, l) b3 b4 (2 * k) F3 F4 w1.drew /\ wr.heap.size < w1.drew.heap.size) := by
     have h1 := fd_keep ⟨F8.out wr, hs.out.call (Pg.below_one wr _), by rw [size_alloc]; omega⟩ b1
     exact ⟨h1.1, ⟨h1.2.1.own.drew, h1.2.1.below.drew, h1.2.1.m3, h1.2.1.m4, h1.2.1.ne, h1.2.1.lo⟩, h1.2.2⟩
    clear b1 hs hg c0 c1 c2 c3 c4 c5 c6 c7 F8
    generalize wr.heap.size = g6 at *
    go_cut [7] from 13 to 43 (fun v7 wx => ∃ g7, v7 = .pointer (some ⟨g7, 0, none⟩) /\ w.heap.size <= g7 /\ wx.heap[g7]? = some (.cells #[.int .u64 f.S, .int .i64 f.O, .int .i64 f.I] 261 (0, 0)) /\ CnS w (.slice (some ⟨g, 0, none⟩) len cap, l) b3 b4 (2 * k) F3 F4 wx)
    case first => as_aux_lemma =>
     refine wp_region_held_drew (S := fun w' => Fd8 w' g6 f /\ CnS w (.slice (some ⟨g, 0, none⟩) len cap, l) b3 b4 (2 * k) F3 F4 w' /\ g6 < w'.heap.size) (by kernel_rfl) hS7.out (fun hHeld => ?_)
     refine tkC 0 hHeld ?_
     refine tkC 1 hHeld ?_
     refine tkC 3 hHeld ?_
     refine tkC 4 hHeld ?_
     refine tkC 5 hHeld ?_
     refine wpAnyH_ready (rs := [2, 7]) (by kernel_rfl) (by simp) ?_
     refine arH rfl (fun K hK => ?_) ?_
     ·go_simp
      go_at_call 132
      refine (hset.out _).mono ?_
      rintro e w3 ⟨rfl, k3⟩
      refine hK.out _ _ (fd_keep hHeld k3) (fun hHeld => ?_)
      clear hK K
      try simp only [Act.put, zA, zB, zC]
      have hG3 := Hid.mk hHeld
      refine tkC 6 hHeld ?_
      refine wpAnyH_ready (rs := [7]) (by kernel_rfl) (by simp) ?_
      refine arH rfl (fun K hK => ?_) AllReadyH.nil
      go_simp
      refine hK.out _ _ (fd_keep hHeld (Pg.below_one _ _)) (fun hHeld => ?_)
      clear hK K
      try simp only [Act.put, zA, zB, zC]
      refine wpAnyH_ready (rs := [8]) (by kernel_rfl) (by simp) ?_
      refine arH rfl (fun K hK => ?_) AllReadyH.nil
      go_simp
      have hH1 := fd_keep hG3.out (Pg.below_one w3 (.cells #[.int .u64 f.S, .int .i64 f.O, .int .i64 f.I] 261))
      refine hK.out _ _ hH1 (fun hHeld => ?_)
      clear hK K
      try simp only [Act.put, zA, zB, zC]
      refine wpAnyH_done (by kernel_rfl) ?_ _
      go_wp2_with fail
      go_meet
      exact ⟨_, rfl, hG3.out.2.1.below.size, heap_alloc_new w3 _, hH1.2.1⟩
     ·have hH0 := Hid.mk hHeld
      refine arH rfl (fun K hK => ?_) AllReadyH.nil
      go_simp
      refine hK.out _ _ (fd_keep hHeld (Pg.below_one _ _)) (fun hHeld => ?_)
      clear hK K
      try simp only [Act.put, zA, zB, zC]
      refine wpAnyH_ready (rs := [2]) (by kernel_rfl) (by simp) ?_
      refine arH rfl (fun K hK => ?_) AllReadyH.nil
      go_simp
      go_at_call 132
      refine (hset.out _).mono ?_
      rintro e w3 ⟨rfl, k3⟩
      have hp7 := (k3.block w1.heap.size (by show w1.heap.size < (w1.alloc _).heap.size; rw [size_alloc]; omega)).trans (heap_alloc_new w1 _)
      refine hK.out _ _ (fd_keep hHeld k3) (fun hHeld => ?_)
      clear hK K
      try simp only [Act.put, zA, zB, zC]
      refine tkC 6 hHeld ?_
      refine wpAnyH_ready (rs := [8]) (by kernel_rfl) (by simp) ?_
      refine arH rfl (fun K hK => ?_) AllReadyH.nil
      have hH2 := part_set hH0.out rfl hHeld hp7 (.int .u64 f.S) (.int .i64 f.O) (.int .i64 f.I)
      obtain ⟨e0, e1, e2⟩ := part_cells hp7
      obtain ⟨f0, f1, f2⟩ := part_frozen hp7
      go_simp
      refine hK.out _ _ hH2.1 (fun hHeld => ?_)
      clear hK K
      try simp only [Act.put, zA, zB, zC]
      refine wpAnyH_done (by kernel_rfl) ?_ _
      go_wp2_with fail
      go_meet
      exact ⟨_, rfl, hH0.out.2.1.below.size, hH2.2, hH2.1.2.1⟩
    case rest => as_aux_lemma =>
     obtain ⟨g7, rfl, h7lo, hp7, hs⟩ := hcut
     have P7 := Pt3.of hp7
     obtain ⟨c, hcc⟩ : ∃ c, F3 [f.S, f.O, f.I] = c := ⟨_, rfl⟩
     obtain ⟨d, hdd⟩ : ∃ d, F4 [f.S, f.O] = d := ⟨_, rfl⟩
     rw [hcc] at hc3
     rw [hdd] at hc4
     have hw3 : IntKind.i64.wrap (c + 1) = c + 1 := by rw [IntKind.wrap_i64]; omega
     have hw4 : IntKind.i64.wrap (d + 1) = d + 1 := by rw [IntKind.wrap_i64]; omega
     have hk3 := key156 hok.1 hok.2.2 hok.2.1
     have hk4 := key95 hok.1 hok.2.2
     have hs0 := Hid.mk hs
     have hS8 : Hid (Pt3 wc.drew g7 f) := P7
     clear hs hS7 P7 hp7 hic hset
     go_upto_region 8 with fail
     go_cut [13] from 14 to 43 (fun _ wx => Pt3 wx g7 f /\ CnS w (.slice (some ⟨g, 0, none⟩) len cap, l) b3 b4 (2 * k + 1) (updF F3 [f.S, f.O, f.I] (c + 1)) F4 wx)
     case first => as_aux_lemma =>
      refine wp_region_held_drew (S := fun w' => Pt3 w' g7 f) (by kernel_rfl) hS8.out (fun hHeld => ?_)
      refine tkC 0 hHeld ?_
      refine tkC 1 hHeld ?_
      refine wpAnyH_ready (rs := [2, 4]) (by kernel_rfl) (by simp) ?_
      refine arH rfl (fun K hK => ?_) ?_
      ·have hl := look3 (w := wc.drew) hs0.out.m3 hk3 hcc
       go_simp
       refine hK.out _ _ hHeld (fun hHeld => ?_)
       clear hK K
       try simp only [Act.put, zA, zB, zC]
       refine tkC 3 hHeld ?_
       refine wpAnyH_ready (rs := [4]) (by kernel_rfl) (by simp) ?_
       refine arH rfl (fun K hK => ?_) AllReadyH.nil
       obtain ⟨st, w4, hme, hm4, kp4, hsz4, hnext⟩ := entry3 (w := wc.drew) hs0.out.m3 (by omega) hk3 hcc
       go_simp
       refine hK.out _ _ (hHeld.kp kp4 (Pt3.ne_map (w := wc.drew) (k := 261) hHeld hs0.out.m3)) (fun hHeld => ?_)
       clear hK K
       try simp only [Act.put, zA, zB, zC]
       refine tkC 5 hHeld ?_
       refine wpAnyH_ready (rs := [6]) (by kernel_rfl) (by simp) ?_
       refine arH rfl (fun K hK => ?_) AllReadyH.nil
       obtain ⟨w5, hes, hm5, kp5, hsz5⟩ := hnext w4 (c + 1) rfl
       go_simp
       refine hK.out _ _ (hHeld.kp kp5 (Pt3.ne_map (k := 261) hHeld hm4)) (fun hHeld => ?_)
       clear hK K
       try simp only [Act.put, zA, zB, zC]
       refine wpAnyH_done (by kernel_rfl) ?_ _
       go_wp2_with fail
       go_meet
       exact ⟨hHeld, hs0.out.put3 (Nat.le_succ _) hm5 ⟨kp5.os.trans kp4.os, kp5.tape.trans kp4.tape, kp5.output.trans kp4.output, Nat.le_trans kp4.size kp5.size, (Kp.trans kp4 kp5).block⟩⟩
      ·refine arH rfl (fun K hK => ?_) AllReadyH.nil
       obtain ⟨st, w4, hme, hm4, kp4, hsz4, hnext⟩ := entry3 (w := wc.drew) hs0.out.m3 (by omega) hk3 hcc
       go_simp
       refine hK.out _ _ (hHeld.kp kp4 (Pt3.ne_map (w := wc.drew) (k := 261) hHeld hs0.out.m3)) (fun hHeld => ?_)
       clear hK K
       try simp only [Act.put, zA, zB, zC]
       refine tkC 5 hHeld ?_
       refine wpAnyH_ready (rs := [2]) (by kernel_rfl) (by simp) ?_
       refine arH rfl (fun K hK => ?_) AllReadyH.nil
       have hl := look3 (w := w4) hm4 hk3 hcc
       go_simp
       refine hK.out _ _ hHeld (fun hHeld => ?_)
       clear hK K
       try simp only [Act.put, zA, zB, zC]
       refine tkC 3 hHeld ?_
       refine wpAnyH_ready (rs := [6]) (by kernel_rfl) (by simp) ?_
       refine arH rfl (fun K hK => ?_) AllReadyH.nil
       obtain ⟨w5, hes, hm5, kp5, hsz5⟩ := hnext w4 (c + 1) rfl
       go_simp
       refine hK.out _ _ (hHeld.kp kp5 (Pt3.ne_map (k := 261) hHeld hm4)) (fun hHeld => ?_)
       clear hK K
       try simp only [Act.put, zA, zB, zC]
       refine wpAnyH_done (by kernel_rfl) ?_ _
       go_wp2_with fail
       go_meet
       exact ⟨hHeld, hs0.out.put3 (Nat.le_succ _) hm5 ⟨kp5.os.trans kp4.os, kp5.tape.trans kp4.tape, kp5.output.trans kp4.output, Nat.le_trans kp4.size kp5.size, (Kp.trans kp4 kp5).block⟩⟩
     case rest => as_aux_lemma =>
      obtain ⟨P8, hs1⟩ := hcut
      have hl9 := look3 (w := wc) hs1.m3 hk3 (c := c + 1) (by unfold updF; rw [if_pos rfl])
      have hP8 := Hid.mk P8
      obtain ⟨d0, d1, d2, -⟩ := P8
      replace hs1 := Hid.mk hs1
      clear hs0 hS8
      by_cases hc0 : c = 0
      ·subst hc0
       go_upto_region 10 with fail
       have hS10 : Hid (Pt3 wc.drew g7 f) := hP8
       clear d0 d1 d2 hl9
       refine wp_region_held_drew (S := fun w' => Pt3 w' g7 f) (by kernel_rfl) hS10.out (fun hHeld => ?_)
       refine tkC 0 hHeld ?_
       refine tkC 1 hHeld ?_
       refine tkC 2 hHeld ?_
       refine wpAnyH_ready (rs := [3, 5]) (by kernel_rfl) (by simp) ?_
       refine arH rfl (fun K hK => ?_) ?_
       ·have hl := look2 (w := wc.drew) hs1.out.m4 hk4 hdd
        go_simp
        refine hK.out _ _ hHeld (fun hHeld => ?_)
        clear hK K
        try simp only [Act.put, zA, zB, zC]
        refine tkC 4 hHeld ?_
        refine wpAnyH_ready (rs := [5]) (by kernel_rfl) (by simp) ?_
        refine arH rfl (fun K hK => ?_) AllReadyH.nil
        obtain ⟨st, w4, hme, hm4, kp4, hsz4, hnext⟩ := entry2 (w := wc.drew) hs1.out.m4 (by omega) hk4 hdd
        go_simp
        refine hK.out _ _ (hHeld.kp kp4 (Pt3.ne_map (w := wc.drew) (k := 180) hHeld hs1.out.m4)) (fun hHeld => ?_)
        clear hK K
        try simp only [Act.put, zA, zB, zC]
        refine tkC 6 hHeld ?_
        refine wpAnyH_ready (rs := [7]) (by kernel_rfl) (by simp) ?_
        refine arH rfl (fun K hK => ?_) AllReadyH.nil
        obtain ⟨w5, hes, hm5, kp5, hsz5⟩ := hnext w4 (d + 1) rfl
        go_simp
        refine hK.out _ _ (hHeld.kp kp5 (Pt3.ne_map (k := 180) hHeld hm4)) (fun hHeld => ?_)
        clear hK K
        try simp only [Act.put, zA, zB, zC]
        refine wpAnyH_done (by kernel_rfl) ?_ _
        go_wp2_with fail
        refine ⟨⟨k + 1, by omega, by go_num, ?_⟩, by simp [intOf]; omega⟩
        rw [hcn.out, stepC_new F3 F4 f hC hcc hdd rfl]
        exact hs1.out.put4 (Nat.le_succ _) hm5 ⟨kp5.os.trans kp4.os, kp5.tape.trans kp4.tape, kp5.output.trans kp4.output, Nat.le_trans kp4.size kp5.size, (Kp.trans kp4 kp5).block⟩
       ·refine arH rfl (fun K hK => ?_) AllReadyH.nil
        obtain ⟨st, w4, hme, hm4, kp4, hsz4, hnext⟩ := entry2 (w := wc.drew) hs1.out.m4 (by omega) hk4 hdd
        go_simp
        refine hK.out _ _ (hHeld.kp kp4 (Pt3.ne_map (w := wc.drew) (k := 180) hHeld hs1.out.m4)) (fun hHeld => ?_)
        clear hK K
        try simp only [Act.put, zA, zB, zC]
        refine tkC 6 hHeld ?_
        refine wpAnyH_ready (rs := [3]) (by kernel_rfl) (by simp) ?_
        refine arH rfl (fun K hK => ?_) AllReadyH.nil
        have hl := look2 (w := w4) hm4 hk4 hdd
        go_simp
        refine hK.out _ _ hHeld (fun hHeld => ?_)
        clear hK K
        try simp only [Act.put, zA, zB, zC]
        refine tkC 4 hHeld ?_
        refine wpAnyH_ready (rs := [7]) (by kernel_rfl) (by simp) ?_
        refine arH rfl (fun K hK => ?_) AllReadyH.nil
        obtain ⟨w5, hes, hm5, kp5, hsz5⟩ := hnext w4 (d + 1) rfl
        go_simp
        refine hK.out _ _ (hHeld.kp kp5 (Pt3.ne_map (k := 180) hHeld hm4)) (fun hHeld => ?_)
        clear hK K
        try simp only [Act.put, zA, zB, zC]
        refine wpAnyH_done (by kernel_rfl) ?_ _
        go_wp2_with fail
        refine ⟨⟨k + 1, by omega, by go_num, ?_⟩, by simp [intOf]; omega⟩
        rw [hcn.out, stepC_new F3 F4 f hC hcc hdd rfl]
        exact hs1.out.put4 (Nat.le_succ _) hm5 ⟨kp5.os.trans kp4.os, kp5.tape.trans kp4.tape, kp5.output.trans kp4.output, Nat.le_trans kp4.size kp5.size, (Kp.trans kp4 kp5).block⟩
      ·have hc1 : ¬ c + 1 = 1 := by omega
       go_wp2_with fail
       refine ⟨⟨k + 1, by omega, by go_num, ?_⟩, by simp [intOf]; omega⟩
       rw [hcn.out, stepC_old F3 F4 f hC hcc hc1]
       exact ⟨hs1.out.own, hs1.out.below, hs1.out.m3.mono (by omega), hs1.out.m4.mono (by omega), hs1.out.ne, hs1.out.lo⟩
   ·have hCf : isC f = false := by simpa using hC
    go_wp2_with (first
     | (go_at_call 131; refine (hic.out _).mono ?_; rintro e w1 ⟨rfl, b1⟩; rw [hCf]))
    refine ⟨⟨k + 1, by omega, by go_num, ?_⟩, by simp [intOf]; omega⟩
    rw [hcn.out]
    unfold stepC
    rw [if_neg hC]
    have h1 := (hs.out.call (Pg.below_one wr _)).call b1
    exact ⟨h1.own, h1.below, h1.m3.mono (by omega), h1.m4.mono (by omega), h1.ne, h1.lo⟩
  ·obtain rfl : k = len := by omega
   rw [List.take_of_length_le (by omega)] at hs
   have HS := Hid.mk hs
   clear hs
   go_wp2_with fail
   go_ret
   exact ⟨_, _, rfl, HS.out.m4, HS.out.below⟩
end Go.Proofs.YtcmmhfjnhlaepabGreatDoor
namespace Go.Proofs.YtcmmhfjnhlaepabGreatDoor
open Go Go.RowKit
set_option maxRecDepth 100000
def gtN (acc : Option (Int × Int)) (s : Int) : Bool := match acc with | none => true | some p => decide (p.1 < s)
def stN (F : List Int -> Int) (acc : Option (Int × Int)) (f : Fd) : Option (Int × Int) := if isC f = true /\ F [f.S, f.O] = f.O /\ gtN acc f.S = true then some (f.S, f.O) else acc
def nwW (l : List Fd) : Option (Int × Int) := l.foldl (stN (cntC l).2) none
def accS (a : Option (Int × Int)) : Int := match a with | none => 0 | some p => p.1
def accO (a : Option (Int × Int)) : Int := match a with | none => 0 | some p => p.2
def St2 (w : World) (g : Nat) (s o : Int) : Prop := w.heap[g]? = some (.cells #[.int .u64 s, .int .i64 o] 180 (0, 0))
theorem St2.cells {w : World} {g s o} (h : St2 w g s o) : w.cell? ⟨g, 0, none⟩ = some (.int .u64 s) /\ w.cell? ⟨g, 1, none⟩ = some (.int .i64 o) :=
 ⟨by rw [cell_of_row _ _ _ _ 180 _ h]; rfl, by rw [cell_of_row _ _ _ _ 180 _ h]; rfl⟩
theorem St2.frozen {w : World} {g s o} (h : St2 w g s o) : w.frozen? ⟨g, 0, none⟩ = false /\ w.frozen? ⟨g, 1, none⟩ = false := ⟨frozen_of_row w g 0 _ 180 h, frozen_of_row w g 1 _ 180 h⟩
theorem St2.lt {w : World} {g s o} (h : St2 w g s o) : g < w.heap.size := (Array.getElem?_eq_some_iff.1 h).1
theorem St2.call {w w' : World} {g s o} (h : St2 w g s o) (b : Below w.heap.size w w') : St2 w' g s o := (b.block g h.lt).trans h
theorem St2.fresh (w : World) (s o : Int) : St2 (w.alloc (.cells #[.int .u64 s, .int .i64 o] 180)) w.heap.size s o := heap_alloc_new w _
theorem St2.kp {S : Nat -> Prop} {w w' : World} {g s o} (h : St2 w g s o) (k : Kp S w w') (hs : ¬ S g) : St2 w' g s o := (k.block g h.lt hs).trans h
theorem St2.set {w : World} {g s o} (h : St2 w g s o) (s' o' : Int) : St2 ((w.setCell ⟨g, 0, none⟩ (.int .u64 s')).setCell ⟨g, 1, none⟩ (.int .i64 o')) g s' o' /\ Kp (fun i => i = g) w ((w.setCell ⟨g, 0, none⟩ (.int .u64 s')).setCell ⟨g, 1, none⟩ (.int .i64 o')) := by
 have q1 := heap_setCell_same w g 0 _ 180 (.int .u64 s') h
 have q2 := heap_setCell_same _ g 1 _ 180 (.int .i64 o') q1
 exact ⟨q2, Kp.setCell (p := ⟨g, 1, none⟩) (Kp.setCell (p := ⟨g, 0, none⟩) (Kp.refl (fun i => i = g) w) (show g = g from rfl) _) (show g = g from rfl) _⟩
theorem st_load {w : World} {g s o} (h : St2 w g s o) : (loadVar 180 ⟨g, 0, none⟩).run Tryz.prog w = .ok (.agg #[.int .u64 s, .int .i64 o]) w := by
 obtain ⟨c0, c1⟩ := h.cells
 clear h
 go_simp
theorem st_result {fn : Func} {p u : Tmp} (h : fn.results = #[.cell p 180, .tmp u]) {tmps : Array Value} {w : World} {g : Nat} {s o : Int} (hp : tmps.getD p undef = .pointer (some ⟨g, 0, none⟩)) (ha : St2 w g s o) :
  (results fn tmps).run Tryz.prog w = .ok (.tuple #[.agg #[.int .u64 s, .int .i64 o], tmps.getD u undef]) w := by
 rw [results_cell_tmp h, hp]
 simp only [asAddr, Sem.run_pure, Result.andThen, st_load ha]
structure NwS (w : World) (l : Value × List Fd) (b n : Nat) (F : List Int -> Int) (g2 g5 : Nat) (s o : Int) (wr : World) : Prop where
 own : We.Ow wr 0 99 8 l.1 (l.2.map Fd.row)
 below : Below w.heap.size w wr
 m : MapF 180 wr b n F
 s5 : St2 wr g5 s o
 s2 : St2 wr g2 0 0
 lo : w.heap.size <= g5 /\ w.heap.size <= g2 /\ g2 ≠ g5 /\ l.1.ownBlock ≠ some g5 /\ b ≠ g5
theorem NwS.call {w l b n F g2 g5 s o} {wr w2 : World} (h : NwS w l b n F g2 g5 s o wr) (q : Below wr.heap.size wr w2) : NwS w l b n F g2 g5 s o w2 := ⟨h.own.call q, below3 h.below q, h.m.call q, h.s5.call q, h.s2.call q, h.lo⟩
theorem NwS.set {w l b n F g2 g5 s o} {wr : World} (h : NwS w l b n F g2 g5 s o wr) (s' o' : Int) : NwS w l b n F g2 g5 s' o' ((wr.setCell ⟨g5, 0, none⟩ (.int .u64 s')).setCell ⟨g5, 1, none⟩ (.int .i64 o')) := by
 obtain ⟨q1, k⟩ := h.s5.set s' o'
 have hl := h.lo
 refine ⟨h.own.same (fun g hg => k.block g (h.own.lt g hg).2 (fun e => hl.2.2.2.1 (by rw [hg, e]))), Kp.below h.below k h.below.size (fun i hi => by omega), h.m.same (k.block _ h.m.lt (fun e => hl.2.2.2.2 e)), q1, h.s2.kp k (fun e => hl.2.2.1 e), h.lo⟩
def NwR (w : World) (l : Value × List Fd) (b n : Nat) (F : List Int -> Int) (g2 g5 : Nat) (s o : Int) (g8 g9 : Nat) (f : Fd) (wr : World) : Prop := Fd8 wr g8 f /\ (St2 wr g9 f.S f.O /\ g8 < wr.heap.size) /\ NwS w l b n F g2 g5 s o wr
theorem nwF {w0 l b n F g2 g5 s o g8 g9} {f : Fd} {w : World} (h : NwR w0 l b n F g2 g5 s o g8 g9 f w) (hk : ∃ y, keyOf Tryz.prog 180 (kV [f.S, f.O]) = some y) {c : Int} (hc : F [f.S, f.O] = c) : (w.cell? ⟨g8, 0, none⟩ = some (.int .i64 f.a) /\ w.cell? ⟨g8, 1, none⟩ = some (.int .i64 f.c) /\ w.cell? ⟨g8, 2, none⟩ = some (.int .i64 f.K) /\ w.cell? ⟨g8, 3, none⟩ = some (.int .u64 f.S) /\ w.cell? ⟨g8, 4, none⟩ = some (.int .i64 f.I) /\ w.cell? ⟨g8, 5, none⟩ = some (.int .i64 f.O) /\ w.cell? ⟨g8, 6, none⟩ = some (.int .i64 f.W) /\ w.cell? ⟨g8, 7, none⟩ = some (.string f.t)) /\ (w.cell? ⟨g9, 0, none⟩ = some (.int .u64 f.S) /\ w.cell? ⟨g9, 1, none⟩ = some (.int .i64 f.O)) /\ (w.cell? ⟨g5, 0, none⟩ = some (.int .u64 s) /\ w.cell? ⟨g5, 1, none⟩ = some (.int .i64 o)) /\ (Instr.lookup 230 (.map (some b)) (.agg #[.int .u64 f.S, .int .i64 f.O]) false).run Tryz.prog w = .ok (.int .i64 c) w := ⟨h.1, h.2.1.1.cells, h.2.2.s5.cells, look2 h.2.2.m hk hc⟩
theorem NwR.call {w l b n F g2 g5 s o g8 g9 f} {wr w2 : World} (h : NwR w l b n F g2 g5 s o g8 g9 f wr) (q : Below wr.heap.size wr w2) : NwR w l b n F g2 g5 s o g8 g9 f w2 :=
 ⟨h.1.call h.2.1.2 q, ⟨h.2.1.1.call q, Nat.lt_of_lt_of_le h.2.1.2 q.size⟩, h.2.2.call q⟩
theorem stN_no {F acc} {f : Fd} (h : ¬ (isC f = true /\ F [f.S, f.O] = f.O /\ gtN acc f.S = true)) : stN F acc f = acc := by unfold stN; rw [if_neg h]
theorem stN_yes {F acc} {f : Fd} (h : isC f = true /\ F [f.S, f.O] = f.O /\ gtN acc f.S = true) : stN F acc f = some (f.S, f.O) := by unfold stN; rw [if_pos h]
set_option maxHeartbeats 2000000 in
theorem newestWhole_any (v : Value) (l : List Fd) (w : World) (h : We.Ow w 0 99 8 v (l.map Fd.row)) (hl : ∀ f ∈ l, f.ok) (hlen : l.length <= 1000) : Calls Tryz.prog 130 #[v] w fun e w' =>
  e = .returned (.tuple #[.agg #[.int .u64 (accS (nwW l)), .int .i64 (accO (nwW l))], .bool (nwW l).isSome]) /\ Below w.heap.size w w' := by
 obtain ⟨a, cap, hv⟩ := h.form
 rw [List.length_map] at hv
 have hcp := Hid.mk (fun w' (q : Below w.heap.size w w') => countParts_any v l w' (h.call q) hl hlen)
 have H := Hid.mk h
 have HL := Hid.mk hl
 subst hv
 clear h hl
 obtain ⟨R, hR⟩ : ∃ R, nwW l = R := ⟨_, rfl⟩
 rw [hR]
 unfold nwW at hR
 generalize hn : l.length = len at *
 have h2 := Hid.mk (St2.fresh w 0 0)
 go_enter Tryz.func130, Tryz.ntmps130
 go_upto_region 5 with (first
  | (go_at_call 171; refine (hcp.out _ (Pg.below_one w _)).mono ?_; rintro e w1 ⟨b, n, rfl, m1, b1⟩))
 generalize (cntC l).2 = F at *
 have N0 : NwS w (.slice a len cap, l) b n F w.heap.size w1.heap.size 0 0 (w1.alloc (.cells #[.int .u64 0, .int .i64 0] 180)) := by
  have b2 := Pg.below_one w1 (.cells #[.int .u64 0, .int .i64 0] 180)
  have q1 := (h2.out.call b1)
  have e1 := h2.out.lt
  have e2 := b1.size
  refine ⟨((H.out.call (Pg.below_one w _)).call b1).call b2, below3 (below3 (Pg.below_one w _) b1) b2, m1.call b2, St2.fresh w1 0 0, q1.call b2, by omega, Nat.le_refl _, by omega, fun q => ?_, fun q => ?_⟩
  ·have := (H.out.lt _ q).2; omega
  ·have := m1.lt; omega
 obtain ⟨g2, hg2⟩ : ∃ b, b = w.heap.size := ⟨_, rfl⟩
 rw [<- hg2] at N0
 rw [<- hg2]
 generalize w1.heap.size = g5 at *
 generalize (w1.alloc (.cells #[.int .u64 0, .int .i64 0] 180)) = W at *
 replace N0 := Hid.mk N0
 replace hR := Hid.mk hR
 clear H h2 hcp m1 b1 hg2
 go_loopw [6, 14] (fun vi i wr => ∃ (k : Nat) (acc : Option (Int × Int)), k <= len /\ i = .int .i64 k /\ vi = .bool acc.isSome /\ (l.drop k).foldl (stN F) acc = R /\ NwS w (.slice a len cap, l) b n F g2 g5 (accS acc) (accO acc) wr) (fun _ i _ => len - (intOf i).toNat)
 case atStart => exact ⟨0, none, Nat.zero_le _, rfl, rfl, hR.out, N0.out⟩
 case round =>
  clear N0 hR
  obtain ⟨k, acc, hk, rfl, rfl, hR, hs⟩ := hrel
  by_cases hlt : k < len
  ·have hltl : k < l.length := by rw [hn]; exact hlt
   obtain ⟨f, hf⟩ : ∃ f, l.getD k ⟨0, 0, 0, 0, 0, 0, 0, ⟨#[]⟩⟩ = f := ⟨_, rfl⟩
   have hfm : f ∈ l := by rw [<- hf]; simp [List.getD_eq_getElem?_getD, hltl]
   have hok := HL.out f hfm
   have hdr : l.drop k = f :: l.drop (k + 1) := by
    rw [List.drop_eq_getElem_cons hltl, <- hf]
    simp [List.getD_eq_getElem?_getD, hltl]
   rw [hdr, List.foldl_cons] at hR
   replace hR := Hid.mk hR
   obtain ⟨g, rfl, hg, c0, c1, c2, c3, c4, c5, c6, c7⟩ := Ow.fd hs.own hltl hf
   replace hs := Hid.mk hs
   have hic := Hid.mk (isCheck_any f)
   have hset := Hid.mk (setOf_any f.K f.S f.I f.O f.W)
   have F8 := Hid.mk (Fd8.fresh wr f)
   obtain ⟨isv, hisv⟩ : ∃ b, acc.isSome = b := ⟨_, rfl⟩
   rw [hisv]
   go_upto_region 8 with (first
    | (go_at_call 132; refine (hset.out _).mono ?_; rintro e w2 ⟨rfl, k2⟩))
   have R0 : NwR w (.slice (some ⟨g, 0, none⟩) len cap, l) b n F g2 g5 (accS acc) (accO acc) wr.heap.size w2.heap.size f (w2.alloc (.cells #[.int .u64 f.S, .int .i64 f.O] 180)).drew := by
    have b3 := Pg.below_one w2 (.cells #[.int .u64 f.S, .int .i64 f.O] 180)
    have e1 : wr.heap.size < (wr.alloc (.cells #[.int .i64 f.a, .int .i64 f.c, .int .i64 f.K, .int .u64 f.S, .int .i64 f.I, .int .i64 f.O, .int .i64 f.W, .string f.t] 99)).heap.size := by rw [size_alloc]; omega
    have s1 := ((hs.out.call (Pg.below_one wr _)).call k2).call b3
    have e2 := Nat.lt_of_lt_of_le e1 k2.size
    have q8 := (F8.out.call e1 k2).call e2 b3
    exact ⟨q8, ⟨St2.fresh w2 _ _, Nat.lt_of_lt_of_le e2 b3.size⟩, ⟨s1.own.drew, s1.below.drew, s1.m, s1.s5, s1.s2, s1.lo⟩⟩
   replace R0 := Hid.mk R0
   have hk4 := key95 hok.1 hok.2.2
   clear hs F8 k2 c0 c1 c2 c3 c4 c5 c6 c7 hg hset hfm hf hdr
   generalize wr.heap.size = g8 at *
   generalize w2.heap.size = g9 at *
   generalize (w2.alloc (.cells #[.int .u64 f.S, .int .i64 f.O] 180)) = W2 at *
   obtain ⟨c, hcc⟩ : ∃ c, F [f.S, f.O] = c := ⟨_, rfl⟩
   by_cases hC : isC f = true
   ·by_cases hO : c = f.O
    ·subst hO
     cases isv with
     | false =>
      obtain rfl : acc = none := by simpa using hisv
      refine wp_region_held_drew (S := fun w' => NwR w (.slice (some ⟨g, 0, none⟩) len cap, l) b n F g2 g5 (accS none) (accO none) g8 g9 f w') (by kernel_rfl) R0.out (fun hHeld => ?_)
      refine tkF 0 (fun _ q => nwF q hk4 hcc) hHeld ?_
      refine wpAnyH_ready (rs := [1]) (by kernel_rfl) (by simp) ?_
      refine arH rfl (fun K hK => ?_) AllReadyH.nil
      go_simp
      go_at_call 131
      refine (hic.out _).mono ?_
      rintro e w3 ⟨rfl, k3⟩
      rw [hC]
      refine hK.out _ _ (hHeld.call k3) (fun hHeld => ?_)
      clear hK K
      try simp only [Act.put, zA, zB, zC]
      refine tkF 2 (fun _ q => nwF q hk4 hcc) hHeld ?_
      refine tkF 3 (fun _ q => nwF q hk4 hcc) hHeld ?_
      refine tkF 4 (fun _ q => nwF q hk4 hcc) hHeld ?_
      refine tkF 5 (fun _ q => nwF q hk4 hcc) hHeld ?_
      refine tkF 6 (fun _ q => nwF q hk4 hcc) hHeld ?_
      refine tkF 7 (fun _ q => nwF q hk4 hcc) hHeld ?_
      refine tkF 8 (fun _ q => nwF q hk4 hcc) hHeld ?_
      refine tkF 9 (fun _ q => nwF q hk4 hcc) hHeld ?_
      refine tkF 10 (fun _ q => nwF q hk4 hcc) hHeld ?_
      refine tkF 11 (fun _ q => nwF q hk4 hcc) hHeld ?_
      refine tkF 12 (fun _ q => nwF q hk4 hcc) hHeld ?_
      refine tkF 13 (fun _ q => nwF q hk4 hcc) hHeld ?_
      refine tkJ 14 hHeld ?_
      refine tkJ 15 hHeld ?_
      refine tkJ 16 hHeld ?_
      refine tkJ 17 hHeld ?_
      refine tkJ 18 hHeld ?_
      refine tkF 19 (fun _ q => nwF q hk4 hcc) hHeld ?_
      refine tkF 20 (fun _ q => nwF q hk4 hcc) hHeld ?_
      refine wpAnyH_done (by kernel_rfl) ?_ _
      have M := (hHeld.2.2.set f.S f.O)
      obtain ⟨f0, f1⟩ := hHeld.2.2.s5.frozen
      obtain ⟨d0, d1⟩ := hHeld.2.2.s5.cells
      obtain ⟨e0, e1⟩ := hHeld.2.1.1.cells
      go_wp2_with fail
      exact ⟨⟨k + 1, some (f.S, f.O), by omega, by go_num, rfl, by rw [<- hR.out, stN_yes ⟨hC, hcc, rfl⟩], M⟩, by simp [intOf]; omega⟩
     | true =>
      obtain ⟨p, rfl⟩ := Option.isSome_iff_exists.1 hisv
      obtain ⟨s, o⟩ := p
      by_cases hgt : s < f.S
      ·refine wp_region_held_drew (S := fun w' => NwR w (.slice (some ⟨g, 0, none⟩) len cap, l) b n F g2 g5 s o g8 g9 f w') (by kernel_rfl) R0.out (fun hHeld => ?_)
       refine tkF 0 (fun _ q => nwF q hk4 hcc) hHeld ?_
       refine wpAnyH_ready (rs := [1]) (by kernel_rfl) (by simp) ?_
       refine arH rfl (fun K hK => ?_) AllReadyH.nil
       go_simp
       go_at_call 131
       refine (hic.out _).mono ?_
       rintro e w3 ⟨rfl, k3⟩
       rw [hC]
       refine hK.out _ _ (hHeld.call k3) (fun hHeld => ?_)
       clear hK K
       try simp only [Act.put, zA, zB, zC]
       refine tkF 2 (fun _ q => nwF q hk4 hcc) hHeld ?_
       refine tkF 3 (fun _ q => nwF q hk4 hcc) hHeld ?_
       refine tkF 4 (fun _ q => nwF q hk4 hcc) hHeld ?_
       refine tkF 5 (fun _ q => nwF q hk4 hcc) hHeld ?_
       refine tkF 6 (fun _ q => nwF q hk4 hcc) hHeld ?_
       refine tkF 7 (fun _ q => nwF q hk4 hcc) hHeld ?_
       refine tkF 8 (fun _ q => nwF q hk4 hcc) hHeld ?_
       refine tkF 9 (fun _ q => nwF q hk4 hcc) hHeld ?_
       refine tkF 10 (fun _ q => nwF q hk4 hcc) hHeld ?_
       refine tkF 11 (fun _ q => nwF q hk4 hcc) hHeld ?_
       refine tkF 12 (fun _ q => nwF q hk4 hcc) hHeld ?_
       refine tkF 13 (fun _ q => nwF q hk4 hcc) hHeld ?_
       refine tkF 14 (fun _ q => nwF q hk4 hcc) hHeld ?_
       refine tkF 15 (fun _ q => nwF q hk4 hcc) hHeld ?_
       refine tkF 16 (fun _ q => nwF q hk4 hcc) hHeld ?_
       refine tkF 17 (fun _ q => nwF q hk4 hcc) hHeld ?_
       refine tkF 18 (fun _ q => nwF q hk4 hcc) hHeld ?_
       refine tkF 19 (fun _ q => nwF q hk4 hcc) hHeld ?_
       refine tkF 20 (fun _ q => nwF q hk4 hcc) hHeld ?_
       refine wpAnyH_done (by kernel_rfl) ?_ _
       have M := (hHeld.2.2.set f.S f.O)
       obtain ⟨f0, f1⟩ := hHeld.2.2.s5.frozen
       obtain ⟨d0, d1⟩ := hHeld.2.2.s5.cells
       obtain ⟨e0, e1⟩ := hHeld.2.1.1.cells
       go_wp2_with fail
       exact ⟨⟨k + 1, some (f.S, f.O), by omega, by go_num, rfl, by rw [<- hR.out, stN_yes (acc := some (s, o)) ⟨hC, hcc, decide_eq_true hgt⟩], M⟩, by simp [intOf]; omega⟩
      ·refine wp_region_held_drew (S := fun w' => NwR w (.slice (some ⟨g, 0, none⟩) len cap, l) b n F g2 g5 s o g8 g9 f w') (by kernel_rfl) R0.out (fun hHeld => ?_)
       refine tkF 0 (fun _ q => nwF q hk4 hcc) hHeld ?_
       refine wpAnyH_ready (rs := [1]) (by kernel_rfl) (by simp) ?_
       refine arH rfl (fun K hK => ?_) AllReadyH.nil
       go_simp
       go_at_call 131
       refine (hic.out _).mono ?_
       rintro e w3 ⟨rfl, k3⟩
       rw [hC]
       refine hK.out _ _ (hHeld.call k3) (fun hHeld => ?_)
       clear hK K
       try simp only [Act.put, zA, zB, zC]
       refine tkF 2 (fun _ q => nwF q hk4 hcc) hHeld ?_
       refine tkF 3 (fun _ q => nwF q hk4 hcc) hHeld ?_
       refine tkF 4 (fun _ q => nwF q hk4 hcc) hHeld ?_
       refine tkF 5 (fun _ q => nwF q hk4 hcc) hHeld ?_
       refine tkF 6 (fun _ q => nwF q hk4 hcc) hHeld ?_
       refine tkF 7 (fun _ q => nwF q hk4 hcc) hHeld ?_
       refine tkF 8 (fun _ q => nwF q hk4 hcc) hHeld ?_
       refine tkF 9 (fun _ q => nwF q hk4 hcc) hHeld ?_
       refine tkF 10 (fun _ q => nwF q hk4 hcc) hHeld ?_
       refine tkF 11 (fun _ q => nwF q hk4 hcc) hHeld ?_
       refine tkF 12 (fun _ q => nwF q hk4 hcc) hHeld ?_
       refine tkF 13 (fun _ q => nwF q hk4 hcc) hHeld ?_
       refine tkF 14 (fun _ q => nwF q hk4 hcc) hHeld ?_
       refine tkF 15 (fun _ q => nwF q hk4 hcc) hHeld ?_
       refine tkF 16 (fun _ q => nwF q hk4 hcc) hHeld ?_
       refine tkF 17 (fun _ q => nwF q hk4 hcc) hHeld ?_
       refine tkF 18 (fun _ q => nwF q hk4 hcc) hHeld ?_
       refine tkF 19 (fun _ q => nwF q hk4 hcc) hHeld ?_
       refine tkF 20 (fun _ q => nwF q hk4 hcc) hHeld ?_
       refine wpAnyH_done (by kernel_rfl) ?_ _
       go_wp2_with fail
       exact ⟨⟨k + 1, some (s, o), by omega, by go_num, rfl, by rw [<- hR.out, stN_no (acc := some (s, o)) (fun q => hgt (of_decide_eq_true q.2.2))], hHeld.2.2⟩, by simp [intOf]; omega⟩
    ·have hOb : (c == f.O) = false := by simpa using hO
     have hOd : decide (c = f.O) = false := by simpa using hO
     refine wp_region_held_drew (S := fun w' => NwR w (.slice (some ⟨g, 0, none⟩) len cap, l) b n F g2 g5 (accS acc) (accO acc) g8 g9 f w') (by kernel_rfl) R0.out (fun hHeld => ?_)
     refine tkF 0 (fun _ q => nwF q hk4 hcc) hHeld ?_
     refine wpAnyH_ready (rs := [1]) (by kernel_rfl) (by simp) ?_
     refine arH rfl (fun K hK => ?_) AllReadyH.nil
     go_simp
     go_at_call 131
     refine (hic.out _).mono ?_
     rintro e w3 ⟨rfl, k3⟩
     rw [hC]
     refine hK.out _ _ (hHeld.call k3) (fun hHeld => ?_)
     clear hK K
     try simp only [Act.put, zA, zB, zC]
     refine tkF 2 (fun _ q => nwF q hk4 hcc) hHeld ?_
     refine tkF 3 (fun _ q => nwF q hk4 hcc) hHeld ?_
     refine tkF 4 (fun _ q => nwF q hk4 hcc) hHeld ?_
     refine tkF 5 (fun _ q => nwF q hk4 hcc) hHeld ?_
     refine tkF 6 (fun _ q => nwF q hk4 hcc) hHeld ?_
     refine tkF 7 (fun _ q => nwF q hk4 hcc) hHeld ?_
     refine tkF 8 (fun _ q => nwF q hk4 hcc) hHeld ?_
     refine tkF 9 (fun _ q => nwF q hk4 hcc) hHeld ?_
     refine tkF 10 (fun _ q => nwF q hk4 hcc) hHeld ?_
     refine tkJ 11 hHeld ?_
     refine tkJ 12 hHeld ?_
     refine tkJ 13 hHeld ?_
     refine tkJ 14 hHeld ?_
     refine tkJ 15 hHeld ?_
     refine tkJ 16 hHeld ?_
     refine tkJ 17 hHeld ?_
     refine tkJ 18 hHeld ?_
     refine tkJ 19 hHeld ?_
     refine tkF 20 (fun _ q => nwF q hk4 hcc) hHeld ?_
     refine wpAnyH_done (by kernel_rfl) ?_ _
     go_wp2_with fail
     exact ⟨⟨k + 1, acc, by omega, by go_num, by rw [hisv], by rw [<- hR.out, stN_no (fun q => hO (hcc.symm.trans q.2.1))], hHeld.2.2⟩, by simp [intOf]; omega⟩
   ·have hCf : isC f = false := by simpa using hC
    refine wp_region_held_drew (S := fun w' => NwR w (.slice (some ⟨g, 0, none⟩) len cap, l) b n F g2 g5 (accS acc) (accO acc) g8 g9 f w') (by kernel_rfl) R0.out (fun hHeld => ?_)
    refine tkF 0 (fun _ q => nwF q hk4 hcc) hHeld ?_
    refine wpAnyH_ready (rs := [1]) (by kernel_rfl) (by simp) ?_
    refine arH rfl (fun K hK => ?_) AllReadyH.nil
    go_simp
    go_at_call 131
    refine (hic.out _).mono ?_
    rintro e w3 ⟨rfl, k3⟩
    rw [hCf]
    refine hK.out _ _ (hHeld.call k3) (fun hHeld => ?_)
    clear hK K
    try simp only [Act.put, zA, zB, zC]
    refine tkF 2 (fun _ q => nwF q hk4 hcc) hHeld ?_
    refine tkJ 3 hHeld ?_
    refine tkJ 4 hHeld ?_
    refine tkJ 5 hHeld ?_
    refine tkJ 6 hHeld ?_
    refine tkJ 7 hHeld ?_
    refine tkJ 8 hHeld ?_
    refine tkF 9 (fun _ q => nwF q hk4 hcc) hHeld ?_
    refine tkF 10 (fun _ q => nwF q hk4 hcc) hHeld ?_
    refine tkJ 11 hHeld ?_
    refine tkJ 12 hHeld ?_
    refine tkJ 13 hHeld ?_
    refine tkJ 14 hHeld ?_
    refine tkJ 15 hHeld ?_
    refine tkJ 16 hHeld ?_
    refine tkJ 17 hHeld ?_
    refine tkJ 18 hHeld ?_
    refine tkJ 19 hHeld ?_
    refine tkF 20 (fun _ q => nwF q hk4 hcc) hHeld ?_
    refine wpAnyH_done (by kernel_rfl) ?_ _
    go_wp2_with fail
    exact ⟨⟨k + 1, acc, by omega, by go_num, by rw [hisv], by rw [<- hR.out, stN_no (fun q => hC q.1)], hHeld.2.2⟩, by simp [intOf]; omega⟩
  ·obtain rfl : k = len := by omega
   rw [List.drop_of_length_le (by omega)] at hR
   replace hR : acc = R := hR
   subst hR
   have HS := Hid.mk hs
   obtain ⟨e0, e1⟩ := hs.s5.cells
   obtain ⟨d0, d1⟩ := hs.s2.cells
   obtain ⟨f0, f1⟩ := hs.s2.frozen
   have M := hs.s2.set (accS acc) (accO acc)
   have MB : Below w.heap.size w ((wr.setCell ⟨g2, 0, none⟩ (.int .u64 (accS acc))).setCell ⟨g2, 1, none⟩ (.int .i64 (accO acc))) := Kp.below hs.below M.2 hs.below.size (fun i hi => by have := hs.lo; omega)
   have M0 := M.1.cells
   clear hs
   go_wp2_with fail
   exact bodyPost_ret (st_result rfl rfl M.1) rfl ⟨rfl, MB⟩
set_option maxRecDepth 100000
def fdZ : Fd := ⟨0, 0, 0, 0, 0, 0, 0, ⟨#[]⟩⟩
def fdZv : Value := .agg #[.int .i64 0, .int .i64 0, .int .i64 0, .int .u64 0, .int .i64 0, .int .i64 0, .int .i64 0, .string ⟨#[]⟩]
def fdZc : Array Value := #[.int .i64 0, .int .i64 0, .int .i64 0, .int .u64 0, .int .i64 0, .int .i64 0, .int .i64 0, .string ⟨#[]⟩]
theorem Tryz.info99 : (Tryz.prog.info? 99).map (fun i => (i.zero, i.size, i.bytes)) = some (some fdZv, 8, 72) := by kernel_rfl
theorem run_make_found (n : Nat) (hn : n <= 1000) (w : World) : (Instr.makeSlice 80 (.int .i64 n) (.int .i64 n)).run Tryz.prog w = .ok (.slice (some ⟨w.heap.size, 0, none⟩) n n) (w.alloc (.cells (madeCells fdZc (n * 8)) 99)) := by
 obtain ⟨i, hi, hzz⟩ := Option.map_eq_some_iff.1 Tryz.info99
 simp only [Prod.mk.injEq] at hzz
 obtain ⟨hz, hs, hb⟩ := hzz
 have hr := run_make (P := Tryz.prog) w 80 99 i fdZv Tryz.underlying80 hi hz .i64 .i64 n n (by omega) (Int.le_refl _) (by rw [hb]; omega) (by omega)
 rw [hs, Int.toNat_natCast] at hr
 exact hr
theorem fd_row_len (l : List Fd) : ∀ r ∈ l.map Fd.row, r.length = 8 := by
 intro r hr
 obtain ⟨f, _, rfl⟩ := List.mem_map.1 hr
 rfl
theorem fd_row_one (l : List Fd) : ∀ r ∈ l.map Fd.row, ∀ u ∈ r, u.oneCell' = true := by
 intro r hr u hu
 obtain ⟨f, _, rfl⟩ := List.mem_map.1 hr
 simp only [Fd.row, List.mem_cons, List.not_mem_nil, or_false] at hu
 rcases hu with rfl | rfl | rfl | rfl | rfl | rfl | rfl | rfl <;> rfl
theorem made_flat (n : Nat) : (madeCells fdZc (n * 8)).toList = ((List.replicate n fdZ).map Fd.row).flatten := by
 apply List.ext_getElem?
 intro j
 by_cases hj : j < n * 8
 ·have h1 := We.flat_get (sz := 8) (fd_row_len (List.replicate n fdZ)) (j := j / 8) (c := j % 8) (by simp; omega) (by omega)
  rw [show j / 8 * 8 + j % 8 = j by omega] at h1
  have h2 : ((List.replicate n fdZ).map Fd.row).getD (j / 8) [] = fdZ.row := by
   have : j / 8 < n := by omega
   simp [List.getD_eq_getElem?_getD, this]
  rw [h1, h2]
  have h8 : j % 8 = 0 \/ j % 8 = 1 \/ j % 8 = 2 \/ j % 8 = 3 \/ j % 8 = 4 \/ j % 8 = 5 \/ j % 8 = 6 \/ j % 8 = 7 := by omega
  rw [Array.getElem?_toList]
  unfold madeCells
  rw [Array.getElem?_map, Array.getElem?_range, if_pos hj]
  rcases h8 with h | h | h | h | h | h | h | h <;> simp [fdZc, fdZ, Fd.row, h]
 ·have h1 := We.flat_len (sz := 8) (fd_row_len (List.replicate n fdZ))
  rw [List.getElem?_eq_none (by simp [madeCells]; omega), List.getElem?_eq_none (by rw [h1]; simp; omega)]
theorem made_own (w : World) (n : Nat) (hn : n <= 1000) : We.Ow (w.alloc (.cells (madeCells fdZc (n * 8)) 99)) w.heap.size 99 8 (.slice (some ⟨w.heap.size, 0, none⟩) n n) ((List.replicate n fdZ).map Fd.row) := by
 have hs : (madeCells fdZc (n * 8)).size = n * 8 := by simp [madeCells]
 have hl := We.flat_len (sz := 8) (fd_row_len (List.replicate n fdZ))
 rw [List.length_map, List.length_replicate] at hl
 refine ⟨?_, fd_row_len _, fd_row_one _⟩
 rw [List.length_map, List.length_replicate]
 refine ⟨hl, .inr ⟨w.heap.size, n, madeCells fdZc (n * 8), rfl, Nat.le_refl _, heap_alloc_new w _, Nat.le_refl _, by simp [maxLen]; omega, hs, ?_⟩⟩
 rw [<- made_flat, List.take_of_length_le (by rw [Array.length_toList, hs]; exact Nat.le_refl _)]
theorem flat_set8 {rows : We.Rws} (hl : ∀ r ∈ rows, r.length = 8) (i : Nat) (hi : i < rows.length) (a0 a1 a2 a3 a4 a5 a6 a7 : Value) :
  (rows.set i [a0, a1, a2, a3, a4, a5, a6, a7]).flatten = (((((((rows.flatten.set (i * 8) a0).set (i * 8 + 1) a1).set (i * 8 + 2) a2).set (i * 8 + 3) a3).set (i * 8 + 4) a4).set (i * 8 + 5) a5).set (i * 8 + 6) a6).set (i * 8 + 7) a7 := by
 have hl2 : ∀ r ∈ rows.set i [a0, a1, a2, a3, a4, a5, a6, a7], r.length = 8 := by
  intro r hr
  rcases List.mem_or_eq_of_mem_set hr with h | h
  ·exact hl r h
  ·rw [h]; rfl
 have hf := We.flat_len hl
 have hf2 := We.flat_len hl2
 rw [List.length_set] at hf2
 apply List.ext_getElem?
 intro j
 by_cases hj : j < rows.length * 8
 ·obtain ⟨q, c, hc, rfl⟩ : ∃ q c, c < 8 /\ j = q * 8 + c := ⟨j / 8, j % 8, by omega, by omega⟩
  have hq : q < rows.length := by omega
  rw [We.flat_get hl2 (by rw [List.length_set]; exact hq) hc]
  have h1 := We.flat_get hl hq hc
  simp only [List.getElem?_set, List.length_set, hf]
  by_cases e : i = q
  ·subst e
   have h8 : c = 0 \/ c = 1 \/ c = 2 \/ c = 3 \/ c = 4 \/ c = 5 \/ c = 6 \/ c = 7 := by omega
   have hb : i * 8 + 8 <= rows.length * 8 := by omega
   rcases h8 with rfl | rfl | rfl | rfl | rfl | rfl | rfl | rfl <;> simp [List.getD_eq_getElem?_getD, hi] <;> omega
  ·rw [if_neg (by omega), if_neg (by omega), if_neg (by omega), if_neg (by omega), if_neg (by omega), if_neg (by omega), if_neg (by omega), if_neg (by omega), h1]
   simp [List.getD_eq_getElem?_getD, e]
 ·rw [List.getElem?_eq_none (by rw [hf2]; omega), List.getElem?_eq_none (by simp only [List.length_set, hf]; omega)]
theorem Ow.put8 {w : World} {B g n cap} {l : List Fd} (h : We.Ow w B 99 8 (.slice (some ⟨g, 0, none⟩) n cap) (l.map Fd.row)) (i : Nat) (hi : i < l.length) (f : Fd) :
  We.Ow ((((((((w.setCell ⟨g, i * 8, none⟩ (.int .i64 f.a)).setCell ⟨g, i * 8 + 1, none⟩ (.int .i64 f.c)).setCell ⟨g, i * 8 + 2, none⟩ (.int .i64 f.K)).setCell ⟨g, i * 8 + 3, none⟩ (.int .u64 f.S)).setCell ⟨g, i * 8 + 4, none⟩ (.int .i64 f.I)).setCell ⟨g, i * 8 + 5, none⟩ (.int .i64 f.O)).setCell ⟨g, i * 8 + 6, none⟩ (.int .i64 f.W)).setCell ⟨g, i * 8 + 7, none⟩ (.string f.t)) B 99 8 (.slice (some ⟨g, 0, none⟩) n cap) ((l.set i f).map Fd.row) ∧
  Kp (fun j => j = g) w ((((((((w.setCell ⟨g, i * 8, none⟩ (.int .i64 f.a)).setCell ⟨g, i * 8 + 1, none⟩ (.int .i64 f.c)).setCell ⟨g, i * 8 + 2, none⟩ (.int .i64 f.K)).setCell ⟨g, i * 8 + 3, none⟩ (.int .u64 f.S)).setCell ⟨g, i * 8 + 4, none⟩ (.int .i64 f.I)).setCell ⟨g, i * 8 + 5, none⟩ (.int .i64 f.O)).setCell ⟨g, i * 8 + 6, none⟩ (.int .i64 f.W)).setCell ⟨g, i * 8 + 7, none⟩ (.string f.t)) := by
 have hn : n = l.length := by
  obtain ⟨a, c, e⟩ := h.form
  rw [List.length_map] at e
  simp only [Value.slice.injEq] at e
  exact e.2.1
 subst hn
 have h0 := h.own
 rw [List.length_map] at h0
 have h1 := (((((((h0.stored (i * 8) (.int .i64 f.a)).1.stored (i * 8 + 1) (.int .i64 f.c)).1.stored (i * 8 + 2) (.int .i64 f.K)).1.stored (i * 8 + 3) (.int .u64 f.S)).1.stored (i * 8 + 4) (.int .i64 f.I)).1.stored (i * 8 + 5) (.int .i64 f.O)).1.stored (i * 8 + 6) (.int .i64 f.W)).1.stored (i * 8 + 7) (.string f.t)
 refine ⟨⟨?_, fd_row_len _, fd_row_one _⟩, ?_⟩
 ·have e : (l.set i f).map Fd.row = (l.map Fd.row).set i f.row := by rw [List.map_set]
  rw [e, List.length_set, List.length_map]
  have e2 := flat_set8 (fd_row_len l) i (by rw [List.length_map]; exact hi) (.int .i64 f.a) (.int .i64 f.c) (.int .i64 f.K) (.int .u64 f.S) (.int .i64 f.I) (.int .i64 f.O) (.int .i64 f.W) (.string f.t)
  rw [show f.row = [.int .i64 f.a, .int .i64 f.c, .int .i64 f.K, .int .u64 f.S, .int .i64 f.I, .int .i64 f.O, .int .i64 f.W, .string f.t] from rfl, e2]
  exact h1.1
 ·have k0 := Kp.refl (fun j => j = g) w
  have s : ∀ {a : World} (o : Nat) (v : Value), Kp (fun j => j = g) w a -> Kp (fun j => j = g) w (a.setCell ⟨g, o, none⟩ v) := fun o v k => Kp.setCell (p := ⟨g, o, none⟩) k (show g = g from rfl) v
  exact s _ _ (s _ _ (s _ _ (s _ _ (s _ _ (s _ _ (s _ _ (s _ _ k0)))))))
theorem Ow.slot {w : World} {B g n cap} {l : List Fd} (h : We.Ow w B 99 8 (.slice (some ⟨g, 0, none⟩) n cap) (l.map Fd.row)) (i : Nat) (hi : i < l.length) :
  (∃ x0 x1 x2 x3 x4 x5 x6 x7, w.cell? ⟨g, i * 8, none⟩ = some x0 /\ w.cell? ⟨g, i * 8 + 1, none⟩ = some x1 /\ w.cell? ⟨g, i * 8 + 2, none⟩ = some x2 /\ w.cell? ⟨g, i * 8 + 3, none⟩ = some x3 /\ w.cell? ⟨g, i * 8 + 4, none⟩ = some x4 /\ w.cell? ⟨g, i * 8 + 5, none⟩ = some x5 /\ w.cell? ⟨g, i * 8 + 6, none⟩ = some x6 /\ w.cell? ⟨g, i * 8 + 7, none⟩ = some x7) /\ ∀ j, w.frozen? ⟨g, j, none⟩ = false := by
 have hn : n = l.length := by
  obtain ⟨a, c, e⟩ := h.form
  rw [List.length_map] at e
  simp only [Value.slice.injEq] at e
  exact e.2.1
 subst hn
 have h0 := h.own
 rw [List.length_map] at h0
 refine ⟨?_, fun j => h0.frozenAt j⟩
 obtain ⟨f', hf'⟩ : ∃ f', l.getD i ⟨0, 0, 0, 0, 0, 0, 0, ⟨#[]⟩⟩ = f' := ⟨_, rfl⟩
 obtain ⟨g', hg', _, q0, q1, q2, q3, q4, q5, q6, q7⟩ := Ow.fd h hi hf'
 obtain rfl : g = g' := by simpa using hg'
 exact ⟨_, _, _, _, _, _, _, _, q0, q1, q2, q3, q4, q5, q6, q7⟩
theorem if_both {α : Type} {a b : Prop} [Decidable a] [Decidable b] (h : a /\ b) (x y z : α) : (if a then if b then x else y else z) = x := by rw [if_pos h.1, if_pos h.2]
theorem if_not_both {α : Type} {a b : Prop} [Decidable a] [Decidable b] (h : ¬ (a /\ b)) (x y : α) : (if a then if b then x else y else y) = y := by
 by_cases h1 : a
 ·rw [if_pos h1, if_neg (fun h2 => h ⟨h1, h2⟩)]
 ·rw [if_neg h1]
def stP (s o : Int) (ps : List Fd) (f : Fd) : List Fd := if isC f = true /\ f.S = s /\ f.O = o then ps.set f.I.toNat f else ps
def pgs (l : List Fd) (s o : Int) : List Fd := l.foldl (stP s o) (List.replicate o.toNat fdZ)
structure NeS (w : World) (l : Value × List Fd) (g4 g6 m : Nat) (s : Int) (ps : List Fd) (wr : World) : Prop where
 own : We.Ow wr 0 99 8 l.1 (l.2.map Fd.row)
 below : Below w.heap.size w wr
 st : St2 wr g4 s m
 pg : We.Ow wr w.heap.size 99 8 (.slice (some ⟨g6, 0, none⟩) m m) (ps.map Fd.row)
 lo : w.heap.size <= g6 /\ g4 ≠ g6 /\ l.1.ownBlock ≠ some g6
theorem NeS.call {w l g4 g6 m s ps} {wr w2 : World} (h : NeS w l g4 g6 m s ps wr) (q : Below wr.heap.size wr w2) : NeS w l g4 g6 m s ps w2 := ⟨h.own.call q, below3 h.below q, h.st.call q, h.pg.call q, h.lo⟩
theorem NeS.drew {w l g4 g6 m s ps} {wr : World} (h : NeS w l g4 g6 m s ps wr) : NeS w l g4 g6 m s ps wr.drew := ⟨h.own.drew, h.below.drew, h.st, h.pg.drew, h.lo⟩
theorem NeS.kp {w l g4 g6 m s ps} {wr w2 : World} (h : NeS w l g4 g6 m s ps wr) (k : Kp (fun j => j = g6) wr w2) {ps'} (hp : We.Ow w2 w.heap.size 99 8 (.slice (some ⟨g6, 0, none⟩) m m) (ps'.map Fd.row)) : NeS w l g4 g6 m s ps' w2 := by
 have hl := h.lo
 exact ⟨h.own.same (fun g hg => k.block g (h.own.lt g hg).2 (fun e => hl.2.2 (by rw [hg, e]))), Kp.below h.below k h.below.size (fun i hi => by omega), h.st.kp k (fun e => hl.2.1 e), hp, h.lo⟩
def NeR (w : World) (l : Value × List Fd) (g4 g6 m : Nat) (s : Int) (ps : List Fd) (g8 : Nat) (f : Fd) (wr : World) : Prop := Fd8 wr g8 f /\ g8 < wr.heap.size /\ NeS w l g4 g6 m s ps wr
theorem neF {w0 l g4 g6 m s ps g8} {f : Fd} {w : World} (h : NeR w0 l g4 g6 m s ps g8 f w) : (w.cell? ⟨g8, 0, none⟩ = some (.int .i64 f.a) /\ w.cell? ⟨g8, 1, none⟩ = some (.int .i64 f.c) /\ w.cell? ⟨g8, 2, none⟩ = some (.int .i64 f.K) /\ w.cell? ⟨g8, 3, none⟩ = some (.int .u64 f.S) /\ w.cell? ⟨g8, 4, none⟩ = some (.int .i64 f.I) /\ w.cell? ⟨g8, 5, none⟩ = some (.int .i64 f.O) /\ w.cell? ⟨g8, 6, none⟩ = some (.int .i64 f.W) /\ w.cell? ⟨g8, 7, none⟩ = some (.string f.t)) /\ w.cell? ⟨g4, 0, none⟩ = some (.int .u64 s) /\ w.cell? ⟨g4, 1, none⟩ = some (.int .i64 m) := ⟨h.1, h.2.2.st.cells⟩
theorem NeR.call {w l g4 g6 m s ps g8 f} {wr w2 : World} (h : NeR w l g4 g6 m s ps g8 f wr) (q : Below wr.heap.size wr w2) : NeR w l g4 g6 m s ps g8 f w2 := ⟨h.1.call h.2.1 q, Nat.lt_of_lt_of_le h.2.1 q.size, h.2.2.call q⟩
theorem newest_none (v : Value) (l : List Fd) (w : World) (h : We.Ow w 0 99 8 v (l.map Fd.row)) (hl : ∀ f ∈ l, f.ok) (hlen : l.length <= 1000) (hN : nwW l = none) : Calls Tryz.prog 76 #[v] w fun e w' =>
  e = .returned (.tuple #[.slice none 0 0, .bool false]) /\ Below w.heap.size w w' := by
 have hq := Hid.mk (newestWhole_any v l w h hl hlen)
 rw [hN] at hq
 replace hq : Hid (Calls Tryz.prog 130 #[v] w fun e w' => e = .returned (.tuple #[.agg #[.int .u64 0, .int .i64 0], .bool false]) /\ Below w.heap.size w w') := hq
 clear h hl
 go_enter Tryz.func76, Tryz.ntmps76
 go_wp2_with (first | (go_at_call 130; refine hq.out.mono ?_; rintro e w1 ⟨rfl, b1⟩))
 go_ret2
 exact ⟨rfl, below3 b1 (Pg.below_one w1 _)⟩
set_option maxHeartbeats 2000000 in
theorem newest_some (v : Value) (l : List Fd) (w : World) (h : We.Ow w 0 99 8 v (l.map Fd.row)) (hl : ∀ f ∈ l, f.ok) (hlen : l.length <= 1000) (s : Int) (m : Nat) (hN : nwW l = some (s, (m : Int))) (hm : m <= 1000) : Calls Tryz.prog 76 #[v] w fun e w' =>
  ∃ v', e = .returned (.tuple #[v', .bool true]) /\ We.Ow w' w.heap.size 99 8 v' ((pgs l s m).map Fd.row) /\ (pgs l s m).length = m /\ Below w.heap.size w w' := by
 have hq := Hid.mk (newestWhole_any v l w h hl hlen)
 rw [hN] at hq
 replace hq : Hid (Calls Tryz.prog 130 #[v] w fun e w' => e = .returned (.tuple #[.agg #[.int .u64 s, .int .i64 m], .bool true]) /\ Below w.heap.size w w') := hq
 obtain ⟨a, cap, hv⟩ := h.form
 rw [List.length_map] at hv
 have H := Hid.mk h
 subst hv
 clear h hl hN
 obtain ⟨R, hR⟩ : ∃ R, pgs l s m = R := ⟨_, rfl⟩
 rw [hR]
 unfold pgs at hR
 rw [Int.toNat_natCast] at hR
 generalize hn : l.length = len at *
 have hmk := run_make_found m hm
 go_enter Tryz.func76, Tryz.ntmps76
 go_upto_region 6 with (first | (go_at_call 130; refine hq.out.mono ?_; rintro e w1 ⟨rfl, b1⟩))
 have N0 : NeS w (.slice a len cap, l) w1.heap.size (w1.alloc (.cells #[.int .u64 s, .int .i64 m] 180)).heap.size m s (List.replicate m fdZ) ((w1.alloc (.cells #[.int .u64 s, .int .i64 m] 180)).alloc (.cells (madeCells fdZc (m * 8)) 99)) := by
  have b2 := Pg.below_one w1 (.cells #[.int .u64 s, .int .i64 m] 180)
  have b3 := Pg.below_one (w1.alloc (.cells #[.int .u64 s, .int .i64 m] 180)) (.cells (madeCells fdZc (m * 8)) 99)
  have e1 := b1.size
  have e2 := size_alloc w1 (.cells #[.int .u64 s, .int .i64 m] 180)
  refine ⟨((H.out.call b1).call b2).call b3, below3 (below3 b1 b2) b3, (St2.fresh w1 s m).call b3, (made_own _ m hm).lower (by omega), by omega, by omega, fun q => ?_⟩
  have := (H.out.lt _ q).2
  omega
 rw [size_alloc] at N0
 generalize ((w1.alloc (.cells #[.int .u64 s, .int .i64 m] 180)).alloc (.cells (madeCells fdZc (m * 8)) 99)) = W at *
 generalize w1.heap.size + 1 = g6 at *
 generalize w1.heap.size = g4 at *
 replace N0 := Hid.mk N0
 replace hR := Hid.mk hR
 clear H hq b1 hmk
 go_loopw [21] (fun i wr => ∃ (k : Nat) (ps : List Fd), k <= len /\ i = .int .i64 k /\ ps.length = m /\ (l.drop k).foldl (stP s m) ps = R /\ NeS w (.slice a len cap, l) g4 g6 m s ps wr) (fun i _ => len - (intOf i).toNat)
 case atStart => exact ⟨0, _, Nat.zero_le _, rfl, List.length_replicate, hR.out, N0.out⟩
 case round =>
  clear N0 hR
  obtain ⟨k, ps, hk, rfl, hpl, hR, hs⟩ := hrel
  by_cases hlt : k < len
  ·have hltl : k < l.length := by rw [hn]; exact hlt
   obtain ⟨f, hf⟩ : ∃ f, l.getD k ⟨0, 0, 0, 0, 0, 0, 0, ⟨#[]⟩⟩ = f := ⟨_, rfl⟩
   have hdr : l.drop k = f :: l.drop (k + 1) := by
    rw [List.drop_eq_getElem_cons hltl, <- hf]
    simp [List.getD_eq_getElem?_getD, hltl]
   rw [hdr, List.foldl_cons] at hR
   replace hR := Hid.mk hR
   obtain ⟨g, rfl, hg, c0, c1, c2, c3, c4, c5, c6, c7⟩ := Ow.fd hs.own hltl hf
   replace hs := Hid.mk hs
   have hic := Hid.mk (isCheck_any f)
   have hset := Hid.mk (setOf_any f.K f.S f.I f.O f.W)
   have F8 := Hid.mk (Fd8.fresh wr f)
   go_upto_region 8 with fail
   have R0 : NeR w (.slice (some ⟨g, 0, none⟩) len cap, l) g4 g6 m s ps wr.heap.size f (wr.alloc (.cells #[.int .i64 f.a, .int .i64 f.c, .int .i64 f.K, .int .u64 f.S, .int .i64 f.I, .int .i64 f.O, .int .i64 f.W, .string f.t] 99)).drew := by
    have q8 := F8.out
    have e1 : wr.heap.size < (wr.alloc (.cells #[.int .i64 f.a, .int .i64 f.c, .int .i64 f.K, .int .u64 f.S, .int .i64 f.I, .int .i64 f.O, .int .i64 f.W, .string f.t] 99)).heap.size := by rw [size_alloc]; omega
    exact ⟨q8, e1, (hs.out.call (Pg.below_one wr _)).drew⟩
   replace R0 := Hid.mk R0
   clear hs F8 c0 c1 c2 c3 c4 c5 c6 c7 hg hf hdr
   generalize wr.heap.size = g8 at *
   generalize (wr.alloc (.cells #[.int .i64 f.a, .int .i64 f.c, .int .i64 f.K, .int .u64 f.S, .int .i64 f.I, .int .i64 f.O, .int .i64 f.W, .string f.t] 99)) = W2 at *
   by_cases hC : isC f = true
   ·by_cases hE : f.S = s /\ f.O = m
    ·replace hE := Hid.mk hE
     refine wp_region_held_drew (S := fun w' => NeR w (.slice (some ⟨g, 0, none⟩) len cap, l) g4 g6 m s ps g8 f w') (by kernel_rfl) R0.out (fun hHeld => ?_)
     refine tkF 0 (fun _ q => neF q) hHeld ?_
     refine wpAnyH_ready (rs := [1]) (by kernel_rfl) (by simp) ?_
     refine arH rfl (fun K hK => ?_) AllReadyH.nil
     go_simp
     go_at_call 131
     refine (hic.out _).mono ?_
     rintro e w3 ⟨rfl, k3⟩
     rw [hC]
     refine hK.out _ _ (hHeld.call k3) (fun hHeld => ?_)
     clear hK K
     try simp only [Act.put, zA, zB, zC]
     refine tkF 2 (fun _ q => neF q) hHeld ?_
     refine tkF 3 (fun _ q => neF q) hHeld ?_
     refine tkF 4 (fun _ q => neF q) hHeld ?_
     refine tkF 6 (fun _ q => neF q) hHeld ?_
     refine wpAnyH_ready (rs := [5]) (by kernel_rfl) (by simp) ?_
     refine arH rfl (fun K hK => ?_) AllReadyH.nil
     go_simp
     go_at_call 132
     refine (hset.out _).mono ?_
     rintro e w4 ⟨rfl, k4⟩
     refine hK.out _ _ (hHeld.call k4) (fun hHeld => ?_)
     clear hK K
     try simp only [Act.put, zA, zB, zC]
     refine tkH (i := 7) (v := ?vva7) rfl (Or.inl ⟨by rfl, ?yya7⟩) hHeld ?rra7
     case yya7 => (intro w0 hSw; obtain ⟨⟨s0, s1, s2, s3, s4, s5, s6, s7⟩, _, s9⟩ := hSw; obtain ⟨t0, t1⟩ := s9.st.cells; go_simp; exact if_both hE.out ..)
     try simp only [Act.put, zA, zB, zC]
     refine tkF 8 (fun _ q => neF q) hHeld ?_
     refine wpAnyH_done (by kernel_rfl) ?_ _
     obtain ⟨e0, e1, e2, e3, e4, e5, e6, e7⟩ := hHeld.1
     have hi := of_decide_eq_true hC
     obtain ⟨i, hiI⟩ := Int.eq_ofNat_of_zero_le hi.2.2.1
     have him : i < m := by have := hE.out.2; omega
     have himI : (i : Int) < (m : Int) := by omega
     have M := Ow.put8 hHeld.2.2.pg i (by omega) f
     have M2 := Hid.mk (hHeld.2.2.kp M.2 M.1)
     obtain ⟨⟨x0, x1, x2, x3, x4, x5, x6, x7, q0, q1, q2, q3, q4, q5, q6, q7⟩, fz⟩ := Ow.slot hHeld.2.2.pg i (by omega)
     have z0 := fz (i * 8)
     have z1 := fz (i * 8 + 1)
     have z2 := fz (i * 8 + 2)
     have z3 := fz (i * 8 + 3)
     have z4 := fz (i * 8 + 4)
     have z5 := fz (i * 8 + 5)
     have z6 := fz (i * 8 + 6)
     have z7 := fz (i * 8 + 7)
     have hE2 := Hid.mk hE
     rw [hiI] at e4
     replace hiI := Hid.mk hiI
     clear hHeld fz M hE hi k3 k4
     go_wp2_with fail
     rw [<- hiI.out]
     refine ⟨⟨k + 1, ps.set i f, by omega, by go_num, by rw [List.length_set]; exact hpl, ?_, M2.out⟩, by simp [intOf]; omega⟩
     rw [<- hR.out]
     unfold stP
     rw [if_pos ⟨hC, hE2.out⟩, hiI.out, Int.toNat_natCast]
    ·replace hE := Hid.mk hE
     refine wp_region_held_drew (S := fun w' => NeR w (.slice (some ⟨g, 0, none⟩) len cap, l) g4 g6 m s ps g8 f w') (by kernel_rfl) R0.out (fun hHeld => ?_)
     refine tkF 0 (fun _ q => neF q) hHeld ?_
     refine wpAnyH_ready (rs := [1]) (by kernel_rfl) (by simp) ?_
     refine arH rfl (fun K hK => ?_) AllReadyH.nil
     go_simp
     go_at_call 131
     refine (hic.out _).mono ?_
     rintro e w3 ⟨rfl, k3⟩
     rw [hC]
     refine hK.out _ _ (hHeld.call k3) (fun hHeld => ?_)
     clear hK K
     try simp only [Act.put, zA, zB, zC]
     refine tkF 2 (fun _ q => neF q) hHeld ?_
     refine tkF 3 (fun _ q => neF q) hHeld ?_
     refine tkF 4 (fun _ q => neF q) hHeld ?_
     refine tkF 6 (fun _ q => neF q) hHeld ?_
     refine wpAnyH_ready (rs := [5]) (by kernel_rfl) (by simp) ?_
     refine arH rfl (fun K hK => ?_) AllReadyH.nil
     go_simp
     go_at_call 132
     refine (hset.out _).mono ?_
     rintro e w4 ⟨rfl, k4⟩
     refine hK.out _ _ (hHeld.call k4) (fun hHeld => ?_)
     clear hK K
     try simp only [Act.put, zA, zB, zC]
     refine tkH (i := 7) (v := ?vvb7) rfl (Or.inl ⟨by rfl, ?yyb7⟩) hHeld ?rrb7
     case yyb7 => (intro w0 hSw; obtain ⟨⟨s0, s1, s2, s3, s4, s5, s6, s7⟩, _, s9⟩ := hSw; obtain ⟨t0, t1⟩ := s9.st.cells; go_simp; exact if_not_both hE.out ..)
     try simp only [Act.put, zA, zB, zC]
     refine tkF 8 (fun _ q => neF q) hHeld ?_
     refine wpAnyH_done (by kernel_rfl) ?_ _
     go_wp2_with fail
     exact ⟨⟨k + 1, ps, by omega, by go_num, hpl, by rw [<- hR.out]; unfold stP; rw [if_neg (fun q => hE.out q.2)], hHeld.2.2⟩, by simp [intOf]; omega⟩
   ·have hCf : isC f = false := by simpa using hC
    refine wp_region_held_drew (S := fun w' => NeR w (.slice (some ⟨g, 0, none⟩) len cap, l) g4 g6 m s ps g8 f w') (by kernel_rfl) R0.out (fun hHeld => ?_)
    refine tkF 0 (fun _ q => neF q) hHeld ?_
    refine wpAnyH_ready (rs := [1]) (by kernel_rfl) (by simp) ?_
    refine arH rfl (fun K hK => ?_) AllReadyH.nil
    go_simp
    go_at_call 131
    refine (hic.out _).mono ?_
    rintro e w3 ⟨rfl, k3⟩
    rw [hCf]
    refine hK.out _ _ (hHeld.call k3) (fun hHeld => ?_)
    clear hK K
    try simp only [Act.put, zA, zB, zC]
    refine tkF 2 (fun _ q => neF q) hHeld ?_
    refine tkJ 3 hHeld ?_
    refine tkJ 4 hHeld ?_
    refine tkJ 5 hHeld ?_
    refine tkJ 6 hHeld ?_
    refine tkJ 7 hHeld ?_
    refine tkF 8 (fun _ q => neF q) hHeld ?_
    refine wpAnyH_done (by kernel_rfl) ?_ _
    go_wp2_with fail
    exact ⟨⟨k + 1, ps, by omega, by go_num, hpl, by rw [<- hR.out]; unfold stP; rw [if_neg (fun q => hC q.1)], hHeld.2.2⟩, by simp [intOf]; omega⟩
  ·obtain rfl : k = len := by omega
   rw [List.drop_of_length_le (by omega)] at hR
   replace hR : ps = R := hR
   subst hR
   have HS := Hid.mk hs
   clear hs
   go_wp2_with fail
   go_ret2
   exact ⟨_, rfl, HS.out.pg, hpl, HS.out.below⟩
set_option maxRecDepth 100000
set_option maxRecDepth 100000
theorem ei76 : We.EI 76 9 1 16 := ⟨Tryz.underlying76, ⟨_, _, rfl, rfl, rfl, rfl, rfl⟩, by omega, by omega⟩
theorem ei222 : We.EI 222 97 5 40 := ⟨Tryz.underlying222, ⟨_, _, rfl, rfl, rfl, rfl, rfl⟩, by omega, by omega⟩
theorem ei30 : We.EI 30 3 1 8 := ⟨Tryz.underlying30, ⟨_, _, rfl, rfl, rfl, rfl, rfl⟩, by omega, by omega⟩
theorem info97 : (Tryz.prog.info? 97).map (fun i => (i.zero, i.size, i.bytes)) = some (some (Pg.tagV 0 0 0 0 0), 5, 40) := by kernel_rfl
theorem info3 : (Tryz.prog.info? 3).map (fun i => (i.zero, i.size, i.bytes)) = some (some (.int .i64 0), 1, 8) := by kernel_rfl
theorem run_room {t e sz bytes : Nat} (hu : Tryz.prog.underlying t = some (.slice e)) {z : Value} (hi : (Tryz.prog.info? e).map (fun i => (i.zero, i.size, i.bytes)) = some (some z, sz, bytes)) (hb : bytes <= 64) (n : Nat) (hn : n <= 30000) (w : World) :
  (Instr.makeSlice t (.int .i64 0) (.int .i64 n)).run Tryz.prog w = .ok (.slice (some ⟨w.heap.size, 0, none⟩) 0 n) (w.alloc (.cells (madeCells z.cells (n * sz)) e)) := by
 obtain ⟨i, hi, hzz⟩ := Option.map_eq_some_iff.1 hi
 simp only [Prod.mk.injEq] at hzz
 obtain ⟨hz, hs, hb'⟩ := hzz
 have hmul := Nat.mul_le_mul hb hn
 have hr := run_make (P := Tryz.prog) w t e i z hu hi hz .i64 .i64 0 n (by omega) (by omega) (by rw [hb', <- Int.natCast_mul]; omega) (by omega)
 rw [hs, Int.toNat_natCast] at hr
 exact hr
theorem room_own {B : Nat} (w : World) (hB : B <= w.heap.size) (z : Value) (e sz n : Nat) (hn : n <= 30000) : We.Ow (w.alloc (.cells (madeCells z.cells (n * sz)) e)) B e sz (.slice (some ⟨w.heap.size, 0, none⟩) 0 n) [] :=
 ⟨World.ownsRow_made w _ n hB (by simp [maxLen]; omega) (by simp [madeCells]), fun _ h => (by cases h), fun _ h => (by cases h)⟩
theorem text_of (i : Int) (f : Fd) (w : World) : Calls Tryz.prog 176 #[.int .i64 i, f.val] w fun e w' => e = .returned (.string f.t) /\ Below w.heap.size w w' := by
 obtain ⟨a, c, K, S, I, O, W, t⟩ := f
 unfold Fd.val
 dsimp only
 go_enter Tryz.func176, Tryz.ntmps176
 go_wp2_with fail
 go_ret
 exact ⟨rfl, Pg.below_one w _⟩
def txR (l : List Fd) : We.Rws := l.map fun f => [.string f.t]
end Go.Proofs.YtcmmhfjnhlaepabGreatDoor
