/-
  A new chip: the walk of New. No condition.
-/
import Derived.Test.YtbcnocbdifbocaaDoorArm
namespace Go.Proofs.YtbcnocbdifbocaaDoor
open Go Go.RowKit

def blk0 : Value := .agg #[.slice none 0 0, .int .i64 0, .bool false, .bool false]
def blkZ : Array Value := #[.slice none 0 0, .int .i64 0, .bool false, .bool false]
theorem Tryd.info94 : (Tryd.prog.info? 94).map (fun i => (i.zero, i.size, i.bytes)) = some (some blk0, 4, 40) := by kernel_rfl
theorem Tryd.info9 : (Tryd.prog.info? 9).map (fun i => (i.zero, i.size, i.bytes)) = some (some (.string ⟨#[]⟩), 1, 16) := by kernel_rfl
theorem run_make_blocks (n : Nat) (hn : n ≤ 1000) (w : World) : (Instr.makeSlice 75 (.int .i64 n) (.int .i64 n)).run Tryd.prog w = .ok (.slice (some ⟨w.heap.size, 0, none⟩) n n) (w.alloc (.cells (madeCells blkZ (n * 4)) 94)) := by
  obtain ⟨i, hi, hzz⟩ := Option.map_eq_some_iff.1 Tryd.info94
  simp only [Prod.mk.injEq] at hzz
  obtain ⟨hz, hs, hb⟩ := hzz
  have hr := run_make (P := Tryd.prog) w 75 94 i blk0 Tryd.underlying75 hi hz .i64 .i64 n n (by omega) (Int.le_refl _) (by rw [hb]; omega) (by omega)
  rw [hs, Int.toNat_natCast] at hr
  exact hr
/-- the row of blocks of which k have their pages -/
def newF (L : Ly) (P k : Nat) (i : Nat) : Value := if i % 4 = 0 then (if i / 4 < k then .slice (some ⟨L.pb (i / 4), 0, none⟩) P P else .slice none 0 0) else if i % 4 = 1 then .int .i64 0 else .bool false
theorem newF_made (L : Ly) (P n : Nat) (w : World) : (w.alloc (.cells (madeCells blkZ (n * 4)) 94)).rowIs w.heap.size 94 (n * 4) (newF L P 0) := by
  have h := World.rowIs_alloc w (madeCells blkZ (n * 4)) 94 (newF L P 0) (fun i hi => ?_)
  · rw [size_madeCells] at h
    exact h
  · rw [size_madeCells] at hi
    have h4 : i % 4 = 0 ∨ i % 4 = 1 ∨ i % 4 = 2 ∨ i % 4 = 3 := by omega
    unfold madeCells newF
    rw [Array.getElem?_map, Array.getElem?_range, if_pos hi]
    rcases h4 with h | h | h | h <;> simp [blkZ, h]
/-- while blocks are made: k have their pages -/
structure NewI (w0 : World) (B P Z : Nat) (bx : Array Value) (L : Ly) (k : Nat) (w : World) : Prop where
  top : w.heap[L.a]? = some (.cells #[.int .i64 B, .int .i64 P, .int .i64 Z, .slice (some ⟨L.bs, 0, none⟩) B B, .map none, .map none, .int .i64 0, .bool false] 79 (0, 0))
  row : w.rowIs L.bs 94 (B * 4) (newF L P k)
  pgs : ∀ b, b < k → w.rowIs (L.pb b) 9 P (fun _ => .string ⟨#[]⟩)
  inj : ∀ b, b < k → ∀ d, d < k → L.pb b = L.pb d → b = d
  pa : ∀ b, b < k → L.pb b ≠ L.a
  pbs : ∀ b, b < k → L.pb b ≠ L.bs
  ab : L.bs ≠ L.a
  newA : w0.heap.size + 1 < L.a
  newB : w0.heap.size + 1 < L.bs
  newP : ∀ b, b < k → w0.heap.size + 1 < L.pb b
  below : Below w0.heap.size w0 w
  gbox : w.heap[w0.heap.size]? = some (.cells #[.int .i64 B, .int .i64 P, .int .i64 Z] 23 (0, 0))
  fbox : w.heap[w0.heap.size + 1]? = some (.cells bx 32 (0, 0))
theorem NewI.step {w0 : World} {B P Z bx L k} {w : World} (h : NewI w0 B P Z bx L k w) :
    NewI w0 B P Z bx ⟨L.a, L.bs, upd L.pb k w.heap.size⟩ (k + 1) ((w.setCell ⟨L.bs, k * 4, none⟩ (.slice (some ⟨w.heap.size, 0, none⟩) P P)).alloc (.cells (madeCells #[.string ⟨#[]⟩] P) 9)) := by
  have hz : (w.setCell ⟨L.bs, k * 4, none⟩ (.slice (some ⟨w.heap.size, 0, none⟩) P P)).heap.size = w.heap.size := by simp [World.setCell]
  have hmade := World.rowIs_made (w.setCell ⟨L.bs, k * 4, none⟩ (.slice (some ⟨w.heap.size, 0, none⟩) P P)) (.string ⟨#[]⟩) P 9
  rw [hz] at hmade
  have hlA : L.a < w.heap.size := (Array.getElem?_eq_some_iff.1 h.top).1
  have hlB : L.bs < w.heap.size := h.row.lt
  have hlP : ∀ b, b < k → L.pb b < w.heap.size := fun b hb => (h.pgs b hb).lt
  have e1 : ∀ i, i < w.heap.size → i ≠ L.bs → ((w.setCell ⟨L.bs, k * 4, none⟩ (.slice (some ⟨w.heap.size, 0, none⟩) P P)).alloc (.cells (madeCells #[.string ⟨#[]⟩] P) 9)).heap[i]? = w.heap[i]? := fun i hi hn =>
    (Below.heap_alloc _ _ i (by rw [hz]; exact hi)).trans (Below.heap_setCell w ⟨L.bs, k * 4, none⟩ _ i hn)
  have hu : ∀ b, b < k + 1 → (b < k ∧ upd L.pb k w.heap.size b = L.pb b) ∨ (b = k ∧ upd L.pb k w.heap.size b = w.heap.size) := by
    intro b hb
    unfold upd
    by_cases e : b = k
    · exact Or.inr ⟨e, by rw [if_pos e]⟩
    · exact Or.inl ⟨by omega, by rw [if_neg e]⟩
  refine ⟨(e1 _ hlA (fun e => h.ab e.symm)).trans h.top, ?_, ?_, ?_, ?_, ?_, h.ab, h.newA, h.newB, ?_, ?_, ?_, ?_⟩
  · refine (((h.row.set (k * 4) _).alloc _)).congr (fun i _ => ?_)
    unfold newF upd
    by_cases e : i = k * 4
    · subst e
      rw [if_pos rfl, if_pos (by omega), if_pos (by omega)]
      simp only
      rw [if_pos (by omega)]
    · rw [if_neg e]
      by_cases e0 : i % 4 = 0
      · rw [if_pos e0, if_pos e0]
        simp only
        by_cases e2 : i / 4 < k
        · rw [if_pos e2, if_pos (by omega), if_neg (by omega)]
        · rw [if_neg e2, if_neg (by omega)]
      · rw [if_neg e0, if_neg e0]
  · intro b hb
    rcases hu b hb with ⟨h1, h2⟩ | ⟨h1, h2⟩
    · simp only [h2]
      exact (h.pgs b h1).of_block (e1 _ (hlP b h1) (h.pbs b h1))
    · simp only [h2]
      exact hmade
  · intro b hb d hd he
    simp only at he
    rcases hu b hb with ⟨h1, h2⟩ | ⟨h1, h2⟩ <;> rcases hu d hd with ⟨h3, h4⟩ | ⟨h3, h4⟩ <;> rw [h2, h4] at he
    · exact h.inj b h1 d h3 he
    · have := hlP b h1; omega
    · have := hlP d h3; omega
    · omega
  · intro b hb
    simp only
    rcases hu b hb with ⟨h1, h2⟩ | ⟨h1, h2⟩ <;> rw [h2]
    · exact h.pa b h1
    · omega
  · intro b hb
    simp only
    rcases hu b hb with ⟨h1, h2⟩ | ⟨h1, h2⟩ <;> rw [h2]
    · exact h.pbs b h1
    · omega
  · intro b hb
    simp only
    rcases hu b hb with ⟨h1, h2⟩ | ⟨h1, h2⟩ <;> rw [h2]
    · exact h.newP b h1
    · have := h.newA; omega
  · refine (h.below.setCell (p := ⟨L.bs, k * 4, none⟩) (by have := h.newB; show _ ≤ L.bs; omega) _).alloc (by rw [hz]; exact h.below.size) _
  · exact (e1 _ (by have := h.newA; omega) (by have := h.newB; omega)).trans h.gbox
  · exact (e1 _ (by have := h.newA; omega) (by have := h.newB; omega)).trans h.fbox
theorem NewI.drew {w0 : World} {B P Z bx L k} {w : World} (h : NewI w0 B P Z bx L k w) : NewI w0 B P Z bx L k w.drew := ⟨h.top, h.row, h.pgs, h.inj, h.pa, h.pbs, h.ab, h.newA, h.newB, h.newP, h.below.drew, h.gbox, h.fbox⟩
/-- a chip at its beginning, of which some blocks are bad -/
def newC (B P Z : Nat) (l : List Int) : Ch := { B := B, P := P, Z := Z, pg := fun _ _ => ⟨#[]⟩, worn := fun _ => 0, dead := fun b => decide ((b : Int) ∈ l), mark := fun b => decide ((b : Int) ∈ l), cuts := fun _ => none, fails := fun _ => false, did := 0, off := false }
/-- .. in memory, with what else is held -/
structure NewJ (w0 : World) (B P Z : Nat) (bx : Array Value) (L : Ly) (l : List Int) (w : World) : Prop where
  chip : Chip0 w L (newC B P Z l) (.map none) (.map none)
  new : ∀ i, L.own B i → w0.heap.size + 1 < i
  below : Below w0.heap.size w0 w
  fbox : w.heap[w0.heap.size + 1]? = some (.cells bx 32 (0, 0))
theorem NewI.done {w0 : World} {B P Z bx L} {w : World} (h : NewI w0 B P Z bx L B w) (hg : 8 ≤ B ∧ B ≤ 32 ∧ 4 ≤ P ∧ P ≤ 16 ∧ 64 ≤ Z ∧ Z ≤ 256) : NewJ w0 B P Z bx L [] w := by
  refine ⟨⟨hg, h.top, h.row.congr (fun i hi => ?_), h.pgs, h.inj, h.pa, h.pbs, h.ab, fun _ _ => Or.inl rfl, by show (0 : Int) ≤ 0 ∧ (0 : Int) < 1000000; omega⟩, ?_, h.below, h.fbox⟩
  · unfold newF blkF newC
    rw [if_pos (by omega : i / 4 < B)]
    simp
  · intro i hi
    rcases hi with rfl | rfl | ⟨b, hb, rfl⟩
    · exact h.newA
    · exact h.newB
    · exact h.newP b hb
theorem Chip0.setBlk {w : World} {L C v4 v5} (h : Chip0 w L C v4 v5) (b j : Nat) (v : Value) (C' : Ch) (e1 : C'.B = C.B) (e2 : C'.P = C.P) (e3 : C'.Z = C.Z) (e4 : C'.pg = C.pg) (e10 : C'.did = C.did) (e11 : C'.off = C.off)
    (hc : ∀ i, (if i = b * 4 + j then v else blkF L C i) = blkF L C' i) : Chip0 (w.setCell ⟨L.bs, b * 4 + j, none⟩ v) L C' v4 v5 := by
  have htc : topV L C' v4 v5 = topV L C v4 v5 := by simp only [topV, e1, e2, e3, e10, e11]
  refine { geo := by rw [e1, e2, e3]; exact h.geo, top := ?_, row := ?_, pgs := ?_, inj := by rw [e1]; exact h.inj, pa := by rw [e1]; exact h.pa, pbs := by rw [e1]; exact h.pbs, ab := h.ab, len := by rw [e3, e4]; exact h.len, didr := by rw [e10]; exact h.didr }
  · rw [htc]; exact (Below.heap_setCell w _ v L.a (fun e => h.ab e.symm)).trans h.top
  · rw [e1]; exact (h.row.set (b * 4 + j) v).congr (fun i _ => hc i)
  · rw [e1]; intro d hd; rw [e2, e4]; exact (h.pgs d hd).setOther (h.pbs d hd) v
theorem blk_dead (L : Ly) (C : Ch) (b : Nat) (v : Bool) (i : Nat) : (if i = b * 4 + 2 then .bool v else blkF L C i) = blkF L { C with dead := upd C.dead b v } i := by
  unfold blkF upd
  by_cases e : i = b * 4 + 2
  · subst e
    rw [if_pos rfl, if_neg (by omega), if_neg (by omega), if_pos (by omega)]
    simp only
    rw [if_pos (by omega)]
  · rw [if_neg e]
    simp only
    by_cases e1 : i % 4 = 2
    · rw [if_neg (by omega : ¬ i % 4 = 0), if_neg (by omega : ¬ i % 4 = 1), if_pos e1, if_neg (by omega : ¬ i % 4 = 0), if_neg (by omega : ¬ i % 4 = 1), if_pos e1, if_neg (by omega)]
    · simp only [if_neg e1]
theorem blk_mark (L : Ly) (C : Ch) (b : Nat) (v : Bool) (i : Nat) : (if i = b * 4 + 3 then .bool v else blkF L C i) = blkF L { C with mark := upd C.mark b v } i := by
  unfold blkF upd
  by_cases e : i = b * 4 + 3
  · subst e
    rw [if_pos rfl, if_neg (by omega), if_neg (by omega), if_neg (by omega)]
    simp only
    rw [if_pos (by omega)]
  · rw [if_neg e]
    simp only
    by_cases e1 : i % 4 = 3
    · rw [if_neg (by omega : ¬ i % 4 = 0), if_neg (by omega : ¬ i % 4 = 1), if_neg (by omega : ¬ i % 4 = 2), if_neg (by omega : ¬ i % 4 = 0), if_neg (by omega : ¬ i % 4 = 1), if_neg (by omega : ¬ i % 4 = 2), if_neg (by omega)]
    · by_cases e2 : i % 4 = 0
      · rw [if_pos e2, if_pos e2]
      · by_cases e3 : i % 4 = 1
        · rw [if_neg e2, if_pos e3, if_neg e2, if_pos e3]
        · rw [if_neg e2, if_neg e3, if_pos (by omega), if_neg e2, if_neg e3, if_pos (by omega)]

theorem newC_bad (B P Z : Nat) (l : List Int) (b : Nat) : newC B P Z (l ++ [(b : Int)]) = { newC B P Z l with dead := upd (newC B P Z l).dead b true, mark := upd (newC B P Z l).mark b true } := by
  have e : (fun d : Nat => decide ((d : Int) ∈ l ++ [(b : Int)])) = upd (fun d : Nat => decide ((d : Int) ∈ l)) b true := by
    funext d
    unfold upd
    by_cases h : d = b
    · simp [h]
    · rw [if_neg h]
      have : ¬ (d : Int) = b := by omega
      simp [this]
  unfold newC
  simp only [e]
theorem NewJ.drew {w0 : World} {B P Z bx L l} {w : World} (h : NewJ w0 B P Z bx L l w) : NewJ w0 B P Z bx L l w.drew := ⟨h.chip.drew, h.new, h.below.drew, h.fbox⟩
theorem NewJ.badA {w0 : World} {B P Z bx L l} {w : World} (h : NewJ w0 B P Z bx L l w) (b : Nat) : NewJ w0 B P Z bx L (l ++ [(b : Int)]) ((w.setCell ⟨L.bs, b * 4 + 3, none⟩ (.bool true)).setCell ⟨L.bs, b * 4 + 2, none⟩ (.bool true)) := by
  have hn := h.new L.bs (Or.inr (Or.inl rfl))
  have h1 := h.chip.setBlk b 3 (.bool true) { newC B P Z l with mark := upd (newC B P Z l).mark b true } rfl rfl rfl rfl rfl rfl (blk_mark L _ b true)
  have h2 := h1.setBlk b 2 (.bool true) { newC B P Z l with dead := upd (newC B P Z l).dead b true, mark := upd (newC B P Z l).mark b true } rfl rfl rfl rfl rfl rfl (blk_dead L _ b true)
  refine ⟨by rw [newC_bad]; exact h2, h.new, (h.below.setCell (p := ⟨L.bs, b * 4 + 3, none⟩) (by show _ ≤ L.bs; omega) _).setCell (p := ⟨L.bs, b * 4 + 2, none⟩) (by show _ ≤ L.bs; omega) _, ?_⟩
  exact (Below.heap_setCell _ ⟨L.bs, b * 4 + 2, none⟩ _ _ (by show _ ≠ L.bs; omega)).trans ((Below.heap_setCell w ⟨L.bs, b * 4 + 3, none⟩ _ _ (by show _ ≠ L.bs; omega)).trans h.fbox)
theorem NewJ.badB {w0 : World} {B P Z bx L l} {w : World} (h : NewJ w0 B P Z bx L l w) (b : Nat) : NewJ w0 B P Z bx L (l ++ [(b : Int)]) ((w.setCell ⟨L.bs, b * 4 + 2, none⟩ (.bool true)).setCell ⟨L.bs, b * 4 + 3, none⟩ (.bool true)) := by
  have hn := h.new L.bs (Or.inr (Or.inl rfl))
  have h1 := h.chip.setBlk b 2 (.bool true) { newC B P Z l with dead := upd (newC B P Z l).dead b true } rfl rfl rfl rfl rfl rfl (blk_dead L _ b true)
  have h2 := h1.setBlk b 3 (.bool true) { newC B P Z l with dead := upd (newC B P Z l).dead b true, mark := upd (newC B P Z l).mark b true } rfl rfl rfl rfl rfl rfl (blk_mark L _ b true)
  refine ⟨by rw [newC_bad]; exact h2, h.new, (h.below.setCell (p := ⟨L.bs, b * 4 + 2, none⟩) (by show _ ≤ L.bs; omega) _).setCell (p := ⟨L.bs, b * 4 + 3, none⟩) (by show _ ≤ L.bs; omega) _, ?_⟩
  exact (Below.heap_setCell _ ⟨L.bs, b * 4 + 3, none⟩ _ _ (by show _ ≠ L.bs; omega)).trans ((Below.heap_setCell w ⟨L.bs, b * 4 + 2, none⟩ _ _ (by show _ ≠ L.bs; omega)).trans h.fbox)
theorem has0_any {w : World} {L C v4 v5} (h : Chip0 w L C v4 v5) (b : Int) : Calls Tryd.prog 48 #[.pointer (some ⟨L.a, 0, none⟩), .int .i64 b] w fun e w' => e = .returned (.bool (decide (0 ≤ b ∧ b < C.B))) ∧ w' = w := by
  obtain ⟨c0, c1, c2, c3, _⟩ := h.cellA
  clear h
  by_cases h0 : 0 ≤ b
  · by_cases h2 : b < C.B
    · rw [show decide (0 ≤ b ∧ b < C.B) = true by simp [h0, h2]]
      go_enter Tryd.func48, Tryd.ntmps48
      go_wp2
      go_ret
      exact ⟨rfl, rfl⟩
    · rw [show decide (0 ≤ b ∧ b < C.B) = false by simp [h2]]
      go_enter Tryd.func48, Tryd.ntmps48
      go_wp2
      go_ret
      exact ⟨rfl, rfl⟩
  · rw [show decide (0 ≤ b ∧ b < C.B) = false by simp [h0]]
    go_enter Tryd.func48, Tryd.ntmps48
    go_wp2
    go_ret
    exact ⟨rfl, rfl⟩
theorem NewJ.skip {w0 : World} {B P Z bx L l} {w : World} (h : NewJ w0 B P Z bx L l w) {x : Int} (hx : ¬ (0 ≤ x ∧ x < B)) : NewJ w0 B P Z bx L (l ++ [x]) w := by
  refine ⟨⟨h.chip.geo, h.chip.top, h.chip.row.congr (fun i hi => ?_), h.chip.pgs, h.chip.inj, h.chip.pa, h.chip.pbs, h.chip.ab, h.chip.len, h.chip.didr⟩, h.new, h.below, h.fbox⟩
  have hi2 : i < B * 4 := hi
  have : ¬ ((i / 4 : Nat) : Int) = x := by omega
  unfold blkF newC
  simp only [List.mem_append, List.mem_singleton, this, or_false]
theorem CutsAt.other {w : World} {S T : Nat → Prop} {a cl} (h : CutsAt w S a cl) (hn : ∀ i, i < cl.length → a.isSome = true → ∃ g o, a = some ⟨g, o, none⟩ ∧ ¬ T g) : CutsAt w T a cl := by
  intro i hi
  obtain ⟨g, o, ha, hg, _, hc⟩ := h i hi
  obtain ⟨g', o', ha', ht⟩ := hn i hi (by rw [ha]; rfl)
  rw [ha] at ha'
  cases ha'
  exact ⟨g, o, ha, hg, ht, hc⟩
theorem IntsAt.other {w : World} {S T : Nat → Prop} {a l} (h : IntsAt w S a l) (hn : ∀ i, i < l.length → a.isSome = true → ∃ g o, a = some ⟨g, o, none⟩ ∧ ¬ T g) : IntsAt w T a l := by
  intro i hi
  obtain ⟨g, o, ha, hg, _, hc⟩ := h i hi
  obtain ⟨g', o', ha', ht⟩ := hn i hi (by rw [ha]; rfl)
  rw [ha] at ha'
  cases ha'
  exact ⟨g, o, ha, hg, ht, hc⟩
/-- a chip at its beginning, with these faults -/
def begC (B P Z : Nat) (cl : List (Int × Int × Int)) (fl bl : List Int) : Ch := { newC B P Z bl with cuts := cutsOf cl, fails := failsOf fl }
set_option maxHeartbeats 2000000 in
theorem new_any (B P Z : Nat) (hg : 8 ≤ B ∧ B ≤ 32 ∧ 4 ≤ P ∧ P ≤ 16 ∧ 64 ≤ Z ∧ Z ≤ 256) (ca fa ba : Option Addr) (cl : List (Int × Int × Int)) (fl bl : List Int) (cc fc bc : Nat) (w : World)
    (hc : CutsAt w (fun _ => False) ca cl) (hf : IntsAt w (fun _ => False) fa fl) (hb : IntsAt w (fun _ => False) ba bl) (hcl : cl.length ≤ 1000) (hfl : fl.length ≤ 1000) (hbl : bl.length ≤ 1000)
    (hwc : ∀ x ∈ cl, (Lit.int .i64 x.1).wf = true ∧ 0 ≤ x.2.2 ∧ x.2.2 < 256) (hwf : ∀ x ∈ fl, (Lit.int .i64 x).wf = true) :
    Calls Tryd.prog 31 #[.agg #[.int .i64 B, .int .i64 P, .int .i64 Z], .agg #[.slice ca cl.length cc, .slice fa fl.length fc, .slice ba bl.length bc]] w fun e w' =>
      ∃ L : Ly, e = .returned (.tuple #[.pointer (some ⟨L.a, 0, none⟩), .int .i64 0]) ∧ Chip w' L (begC B P Z cl fl bl) ∧ Below w.heap.size w w' ∧ ∀ i, L.own B i → w.heap.size < i := by
  have hok : okG (B : Int) P Z = true := by
    unfold okG inR
    simp
    omega
  have hmk := run_make_blocks B (by omega)
  have hmp := run_make_row' (P := Tryd.prog) 35 9 (.string ⟨#[]⟩) 16 Tryd.underlying35 Tryd.info9 rfl .i64 .i64 P (by omega) (by omega)
  have HA := Hid.mk (And.intro hc (And.intro hf hb))
  have HL := Hid.mk (And.intro hcl (And.intro hfl hbl))
  have HW := Hid.mk (And.intro hwc hwf)
  have HG := Hid.mk hg
  have hB32 : B ≤ 32 := hg.2.1
  clear hc hf hb hwc hwf hg
  generalize hn1 : cl.length = n1 at *
  generalize hn2 : fl.length = n2 at *
  generalize hn3 : bl.length = n3 at *
  have HN := Hid.mk (And.intro hn1 (And.intro hn2 hn3))
  clear hn1 hn2 hn3
  go_enter Tryd.func31, Tryd.ntmps31
  go_upto_region 3 with (go_at_call 47; refine (check_any _ _ _ _).mono ?_; rintro e w1 ⟨rfl, b1⟩; rw [hok])
  have hgb : w1.heap[w.heap.size]? = some (.cells #[.int .i64 B, .int .i64 P, .int .i64 Z] 23 (0, 0)) :=
    (b1.block _ (by rw [size_alloc, size_alloc]; omega)).trans ((Below.heap_alloc _ _ _ (by rw [size_alloc]; omega)).trans (heap_alloc_new w _))
  have hfb : w1.heap[w.heap.size + 1]? = some (.cells #[.slice ca n1 cc, .slice fa n2 fc, .slice ba n3 bc] 32 (0, 0)) := by
    have h1 := heap_alloc_new (w.alloc (.cells #[.int .i64 B, .int .i64 P, .int .i64 Z] 23)) (.cells #[.slice ca n1 cc, .slice fa n2 fc, .slice ba n3 bc] 32)
    rw [size_alloc] at h1
    exact (b1.block _ (by rw [size_alloc, size_alloc]; omega)).trans h1
  have hbw : Below w.heap.size w w1 := below3 (below_two w _ _) b1
  have hs1 : w.heap.size + 1 < w1.heap.size := (Array.getElem?_eq_some_iff.1 hfb).1
  clear b1
  have g0 : w1.cell? ⟨w.heap.size, 0, none⟩ = some (.int .i64 B) := cell_of_row _ _ 0 _ 23 _ hgb
  have g1 : w1.cell? ⟨w.heap.size, 1, none⟩ = some (.int .i64 P) := cell_of_row _ _ 1 _ 23 _ hgb
  have g2 : w1.cell? ⟨w.heap.size, 2, none⟩ = some (.int .i64 Z) := cell_of_row _ _ 2 _ 23 _ hgb
  have lg : w.heap.size < w1.heap.size := by omega
  have HB := Hid.mk (And.intro hgb (And.intro hfb (And.intro hbw hs1)))
  clear hgb hfb hbw
  go_region
  go_upto_region 5 with fail
  have hI0 : NewI w B P Z #[.slice ca n1 cc, .slice fa n2 fc, .slice ba n3 bc] ⟨w1.heap.size + 1, w1.heap.size, fun _ => 0⟩ 0 (((w1.alloc (.cells (madeCells blkZ (B * 4)) 94)).alloc (.cells #[.int .i64 B, .int .i64 P, .int .i64 Z, .slice (some ⟨w1.heap.size, 0, none⟩) B B, .map none, .map none, .int .i64 0, .bool false] 79)).drew) := by
    have hz := size_alloc w1 (.cells (madeCells blkZ (B * 4)) 94)
    have ht := heap_alloc_new (w1.alloc (.cells (madeCells blkZ (B * 4)) 94)) (.cells #[.int .i64 B, .int .i64 P, .int .i64 Z, .slice (some ⟨w1.heap.size, 0, none⟩) B B, .map none, .map none, .int .i64 0, .bool false] 79)
    rw [hz] at ht
    have hr := newF_made ⟨w1.heap.size + 1, w1.heap.size, fun _ => 0⟩ P B w1
    have hrl := hr.lt
    have ho : ∀ i, i < w1.heap.size → (((w1.alloc (.cells (madeCells blkZ (B * 4)) 94)).alloc (.cells #[.int .i64 B, .int .i64 P, .int .i64 Z, .slice (some ⟨w1.heap.size, 0, none⟩) B B, .map none, .map none, .int .i64 0, .bool false] 79)).drew).heap[i]? = w1.heap[i]? := fun i hi =>
      (Below.heap_alloc _ _ i (by rw [hz]; omega)).trans (Below.heap_alloc w1 _ i hi)
    refine NewI.drew ⟨ht, hr.alloc _, fun b hb => absurd hb (by omega), fun b hb => absurd hb (by omega), fun b hb => absurd hb (by omega), fun b hb => absurd hb (by omega), by show w1.heap.size ≠ w1.heap.size + 1; omega, by show _ < w1.heap.size + 1; omega, hs1, fun b hb => absurd hb (by omega), ?_, (ho _ (by omega)).trans HB.out.1, (ho _ hs1).trans HB.out.2.1⟩
    exact below3 HB.out.2.2.1 (below_two w1 _ _)
  generalize ((w1.alloc (.cells (madeCells blkZ (B * 4)) 94)).alloc (.cells #[.int .i64 B, .int .i64 P, .int .i64 Z, .slice (some ⟨w1.heap.size, 0, none⟩) B B, .map none, .map none, .int .i64 0, .bool false] 79)).drew = W0 at *
  have hba : ¬ w1.heap.size + 1 = w1.heap.size := by omega
  generalize w1.heap.size + 1 = a at *
  generalize w1.heap.size = bs at *
  have HI0 := Hid.mk hI0
  clear hI0 g0 g1 g2 lg HB hs1 hmk
  go_loopw [24] (fun i wr => ∃ k : Nat, ∃ pb : Nat → Nat, k ≤ B ∧ i = .int .i64 k ∧ NewI w B P Z #[.slice ca n1 cc, .slice fa n2 fc, .slice ba n3 bc] ⟨a, bs, pb⟩ k wr) (fun i _ => B - (intOf i).toNat)
  case atStart => exact ⟨0, _, Nat.zero_le _, rfl, HI0.out⟩
  case round =>
    obtain ⟨k, pb, hk, rfl, hI⟩ := hrel
    clear HI0 W0
    by_cases hkn : k < B
    · have hkn1 : (k : Int) < B := by omega
      have a3 : wr.cell? ⟨a, 3, none⟩ = some (.slice (some ⟨bs, 0, none⟩) B B) := cell_of_row _ _ 3 _ 79 _ hI.top
      have g1 : wr.cell? ⟨w.heap.size, 1, none⟩ = some (.int .i64 P) := cell_of_row _ _ 1 _ 23 _ hI.gbox
      have bc0 := hI.row.cell (i := k * 4) (by omega)
      have bf0 := hI.row.frozen (k * 4)
      have la : a < wr.heap.size := (Array.getElem?_eq_some_iff.1 hI.top).1
      have lb : bs < wr.heap.size := hI.row.lt
      have lg : w.heap.size < wr.heap.size := (Array.getElem?_eq_some_iff.1 hI.gbox).1
      have HI := Hid.mk hI
      generalize newF ⟨a, bs, pb⟩ P k (k * 4) = V at bc0
      clear hI
      go_upto_region 7 with fail
      go_region
      go_wp2_with fail
      exact ⟨⟨k + 1, _, by omega, by go_num, HI.out.step.drew⟩, by simp [intOf]; omega⟩
    · have hkn1 : ¬ (k : Int) < B := by omega
      have hk2 : k = B := by omega
      rw [hk2] at hI
      have hJ := hI.done HG.out
      have a3 : wr.cell? ⟨a, 3, none⟩ = some (.slice (some ⟨bs, 0, none⟩) B B) := cell_of_row _ _ 3 _ 79 _ hI.top
      have q0 : wr.cell? ⟨w.heap.size + 1, 0, none⟩ = some (.slice ca n1 cc) := cell_of_row _ _ 0 _ 32 _ hI.fbox
      have q1 : wr.cell? ⟨w.heap.size + 1, 1, none⟩ = some (.slice fa n2 fc) := cell_of_row _ _ 1 _ 32 _ hI.fbox
      have q2 : wr.cell? ⟨w.heap.size + 1, 2, none⟩ = some (.slice ba n3 bc) := cell_of_row _ _ 2 _ 32 _ hI.fbox
      have HJ0 := Hid.mk hJ
      clear hI hJ
      go_upto_region 10 with fail
      clear a3 q0 q1 q2
      go_loopw [41] (fun i wr => ∃ k : Nat, k ≤ n3 ∧ i = .int .i64 k ∧ NewJ w B P Z #[.slice ca n1 cc, .slice fa n2 fc, .slice ba n3 bc] ⟨a, bs, pb⟩ (bl.take k) wr) (fun i _ => n3 - (intOf i).toNat)
      case atStart => exact ⟨0, Nat.zero_le _, rfl, HJ0.out⟩
      case round =>
        obtain ⟨j, hj, rfl, hJ⟩ := hrel
        clear HJ0
        by_cases hjm : j < n3
        · have hjc : j < bl.length := by rw [HN.out.2.2]; exact hjm
          have hjn1 : (j : Int) < n3 := by omega
          obtain ⟨g, o, rfl, hg, hgs, d0⟩ := (HA.out.2.2.kept (S := fun _ => False) (Kp.ofBelow hJ.below)) j hjc
          have e1 : bl.take (j + 1) = bl.take j ++ [bl.getD j 0] := by
            rw [List.take_add_one, List.getElem?_eq_getElem hjc]
            simp [List.getD_eq_getElem?_getD, hjc]
          generalize bl.getD j 0 = x at *
          have HJ := Hid.mk hJ
          have HE1 := Hid.mk e1
          clear e1 hJ hg hgs
          by_cases hx : 0 ≤ x ∧ x < B
          · obtain ⟨b, rfl⟩ := Int.eq_ofNat_of_zero_le hx.1
            have hb : b < B := by omega
            have hb1 : (b : Int) < B := hx.2
            have hdc : decide (0 ≤ (b : Int) ∧ (b : Int) < (newC B P Z (bl.take j)).B) = true := by simp [newC, hb]
            obtain ⟨_, _, _, c3, _⟩ := HJ.out.chip.cellA
            simp only [newC] at c3
            have b2 := HJ.out.chip.row.cell (i := b * 4 + 2) (by show _ < B * 4; omega)
            have b3 := HJ.out.chip.row.cell (i := b * 4 + 3) (by show _ < B * 4; omega)
            have f2 := HJ.out.chip.row.frozen (b * 4 + 2)
            have f3 := HJ.out.chip.row.frozen (b * 4 + 3)
            simp only at b2 b3 f2 f3
            generalize blkF ⟨a, bs, pb⟩ (newC B P Z (bl.take j)) (b * 4 + 2) = V2 at b2
            generalize blkF ⟨a, bs, pb⟩ (newC B P Z (bl.take j)) (b * 4 + 3) = V3 at b3
            clear hx
            go_upto_region 13 with (go_at_call 48; refine (has0_any HJ.out.chip _).mono ?_; rintro e w' ⟨rfl, hw'⟩; rw [hw', hdc]; clear hw')
            go_region
            go_wp2_with fail
            refine ⟨⟨j + 1, by omega, by go_num, ?_⟩, by simp [intOf]; omega⟩
            rw [HE1.out]
            exact (HJ.out.badA b).drew
          · have hdc : decide (0 ≤ x ∧ x < (newC B P Z (bl.take j)).B) = false := decide_eq_false hx
            have HX := Hid.mk hx
            clear hx
            go_wp2_with (go_at_call 48; refine (has0_any HJ.out.chip _).mono ?_; rintro e w' ⟨rfl, hw'⟩; rw [hw', hdc]; clear hw')
            refine ⟨⟨j + 1, by omega, by go_num, ?_⟩, by simp [intOf]; omega⟩
            rw [HE1.out]
            exact HJ.out.skip HX.out
        · have hjn1 : ¬ (j : Int) < n3 := by omega
          have hj2 : j = n3 := by omega
          have et : bl.take n3 = bl := by rw [← HN.out.2.2, List.take_length]
          rw [hj2, et] at hJ
          clear et
          have q0 : wr.cell? ⟨w.heap.size + 1, 0, none⟩ = some (.slice ca n1 cc) := cell_of_row _ _ 0 _ 32 _ hJ.fbox
          have q1 : wr.cell? ⟨w.heap.size + 1, 1, none⟩ = some (.slice fa n2 fc) := cell_of_row _ _ 1 _ 32 _ hJ.fbox
          have q2 : wr.cell? ⟨w.heap.size + 1, 2, none⟩ = some (.slice ba n3 bc) := cell_of_row _ _ 2 _ 32 _ hJ.fbox
          have hnw : ∀ i, (Ly.mk a bs pb).own B i → w.heap.size ≤ i := fun i hi => by have := hJ.new i hi; omega
          have harm := arm_any hJ.chip ca fa cl fl cc fc (.slice ba n3 bc) ((HA.out.1.kept (S := fun _ => False) (Kp.ofBelow hJ.below)).other (by
              intro i hi hx
              obtain ⟨g, o, ha, hg, _⟩ := HA.out.1 i hi
              exact ⟨g, o, ha, fun ho => by have := hnw g ho; omega⟩)) ((HA.out.2.1.kept (S := fun _ => False) (Kp.ofBelow hJ.below)).other (by
              intro i hi hx
              obtain ⟨g, o, ha, hg, _⟩ := HA.out.2.1 i hi
              exact ⟨g, o, ha, fun ho => by have := hnw g ho; omega⟩)) (by rw [HN.out.1]; exact HL.out.1) (by rw [HN.out.2.1]; exact HL.out.2.1) HW.out.1 HW.out.2
          rw [HN.out.1, HN.out.2.1] at harm
          have HJ := Hid.mk (And.intro hJ hnw)
          have HM := Hid.mk harm
          clear hJ hnw harm
          go_wp2_with (go_at_call 49; refine HM.out.mono ?_; rintro e w' ⟨rfl, h9, k9⟩)
          go_ret2
          refine ⟨⟨a, bs, pb⟩, rfl, h9, k9.below HJ.out.1.below HJ.out.1.below.size HJ.out.2, fun i hi => by have := HJ.out.1.new i hi; omega⟩
end Go.Proofs.YtbcnocbdifbocaaDoor
