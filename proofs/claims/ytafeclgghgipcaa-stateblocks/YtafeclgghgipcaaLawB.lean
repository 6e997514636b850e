/-
  The walk of the law StateBlocks. No condition.
-/
import Derived.Test.YtafeclgghgipcaaBlk
import Derived.Test.YtafeclgghgipcaaLawN
import Derived.Laws.MakeOwn
import Derived.Deep.CutRange
namespace Go.Proofs.Ytafeclgghgipcaa
open Go Go.RowKit Go.Maps

theorem apR_may {t : Ab} {r : R6} (h : (apR t r).2 = 0) : mayB r.1 r.2.1 r.2.2.1 r.2.2.2.1 r.2.2.2.2.1 r.2.2.2.2.2 = true := by
  cases hm : mayB r.1 r.2.1 r.2.2.1 r.2.2.2.1 r.2.2.2.2.1 r.2.2.2.2.2 with
  | true => rfl
  | false =>
    unfold apR apA at h
    rw [hm] at h
    simp at h
theorem apR_else {t : Ab} {r : R6} (h8 : r.1 ≠ 8) (h9 : r.1 ≠ 9) : (apR t r).1.bad = t.bad ∧ (apR t r).1.worn = t.worn := by
  cases hm : mayB r.1 r.2.1 r.2.2.1 r.2.2.2.1 r.2.2.2.2.1 r.2.2.2.2.2 with
  | false => unfold apR apA; rw [hm]; exact ⟨rfl, rfl⟩
  | true =>
    have hR := mayB_iff.1 hm
    have hk : r.1 = 1 ∨ r.1 = 2 ∨ r.1 = 3 ∨ r.1 = 4 ∨ r.1 = 5 ∨ r.1 = 6 ∨ r.1 = 7 := by unfold mayR at hR; omega
    unfold apR apA
    rw [hm]
    rcases hk with e | e | e | e | e | e | e
    all_goals
      simp only [e]
      simp
      repeat' split
      all_goals exact ⟨rfl, rfl⟩
theorem BlkOk.other {t t' : Ab} {bl wl} (h : BlkOk t bl wl) (e1 : t'.bad = t.bad) (e2 : t'.worn = t.worn) : BlkOk t' bl wl := ⟨h.lb, h.lw, by rw [e1]; exact h.bad, by rw [e2]; exact h.worn⟩
theorem BlkOk.b8 {t : Ab} {bl wl} (h : BlkOk t bl wl) {S P A T N : Int} (hm : mayB 8 S P A T N = true) : (0 ≤ A ∧ A ≤ 31) ∧ (apR t (8, S, P, A, T, N)).2 = 0 ∧ BlkOk (apR t (8, S, P, A, T, N)).1 (bl.set A.toNat true) wl := by
  have hR := mayB_iff.1 hm
  have hA : 0 ≤ A ∧ A ≤ 31 := by unfold mayR at hR; omega
  have e : apR t (8, S, P, A, T, N) = ({ t with bad := mput t.bad A 0 }, 0) := by unfold apR apA; rw [hm]; rfl
  rw [e]
  refine ⟨hA, rfl, by rw [List.length_set]; exact h.lb, h.lw, fun j hj => ?_, h.worn⟩
  by_cases e2 : A.toNat = j
  · have e3 : A = (j : Int) := by omega
    subst e2
    rw [← e3, mget_put]
    have := h.lb
    rw [List.getD_eq_getElem?_getD, List.getElem?_set_self (by omega)]
    rfl
  · rw [mget_put_ne (by omega), ← h.bad j hj]
    simp [List.getD_eq_getElem?_getD, e2]
theorem BlkOk.w9 {t : Ab} {bl wl} (h : BlkOk t bl wl) {S P A T N : Int} (hm : mayB 9 S P A T N = true) : (0 ≤ A ∧ A ≤ 31) ∧ (apR t (9, S, P, A, T, N)).2 = 0 ∧ BlkOk (apR t (9, S, P, A, T, N)).1 bl (if wl.getD A.toNat 0 < N then wl.set A.toNat N else wl) := by
  have hR := mayB_iff.1 hm
  have hA : 0 ≤ A ∧ A ≤ 31 := by unfold mayR at hR; omega
  have e : apR t (9, S, P, A, T, N) = ({ t with worn := mput t.worn A (max ((mget t.worn A).getD 0) N) }, 0) := by unfold apR apA; rw [hm]; rfl
  rw [e]
  have hA2 := h.worn A.toNat (by omega)
  rw [show ((A.toNat : Nat) : Int) = A by omega] at hA2
  refine ⟨hA, rfl, h.lb, by split <;> simp [h.lw], h.bad, fun j hj => ?_⟩
  by_cases e2 : A.toNat = j
  · have e3 : A = (j : Int) := by omega
    subst e2
    show _ = (mget (mput t.worn A _) _).getD 0
    rw [← e3, mget_put, Option.getD_some, ← hA2]
    have := h.lw
    split
    · simp [List.getD_eq_getElem?_getD]
      rw [List.getElem?_set_self (by omega)]
      simp only [List.getD_eq_getElem?_getD] at *
      simp; omega
    · omega
  · show _ = (mget (mput t.worn A _) _).getD 0
    rw [mget_put_ne (by omega), ← h.worn j hj]
    split
    · simp [List.getD_eq_getElem?_getD, e2]
    · rfl
/-- how many are bad -/
def bN (bl : List Bool) : Nat := (bl.filter id).length
theorem up_count (n : Nat) : ∀ {m : Pl}, Up m → (∀ p ∈ m, 0 ≤ p.1 ∧ p.1 < (n : Int)) → m.length = ((List.range n).filter fun (j : Nat) => (mget m (j : Int)).isSome).length := by
  induction n with
  | zero =>
    intro m hu h
    match m with
    | [] => rfl
    | p :: r => have := h p (by simp); omega
  | succ n ih =>
    intro m hu h
    have h1 := ih (m := mdel m n) (up_del hu _) (fun p hp => by have := h p ((mdel_sub _ _).subset hp); have := mdel_ne m n p hp; omega)
    have h2 : ((List.range n).filter fun (j : Nat) => (mget (mdel m (n : Int)) (j : Int)).isSome) = (List.range n).filter fun (j : Nat) => (mget m (j : Int)).isSome := by
      apply List.filter_congr
      intro j hj
      rw [mget_del_ne (by have := List.mem_range.1 hj; omega)]
    rw [List.range_succ, List.filter_append, List.length_append, ← h2, ← h1]
    cases hg : mget m (n : Int) with
    | none => rw [mdel_none ((mget_none_iff _ _).1 hg)]; simp [hg]
    | some v =>
      have hc : ∀ {q : Pl}, Up q → ((n : Int), v) ∈ q → q.length = (mdel q n).length + 1 := by
        intro q hq hm
        induction q with
        | nil => cases hm
        | cons p r ih2 =>
          rw [mdel_cons]
          rcases List.mem_cons.1 hm with e | e
          · subst e
            simp only [if_true, List.length_cons]
            rw [mdel_none (fun z hz => up_ne hq z hz)]
          · rw [if_neg (fun e2 => up_ne hq _ e e2.symm), List.length_cons, List.length_cons, ih2 (List.pairwise_cons.1 hq).2 e]
      rw [hc hu (mget_mem hg)]
      simp [hg]
theorem BlkOk.count {t : Ab} {bl wl} (h : BlkOk t bl wl) (hi : InvA t) : t.bad.length = bN bl := by
  have h1 := up_count 32 hi.upb (fun p hp => by have := (hi.bad p hp).1; omega)
  rw [h1]
  have h2 : bl = (List.range 32).map fun j : Nat => (mget t.bad (j : Int)).isSome := by
    apply List.ext_getElem (by simp [h.lb])
    intro j h3 h4
    have := h.bad j (by simpa using h4)
    simp [List.getD_eq_getElem?_getD, h3] at this
    simp [this]
  unfold bN
  rw [h2, List.filter_map, List.length_map]
  rfl
def cB : Array Value := ((List.replicate 32 false).map Value.bool).toArray
def cW : Array Value := cellsOf .i64 (List.replicate 32 0)
theorem m46 (w : World) : (Instr.makeSlice 46 (.int .i64 32) (.int .i64 32)).run Try.prog w = .ok (.slice (some ⟨w.heap.size, 0, none⟩) 32 32) (w.alloc (.cells cB 4)) := by kernel_rfl
theorem m27 (w : World) : (Instr.makeSlice 27 (.int .i64 32) (.int .i64 32)).run Try.prog w = .ok (.slice (some ⟨w.heap.size, 0, none⟩) 32 32) (w.alloc (.cells cW 3)) := by kernel_rfl
/-- the state and the two rows, as they are begun -/
def Fin3 (w : World) (P g1 g2 : Nat) (W : World) : Prop := HoldZ w.heap.size w P noAb [g1, g2] W ∧ RowB W g1 (List.replicate 32 false) ∧ Row W g2 3 .i64 (List.replicate 32 0) ∧ g1 ≠ g2
theorem fin3 {w W : World} {g g1 g2 : Nat} (h : Whole W (newSt g)) (b : Below w.heap.size w W) (hg : w.heap.size ≤ g) (r1 : W.heap[g1]? = some (.cells cB 4 (0, 0))) (r2 : W.heap[g2]? = some (.cells cW 3 (0, 0))) (h1 : w.heap.size ≤ g1 ∧ (g1 < g ∨ g + 4 < g1)) (h2 : w.heap.size ≤ g2 ∧ (g2 < g ∨ g + 4 < g2)) (hne : g1 ≠ g2) : Fin3 w (g + 4) g1 g2 W := by
  have hf : ∀ i ∈ foot (newSt g), g ≤ i ∧ i ≤ g + 4 := by
    intro i hi
    simp [foot, maps, newSt] at hi
    omega
  refine ⟨⟨newSt g, rfl, h, rfl, b, Nat.le_refl _, fun i hi => Nat.le_trans hg (hf i hi).1, fun z hz => ?_⟩, r1, r2, hne⟩
  simp only [List.mem_cons, List.not_mem_nil, or_false] at hz
  rcases hz with rfl | rfl
  · exact ⟨⟨h1.1, (Array.getElem?_eq_some_iff.1 r1).1⟩, fun hm => by have := hf _ hm; omega⟩
  · exact ⟨⟨h2.1, (Array.getElem?_eq_some_iff.1 r2).1⟩, fun hm => by have := hf _ hm; omega⟩
theorem new_lt {w : World} {g : Nat} (h : Whole w (newSt g)) : g + 4 < w.heap.size := h.at'.lt
theorem bD (w : World) : Below w.heap.size w w.drew := (Below.refl _ w).drew
theorem bA {w W : World} (b : Below w.heap.size w W) (o : Obj) : Below w.heap.size w (W.alloc o) := b.alloc b.size o
theorem oA {W : World} {g : Nat} {o : Obj} (o' : Obj) (h : W.heap[g]? = some o) : (W.alloc o').heap[g]? = some o := (Below.heap_alloc W o' g (Array.getElem?_eq_some_iff.1 h).1).trans h
theorem oC {W W' : World} {g : Nat} {o : Obj} (h : W.heap[g]? = some o) (b : Below W.heap.size W W') : W'.heap[g]? = some o := (b.block g (Array.getElem?_eq_some_iff.1 h).1).trans h
theorem fin_1 {w w1 : World} (h1 : Whole w1 (newSt w.drew.heap.size)) (b1 : Below w.drew.heap.size w.drew w1) : Fin3 w (w.heap.size + 4) w1.heap.size (w1.heap.size + 1) ((w1.alloc (.cells cB 4)).alloc (.cells cW 3)) := by
  have hl := new_lt h1
  have hd : w.drew.heap.size = w.heap.size := rfl
  have b2 : Below w.heap.size w w1 := below3 (bD w) b1
  refine fin3 (g := w.heap.size) ((h1.call (bA (Below.refl _ w1) _)).call (bA (Below.refl _ _) _)) (bA (bA b2 _) _) (Nat.le_refl _) (oA _ (heap_alloc_new _ _)) ?_ (by omega) (by omega) (by omega)
  have := heap_alloc_new (w1.alloc (.cells cB 4)) (.cells cW 3)
  rw [size_alloc] at this
  exact this
theorem fin_2 {w w1 : World} (h1 : Whole w1 (newSt w.drew.heap.size)) (b1 : Below w.drew.heap.size w.drew w1) : Fin3 w (w.heap.size + 4) (w1.heap.size + 1) w1.heap.size ((w1.alloc (.cells cW 3)).alloc (.cells cB 4)) := by
  have hl := new_lt h1
  have hd : w.drew.heap.size = w.heap.size := rfl
  have b2 : Below w.heap.size w w1 := below3 (bD w) b1
  refine fin3 (g := w.heap.size) ((h1.call (bA (Below.refl _ w1) _)).call (bA (Below.refl _ _) _)) (bA (bA b2 _) _) (Nat.le_refl _) ?_ (oA _ (heap_alloc_new _ _)) (by omega) (by omega) (by omega)
  have := heap_alloc_new (w1.alloc (.cells cW 3)) (.cells cB 4)
  rw [size_alloc] at this
  exact this
theorem fin_3 {w w1 : World} (h1 : Whole w1 (newSt (w.drew.alloc (.cells cB 4)).heap.size)) (b1 : Below (w.drew.alloc (.cells cB 4)).heap.size (w.drew.alloc (.cells cB 4)) w1) : Fin3 w (w.heap.size + 1 + 4) w.heap.size w1.heap.size (w1.alloc (.cells cW 3)) := by
  have hd : (w.drew.alloc (.cells cB 4)).heap.size = w.heap.size + 1 := size_alloc _ _
  rw [hd] at h1
  have hl := new_lt h1
  have b2 : Below w.heap.size w w1 := below3 (bA (bD w) _) b1
  have r : (w.drew.alloc (.cells cB 4)).heap[w.heap.size]? = some (.cells cB 4 (0, 0)) := heap_alloc_new w.drew (.cells cB 4)
  exact fin3 (h1.call (bA (Below.refl _ w1) _)) (bA b2 _) (by omega) (oA _ (oC r b1)) (heap_alloc_new _ _) (by omega) (by omega) (by omega)
theorem fin_4 {w w1 : World} (h1 : Whole w1 (newSt (w.drew.alloc (.cells cW 3)).heap.size)) (b1 : Below (w.drew.alloc (.cells cW 3)).heap.size (w.drew.alloc (.cells cW 3)) w1) : Fin3 w (w.heap.size + 1 + 4) w1.heap.size w.heap.size (w1.alloc (.cells cB 4)) := by
  have hd : (w.drew.alloc (.cells cW 3)).heap.size = w.heap.size + 1 := size_alloc _ _
  rw [hd] at h1
  have hl := new_lt h1
  have b2 : Below w.heap.size w w1 := below3 (bA (bD w) _) b1
  have r : (w.drew.alloc (.cells cW 3)).heap[w.heap.size]? = some (.cells cW 3 (0, 0)) := heap_alloc_new w.drew (.cells cW 3)
  exact fin3 (h1.call (bA (Below.refl _ w1) _)) (bA b2 _) (by omega) (heap_alloc_new _ _) (oA _ (oC r b1)) (by omega) (by omega) (by omega)
theorem fin_5 {w w1 : World} (h1 : Whole w1 (newSt ((w.drew.alloc (.cells cB 4)).alloc (.cells cW 3)).heap.size)) (b1 : Below ((w.drew.alloc (.cells cB 4)).alloc (.cells cW 3)).heap.size ((w.drew.alloc (.cells cB 4)).alloc (.cells cW 3)) w1) : Fin3 w (w.heap.size + 1 + 1 + 4) w.heap.size (w.heap.size + 1) w1 := by
  have hd : ((w.drew.alloc (.cells cB 4)).alloc (.cells cW 3)).heap.size = w.heap.size + 1 + 1 := by rw [size_alloc, size_alloc]; rfl
  rw [hd] at h1
  have b2 : Below w.heap.size w w1 := below3 (bA (bA (bD w) _) _) b1
  have r : (w.drew.alloc (.cells cB 4)).heap[w.heap.size]? = some (.cells cB 4 (0, 0)) := heap_alloc_new w.drew (.cells cB 4)
  have r2 : ((w.drew.alloc (.cells cB 4)).alloc (.cells cW 3)).heap[w.heap.size + 1]? = some (.cells cW 3 (0, 0)) := by
    have := heap_alloc_new (w.drew.alloc (.cells cB 4)) (.cells cW 3)
    rw [size_alloc] at this
    exact this
  exact fin3 h1 b2 (by omega) (oC (oA _ r) b1) (oC r2 b1) (by omega) (by omega) (by omega)
theorem fin_6 {w w1 : World} (h1 : Whole w1 (newSt ((w.drew.alloc (.cells cW 3)).alloc (.cells cB 4)).heap.size)) (b1 : Below ((w.drew.alloc (.cells cW 3)).alloc (.cells cB 4)).heap.size ((w.drew.alloc (.cells cW 3)).alloc (.cells cB 4)) w1) : Fin3 w (w.heap.size + 1 + 1 + 4) (w.heap.size + 1) w.heap.size w1 := by
  have hd : ((w.drew.alloc (.cells cW 3)).alloc (.cells cB 4)).heap.size = w.heap.size + 1 + 1 := by rw [size_alloc, size_alloc]; rfl
  rw [hd] at h1
  have b2 : Below w.heap.size w w1 := below3 (bA (bA (bD w) _) _) b1
  have r : (w.drew.alloc (.cells cW 3)).heap[w.heap.size]? = some (.cells cW 3 (0, 0)) := heap_alloc_new w.drew (.cells cW 3)
  have r2 : ((w.drew.alloc (.cells cW 3)).alloc (.cells cB 4)).heap[w.heap.size + 1]? = some (.cells cB 4 (0, 0)) := by
    have := heap_alloc_new (w.drew.alloc (.cells cW 3)) (.cells cB 4)
    rw [size_alloc] at this
    exact this
  exact fin3 h1 b2 (by omega) (oC r2 b1) (oC (oA _ r) b1) (by omega) (by omega) (by omega)
theorem HoldZ.drewN {B : Nat} {w0 w : World} {P t Z} (h : HoldZ B w0 P t Z w) (n : Nat) : HoldZ B w0 P t Z (w.drewN n) := h.call ⟨rfl, rfl, rfl, Nat.le_refl _, fun _ _ => rfl⟩
theorem z23 {R g1 g2 : Nat} : ∀ z ∈ [g1, g2], z ∈ [R, g1, g2] := fun _ hz => List.mem_cons_of_mem _ hz
theorem rep_getD {α : Type} (n j : Nat) (d : α) : (List.replicate n d).getD j d = d := by
  rw [List.getD_eq_getElem?_getD, List.getElem?_replicate]
  split <;> rfl
theorem blk_start : BlkOk noAb (List.replicate 32 false) (List.replicate 32 0) := ⟨List.length_replicate, List.length_replicate, fun j _ => by rw [rep_getD]; rfl, fun j _ => by rw [rep_getD]; rfl⟩
structure BkS (w : World) (P g1 g2 : Nat) (f : Nat → R6) (k : Nat) (bl : List Bool) (wl : List Int) (wr : World) : Prop where
  hold : HoldZ w.heap.size w P (runA f k) [g1, g2] wr
  rb : RowB wr g1 bl
  rw' : Row wr g2 3 .i64 wl
  ok : BlkOk (runA f k) bl wl
set_option maxRecDepth 20000 in
set_option maxHeartbeats 4000000 in
theorem stateBlocks_any (a : Option Addr) (len cap : Nat) (f : Nat → R6) (w : World) (hx : RecsF w a len f) : Calls Try.prog 6 #[.slice a len cap] w fun e w' => e = .returned (.bool true) ∧ Below w.heap.size w w' := by
  have HX := Hid.mk hx
  clear hx
  go_enter Try.func6, Try.ntmps6
  go_upto_region 1 with fail
  go_cut [3, 4, 5] from 10 to 12 (fun v3 v4 v5 wx => ∃ P g1 g2, v3 = .pointer (some ⟨P, 0, none⟩) ∧ v4 = .slice (some ⟨g1, 0, none⟩) 32 32 ∧ v5 = .slice (some ⟨g2, 0, none⟩) 32 32 ∧ Fin3 w P g1 g2 wx)
  case first =>
    have k46 := m46
    have k27 := m27
    go_region_with (first | (go_at_call 8; refine (newW_any _).mono ?_; rintro e w1 ⟨rfl, h1, b1⟩))
    all_goals
      go_wp2_with fail
      go_meet
      first
        | exact ⟨_, _, _, rfl, rfl, rfl, fin_1 h1 b1⟩
        | exact ⟨_, _, _, rfl, rfl, rfl, fin_2 h1 b1⟩
        | exact ⟨_, _, _, rfl, rfl, rfl, fin_3 h1 b1⟩
        | exact ⟨_, _, _, rfl, rfl, rfl, fin_4 h1 b1⟩
        | exact ⟨_, _, _, rfl, rfl, rfl, fin_5 h1 b1⟩
        | exact ⟨_, _, _, rfl, rfl, rfl, fin_6 h1 b1⟩
  case rest =>
    obtain ⟨P, g1, g2, rfl, rfl, rfl, hF⟩ := hcut
    have S0 : BkS w P g1 g2 f 0 (List.replicate 32 false) (List.replicate 32 0) wc := ⟨hF.1, hF.2.1, hF.2.2.1, blk_start⟩
    have hne := Hid.mk hF.2.2.2
    replace S0 := Hid.mk S0
    clear hF
    go_upto_region 3 with fail
    go_loopw [6, 7] (fun i _ wr => ∃ (k : Nat) (bl : List Bool) (wl : List Int), k ≤ 60 ∧ k ≤ len ∧ i = .int .i64 k ∧ BkS w P g1 g2 f k bl wl wr) (fun i _ _ => 60 - (intOf i).toNat)
    case atStart => exact ⟨0, _, _, by omega, Nat.zero_le _, rfl, S0.out⟩
    case round =>
      clear S0
      obtain ⟨k, bl, wl, hk60, hklen, rfl, hs⟩ := hrel
      by_cases hgo : k < len ∧ k < 60
      · obtain ⟨h1, h2⟩ := hgo
        obtain ⟨g, o, rfl, hgl, hcs, hwf⟩ := HX.out.below hs.hold.hold.below k h1
        have hrun : runA f (k + 1) = (apR (runA f k) (f k)).1 := rfl
        generalize hr : f k = r at *
        obtain ⟨K, S, Pg, A, T, Nn⟩ := r
        obtain ⟨c0, c1, c2, c3, c4, c5⟩ := hcs
        simp only at c0 c1 c2 c3 c4 c5
        have HS := Hid.mk (And.intro hs hrun)
        clear hs hwf hrun hr
        go_upto_region 6 with fail
        have hM := HS.out.1.hold.more (.cells #[.int .i64 K, .int .i64 S, .int .i64 Pg, .int .i64 A, .int .i64 T, .int .i64 Nn] 36)
        have hap := applyZ hM (K, S, Pg, A, T, Nn)
        unfold rv at hap
        simp only at hap
        have r0 : Row (wr.alloc (.cells #[.int .i64 K, .int .i64 S, .int .i64 Pg, .int .i64 A, .int .i64 T, .int .i64 Nn] 36)) wr.heap.size 36 .i64 [K, S, Pg, A, T, Nn] := Row.fresh wr 36 .i64 [K, S, Pg, A, T, Nn]
        have q0 : RowB (wr.alloc (.cells #[.int .i64 K, .int .i64 S, .int .i64 Pg, .int .i64 A, .int .i64 T, .int .i64 Nn] 36)) g1 bl := HS.out.1.rb.same (Below.heap_alloc _ _ _ HS.out.1.rb.lt)
        have q1 := HS.out.1.rw'.alloc (.cells #[.int .i64 K, .int .i64 S, .int .i64 Pg, .int .i64 A, .int .i64 T, .int .i64 Nn] 36)
        obtain ⟨d0, d1, d2, d3, d4, d5⟩ := r0.six
        have HM := Hid.mk (And.intro hap (And.intro r0 (And.intro q0 q1)))
        clear hM hap r0 q0 q1 c0 c1 c2 c3 c4 c5
        generalize wr.alloc (.cells #[.int .i64 K, .int .i64 S, .int .i64 Pg, .int .i64 A, .int .i64 T, .int .i64 Nn] 36) = W at *
        generalize wr.heap.size = R at *
        generalize hE : (apR (runA f k) (K, S, Pg, A, T, Nn)).2 = E at *
        have HE := Hid.mk hE
        clear hE
        by_cases hE0 : E = 0
        · have hEb : (E != 0) = false := by simp [hE0]
          have hmay := apR_may (HE.out.trans hE0)
          simp only at hmay
          clear hE0
          replace hmay := Hid.mk hmay
          go_upto_region 7 with (first | (go_at_call 11; refine HM.out.1.mono ?_; rintro e w3 ⟨rfl, hz, hb, bw⟩))
          have r3 : Row w3 R 36 .i64 [K, S, Pg, A, T, Nn] := (hb R (by simp)).trans HM.out.2.1
          have q3 : RowB w3 g1 bl := HM.out.2.2.1.same (hb g1 (by simp))
          have y3 : Row w3 g2 3 .i64 wl := (hb g2 (by simp)).trans HM.out.2.2.2
          obtain ⟨x0, x1, x2, x3, x4, x5⟩ := r3.six
          rw [← HS.out.2] at hz
          have H3 := Hid.mk (And.intro hz (And.intro r3 (And.intro q3 y3)))
          clear hz r3 q3 y3 hb bw HM d0 d1 d2 d3 d4 d5 hEb HE
          by_cases hK8 : K = 8
          · subst hK8
            obtain ⟨hA, _, ok⟩ := HS.out.1.ok.b8 hmay.out
            rw [← HS.out.2] at ok
            have HO := Hid.mk ok
            clear ok
            obtain ⟨j, rfl⟩ : ∃ j : Nat, A = (j : Int) := ⟨A.toNat, by omega⟩
            have hj : j < 32 := by omega
            have cc := H3.out.2.2.1.cell j (by rw [HS.out.1.ok.lb]; exact hj)
            have cf := H3.out.2.2.1.frozen j
            go_upto_region 9 with fail
            have n1 : HoldZ w.heap.size w P (runA f (k + 1)) [R, g1, g2] (w3.setCell ⟨g1, j, none⟩ (.bool true)) := H3.out.1.set (by simp) _
            have n2 := H3.out.2.2.1.stored j true
            have hRg : R ≠ g1 := fun e => by
              have h5 := H3.out.2.1
              have h6 := H3.out.2.2.1
              unfold Row at h5; unfold RowB at h6
              rw [e, h6] at h5
              simp at h5
            have n3 : Row (w3.setCell ⟨g1, j, none⟩ (.bool true)) R 36 .i64 [8, S, Pg, j, T, Nn] := H3.out.2.1.other (by exact fun e => hRg e.symm) _
            have n4 : Row (w3.setCell ⟨g1, j, none⟩ (.bool true)) g2 3 .i64 wl := H3.out.2.2.2.other (by exact hne.out) _
            obtain ⟨z0, z1, z2, z3, z4, z5⟩ := n3.six
            have H4 := Hid.mk (And.intro n1 (And.intro n2 n4))
            clear n1 n2 n3 n4 x0 x1 x2 x3 x4 x5 cc cf H3
            generalize w3.setCell ⟨g1, j, none⟩ (.bool true) = W4 at *
            go_quiet (fail)
            go_wp2_with fail
            exact ⟨⟨k + 1, bl.set j true, wl, by omega, by omega, by go_num, ⟨(H4.out.1.drewN _).sub z23, H4.out.2.1, H4.out.2.2.drewN _, by have := HO.out; rw [Int.toNat_natCast] at this; exact this⟩⟩, by simp [intOf]; omega⟩
          · have hK8b : (K == 8) = false := by simp [hK8]
            by_cases hK9 : K = 9
            · subst hK9
              obtain ⟨hA, _, ok⟩ := HS.out.1.ok.w9 hmay.out
              rw [← HS.out.2] at ok
              obtain ⟨j, rfl⟩ : ∃ j : Nat, A = (j : Int) := ⟨A.toNat, by omega⟩
              rw [Int.toNat_natCast] at ok
              have HO := Hid.mk ok
              clear ok hK8
              have hj : j < 32 := by omega
              have cc := H3.out.2.2.2.cell j (by rw [HS.out.1.ok.lw]; exact hj)
              have cf := H3.out.2.2.2.frozen j
              generalize hv : wl.getD j 0 = v at *
              by_cases hlt : v < Nn
              · rw [if_pos hlt] at HO
                have hd : decide (v < Nn) = true := decide_eq_true hlt
                clear hlt
                go_upto_region 9 with fail
                go_quiet (fail)
                go_wp2_with fail
                exact ⟨⟨k + 1, bl, wl.set j Nn, by omega, by omega, by go_num, ⟨((H3.out.1.drewN _).set (a := ⟨g2, j, none⟩) (by simp) _).sub z23, H3.out.2.2.1.same (heap_setCell_other _ _ _ _ hne.out), (H3.out.2.2.2.drewN _).stored j Nn, HO.out⟩⟩, by simp [intOf]; omega⟩
              · rw [if_neg hlt] at HO
                have hd : decide (v < Nn) = false := decide_eq_false hlt
                clear hlt
                go_upto_region 9 with fail
                go_quiet (fail)
                go_wp2_with fail
                exact ⟨⟨k + 1, bl, wl, by omega, by omega, by go_num, ⟨(H3.out.1.drewN _).sub z23, H3.out.2.2.1, H3.out.2.2.2.drewN _, HO.out⟩⟩, by simp [intOf]; omega⟩
            · have hK9b : (K == 9) = false := by simp [hK9]
              have hel := apR_else (t := runA f k) (r := (K, S, Pg, A, T, Nn)) hK8 hK9
              rw [← HS.out.2] at hel
              have HO := Hid.mk (HS.out.1.ok.other hel.1 hel.2)
              clear hel hK8 hK9
              go_upto_region 9 with fail
              go_quiet (fail)
              go_wp2_with fail
              exact ⟨⟨k + 1, bl, wl, by omega, by omega, by go_num, ⟨(H3.out.1.drewN _).sub z23, H3.out.2.2.1, H3.out.2.2.2.drewN _, HO.out⟩⟩, by simp [intOf]; omega⟩
        · have hEb : (E != 0) = true := by simp [hE0]
          have herr := apR_err (t := runA f k) (r := (K, S, Pg, A, T, Nn)) (by rw [HE.out]; exact hE0)
          replace herr := Hid.mk herr
          clear hE0
          go_wp2_with (first | (go_at_call 11; refine HM.out.1.mono ?_; rintro e w3 ⟨rfl, hz, hb, bw⟩))
          have e1 : runA f (k + 1) = runA f k := HS.out.2.trans herr.out
          exact ⟨⟨k + 1, bl, wl, by omega, by omega, by go_num, ⟨by rw [e1, ← herr.out]; exact hz.sub z23, HM.out.2.2.1.same (hb g1 (by simp)), (hb g2 (by simp)).trans HM.out.2.2.2, by rw [e1]; exact HS.out.1.ok⟩⟩, by simp [intOf]; omega⟩
      · have hex : ¬ ((k : Int) < (len : Int)) ∨ ((k : Int) < (len : Int) ∧ ¬ ((k : Int) < 60)) := by omega
        have S1 := Hid.mk hs
        clear hs hgo
        have hnn : (bN (bl.take 0) : Int) = 0 := rfl
        have aw := awake0
        rcases hex with h | ⟨h, h'⟩
        all_goals
          go_upto_region 13 with fail
          go_loopw [8, 9] (fun n b wy => ∃ j : Nat, j ≤ 32 ∧ b = .int .i64 j ∧ n = .int .i64 (bN (bl.take j) : Int) ∧ BkS w P g1 g2 f k bl wl wy) (fun _ b _ => 32 - (intOf b).toNat)
          case atStart => exact ⟨0, by omega, rfl, rfl, S1.out⟩
          case round =>
            clear S1
            obtain ⟨j, hj, rfl, rfl, hs⟩ := hrel
            by_cases hj32 : j < 32
            · have cb := hs.rb.cell j (by rw [hs.ok.lb]; exact hj32)
              have cw := hs.rw'.cell j (by rw [hs.ok.lw]; exact hj32)
              have e1 := hs.ok.bad j hj32
              have e2 := hs.ok.worn j hj32
              have kj : K64 (j : Int) := k64 (by omega) (by omega)
              have hx : bN (bl.take (j + 1)) = bN (bl.take j) + (if bl.getD j false then 1 else 0) := by
                unfold bN
                rw [take_snoc bl j false (by rw [hs.ok.lb]; exact hj32), List.filter_append, List.length_append]
                cases bl.getD j false <;> rfl
              have hbl : bN (bl.take j) ≤ 32 := Nat.le_trans (List.length_filter_le _ _) (by rw [List.length_take]; omega)
              have C18 : ∀ W', Below wr.heap.size wr W' → Calls Try.prog 18 #[.pointer (some ⟨P, 0, none⟩), .int .i64 j] W' fun e w'' => e = .returned (.bool (bl.getD j false)) ∧ Below W'.heap.size W' w'' := fun W' b => by
                have := hold_bad (hs.hold.call b).hold kj
                rw [← e1] at this
                exact this
              have C19 : ∀ W', Below wr.heap.size wr W' → Calls Try.prog 19 #[.pointer (some ⟨P, 0, none⟩), .int .i64 j] W' fun e w'' => e = .returned (.int .i64 (wl.getD j 0)) ∧ W' = w'' := fun W' b => by
                have := hold_worn (hs.hold.call b).hold kj
                rw [← e2] at this
                exact this
              generalize bl.getD j false = x at *
              generalize wl.getD j 0 = v at *
              generalize hn0 : bN (bl.take j) = n0 at *
              have hg1 := hs.rb.lt
              have hg2 := hs.rw'.lt
              have kS : ∀ w', Below wr.heap.size wr w' → w'.cell? ⟨g1, j, none⟩ = some (.bool x) ∧ w'.cell? ⟨g2, j, none⟩ = some (.int .i64 v) ∧ Below wr.heap.size wr w' := fun w' q => ⟨(q.cell (p := ⟨g1, j, none⟩) hg1).trans cb, (q.cell (p := ⟨g2, j, none⟩) hg2).trans cw, q⟩
              replace kS := Hid.mk kS
              have HS := Hid.mk (And.intro hs (And.intro hx (And.intro C18 C19)))
              clear hs cb cw e1 e2 hx C18 C19 hg1 hg2 hn0 aw
              go_upto_region 15 with fail
              go_region_held3 (fun w' => w'.cell? ⟨g1, j, none⟩ = some (.bool x) ∧ w'.cell? ⟨g2, j, none⟩ = some (.int .i64 v) ∧ Below wr.heap.size wr w')
                (first | assumption | exact kS.out _ (Below.refl _ wr).drew | exact kS.out _ (below3 (And.right (And.right (by assumption))) (by assumption)) | fail)
                (first | (go_at_call 18; refine (HS.out.2.2.1 _ (And.right (And.right (by assumption)))).mono ?_; rintro e w5 ⟨rfl, b5⟩) | (go_at_call 19; refine (HS.out.2.2.2 _ (And.right (And.right (by assumption)))).mono ?_; rintro e w5 ⟨rfl, rfl⟩))
              have q5 : Below wr.heap.size wr w5 := below3 (Below.refl _ wr).drew b5
              obtain ⟨z1, z2, _⟩ := kS.out w5 q5
              have N5 : BkS w P g1 g2 f k bl wl w5 := ⟨HS.out.1.hold.call q5, HS.out.1.rb.same (q5.block _ HS.out.1.rb.lt), HS.out.1.rw'.call q5, HS.out.1.ok⟩
              replace N5 := Hid.mk N5
              have hx := HS.out.2.1
              clear q5 b5 kS
              cases x
              · simp only [Bool.false_eq_true, if_false, Nat.add_zero] at hx
                replace hx := Hid.mk hx
                go_wp2_with fail
                exact ⟨⟨j + 1, by omega, by go_num, by rw [hx.out], N5.out⟩, by simp [intOf]; omega⟩
              · simp only [if_true] at hx
                replace hx := Hid.mk hx
                go_wp2_with fail
                exact ⟨⟨j + 1, by omega, by go_num, by rw [hx.out]; go_num, N5.out⟩, by simp [intOf]; omega⟩
            · have hj2 : j = 32 := by omega
              subst hj2
              have hall : bl.take 32 = bl := List.take_of_length_le (by rw [hs.ok.lb]; omega)
              have hcnt := hs.ok.count hs.hold.hold.inv
              rw [hall, ← hcnt]
              have C20 : ∀ W', Below wr.heap.size wr W' → Calls Try.prog 20 #[.pointer (some ⟨P, 0, none⟩)] W' fun e w'' => e = .returned (.int .i64 ((runA f k).bad.length : Int)) ∧ W' = w'' := fun W' b => hold_bads (hs.hold.call b).hold
              have HS := Hid.mk (And.intro hs C20)
              have AW := Hid.mk aw
              clear hs C20 hall hcnt aw
              go_wp2_with (first
                | (go_at_call 9; refine (AW.out _).mono ?_; rintro e w5 ⟨rfl, b5⟩)
                | (go_at_call 20; refine (HS.out.2 _ b5).mono ?_; rintro e w6 ⟨rfl, rfl⟩))
              go_ret
              exact ⟨by simp, (HS.out.1.hold.call b5).hold.below⟩
end Go.Proofs.Ytafeclgghgipcaa
