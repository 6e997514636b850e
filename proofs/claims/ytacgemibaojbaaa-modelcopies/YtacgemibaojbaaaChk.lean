/-
  Which records may be: the walk of the program's Check. No condition.
-/
import Derived.Test.YtacgemibaojbaaaRec
import Derived.Deep.Cut
import Derived.Deep.RegionWith
import Derived.Laws.ResultCell
import Derived.Laws.NewBlocks
import Derived.Laws.Closers25
import Derived.WalkSpells
import Derived.Deep.RegionLaw
namespace Go.Proofs.Ytacgemibaojbaaa
open Go Go.RowKit

theorem Hid.mk {p : Prop} (h : p) : Hid p := h
theorem below_two (w : World) (o1 o2 : Obj) : Below w.heap.size w ((w.alloc o1).alloc o2) := by
  refine ((Below.refl w.heap.size w).alloc (Nat.le_refl _) o1).alloc ?_ o2
  rw [size_alloc]
  omega

/-- what is left of a record, when its kind's numbers are taken out; none, if one is beyond its limits -/
def chkGo : List Fl → List Int → Option (List Int)
  | [], l => some l
  | f :: fs, l => if l.getD f.1 0 < f.2.1 ∨ f.2.2 < l.getD f.1 0 then none else chkGo fs (l.set f.1 0)
/-- may a record be? -/
def chkL (K : Int) (l : List Int) : Bool :=
  match chkGo (flds K) l with
  | none => false
  | some m => decide (0 < (flds K).length ∧ m = [K, 0, 0, 0, 0, 0])
theorem flds_off (K : Int) : ∀ f ∈ flds K, 1 ≤ f.1 ∧ f.1 ≤ 5 ∧ 0 ≤ f.2.1 ∧ 0 ≤ f.2.2 ∧ f.2.2 ≤ 1073741824 := by
  rcases kinds K with rfl | rfl | rfl | rfl | rfl | rfl | rfl | rfl | rfl | ⟨h1, h2, h3, h4, h5, h6, h7, h8, h9⟩
  all_goals first
  | (rw [flds_none h1 h2 h3 h4 h5 h6 h7 h8 h9]; intro f hf; cases hf)
  | (intro f hf; simp [flds] at hf; rcases hf with rfl | rfl | rfl <;> simp)
  | (intro f hf; simp [flds] at hf; rcases hf with rfl | rfl <;> simp)
  | (intro f hf; simp [flds] at hf; subst hf; simp)
theorem flds_len (K : Int) : (flds K).length ≤ 3 := by
  rcases kinds K with rfl | rfl | rfl | rfl | rfl | rfl | rfl | rfl | rfl | ⟨h1, h2, h3, h4, h5, h6, h7, h8, h9⟩
  all_goals first
  | (rw [flds_none h1 h2 h3 h4 h5 h6 h7 h8 h9]; simp)
  | simp [flds]
theorem drop_getD (fs : List Fl) (k : Nat) (h : k < fs.length) : fs.drop k = fs.getD k (0, 0, 0) :: fs.drop (k + 1) := by
  rw [List.drop_eq_getElem_cons h]
  simp [List.getD_eq_getElem?_getD, h]
theorem getD_mem (fs : List Fl) (k : Nat) (h : k < fs.length) : fs.getD k (0, 0, 0) ∈ fs := by
  simp [List.getD_eq_getElem?_getD, h]
/-- a record as a value -/
def rv (K S P A T N : Int) : Value := .agg #[.int .i64 K, .int .i64 S, .int .i64 P, .int .i64 A, .int .i64 T, .int .i64 N]
/-- what holds while Check takes numbers out -/
def ChkS (w : World) (K : Int) (a : Option Addr) (R0 : Option (List Int)) (k : Nat) (lk : List Int) (wr : World) : Prop :=
  lk.length = 6 ∧ Row wr w.heap.size 41 .i64 lk ∧ Row wr (w.heap.size + 1) 41 .i64 [K, 0, 0, 0, 0, 0] ∧ NumsAt wr (w.heap.size + 2) w.heap.size a (flds K) ∧ chkGo ((flds K).drop k) lk = R0 ∧ Below w.heap.size w wr
/-- the block in which a number of the list is laid -/
theorem three_cells {W : World} {g : Nat} {x y z : Value} (h : W.heap[g]? = some (.cells #[x, y, z] 121 (0, 0))) : W.cell? ⟨g, 0, none⟩ = some x ∧ W.cell? ⟨g, 1, none⟩ = some y ∧ W.cell? ⟨g, 2, none⟩ = some z := by
  refine ⟨?_, ?_, ?_⟩ <;> (rw [cell_of_row W g _ _ 121 _ h]; rfl)
theorem ChkS.alloc {w : World} {K a R0 k lk wr} (h : ChkS w K a R0 k lk wr) (o : Obj) : ChkS w K a R0 k lk (wr.alloc o) :=
  ⟨h.1, h.2.1.alloc o, h.2.2.1.alloc o, h.2.2.2.1.alloc o, h.2.2.2.2.1, h.2.2.2.2.2.alloc h.2.2.2.2.2.size o⟩
theorem ChkS.drew {w : World} {K a R0 k lk wr} (h : ChkS w K a R0 k lk wr) : ChkS w K a R0 k lk wr.drew :=
  ⟨h.1, h.2.1.drew, h.2.2.1.drew, h.2.2.2.1.drew, h.2.2.2.2.1, h.2.2.2.2.2.drew⟩
theorem ChkS.next {w : World} {K a R0 k lk wr} (h : ChkS w K a R0 k lk wr) (o : Nat) (hgo : chkGo ((flds K).drop (k + 1)) (lk.set o 0) = R0) : ChkS w K a R0 (k + 1) (lk.set o 0) (wr.setCell ⟨w.heap.size, o, none⟩ (.int .i64 0)) :=
  ⟨by rw [List.length_set]; exact h.1, h.2.1.stored o 0, h.2.2.1.other (by show w.heap.size ≠ w.heap.size + 1; omega) _, h.2.2.2.1.set (by show w.heap.size < w.heap.size + 2; omega) _, hgo, h.2.2.2.2.2.setCell (Nat.le_refl _) _⟩
theorem six {l : List Int} (h : l.length = 6) : ∃ a b c d e f, l = [a, b, c, d, e, f] := by
  match l, h with
  | [a, b, c, d, e, f], _ => exact ⟨a, b, c, d, e, f, rfl⟩
theorem Row.six {w : World} {g : Nat} {a b c d e f : Int} (h : Row w g 41 .i64 [a, b, c, d, e, f]) : w.cell? ⟨g, 0, none⟩ = some (.int .i64 a) ∧ w.cell? ⟨g, 1, none⟩ = some (.int .i64 b) ∧ w.cell? ⟨g, 2, none⟩ = some (.int .i64 c) ∧
    w.cell? ⟨g, 3, none⟩ = some (.int .i64 d) ∧ w.cell? ⟨g, 4, none⟩ = some (.int .i64 e) ∧ w.cell? ⟨g, 5, none⟩ = some (.int .i64 f) :=
  ⟨h.cell 0 (by simp), h.cell 1 (by simp), h.cell 2 (by simp), h.cell 3 (by simp), h.cell 4 (by simp), h.cell 5 (by simp)⟩
theorem check_any (K S P A T N : Int) (w : World) : Calls Try.prog 44 #[rv K S P A T N] w fun e w' => e = .returned (.bool (chkL K [K, S, P, A, T, N])) ∧ Below w.heap.size w w' := by
  unfold rv chkL
  generalize hR0 : chkGo (flds K) [K, S, P, A, T, N] = R0
  go_enter Try.func44, Try.ntmps44
  go_upto_region 2 with fail
  have p1 : Row ((w.alloc (.cells #[.int .i64 K, .int .i64 S, .int .i64 P, .int .i64 A, .int .i64 T, .int .i64 N] 41)).alloc (.cells #[.int .i64 K, .int .i64 0, .int .i64 0, .int .i64 0, .int .i64 0, .int .i64 0] 41)) w.heap.size 41 .i64 [K, S, P, A, T, N] := (Row.fresh w 41 .i64 [K, S, P, A, T, N]).alloc _
  have p2 : Row ((w.alloc (.cells #[.int .i64 K, .int .i64 S, .int .i64 P, .int .i64 A, .int .i64 T, .int .i64 N] 41)).alloc (.cells #[.int .i64 K, .int .i64 0, .int .i64 0, .int .i64 0, .int .i64 0, .int .i64 0] 41)) (w.heap.size + 1) 41 .i64 [K, 0, 0, 0, 0, 0] := Row.fresh1 w _ 41 .i64 [K, 0, 0, 0, 0, 0]
  have p3 := below_two w (.cells #[.int .i64 K, .int .i64 S, .int .i64 P, .int .i64 A, .int .i64 T, .int .i64 N] 41) (.cells #[.int .i64 K, .int .i64 0, .int .i64 0, .int .i64 0, .int .i64 0, .int .i64 0] 41)
  have p4 : ((w.alloc (.cells #[.int .i64 K, .int .i64 S, .int .i64 P, .int .i64 A, .int .i64 T, .int .i64 N] 41)).alloc (.cells #[.int .i64 K, .int .i64 0, .int .i64 0, .int .i64 0, .int .i64 0, .int .i64 0] 41)).heap.size = w.heap.size + 2 := by rw [size_alloc, size_alloc]
  generalize ((w.alloc (.cells #[.int .i64 K, .int .i64 S, .int .i64 P, .int .i64 A, .int .i64 T, .int .i64 N] 41)).alloc (.cells #[.int .i64 K, .int .i64 0, .int .i64 0, .int .i64 0, .int .i64 0, .int .i64 0] 41)) = W at *
  have H := Hid.mk (And.intro p1 (And.intro p2 (And.intro p3 p4)))
  clear p1 p2 p3 p4
  go_upto_region 4 with (go_at_call 63; refine (numbers_any (K := K) H.out.1.lt (H.out.1.cell 0 (by simp))).mono ?_; rintro e w1 ⟨a, rfl, b1, n1⟩)
  have hn3 := flds_len K
  rw [H.out.2.2.2] at n1
  have S0 : ChkS w K a R0 0 [K, S, P, A, T, N] w1 := ⟨rfl, H.out.1.call b1, H.out.2.1.call b1, n1, hR0, below3 H.out.2.2.1 b1⟩
  replace S0 := Hid.mk S0
  clear H n1 b1 hR0
  generalize hn : (flds K).length = n at *
  replace hn := Hid.mk hn
  go_loopw [13] (fun i wr => ∃ (k : Nat) (lk : List Int), k ≤ n ∧ i = .int .i64 k ∧ ChkS w K a R0 k lk wr) (fun i _ => n - (intOf i).toNat)
  case atStart => exact ⟨0, _, Nat.zero_le _, rfl, S0.out⟩
  case round =>
    clear S0
    obtain ⟨k, lk, hk, rfl, hs⟩ := hrel
    by_cases hkn : k < n
    · have hkl : k < (flds K).length := by rw [hn.out]; exact hkn
      obtain ⟨g, rfl, hg, hgl, c0, c1, c2⟩ := hs.2.2.2.1.cells k hkl
      have hoff := flds_off K _ (getD_mem _ k hkl)
      have hgo := hs.2.2.2.2.1
      rw [drop_getD _ k hkl, chkGo] at hgo
      generalize (flds K).getD k (0, 0, 0) = f at *
      obtain ⟨o, lo, hi⟩ := f
      simp only at c0 c1 c2 hoff hgo
      generalize hx : lk.getD o 0 = x at *
      have hx2 := hs.2.1.cell o (by rw [hs.1]; omega)
      rw [hx] at hx2
      have HS := Hid.mk (And.intro hs (And.intro hoff hx2))
      clear hs hx hoff hx2
      go_upto_region 6 with fail
      have p1 := HS.out.1.alloc (.cells #[.pointer (some ⟨w.heap.size, o, none⟩), .int .i64 lo, .int .i64 hi] 121)
      have p2 := three_cells (heap_alloc_new wr (.cells #[.pointer (some ⟨w.heap.size, o, none⟩), .int .i64 lo, .int .i64 hi] 121))
      have p3 : (wr.alloc (.cells #[.pointer (some ⟨w.heap.size, o, none⟩), .int .i64 lo, .int .i64 hi] 121)).cell? ⟨w.heap.size, o, none⟩ = some (.int .i64 x) := (((Below.refl _ wr).alloc (Nat.le_refl _) _).cell (p := ⟨w.heap.size, o, none⟩) HS.out.1.2.1.lt).trans HS.out.2.2
      have p4 := p1.2.1.frozen o
      generalize (wr.alloc (.cells #[.pointer (some ⟨w.heap.size, o, none⟩), .int .i64 lo, .int .i64 hi] 121)) = W2 at *
      generalize wr.heap.size = G at *
      obtain ⟨d0, d1, d2⟩ := p2
      replace HS := Hid.mk (And.intro p1 HS.out.2.1)
      clear p1 c0 c1 c2
      by_cases hlo : x < lo
      · rw [if_pos (Or.inl hlo)] at hgo
        subst hgo
        go_region
        go_wp2_with fail
        go_ret
        exact ⟨rfl, HS.out.1.2.2.2.2.2.drew⟩
      · by_cases hhi : hi < x
        · rw [if_pos (Or.inr hhi)] at hgo
          subst hgo
          go_region
          go_wp2_with fail
          go_ret
          exact ⟨rfl, HS.out.1.2.2.2.2.2.drew⟩
        · rw [if_neg (by omega)] at hgo
          replace hgo := Hid.mk hgo
          go_region
          go_wp2_with fail
          exact ⟨⟨k + 1, _, by omega, by go_num, HS.out.1.drew.next o hgo.out⟩, by simp [intOf]; omega⟩
    · have hk2 : k = n := by omega
      obtain ⟨hl, hr, hr2, hna, hgo, hb⟩ := hs
      rw [hk2, ← hn.out, List.drop_length, chkGo] at hgo
      subst hgo
      obtain ⟨x0, x1, x2, x3, x4, x5, rfl⟩ := six hl
      obtain ⟨c0, c1, c2, c3, c4, c5⟩ := hr.six
      obtain ⟨e0, e1, e2, e3, e4, e5⟩ := hr2.six
      have HB := Hid.mk hb
      have HN := Hid.mk hn.out
      clear hr hr2 hna hb hl hk2 hn
      by_cases h0 : 0 < n
      · have hd : decide (0 < (flds K).length) = true := decide_eq_true (by rw [HN.out]; exact h0)
        go_wp2_with fail
        all_goals
          go_ret
          exact ⟨rfl, HB.out⟩
      · have hd : decide (0 < (flds K).length) = false := decide_eq_false (by rw [HN.out]; exact h0)
        go_wp2_with fail
        all_goals
          go_ret
          exact ⟨rfl, HB.out⟩
/-- Check of what Row holds -/
def rvL (l : List Int) : Value := .agg (cellsOf .i64 l)
theorem rvL_six (K S P A T N : Int) : rvL [K, S, P, A, T, N] = rv K S P A T N := rfl
end Go.Proofs.Ytacgemibaojbaaa
