/-
  What a chip has room for: the walks of within, Check, pagesOf, checkpointLen, reserve, takes, RoomOf and Check, and of the answer's. No condition.
-/
import Derived.Test.YtcmmhfjnhlaepabGreatDoorRows
import Derived.WalkSpells
import Derived.WalkLawsBesides
import Derived.Deep.Cut
import Derived.Deep.QuietTactic
import Derived.BigQuiet
import Derived.Laws.ResultCell
import Derived.Deep.RegionHeld3
import Derived.Deep.RegionWith
import Derived.Deep.CutRange
namespace Go.Proofs.YtcmmhfjnhlaepabGreatDoor.Rm
open Go Go.RowKit

theorem Hid.mk {p : Prop} (h : p) : Hid p := h
def nthO {α : Type} : List α -> Nat -> Option α
 | [], _ => none
 | a :: _, 0 => some a
 | _ :: t, n + 1 => nthO t n
theorem pgs_is {b s : Int} (hs : 8 < s) (hb : 0 < b) : 0 < (b + (s - 8) - 1).tdiv (s - 8) ∧ b ≤ (b + (s - 8) - 1).tdiv (s - 8) * (s - 8) ∧ ((b + (s - 8) - 1).tdiv (s - 8) - 1) * (s - 8) < b := by
  generalize hk : s - 8 = k
  have hk0 : 0 < k := by omega
  have e : (b + k - 1).tdiv k = (b + k - 1) / k := Int.tdiv_eq_ediv_of_nonneg (by omega)
  rw [e]
  have h1 := Int.mul_ediv_add_emod (b + k - 1) k
  have h2 := Int.emod_nonneg (b + k - 1) (show k ≠ 0 by omega)
  have h3 := Int.emod_lt_of_pos (b + k - 1) hk0
  generalize (b + k - 1) / k = q at *
  generalize (b + k - 1) % k = r at *
  have e2 : (q - 1) * k = k * q - k := by rw [Int.sub_mul, Int.one_mul, Int.mul_comm]
  have e3 : q * k = k * q := Int.mul_comm _ _
  refine ⟨?_, by rw [e3]; omega, by rw [e2]; omega⟩
  refine Decidable.byContradiction fun h => ?_
  have : k * q ≤ k * 0 := Int.mul_le_mul_of_nonneg_left (by omega) (by omega)
  omega
/-- what so many bytes of records take -/
def pgs (b s : Int) : Int := (b + (s - 8) - 1).tdiv (s - 8)
theorem pgs_le {b s : Int} (hs : 64 ≤ s) (hb : 0 < b) (hb2 : b ≤ 1000000) : 0 < pgs b s ∧ pgs b s ≤ 20000 := by
  obtain ⟨h1, _, h3⟩ := pgs_is (by omega : (8 : Int) < s) hb
  refine ⟨h1, ?_⟩
  unfold pgs
  generalize (b + (s - 8) - 1).tdiv (s - 8) = q at *
  refine Decidable.byContradiction fun h => ?_
  have : (q - 1) * 56 ≤ (q - 1) * (s - 8) := Int.mul_le_mul_of_nonneg_left (by omega) (by omega)
  omega
def resv (B P S n : Int) : Int := 2 * P + 2 * pgs (18 * n + 135 + 11 * B) S + 2 * pgs (72 + 11 * B) S + 8
def fitsR (B P S n : Int) : Bool := decide (2 * n + resv B P S n + 8 ≤ (B - B.tdiv 8) * P - P)
/-- how many places there is room for, from k on -/
def rmG (B P S : Int) : Nat → Nat → Nat
  | k, 0 => k
  | k, f + 1 => if fitsR B P S ((k : Int) + 1) = true then rmG B P S (k + 1) f else k

theorem rmG_step {B P S : Int} {k f : Nat} (h : fitsR B P S ((k : Int) + 1) = true) : rmG B P S k (f + 1) = rmG B P S (k + 1) f := by
  rw [rmG, if_pos h]
theorem rmG_stop {B P S : Int} {k f : Nat} (h : fitsR B P S ((k : Int) + 1) = false) : rmG B P S k (f + 1) = k := by
  rw [rmG, if_neg (by rw [h]; decide)]
def okG (B P Z : Int) : Prop := 8 ≤ B ∧ B ≤ 32 ∧ 4 ≤ P ∧ P ≤ 16 ∧ 64 ≤ Z ∧ Z ≤ 256
theorem resv_le {B P S n : Int} (h : okG B P S) (hn : 0 ≤ n ∧ n ≤ 1000) : 0 ≤ resv B P S n ∧ resv B P S n ≤ 100000 := by
  unfold okG at h
  unfold resv
  have h1 := pgs_le (b := 18 * n + 135 + 11 * B) (s := S) (by omega) (by omega) (by omega)
  have h2 := pgs_le (b := 72 + 11 * B) (s := S) (by omega) (by omega) (by omega)
  omega
theorem fits_le {B P S n : Int} (h : okG B P S) (hn : 0 ≤ n ∧ n ≤ 1000) (hf : fitsR B P S n = true) : n ≤ 300 := by
  have := resv_le h hn
  have hf' := of_decide_eq_true hf
  unfold okG at h
  have e : B.tdiv 8 = B / 8 := Int.tdiv_eq_ediv_of_nonneg (by omega)
  rw [e] at hf'
  have h1 : (B - B / 8) * P ≤ 32 * 16 := Int.mul_le_mul (by omega) (by omega) (by omega) (by omega)
  omega

theorem wr_id {x y : Int} (h : x = y) (h1 : -1000000000 ≤ y) (h2 : y ≤ 1000000000) : IntKind.i64.wrap x = y := by subst h; rw [IntKind.wrap_i64]; omega
set_option maxRecDepth 20000 in
theorem pagesOf_any (b s : Int) (hs : 64 ≤ s ∧ s ≤ 256) (hb : 0 < b ∧ b ≤ 1000000) (w : World) : Calls Tryz.prog 120 #[.int .i64 b, .int .i64 s] w fun e w' => e = .returned (.int .i64 (pgs b s)) ∧ w' = w := by
  have hp := pgs_le hs.1 hb.1 hb.2
  obtain ⟨k, hk⟩ : ∃ k : Nat, s - 8 = k := ⟨(s - 8).toNat, by omega⟩
  obtain ⟨q, hq⟩ : ∃ q, pgs b s = q := ⟨_, rfl⟩
  have hq' := hq
  unfold pgs at hq'
  rw [hk] at hq'
  rw [hq] at hp ⊢
  have e1 : IntKind.i64.wrap (s - 8) = k := wr_id (by omega) (by omega) (by omega)
  have e2 : IntKind.i64.wrap (b + k) = b + k := wr_id rfl (by omega) (by omega)
  have e3 : IntKind.i64.wrap (b + k - 1) = b + k - 1 := wr_id rfl (by omega) (by omega)
  have e4 : IntKind.i64.wrap q = q := wr_id rfl (by omega) (by omega)
  have k0 : ¬ (k : Int) = 0 := by omega
  clear hq hk
  go_enter Tryz.func120, Tryz.ntmps120
  go_wp2
  go_ret
  exact ⟨rfl, rfl⟩
set_option maxRecDepth 20000 in
theorem cpLen_any (a b c x : Int) (ha : 0 ≤ a ∧ a ≤ 100000) (hb : 0 ≤ b ∧ b ≤ 1000) (hc : 0 ≤ c ∧ c ≤ 1000) (hx : a * 9 + b * 9 + c * 11 = x) (w : World) : Calls Tryz.prog 121 #[.int .i64 a, .int .i64 b, .int .i64 c] w fun e w' => e = .returned (.int .i64 x) ∧ w' = w := by
  obtain ⟨p, hp⟩ : ∃ p, a * 9 = p := ⟨_, rfl⟩
  obtain ⟨q, hq⟩ : ∃ q, b * 9 = q := ⟨_, rfl⟩
  obtain ⟨r, hr⟩ : ∃ r, c * 11 = r := ⟨_, rfl⟩
  obtain ⟨t, ht⟩ : ∃ t, p + q = t := ⟨_, rfl⟩
  have e1 : IntKind.i64.wrap (a * 9) = p := wr_id hp (by omega) (by omega)
  have e2 : IntKind.i64.wrap (b * 9) = q := wr_id hq (by omega) (by omega)
  have e3 : IntKind.i64.wrap (c * 11) = r := wr_id hr (by omega) (by omega)
  have e4 : IntKind.i64.wrap (p + q) = t := wr_id ht (by omega) (by omega)
  have e5 : IntKind.i64.wrap (t + r) = x := wr_id (by omega) (by omega) (by omega)
  clear hp hq hr ht hx ha hb hc
  go_enter Tryz.func121, Tryz.ntmps121
  go_wp2
  go_ret
  exact ⟨rfl, rfl⟩
theorem size_alloc (w : World) (o : Obj) : (w.alloc o).heap.size = w.heap.size + 1 := by simp
theorem below_box (w : World) (B P S : Int) : Below w.heap.size w (w.alloc (.cells #[.int .i64 B, .int .i64 P, .int .i64 S] 23)) := (Below.refl w.heap.size w).alloc (Nat.le_refl _) _
theorem below_drewN {B n : Nat} {w w' : World} (h : Below B w w') : Below B w (w'.drewN n) := ⟨h.os, h.tape, h.output, h.size, h.block⟩
theorem below3 {w a b : World} (h : Below w.heap.size w a) (k : Below a.heap.size a b) : Below w.heap.size w b := h.trans (k.mono h.size)
set_option maxRecDepth 20000 in
theorem reserve_any (B P S n x : Int) (h : okG B P S) (hn : 0 ≤ n ∧ n ≤ 1000) (hx : resv B P S n = x) (w : World) : Calls Tryz.prog 85 #[.agg #[.int .i64 B, .int .i64 P, .int .i64 S], .int .i64 n] w fun e w' => e = .returned (.int .i64 x) ∧ Below w.heap.size w w' := by
  have hq := resv_le h hn
  rw [hx] at hq
  unfold okG at h
  obtain ⟨n2, hn2⟩ : ∃ y, 2 * n = y := ⟨_, rfl⟩
  obtain ⟨l1, hl1⟩ : ∃ y, 18 * n + 135 + 11 * B = y := ⟨_, rfl⟩
  obtain ⟨p1, hp1⟩ : ∃ y, pgs l1 S = y := ⟨_, rfl⟩
  obtain ⟨b11, hb11⟩ : ∃ y, B * 11 = y := ⟨_, rfl⟩
  obtain ⟨l2, hl2⟩ : ∃ y, 72 + b11 = y := ⟨_, rfl⟩
  obtain ⟨p2, hp2⟩ : ∃ y, pgs l2 S = y := ⟨_, rfl⟩
  have hb1 := pgs_le (b := l1) (s := S) (by omega) (by omega) (by omega)
  have hb2 := pgs_le (b := l2) (s := S) (by omega) (by omega) (by omega)
  unfold resv at hx
  rw [show (72 : Int) + 11 * B = l2 by omega, hp2, hl1, hp1] at hx
  have c1 := cpLen_any n2 15 B l1 (by omega) (by omega) (by omega) (by omega)
  have c2 := pagesOf_any l1 S (by omega) (by omega)
  have c3 := pagesOf_any l2 S (by omega) (by omega)
  rw [hp1] at c2 hb1
  rw [hp2] at c3 hb2
  have HC := Hid.mk (And.intro c1 (And.intro c2 c3))
  obtain ⟨y1, hy1⟩ : ∃ y, 2 * P = y := ⟨_, rfl⟩
  obtain ⟨y2, hy2⟩ : ∃ y, 2 * p1 = y := ⟨_, rfl⟩
  obtain ⟨y3, hy3⟩ : ∃ y, y1 + y2 = y := ⟨_, rfl⟩
  obtain ⟨y4, hy4⟩ : ∃ y, 2 * p2 = y := ⟨_, rfl⟩
  obtain ⟨y5, hy5⟩ : ∃ y, y3 + y4 = y := ⟨_, rfl⟩
  have e1 : IntKind.i64.wrap (2 * n) = n2 := wr_id hn2 (by omega) (by omega)
  have e2 : IntKind.i64.wrap (B * 11) = b11 := wr_id hb11 (by omega) (by omega)
  have e3 : IntKind.i64.wrap (72 + b11) = l2 := wr_id hl2 (by omega) (by omega)
  have e4 : IntKind.i64.wrap (2 * P) = y1 := wr_id hy1 (by omega) (by omega)
  have e5 : IntKind.i64.wrap (2 * p1) = y2 := wr_id hy2 (by omega) (by omega)
  have e6 : IntKind.i64.wrap (y1 + y2) = y3 := wr_id hy3 (by omega) (by omega)
  have e7 : IntKind.i64.wrap (2 * p2) = y4 := wr_id hy4 (by omega) (by omega)
  have e8 : IntKind.i64.wrap (y3 + y4) = y5 := wr_id hy5 (by omega) (by omega)
  have e9 : IntKind.i64.wrap (y5 + 8) = x := wr_id (by omega) (by omega) (by omega)
  have HB := Hid.mk (below_box w B P S)
  clear hx c1 c2 c3 hn2 hl1 hp1 hb11 hl2 hp2 hy1 hy2 hy3 hy4 hy5 hb1 hb2 hq hn h
  go_enter Tryz.func85, Tryz.ntmps85
  go_upto_region 1 with fail
  go_quiet (first
    | (go_at_call 121; refine Calls.quiet_of_same (HC.out.1 _))
    | (go_at_call 120; refine Calls.quiet_of_same (HC.out.2.1 _)))
  go_wp2_with (first
    | (go_at_call 120; refine (HC.out.2.2 _).mono ?_; rintro e w3 ⟨rfl, rfl⟩))
  go_ret
  exact ⟨rfl, below_drewN HB.out⟩
set_option maxRecDepth 20000 in
theorem takes_any (B P S n x : Int) (h : okG B P S) (hn : 0 ≤ n ∧ n ≤ 1000) (hx : 2 * n + resv B P S n + 8 = x) (w : World) : Calls Tryz.prog 84 #[.agg #[.int .i64 B, .int .i64 P, .int .i64 S], .int .i64 n] w fun e w' => e = .returned (.int .i64 x) ∧ Below w.heap.size w w' := by
  have hq := resv_le h hn
  obtain ⟨n2, hn2⟩ : ∃ y, 2 * n = y := ⟨_, rfl⟩
  obtain ⟨r, hr⟩ : ∃ y, resv B P S n = y := ⟨_, rfl⟩
  have HC := Hid.mk (reserve_any B P S n r h hn hr)
  rw [hr] at hx hq
  obtain ⟨z, hz⟩ : ∃ y, n2 + r = y := ⟨_, rfl⟩
  have e1 : IntKind.i64.wrap (2 * n) = n2 := wr_id hn2 (by omega) (by omega)
  have e2 : IntKind.i64.wrap (n2 + r) = z := wr_id hz (by omega) (by omega)
  have e3 : IntKind.i64.wrap (z + 8) = x := wr_id (by omega) (by omega) (by omega)
  have HB := Hid.mk (below_box w B P S)
  clear hx hn2 hr hz hq hn h
  go_enter Tryz.func84, Tryz.ntmps84
  go_wp2_with (first
    | (go_at_call 85; refine (HC.out _).mono ?_; rintro e w3 ⟨rfl, b3⟩))
  go_ret
  exact ⟨rfl, below3 HB.out b3⟩
def inR (n a b : Int) : Bool := decide (a ≤ n ∧ n ≤ b)
theorem within_any (n a b : Int) (w : World) : Calls Tryz.prog 60 #[.int .i64 n, .int .i64 a, .int .i64 b] w fun e w' => e = .returned (.bool (inR n a b)) ∧ w' = w := by
  unfold inR
  by_cases h : a ≤ n
  · by_cases h2 : n ≤ b
    · rw [show decide (a ≤ n ∧ n ≤ b) = true by simp [h, h2]]
      go_enter Tryz.func60, Tryz.ntmps60
      go_wp2
      go_ret
      exact ⟨rfl, rfl⟩
    · rw [show decide (a ≤ n ∧ n ≤ b) = false by simp [h2]]
      go_enter Tryz.func60, Tryz.ntmps60
      go_wp2
      go_ret
      exact ⟨rfl, rfl⟩
  · rw [show decide (a ≤ n ∧ n ≤ b) = false by simp [h]]
    go_enter Tryz.func60, Tryz.ntmps60
    go_wp2
    go_ret
    exact ⟨rfl, rfl⟩
theorem ncheck_any (B P Z : Int) (b : Bool) (hb : b = true ↔ okG B P Z) (w : World) : Calls Tryz.prog 29 #[.agg #[.int .i64 B, .int .i64 P, .int .i64 Z]] w fun e w' => e = .returned (.bool b) ∧ Below w.heap.size w w' := by
  have e : b = (inR B 8 32 && inR P 4 16 && inR Z 64 256) := by
    rw [Bool.eq_iff_iff, hb]
    unfold okG inR
    simp only [Bool.and_eq_true, decide_eq_true_eq]
    constructor <;> intro h <;> omega
  clear hb
  subst e
  have hb := Hid.mk (below_box w B P Z)
  cases h1 : inR B 8 32 <;> cases h2 : inR P 4 16 <;> cases h3 : inR Z 64 256 <;>
  · go_enter Tryz.func29, Tryz.ntmps29
    go_wp2_with (go_at_call 60; refine (within_any _ _ _ _).mono ?_; rintro e w' ⟨rfl, rfl⟩)
    go_ret
    exact ⟨rfl, hb.out⟩
def roomN (B P S : Int) : Nat := rmG B P S 0 600
def roomV (B P S : Int) : Array Value := #[.int .i64 (roomN B P S), .int .i64 (2 * (roomN B P S : Int)), .int .i64 (resv B P S (roomN B P S)), .int .i64 (B.tdiv 8)]
def noRoom : Array Value := #[.int .i64 0, .int .i64 0, .int .i64 0, .int .i64 0]
theorem info52 : (Tryz.prog.info? 52).map (·.size) = some 4 := by kernel_rfl
theorem room_result {fn : Func} {p : Tmp} (h : fn.results = #[.cell p 52]) {tmps : Array Value} {w : World} {g : Nat} {cs : Array Value} (hp : tmps.getD p undef = .pointer (some ⟨g, 0, none⟩)) (hs : cs.size = 4) (hg : w.heap[g]? = some (.cells cs 52 (0, 0))) :
    (results fn tmps).run Tryz.prog w = .ok (.agg cs) w :=
  results_cell_row h tmps w g 52 cs (0, 0) _ hp hg Tryz.underlying52 rfl (by rw [hs]; exact info52)
/-- four cells of a room in a block of their own -/
def Bx4 (w : World) (g : Nat) (v0 v1 v2 v3 : Value) : Prop := w.heap[g]? = some (.cells #[v0, v1, v2, v3] 52 (0, 0))
theorem Bx4.lt {w g v0 v1 v2 v3} (h : Bx4 w g v0 v1 v2 v3) : g < w.heap.size := (Array.getElem?_eq_some_iff.1 h).1
theorem Bx4.call {w w' : World} {g v0 v1 v2 v3} (h : Bx4 w g v0 v1 v2 v3) (b : Below w.heap.size w w') : Bx4 w' g v0 v1 v2 v3 := (b.block g h.lt).trans h
theorem Bx4.cells {w g v0 v1 v2 v3} (h : Bx4 w g v0 v1 v2 v3) : w.cell? ⟨g, 0, none⟩ = some v0 ∧ w.cell? ⟨g, 1, none⟩ = some v1 ∧ w.cell? ⟨g, 2, none⟩ = some v2 ∧ w.cell? ⟨g, 3, none⟩ = some v3 := by
  refine ⟨?_, ?_, ?_, ?_⟩ <;> (rw [cell_of_row w g _ _ 52 _ h]; rfl)
theorem Bx4.fz {w g v0 v1 v2 v3} (h : Bx4 w g v0 v1 v2 v3) (j : Nat) : w.frozen? ⟨g, j, none⟩ = false := frozen_of_row w g j _ 52 h
def set4 (w : World) (g : Nat) (v0 v1 v2 v3 : Value) : World := (((w.setCell ⟨g, 0, none⟩ v0).setCell ⟨g, 1, none⟩ v1).setCell ⟨g, 2, none⟩ v2).setCell ⟨g, 3, none⟩ v3
theorem Bx4.set {w : World} {g : Nat} {z0 z1 z2 z3 : Value} (h : Bx4 w g z0 z1 z2 z3) (v0 v1 v2 v3 : Value) : Bx4 (set4 w g v0 v1 v2 v3) g v0 v1 v2 v3 := by
  unfold set4 Bx4
  have h1 := heap_setCell_same w g 0 _ 52 v0 h
  have h2 := heap_setCell_same _ g 1 _ 52 v1 h1
  have h3 := heap_setCell_same _ g 2 _ 52 v2 h2
  exact heap_setCell_same _ g 3 _ 52 v3 h3
theorem set4_below {w W : World} {g : Nat} (h : Below w.heap.size w W) (hg : w.heap.size ≤ g) (v0 v1 v2 v3 : Value) : Below w.heap.size w (set4 W g v0 v1 v2 v3) := (((h.setCell hg v0).setCell hg v1).setCell hg v2).setCell hg v3
/-- a geometry's three cells in a block of their own -/
def Bx3 (w : World) (g : Nat) (B P S : Int) : Prop := w.heap[g]? = some (.cells #[.int .i64 B, .int .i64 P, .int .i64 S] 23 (0, 0))
theorem Bx3.lt {w g B P S} (h : Bx3 w g B P S) : g < w.heap.size := (Array.getElem?_eq_some_iff.1 h).1
theorem Bx3.call {w w' : World} {g B P S} (h : Bx3 w g B P S) (b : Below w.heap.size w w') : Bx3 w' g B P S := (b.block g h.lt).trans h
theorem Bx3.cells {w g B P S} (h : Bx3 w g B P S) : w.cell? ⟨g, 0, none⟩ = some (.int .i64 B) ∧ w.cell? ⟨g, 1, none⟩ = some (.int .i64 P) ∧ w.cell? ⟨g, 2, none⟩ = some (.int .i64 S) := by
  refine ⟨?_, ?_, ?_⟩ <;> (rw [cell_of_row w g _ _ 23 _ h]; rfl)
/-- what RoomOf holds: the geometry, the room that it answers -/
structure RmS (w : World) (B P S : Int) (v0 v1 v2 v3 : Value) (wr : World) : Prop where
  geo : Bx3 wr w.heap.size B P S
  box : Bx4 wr (w.heap.size + 1) v0 v1 v2 v3
  below : Below w.heap.size w wr
theorem RmS.beg (w : World) (B P S : Int) (v0 v1 v2 v3 : Value) : RmS w B P S v0 v1 v2 v3 ((w.alloc (.cells #[.int .i64 B, .int .i64 P, .int .i64 S] 23)).alloc (.cells #[v0, v1, v2, v3] 52)) := by
  have b1 := below_box w B P S
  have hlt : w.heap.size < (w.alloc (.cells #[.int .i64 B, .int .i64 P, .int .i64 S] 23)).heap.size := by rw [size_alloc]; omega
  have h0 : Bx3 (w.alloc (.cells #[.int .i64 B, .int .i64 P, .int .i64 S] 23)) w.heap.size B P S := heap_alloc_new w _
  refine ⟨(Below.heap_alloc _ _ _ hlt).trans h0, ?_, b1.alloc (by rw [size_alloc]; omega) _⟩
  have := heap_alloc_new (w.alloc (.cells #[.int .i64 B, .int .i64 P, .int .i64 S] 23)) (.cells #[v0, v1, v2, v3] 52)
  rw [size_alloc] at this
  exact this
theorem RmS.call {w B P S v0 v1 v2 v3} {wr w' : World} (h : RmS w B P S v0 v1 v2 v3 wr) (b : Below wr.heap.size wr w') : RmS w B P S v0 v1 v2 v3 w' := ⟨h.geo.call b, h.box.call b, below3 h.below b⟩
set_option maxRecDepth 20000 in
theorem roomof_none (B P S : Int) (h : ¬ okG B P S) (w : World) : Calls Tryz.prog 44 #[.agg #[.int .i64 B, .int .i64 P, .int .i64 S]] w fun e w' => e = .returned (.agg noRoom) ∧ Below w.heap.size w w' := by
  have hc := fun w => ncheck_any B P S false (by simp [h]) w
  have HC := Hid.mk hc
  have HB := Hid.mk (RmS.beg w B P S (.int .i64 0) (.int .i64 0) (.int .i64 0) (.int .i64 0))
  clear hc h
  go_enter Tryz.func44, Tryz.ntmps44
  go_wp2_with (go_at_call 29; refine (HC.out _).mono ?_; rintro e w1 ⟨rfl, b1⟩; have X := HB.out.call b1; obtain ⟨z0, z1, z2, z3⟩ := X.box.cells; have y0 := X.box.fz 0; have y1 := X.box.fz 1; have y2 := X.box.fz 2; have y3 := X.box.fz 3)
  exact bodyPost_ret (room_result rfl rfl rfl (X.box.set _ _ _ _)) rfl ⟨rfl, set4_below X.below (by omega) _ _ _ _⟩
set_option maxRecDepth 20000 in
theorem roomof_ok (B P S : Int) (h : okG B P S) (w : World) : Calls Tryz.prog 44 #[.agg #[.int .i64 B, .int .i64 P, .int .i64 S]] w fun e w' => e = .returned (.agg (roomV B P S)) ∧ Below w.heap.size w w' := by
  have hc := fun w => ncheck_any B P S true (by simp [h]) w
  have HC := Hid.mk hc
  have HB := Hid.mk (RmS.beg w B P S (.int .i64 0) (.int .i64 0) (.int .i64 0) (.int .i64 0))
  have HG := Hid.mk h
  have hg := h
  unfold okG at hg
  obtain ⟨sp, hsp⟩ : ∃ y, B.tdiv 8 = y := ⟨_, rfl⟩
  have hsp2 : 0 ≤ sp ∧ sp ≤ 4 := by
    have : B.tdiv 8 = B / 8 := Int.tdiv_eq_ediv_of_nonneg (by omega)
    omega
  obtain ⟨q, hq⟩ : ∃ y, B - sp = y := ⟨_, rfl⟩
  obtain ⟨qp, hqp⟩ : ∃ y, q * P = y := ⟨_, rfl⟩
  have hqp2 : 0 ≤ qp ∧ qp ≤ 32 * 16 := by
    rw [← hqp]; exact ⟨Int.mul_nonneg (by omega) (by omega), Int.mul_le_mul (by omega) (by omega) (by omega) (by omega)⟩
  obtain ⟨m, hm⟩ : ∃ y, qp - P = y := ⟨_, rfl⟩
  have e1 : IntKind.i64.wrap sp = sp := wr_id rfl (by omega) (by omega)
  have e2 : IntKind.i64.wrap (B - sp) = q := wr_id hq (by omega) (by omega)
  have e3 : IntKind.i64.wrap (q * P) = qp := wr_id hqp (by omega) (by omega)
  have e4 : IntKind.i64.wrap (qp - P) = m := wr_id hm (by omega) (by omega)
  have hfit : Hid (∀ n : Int, fitsR B P S n = decide (2 * n + resv B P S n + 8 ≤ m)) := Hid.mk fun n => by unfold fitsR; rw [hsp, hq, hqp, hm]
  clear hc h hg hqp hq hm hqp2 hsp2
  unfold roomV
  rw [hsp]
  go_enter Tryz.func44, Tryz.ntmps44
  go_upto_region 6 with (go_at_call 29; refine (HC.out _).mono ?_; rintro e w1 ⟨rfl, b1⟩; have X := Hid.mk (HB.out.call b1); clear b1; obtain ⟨g0, g1, g2⟩ := X.out.geo.cells)
  go_loopw [5] (fun v wr => ∃ k : Nat, k ≤ 300 ∧ v = .int .i64 k ∧ rmG B P S k (600 - k) = roomN B P S ∧ RmS w B P S (.int .i64 0) (.int .i64 0) (.int .i64 0) (.int .i64 0) wr) (fun v _ => 600 - (intOf v).toNat)
  case atStart => exact ⟨0, by omega, rfl, rfl, X.out⟩
  case round =>
    obtain ⟨k, hk, rfl, hrm, hs⟩ := hrel
    have HS := Hid.mk hs
    clear hs X g0 g1 g2
    obtain ⟨g0, g1, g2⟩ := HS.out.geo.cells
    obtain ⟨k1, hk1⟩ : ∃ y, (k : Int) + 1 = y := ⟨_, rfl⟩
    have f1 : IntKind.i64.wrap ((k : Int) + 1) = k1 := wr_id hk1 (by omega) (by omega)
    obtain ⟨x, hx⟩ : ∃ x, 2 * k1 + resv B P S k1 + 8 = x := ⟨_, rfl⟩
    have ht := Hid.mk (takes_any B P S k1 x HG.out (by omega) hx)
    have hf := hfit.out k1
    rw [hx] at hf
    rw [show 600 - k = (599 - k) + 1 by omega] at hrm
    cases hc : fitsR B P S k1
    · rw [hc] at hf
      have hrs := rmG_stop (B := B) (P := P) (S := S) (k := k) (f := 599 - k) (by rw [hk1]; exact hc)
      rw [hrm] at hrs
      have hx1 : decide (x ≤ m) = false := hf.symm
      obtain ⟨rv, hrv⟩ : ∃ y, resv B P S (k : Int) = y := ⟨_, rfl⟩
      have hr := Hid.mk (reserve_any B P S k rv HG.out (by omega) hrv)
      have HRV := Hid.mk hrv
      have hxm : ¬ x ≤ m := of_decide_eq_false hx1
      have f2 : IntKind.i64.wrap (2 * (k : Int)) = 2 * (k : Int) := wr_id rfl (by omega) (by omega)
      have HRS := Hid.mk hrs
      clear hf hc hx hrm hk1 hfit hrs hrv
      go_wp2_with (first
        | (go_at_call 84; refine (ht.out _).mono ?_; rintro e w2 ⟨rfl, b2⟩; have Y := HS.out.call b2; clear b2; obtain ⟨h0, h1, h2⟩ := Y.geo.cells)
        | (go_at_call 85; refine (hr.out _).mono ?_; rintro e w3 ⟨rfl, b3⟩; have Z := Y.call b3; obtain ⟨z0, z1, z2, z3⟩ := Z.box.cells; have y0 := Z.box.fz 0; have y1 := Z.box.fz 1; have y2 := Z.box.fz 2; have y3 := Z.box.fz 3))
      exact bodyPost_ret (room_result rfl rfl rfl (Z.box.set _ _ _ _)) rfl ⟨by rw [HRS.out, HRV.out], set4_below Z.below (by omega) _ _ _ _⟩
    · rw [hc] at hf
      have hrs := rmG_step (B := B) (P := P) (S := S) (k := k) (f := 599 - k) (by rw [hk1]; exact hc)
      rw [hrm] at hrs
      have hx1 : decide (x ≤ m) = true := hf.symm
      have hxm : x ≤ m := of_decide_eq_true hx1
      have h300 := fits_le HG.out (by omega) hc
      have HRS := Hid.mk hrs
      clear hf hc hx hrm hfit hrs
      go_wp2_with (first
        | (go_at_call 84; refine (ht.out _).mono ?_; rintro e w2 ⟨rfl, b2⟩; have Y := HS.out.call b2))
      exact ⟨⟨k + 1, by omega, by rw [← hk1]; go_num, by rw [show 600 - (k + 1) = 599 - k by omega]; exact HRS.out.symm, Y⟩, by simp [intOf]; omega⟩
set_option maxRecDepth 20000 in
theorem rcheck_ok (B P S : Int) (h : okG B P S) (w : World) : Calls Tryz.prog 20 #[.agg #[.int .i64 B, .int .i64 P, .int .i64 S]] w fun e w' => e = .returned (.bool (decide (4 ≤ roomN B P S))) ∧ Below w.heap.size w w' := by
  have HR := Hid.mk fun w => roomof_ok B P S h w
  have HB := Hid.mk (below_box w B P S)
  have ha : ∀ a b c d w, (Instr.field 52 (.agg #[a, b, c, d]) 0).run Tryz.prog w = .ok a w := by intros; kernel_rfl
  unfold roomV at HR
  obtain ⟨k, hk⟩ : ∃ k, roomN B P S = k := ⟨_, rfl⟩
  rw [hk] at HR ⊢
  clear hk h
  by_cases h4 : 4 ≤ k
  · have h4' : (4 : Int) ≤ k := by omega
    rw [decide_eq_true h4]
    go_enter Tryz.func20, Tryz.ntmps20
    go_wp2_with (go_at_call 44; refine (HR.out _).mono ?_; rintro e w1 ⟨rfl, b1⟩)
    go_ret
    exact ⟨rfl, below3 HB.out b1⟩
  · have h4' : decide ((4 : Int) ≤ k) = false := decide_eq_false (by omega)
    rw [decide_eq_false h4]
    go_enter Tryz.func20, Tryz.ntmps20
    go_wp2_with (go_at_call 44; refine (HR.out _).mono ?_; rintro e w1 ⟨rfl, b1⟩)
    go_ret
    exact ⟨rfl, below3 HB.out b1⟩
set_option maxRecDepth 20000 in
theorem rcheck_none (B P S : Int) (h : ¬ okG B P S) (w : World) : Calls Tryz.prog 20 #[.agg #[.int .i64 B, .int .i64 P, .int .i64 S]] w fun e w' => e = .returned (.bool false) ∧ Below w.heap.size w w' := by
  have HR := Hid.mk fun w => roomof_none B P S h w
  have HB := Hid.mk (below_box w B P S)
  have ha : ∀ a b c d w, (Instr.field 52 (.agg #[a, b, c, d]) 0).run Tryz.prog w = .ok a w := by intros; kernel_rfl
  unfold noRoom at HR
  clear h
  go_enter Tryz.func20, Tryz.ntmps20
  go_wp2_with (go_at_call 44; refine (HR.out _).mono ?_; rintro e w1 ⟨rfl, b1⟩)
  go_ret
  exact ⟨rfl, below3 HB.out b1⟩
end Go.Proofs.YtcmmhfjnhlaepabGreatDoor.Rm
