/-
  What a chip has room for: the walks of within, Check, pagesOf, checkpointLen, reserve, takes, RoomOf and Check, and of the answer's. No condition.
-/
import Derived.Test.YtcmmhfjnhlaepaaGreatDoorRows
import Derived.WalkSpells
import Derived.WalkLawsBesides
import Derived.Deep.Cut
import Derived.Deep.QuietTactic
import Derived.BigQuiet
import Derived.Laws.ResultCell
import Derived.Deep.RegionHeld3
import Derived.Deep.RegionWith
import Derived.Deep.CutRange
namespace Go.Proofs.YtcmmhfjnhlaepaaGreatDoor.Rm
open Go Go.RowKit

theorem Hid.mk {p : Prop} (h : p) : Hid p := h
def nthO {α : Type} : List α -> Nat -> Option α
 | [], _ => none
 | a :: _, 0 => some a
 | _ :: t, n + 1 => nthO t n
theorem nthO_eq {α : Type} : ∀ (l : List α) (i : Nat), l[i]? = nthO l i
 | [], _ => rfl
 | _ :: _, 0 => rfl
 | _ :: t, n + 1 => by simpa [nthO] using nthO_eq t n
theorem nthO_arr {α : Type} {x : Array α} {i : Nat} {o : α} (h : nthO x.toList i = some o) : x[i]? = some o := by rw [<- h, <- nthO_eq]; simp
theorem arH {P : Program} {ops : Array Oper} {Q : Exit -> Act -> World -> Prop} {md : Region.Mode} {S : World -> Prop} {fuel : Nat} {listed : Array Bool} {a : Act} {w : World} {i : Nat} {o : Oper} {rs : List Nat} (ho : nthO ops.toList i = some o) (h : ∀ K' : Act -> World -> Prop, Shut (∀ a w, S w -> (S w -> wpAnyH P md ops Q S fuel (listed.setIfInBounds i true) a w) -> K' a w) -> if Region.wanted o (yielded ops a.tmps) = true then Oper.wp P o a w K' Q else K' (a.put o.dst undef) w) (hs : AllReadyH P md ops Q S fuel listed a w rs) : AllReadyH P md ops Q S fuel listed a w (i :: rs) := AllReadyH.cons (nthO_arr ho) h hs
theorem zA {α : Type} (l : List α) (i : Nat) (a : α) : l.toArray.setIfInBounds i a = (l.set i a).toArray := List.setIfInBounds_toArray ..
theorem zB {α : Type} (x : α) (l : List α) (a : α) : (x :: l).set 0 a = a :: l := List.set_cons_zero
theorem zC {α : Type} (x : α) (l : List α) (i : Nat) (a : α) : (x :: l).set (i + 1) a = x :: l.set i a := List.set_cons_succ
theorem tkF {P : Program} {ops : Array Oper} {Q : Exit -> Act -> World -> Prop} {md : Region.Mode} {S : World -> Prop} {T : World -> Prop} (i : Nat) {oi : Oper} {v : Value} {fuel : Nat} {listed l : Array Bool} {a b : Act} {w : World} (F : ∀ w, S w -> T w) (hS : S w) (h : wpAnyH P md ops Q S fuel l b w) (hi : nthO ops.toList i = some oi := by exact rfl) (hw : Region.wanted oi (yielded ops a.tmps) = true := by kernel_rfl) (hy : ∀ w, T w -> (execOp a.eval oi).run P w = .ok (.value v) w := by intro w0; (try simp only [and_imp]); intros; go_simp; try with_reducible rfl) (hs : Region.noSelect ops = true := by kernel_rfl) (hf : Region.free md ops listed i = true := by kernel_rfl) (hr : (Region.ready md ops listed).contains i = true := by kernel_rfl) (ha : a.put oi.dst v = b := by (try simp only [Act.put, zA, zB, zC]); exact rfl) (hl : listed.setIfInBounds i true = l := by (try simp only [zA, zB, zC]); exact rfl) (hQ : ∀ c a w, Q (.panic c) (a.put oi.dst v) w -> Q (.panic c) a w := by exact fun _ _ _ h => h) : wpAnyH P md ops Q S (fuel + 1) listed a w := by
 subst ha hl; exact wpAnyH_take (nthO_arr hi) hs hf hr hQ (Or.inl ⟨hw, fun w q => hy w (F w q)⟩) hS h
theorem pgs_is {b s : Int} (hs : 8 < s) (hb : 0 < b) : 0 < (b + (s - 8) - 1).tdiv (s - 8) ∧ b ≤ (b + (s - 8) - 1).tdiv (s - 8) * (s - 8) ∧ ((b + (s - 8) - 1).tdiv (s - 8) - 1) * (s - 8) < b := by
  generalize hk : s - 8 = k
  have hk0 : 0 < k := by omega
  have e : (b + k - 1).tdiv k = (b + k - 1) / k := Int.tdiv_eq_ediv_of_nonneg (by omega)
  rw [e]
  have h1 := Int.mul_ediv_add_emod (b + k - 1) k
  have h2 := Int.emod_nonneg (b + k - 1) (show k ≠ 0 by omega)
  have h3 := Int.emod_lt_of_pos (b + k - 1) hk0
  generalize (b + k - 1) / k = q at *
  generalize (b + k - 1) % k = r at *
  have e2 : (q - 1) * k = k * q - k := by rw [Int.sub_mul, Int.one_mul, Int.mul_comm]
  have e3 : q * k = k * q := Int.mul_comm _ _
  refine ⟨?_, by rw [e3]; omega, by rw [e2]; omega⟩
  refine Decidable.byContradiction fun h => ?_
  have : k * q ≤ k * 0 := Int.mul_le_mul_of_nonneg_left (by omega) (by omega)
  omega
/-- what so many bytes of records take -/
def pgs (b s : Int) : Int := (b + (s - 8) - 1).tdiv (s - 8)
theorem pgs_le {b s : Int} (hs : 64 ≤ s) (hb : 0 < b) (hb2 : b ≤ 1000000) : 0 < pgs b s ∧ pgs b s ≤ 20000 := by
  obtain ⟨h1, _, h3⟩ := pgs_is (by omega : (8 : Int) < s) hb
  refine ⟨h1, ?_⟩
  unfold pgs
  generalize (b + (s - 8) - 1).tdiv (s - 8) = q at *
  refine Decidable.byContradiction fun h => ?_
  have : (q - 1) * 56 ≤ (q - 1) * (s - 8) := Int.mul_le_mul_of_nonneg_left (by omega) (by omega)
  omega
def resv (B P S n : Int) : Int := 2 * P + 2 * pgs (18 * n + 135 + 11 * B) S + 2 * pgs (72 + 11 * B) S + 8
def fitsR (B P S n : Int) : Bool := decide (2 * n + resv B P S n + 8 ≤ (B - B.tdiv 8) * P - P)
/-- how many places there is room for, from k on -/
def rmG (B P S : Int) : Nat → Nat → Nat
  | k, 0 => k
  | k, f + 1 => if fitsR B P S ((k : Int) + 1) = true then rmG B P S (k + 1) f else k

theorem rmG_step {B P S : Int} {k f : Nat} (h : fitsR B P S ((k : Int) + 1) = true) : rmG B P S k (f + 1) = rmG B P S (k + 1) f := by
  rw [rmG, if_pos h]
theorem rmG_stop {B P S : Int} {k f : Nat} (h : fitsR B P S ((k : Int) + 1) = false) : rmG B P S k (f + 1) = k := by
  rw [rmG, if_neg (by rw [h]; decide)]
def okG (B P Z : Int) : Prop := 8 ≤ B ∧ B ≤ 32 ∧ 4 ≤ P ∧ P ≤ 16 ∧ 64 ≤ Z ∧ Z ≤ 256
theorem resv_le {B P S n : Int} (h : okG B P S) (hn : 0 ≤ n ∧ n ≤ 1000) : 0 ≤ resv B P S n ∧ resv B P S n ≤ 100000 := by
  unfold okG at h
  unfold resv
  have h1 := pgs_le (b := 18 * n + 135 + 11 * B) (s := S) (by omega) (by omega) (by omega)
  have h2 := pgs_le (b := 72 + 11 * B) (s := S) (by omega) (by omega) (by omega)
  omega
theorem fits_le {B P S n : Int} (h : okG B P S) (hn : 0 ≤ n ∧ n ≤ 1000) (hf : fitsR B P S n = true) : n ≤ 300 := by
  have := resv_le h hn
  have hf' := of_decide_eq_true hf
  unfold okG at h
  have e : B.tdiv 8 = B / 8 := Int.tdiv_eq_ediv_of_nonneg (by omega)
  rw [e] at hf'
  have h1 : (B - B / 8) * P ≤ 32 * 16 := Int.mul_le_mul (by omega) (by omega) (by omega) (by omega)
  omega

theorem wr_id {x y : Int} (h : x = y) (h1 : -1000000000 ≤ y) (h2 : y ≤ 1000000000) : IntKind.i64.wrap x = y := by subst h; rw [IntKind.wrap_i64]; omega
set_option maxRecDepth 20000 in
theorem pagesOf_any (b s : Int) (hs : 64 ≤ s ∧ s ≤ 256) (hb : 0 < b ∧ b ≤ 1000000) (w : World) : Calls Tryz.prog 43 #[.int .i64 b, .int .i64 s] w fun e w' => e = .returned (.int .i64 (pgs b s)) ∧ w' = w := by
  have hp := pgs_le hs.1 hb.1 hb.2
  obtain ⟨k, hk⟩ : ∃ k : Nat, s - 8 = k := ⟨(s - 8).toNat, by omega⟩
  obtain ⟨q, hq⟩ : ∃ q, pgs b s = q := ⟨_, rfl⟩
  have hq' := hq
  unfold pgs at hq'
  rw [hk] at hq'
  rw [hq] at hp ⊢
  have e1 : IntKind.i64.wrap (s - 8) = k := wr_id (by omega) (by omega) (by omega)
  have e2 : IntKind.i64.wrap (b + k) = b + k := wr_id rfl (by omega) (by omega)
  have e3 : IntKind.i64.wrap (b + k - 1) = b + k - 1 := wr_id rfl (by omega) (by omega)
  have e4 : IntKind.i64.wrap q = q := wr_id rfl (by omega) (by omega)
  have k0 : ¬ (k : Int) = 0 := by omega
  clear hq hk
  go_enter Tryz.func43, Tryz.ntmps43
  go_wp2
  go_ret
  exact ⟨rfl, rfl⟩
set_option maxRecDepth 20000 in
theorem cpLen_any (a b c x : Int) (ha : 0 ≤ a ∧ a ≤ 100000) (hb : 0 ≤ b ∧ b ≤ 1000) (hc : 0 ≤ c ∧ c ≤ 1000) (hx : a * 9 + b * 9 + c * 11 = x) (w : World) : Calls Tryz.prog 44 #[.int .i64 a, .int .i64 b, .int .i64 c] w fun e w' => e = .returned (.int .i64 x) ∧ w' = w := by
  obtain ⟨p, hp⟩ : ∃ p, a * 9 = p := ⟨_, rfl⟩
  obtain ⟨q, hq⟩ : ∃ q, b * 9 = q := ⟨_, rfl⟩
  obtain ⟨r, hr⟩ : ∃ r, c * 11 = r := ⟨_, rfl⟩
  obtain ⟨t, ht⟩ : ∃ t, p + q = t := ⟨_, rfl⟩
  have e1 : IntKind.i64.wrap (a * 9) = p := wr_id hp (by omega) (by omega)
  have e2 : IntKind.i64.wrap (b * 9) = q := wr_id hq (by omega) (by omega)
  have e3 : IntKind.i64.wrap (c * 11) = r := wr_id hr (by omega) (by omega)
  have e4 : IntKind.i64.wrap (p + q) = t := wr_id ht (by omega) (by omega)
  have e5 : IntKind.i64.wrap (t + r) = x := wr_id (by omega) (by omega) (by omega)
  clear hp hq hr ht hx ha hb hc
  go_enter Tryz.func44, Tryz.ntmps44
  go_wp2
  go_ret
  exact ⟨rfl, rfl⟩
theorem size_alloc (w : World) (o : Obj) : (w.alloc o).heap.size = w.heap.size + 1 := by simp
theorem below_box (w : World) (B P S : Int) : Below w.heap.size w (w.alloc (.cells #[.int .i64 B, .int .i64 P, .int .i64 S] 23)) := (Below.refl w.heap.size w).alloc (Nat.le_refl _) _
theorem below_drewN {B n : Nat} {w w' : World} (h : Below B w w') : Below B w (w'.drewN n) := ⟨h.os, h.tape, h.output, h.size, h.block⟩
theorem below3 {w a b : World} (h : Below w.heap.size w a) (k : Below a.heap.size a b) : Below w.heap.size w b := h.trans (k.mono h.size)
set_option maxRecDepth 20000 in
theorem reserve_any (B P S n x : Int) (h : okG B P S) (hn : 0 ≤ n ∧ n ≤ 1000) (hx : resv B P S n = x) (w : World) : Calls Tryz.prog 23 #[.agg #[.int .i64 B, .int .i64 P, .int .i64 S], .int .i64 n] w fun e w' => e = .returned (.int .i64 x) ∧ Below w.heap.size w w' := by
  have hq := resv_le h hn
  rw [hx] at hq
  unfold okG at h
  obtain ⟨n2, hn2⟩ : ∃ y, 2 * n = y := ⟨_, rfl⟩
  obtain ⟨l1, hl1⟩ : ∃ y, 18 * n + 135 + 11 * B = y := ⟨_, rfl⟩
  obtain ⟨p1, hp1⟩ : ∃ y, pgs l1 S = y := ⟨_, rfl⟩
  obtain ⟨b11, hb11⟩ : ∃ y, B * 11 = y := ⟨_, rfl⟩
  obtain ⟨l2, hl2⟩ : ∃ y, 72 + b11 = y := ⟨_, rfl⟩
  obtain ⟨p2, hp2⟩ : ∃ y, pgs l2 S = y := ⟨_, rfl⟩
  have hb1 := pgs_le (b := l1) (s := S) (by omega) (by omega) (by omega)
  have hb2 := pgs_le (b := l2) (s := S) (by omega) (by omega) (by omega)
  unfold resv at hx
  rw [show (72 : Int) + 11 * B = l2 by omega, hp2, hl1, hp1] at hx
  have c1 := cpLen_any n2 15 B l1 (by omega) (by omega) (by omega) (by omega)
  have c2 := pagesOf_any l1 S (by omega) (by omega)
  have c3 := pagesOf_any l2 S (by omega) (by omega)
  rw [hp1] at c2 hb1
  rw [hp2] at c3 hb2
  have HC := Hid.mk (And.intro c1 (And.intro c2 c3))
  obtain ⟨y1, hy1⟩ : ∃ y, 2 * P = y := ⟨_, rfl⟩
  obtain ⟨y2, hy2⟩ : ∃ y, 2 * p1 = y := ⟨_, rfl⟩
  obtain ⟨y3, hy3⟩ : ∃ y, y1 + y2 = y := ⟨_, rfl⟩
  obtain ⟨y4, hy4⟩ : ∃ y, 2 * p2 = y := ⟨_, rfl⟩
  obtain ⟨y5, hy5⟩ : ∃ y, y3 + y4 = y := ⟨_, rfl⟩
  have e1 : IntKind.i64.wrap (2 * n) = n2 := wr_id hn2 (by omega) (by omega)
  have e2 : IntKind.i64.wrap (B * 11) = b11 := wr_id hb11 (by omega) (by omega)
  have e3 : IntKind.i64.wrap (72 + b11) = l2 := wr_id hl2 (by omega) (by omega)
  have e4 : IntKind.i64.wrap (2 * P) = y1 := wr_id hy1 (by omega) (by omega)
  have e5 : IntKind.i64.wrap (2 * p1) = y2 := wr_id hy2 (by omega) (by omega)
  have e6 : IntKind.i64.wrap (y1 + y2) = y3 := wr_id hy3 (by omega) (by omega)
  have e7 : IntKind.i64.wrap (2 * p2) = y4 := wr_id hy4 (by omega) (by omega)
  have e8 : IntKind.i64.wrap (y3 + y4) = y5 := wr_id hy5 (by omega) (by omega)
  have e9 : IntKind.i64.wrap (y5 + 8) = x := wr_id (by omega) (by omega) (by omega)
  have HB := Hid.mk (below_box w B P S)
  clear hx c1 c2 c3 hn2 hl1 hp1 hb11 hl2 hp2 hy1 hy2 hy3 hy4 hy5 hb1 hb2 hq hn h
  go_enter Tryz.func23, Tryz.ntmps23
  go_upto_region 1 with fail
  go_quiet (first
    | (go_at_call 44; refine Calls.quiet_of_same (HC.out.1 _))
    | (go_at_call 43; refine Calls.quiet_of_same (HC.out.2.1 _)))
  go_wp2_with (first
    | (go_at_call 43; refine (HC.out.2.2 _).mono ?_; rintro e w3 ⟨rfl, rfl⟩))
  go_ret
  exact ⟨rfl, below_drewN HB.out⟩
set_option maxRecDepth 20000 in
theorem takes_any (B P S n x : Int) (h : okG B P S) (hn : 0 ≤ n ∧ n ≤ 1000) (hx : 2 * n + resv B P S n + 8 = x) (w : World) : Calls Tryz.prog 22 #[.agg #[.int .i64 B, .int .i64 P, .int .i64 S], .int .i64 n] w fun e w' => e = .returned (.int .i64 x) ∧ Below w.heap.size w w' := by
  have hq := resv_le h hn
  obtain ⟨n2, hn2⟩ : ∃ y, 2 * n = y := ⟨_, rfl⟩
  obtain ⟨r, hr⟩ : ∃ y, resv B P S n = y := ⟨_, rfl⟩
  have HC := Hid.mk (reserve_any B P S n r h hn hr)
  rw [hr] at hx hq
  obtain ⟨z, hz⟩ : ∃ y, n2 + r = y := ⟨_, rfl⟩
  have e1 : IntKind.i64.wrap (2 * n) = n2 := wr_id hn2 (by omega) (by omega)
  have e2 : IntKind.i64.wrap (n2 + r) = z := wr_id hz (by omega) (by omega)
  have e3 : IntKind.i64.wrap (z + 8) = x := wr_id (by omega) (by omega) (by omega)
  have HB := Hid.mk (below_box w B P S)
  clear hx hn2 hr hz hq hn h
  go_enter Tryz.func22, Tryz.ntmps22
  go_wp2_with (first
    | (go_at_call 23; refine (HC.out _).mono ?_; rintro e w3 ⟨rfl, b3⟩))
  go_ret
  exact ⟨rfl, below3 HB.out b3⟩
def inR (n a b : Int) : Bool := decide (a ≤ n ∧ n ≤ b)
theorem within_any (n a b : Int) (w : World) : Calls Tryz.prog 19 #[.int .i64 n, .int .i64 a, .int .i64 b] w fun e w' => e = .returned (.bool (inR n a b)) ∧ w' = w := by
  unfold inR
  by_cases h : a ≤ n
  · by_cases h2 : n ≤ b
    · rw [show decide (a ≤ n ∧ n ≤ b) = true by simp [h, h2]]
      go_enter Tryz.func19, Tryz.ntmps19
      go_wp2
      go_ret
      exact ⟨rfl, rfl⟩
    · rw [show decide (a ≤ n ∧ n ≤ b) = false by simp [h2]]
      go_enter Tryz.func19, Tryz.ntmps19
      go_wp2
      go_ret
      exact ⟨rfl, rfl⟩
  · rw [show decide (a ≤ n ∧ n ≤ b) = false by simp [h]]
    go_enter Tryz.func19, Tryz.ntmps19
    go_wp2
    go_ret
    exact ⟨rfl, rfl⟩
theorem ncheck_any (B P Z : Int) (b : Bool) (hb : b = true ↔ okG B P Z) (w : World) : Calls Tryz.prog 6 #[.agg #[.int .i64 B, .int .i64 P, .int .i64 Z]] w fun e w' => e = .returned (.bool b) ∧ Below w.heap.size w w' := by
  have e : b = (inR B 8 32 && inR P 4 16 && inR Z 64 256) := by
    rw [Bool.eq_iff_iff, hb]
    unfold okG inR
    simp only [Bool.and_eq_true, decide_eq_true_eq]
    constructor <;> intro h <;> omega
  clear hb
  subst e
  have hb := Hid.mk (below_box w B P Z)
  cases h1 : inR B 8 32 <;> cases h2 : inR P 4 16 <;> cases h3 : inR Z 64 256 <;>
  · go_enter Tryz.func6, Tryz.ntmps6
    go_wp2_with (go_at_call 19; refine (within_any _ _ _ _).mono ?_; rintro e w' ⟨rfl, rfl⟩)
    go_ret
    exact ⟨rfl, hb.out⟩
def roomN (B P S : Int) : Nat := rmG B P S 0 600
def roomV (B P S : Int) : Array Value := #[.int .i64 (roomN B P S), .int .i64 (2 * (roomN B P S : Int)), .int .i64 (resv B P S (roomN B P S)), .int .i64 (B.tdiv 8)]
def noRoom : Array Value := #[.int .i64 0, .int .i64 0, .int .i64 0, .int .i64 0]
theorem info27 : (Tryz.prog.info? 27).map (·.size) = some 4 := by kernel_rfl
theorem room_result {fn : Func} {p : Tmp} (h : fn.results = #[.cell p 27]) {tmps : Array Value} {w : World} {g : Nat} {cs : Array Value} (hp : tmps.getD p undef = .pointer (some ⟨g, 0, none⟩)) (hs : cs.size = 4) (hg : w.heap[g]? = some (.cells cs 27 (0, 0))) :
    (results fn tmps).run Tryz.prog w = .ok (.agg cs) w :=
  results_cell_row h tmps w g 27 cs (0, 0) _ hp hg Tryz.underlying27 rfl (by rw [hs]; exact info27)
/-- four cells of a room in a block of their own -/
def Bx4 (w : World) (g : Nat) (v0 v1 v2 v3 : Value) : Prop := w.heap[g]? = some (.cells #[v0, v1, v2, v3] 27 (0, 0))
theorem Bx4.lt {w g v0 v1 v2 v3} (h : Bx4 w g v0 v1 v2 v3) : g < w.heap.size := (Array.getElem?_eq_some_iff.1 h).1
theorem Bx4.call {w w' : World} {g v0 v1 v2 v3} (h : Bx4 w g v0 v1 v2 v3) (b : Below w.heap.size w w') : Bx4 w' g v0 v1 v2 v3 := (b.block g h.lt).trans h
theorem Bx4.cells {w g v0 v1 v2 v3} (h : Bx4 w g v0 v1 v2 v3) : w.cell? ⟨g, 0, none⟩ = some v0 ∧ w.cell? ⟨g, 1, none⟩ = some v1 ∧ w.cell? ⟨g, 2, none⟩ = some v2 ∧ w.cell? ⟨g, 3, none⟩ = some v3 := by
  refine ⟨?_, ?_, ?_, ?_⟩ <;> (rw [cell_of_row w g _ _ 27 _ h]; rfl)
theorem Bx4.fz {w g v0 v1 v2 v3} (h : Bx4 w g v0 v1 v2 v3) (j : Nat) : w.frozen? ⟨g, j, none⟩ = false := frozen_of_row w g j _ 27 h
def set4 (w : World) (g : Nat) (v0 v1 v2 v3 : Value) : World := (((w.setCell ⟨g, 0, none⟩ v0).setCell ⟨g, 1, none⟩ v1).setCell ⟨g, 2, none⟩ v2).setCell ⟨g, 3, none⟩ v3
theorem Bx4.set {w : World} {g : Nat} {z0 z1 z2 z3 : Value} (h : Bx4 w g z0 z1 z2 z3) (v0 v1 v2 v3 : Value) : Bx4 (set4 w g v0 v1 v2 v3) g v0 v1 v2 v3 := by
  unfold set4 Bx4
  have h1 := heap_setCell_same w g 0 _ 27 v0 h
  have h2 := heap_setCell_same _ g 1 _ 27 v1 h1
  have h3 := heap_setCell_same _ g 2 _ 27 v2 h2
  exact heap_setCell_same _ g 3 _ 27 v3 h3
theorem set4_below {w W : World} {g : Nat} (h : Below w.heap.size w W) (hg : w.heap.size ≤ g) (v0 v1 v2 v3 : Value) : Below w.heap.size w (set4 W g v0 v1 v2 v3) := (((h.setCell hg v0).setCell hg v1).setCell hg v2).setCell hg v3
/-- a geometry's three cells in a block of their own -/
def Bx3 (w : World) (g : Nat) (B P S : Int) : Prop := w.heap[g]? = some (.cells #[.int .i64 B, .int .i64 P, .int .i64 S] 23 (0, 0))
theorem Bx3.lt {w g B P S} (h : Bx3 w g B P S) : g < w.heap.size := (Array.getElem?_eq_some_iff.1 h).1
theorem Bx3.call {w w' : World} {g B P S} (h : Bx3 w g B P S) (b : Below w.heap.size w w') : Bx3 w' g B P S := (b.block g h.lt).trans h
theorem Bx3.cells {w g B P S} (h : Bx3 w g B P S) : w.cell? ⟨g, 0, none⟩ = some (.int .i64 B) ∧ w.cell? ⟨g, 1, none⟩ = some (.int .i64 P) ∧ w.cell? ⟨g, 2, none⟩ = some (.int .i64 S) := by
  refine ⟨?_, ?_, ?_⟩ <;> (rw [cell_of_row w g _ _ 23 _ h]; rfl)
/-- what RoomOf holds: the geometry, the room that it answers -/
structure RmS (w : World) (B P S : Int) (v0 v1 v2 v3 : Value) (wr : World) : Prop where
  geo : Bx3 wr w.heap.size B P S
  box : Bx4 wr (w.heap.size + 1) v0 v1 v2 v3
  below : Below w.heap.size w wr
theorem RmS.beg (w : World) (B P S : Int) (v0 v1 v2 v3 : Value) : RmS w B P S v0 v1 v2 v3 ((w.alloc (.cells #[.int .i64 B, .int .i64 P, .int .i64 S] 23)).alloc (.cells #[v0, v1, v2, v3] 27)) := by
  have b1 := below_box w B P S
  have hlt : w.heap.size < (w.alloc (.cells #[.int .i64 B, .int .i64 P, .int .i64 S] 23)).heap.size := by rw [size_alloc]; omega
  have h0 : Bx3 (w.alloc (.cells #[.int .i64 B, .int .i64 P, .int .i64 S] 23)) w.heap.size B P S := heap_alloc_new w _
  refine ⟨(Below.heap_alloc _ _ _ hlt).trans h0, ?_, b1.alloc (by rw [size_alloc]; omega) _⟩
  have := heap_alloc_new (w.alloc (.cells #[.int .i64 B, .int .i64 P, .int .i64 S] 23)) (.cells #[v0, v1, v2, v3] 27)
  rw [size_alloc] at this
  exact this
theorem RmS.call {w B P S v0 v1 v2 v3} {wr w' : World} (h : RmS w B P S v0 v1 v2 v3 wr) (b : Below wr.heap.size wr w') : RmS w B P S v0 v1 v2 v3 w' := ⟨h.geo.call b, h.box.call b, below3 h.below b⟩
set_option maxRecDepth 20000 in
theorem roomof_none (B P S : Int) (h : ¬ okG B P S) (w : World) : Calls Tryz.prog 8 #[.agg #[.int .i64 B, .int .i64 P, .int .i64 S]] w fun e w' => e = .returned (.agg noRoom) ∧ Below w.heap.size w w' := by
  have hc := fun w => ncheck_any B P S false (by simp [h]) w
  have HC := Hid.mk hc
  have HB := Hid.mk (RmS.beg w B P S (.int .i64 0) (.int .i64 0) (.int .i64 0) (.int .i64 0))
  clear hc h
  go_enter Tryz.func8, Tryz.ntmps8
  go_wp2_with (go_at_call 6; refine (HC.out _).mono ?_; rintro e w1 ⟨rfl, b1⟩; have X := HB.out.call b1; obtain ⟨z0, z1, z2, z3⟩ := X.box.cells; have y0 := X.box.fz 0; have y1 := X.box.fz 1; have y2 := X.box.fz 2; have y3 := X.box.fz 3)
  exact bodyPost_ret (room_result rfl rfl rfl (X.box.set _ _ _ _)) rfl ⟨rfl, set4_below X.below (by omega) _ _ _ _⟩
set_option maxRecDepth 20000 in
theorem roomof_ok (B P S : Int) (h : okG B P S) (w : World) : Calls Tryz.prog 8 #[.agg #[.int .i64 B, .int .i64 P, .int .i64 S]] w fun e w' => e = .returned (.agg (roomV B P S)) ∧ Below w.heap.size w w' := by
  have hc := fun w => ncheck_any B P S true (by simp [h]) w
  have HC := Hid.mk hc
  have HB := Hid.mk (RmS.beg w B P S (.int .i64 0) (.int .i64 0) (.int .i64 0) (.int .i64 0))
  have HG := Hid.mk h
  have hg := h
  unfold okG at hg
  obtain ⟨sp, hsp⟩ : ∃ y, B.tdiv 8 = y := ⟨_, rfl⟩
  have hsp2 : 0 ≤ sp ∧ sp ≤ 4 := by
    have : B.tdiv 8 = B / 8 := Int.tdiv_eq_ediv_of_nonneg (by omega)
    omega
  obtain ⟨q, hq⟩ : ∃ y, B - sp = y := ⟨_, rfl⟩
  obtain ⟨qp, hqp⟩ : ∃ y, q * P = y := ⟨_, rfl⟩
  have hqp2 : 0 ≤ qp ∧ qp ≤ 32 * 16 := by
    rw [← hqp]; exact ⟨Int.mul_nonneg (by omega) (by omega), Int.mul_le_mul (by omega) (by omega) (by omega) (by omega)⟩
  obtain ⟨m, hm⟩ : ∃ y, qp - P = y := ⟨_, rfl⟩
  have e1 : IntKind.i64.wrap sp = sp := wr_id rfl (by omega) (by omega)
  have e2 : IntKind.i64.wrap (B - sp) = q := wr_id hq (by omega) (by omega)
  have e3 : IntKind.i64.wrap (q * P) = qp := wr_id hqp (by omega) (by omega)
  have e4 : IntKind.i64.wrap (qp - P) = m := wr_id hm (by omega) (by omega)
  have hfit : Hid (∀ n : Int, fitsR B P S n = decide (2 * n + resv B P S n + 8 ≤ m)) := Hid.mk fun n => by unfold fitsR; rw [hsp, hq, hqp, hm]
  clear hc h hg hqp hq hm hqp2 hsp2
  unfold roomV
  rw [hsp]
  go_enter Tryz.func8, Tryz.ntmps8
  go_upto_region 6 with (go_at_call 6; refine (HC.out _).mono ?_; rintro e w1 ⟨rfl, b1⟩; have X := Hid.mk (HB.out.call b1); clear b1; obtain ⟨g0, g1, g2⟩ := X.out.geo.cells)
  go_loopw [5] (fun v wr => ∃ k : Nat, k ≤ 300 ∧ v = .int .i64 k ∧ rmG B P S k (600 - k) = roomN B P S ∧ RmS w B P S (.int .i64 0) (.int .i64 0) (.int .i64 0) (.int .i64 0) wr) (fun v _ => 600 - (intOf v).toNat)
  case atStart => exact ⟨0, by omega, rfl, rfl, X.out⟩
  case round =>
    obtain ⟨k, hk, rfl, hrm, hs⟩ := hrel
    have HS := Hid.mk hs
    clear hs X g0 g1 g2
    obtain ⟨g0, g1, g2⟩ := HS.out.geo.cells
    obtain ⟨k1, hk1⟩ : ∃ y, (k : Int) + 1 = y := ⟨_, rfl⟩
    have f1 : IntKind.i64.wrap ((k : Int) + 1) = k1 := wr_id hk1 (by omega) (by omega)
    obtain ⟨x, hx⟩ : ∃ x, 2 * k1 + resv B P S k1 + 8 = x := ⟨_, rfl⟩
    have ht := Hid.mk (takes_any B P S k1 x HG.out (by omega) hx)
    have hf := hfit.out k1
    rw [hx] at hf
    rw [show 600 - k = (599 - k) + 1 by omega] at hrm
    cases hc : fitsR B P S k1
    · rw [hc] at hf
      have hrs := rmG_stop (B := B) (P := P) (S := S) (k := k) (f := 599 - k) (by rw [hk1]; exact hc)
      rw [hrm] at hrs
      have hx1 : decide (x ≤ m) = false := hf.symm
      obtain ⟨rv, hrv⟩ : ∃ y, resv B P S (k : Int) = y := ⟨_, rfl⟩
      have hr := Hid.mk (reserve_any B P S k rv HG.out (by omega) hrv)
      have HRV := Hid.mk hrv
      have hxm : ¬ x ≤ m := of_decide_eq_false hx1
      have f2 : IntKind.i64.wrap (2 * (k : Int)) = 2 * (k : Int) := wr_id rfl (by omega) (by omega)
      have HRS := Hid.mk hrs
      clear hf hc hx hrm hk1 hfit hrs hrv
      go_wp2_with (first
        | (go_at_call 22; refine (ht.out _).mono ?_; rintro e w2 ⟨rfl, b2⟩; have Y := HS.out.call b2; clear b2; obtain ⟨h0, h1, h2⟩ := Y.geo.cells)
        | (go_at_call 23; refine (hr.out _).mono ?_; rintro e w3 ⟨rfl, b3⟩; have Z := Y.call b3; obtain ⟨z0, z1, z2, z3⟩ := Z.box.cells; have y0 := Z.box.fz 0; have y1 := Z.box.fz 1; have y2 := Z.box.fz 2; have y3 := Z.box.fz 3))
      exact bodyPost_ret (room_result rfl rfl rfl (Z.box.set _ _ _ _)) rfl ⟨by rw [HRS.out, HRV.out], set4_below Z.below (by omega) _ _ _ _⟩
    · rw [hc] at hf
      have hrs := rmG_step (B := B) (P := P) (S := S) (k := k) (f := 599 - k) (by rw [hk1]; exact hc)
      rw [hrm] at hrs
      have hx1 : decide (x ≤ m) = true := hf.symm
      have hxm : x ≤ m := of_decide_eq_true hx1
      have h300 := fits_le HG.out (by omega) hc
      have HRS := Hid.mk hrs
      clear hf hc hx hrm hfit hrs
      go_wp2_with (first
        | (go_at_call 22; refine (ht.out _).mono ?_; rintro e w2 ⟨rfl, b2⟩; have Y := HS.out.call b2))
      exact ⟨⟨k + 1, by omega, by rw [← hk1]; go_num, by rw [show 600 - (k + 1) = 599 - k by omega]; exact HRS.out.symm, Y⟩, by simp [intOf]; omega⟩
set_option maxRecDepth 20000 in
theorem rcheck_ok (B P S : Int) (h : okG B P S) (w : World) : Calls Tryz.prog 9 #[.agg #[.int .i64 B, .int .i64 P, .int .i64 S]] w fun e w' => e = .returned (.bool (decide (4 ≤ roomN B P S))) ∧ Below w.heap.size w w' := by
  have HR := Hid.mk fun w => roomof_ok B P S h w
  have HB := Hid.mk (below_box w B P S)
  have ha : ∀ a b c d w, (Instr.field 27 (.agg #[a, b, c, d]) 0).run Tryz.prog w = .ok a w := by intros; kernel_rfl
  unfold roomV at HR
  obtain ⟨k, hk⟩ : ∃ k, roomN B P S = k := ⟨_, rfl⟩
  rw [hk] at HR ⊢
  clear hk h
  by_cases h4 : 4 ≤ k
  · have h4' : (4 : Int) ≤ k := by omega
    rw [decide_eq_true h4]
    go_enter Tryz.func9, Tryz.ntmps9
    go_wp2_with (go_at_call 8; refine (HR.out _).mono ?_; rintro e w1 ⟨rfl, b1⟩)
    go_ret
    exact ⟨rfl, below3 HB.out b1⟩
  · have h4' : decide ((4 : Int) ≤ k) = false := decide_eq_false (by omega)
    rw [decide_eq_false h4]
    go_enter Tryz.func9, Tryz.ntmps9
    go_wp2_with (go_at_call 8; refine (HR.out _).mono ?_; rintro e w1 ⟨rfl, b1⟩)
    go_ret
    exact ⟨rfl, below3 HB.out b1⟩
set_option maxRecDepth 20000 in
theorem rcheck_none (B P S : Int) (h : ¬ okG B P S) (w : World) : Calls Tryz.prog 9 #[.agg #[.int .i64 B, .int .i64 P, .int .i64 S]] w fun e w' => e = .returned (.bool false) ∧ Below w.heap.size w w' := by
  have HR := Hid.mk fun w => roomof_none B P S h w
  have HB := Hid.mk (below_box w B P S)
  have ha : ∀ a b c d w, (Instr.field 27 (.agg #[a, b, c, d]) 0).run Tryz.prog w = .ok a w := by intros; kernel_rfl
  unfold noRoom at HR
  clear h
  go_enter Tryz.func9, Tryz.ntmps9
  go_wp2_with (go_at_call 8; refine (HR.out _).mono ?_; rintro e w1 ⟨rfl, b1⟩)
  go_ret
  exact ⟨rfl, below3 HB.out b1⟩
theorem pgs_more {b s : Int} (hs : 8 < s) (hb : 0 < b) (k : Nat) (hk : k ≤ pgs b s) : (((k : Int) * (s - 8) < b) ∧ (k : Int) + 1 ≤ pgs b s) ∨ (¬ ((k : Int) * (s - 8) < b) ∧ (k : Int) = pgs b s) := by
  obtain ⟨_, g1, g2⟩ := pgs_is hs hb
  unfold pgs at *
  generalize (b + (s - 8) - 1).tdiv (s - 8) = q at *
  generalize hk' : s - 8 = K at *
  have hk0 : 0 < K := by omega
  by_cases h : (k : Int) = q
  · refine .inr ⟨?_, h⟩
    rw [h]; omega
  · refine .inl ⟨?_, by omega⟩
    have : (k : Int) * K ≤ (q - 1) * K := Int.mul_le_mul_of_nonneg_right (by omega) (by omega)
    omega
set_option maxRecDepth 20000 in
theorem rpages_any (b s : Int) (hs : 64 ≤ s ∧ s ≤ 256) (hb : 0 < b ∧ b ≤ 1000000) (w : World) : Calls Tryz.prog 45 #[.int .i64 b, .int .i64 s] w fun e w' => e = .returned (.int .i64 (pgs b s)) ∧ w' = w := by
  have hp := pgs_le hs.1 hb.1 hb.2
  have hm := Hid.mk fun k hk => pgs_more (b := b) (s := s) (by omega) hb.1 k hk
  obtain ⟨K, hK⟩ : ∃ y, s - 8 = y := ⟨_, rfl⟩
  rw [hK] at hm
  have e1 : IntKind.i64.wrap (s - 8) = K := wr_id hK (by omega) (by omega)
  have hKb : 56 ≤ K ∧ K ≤ 248 := by omega
  obtain ⟨q, hq⟩ : ∃ y, pgs b s = y := ⟨_, rfl⟩
  rw [hq] at hp hm ⊢
  clear hK hq
  go_enter Tryz.func45, Tryz.ntmps45
  go_upto_region 2 with fail
  go_loopw [5] (fun v wr => ∃ k : Nat, (k : Int) ≤ q ∧ v = .int .i64 k ∧ wr = w) (fun v _ => 30000 - (intOf v).toNat)
  case atStart => exact ⟨0, by omega, rfl, rfl⟩
  case round =>
    obtain ⟨k, hk, rfl, rfl⟩ := hrel
    obtain ⟨z, hz⟩ : ∃ y, (k : Int) * K = y := ⟨_, rfl⟩
    have hz2 : 0 ≤ z ∧ z ≤ 30000 * 248 := by
      rw [← hz]; exact ⟨Int.mul_nonneg (by omega) (by omega), Int.mul_le_mul (by omega) (by omega) (by omega) (by omega)⟩
    have e2 : IntKind.i64.wrap ((k : Int) * K) = z := wr_id hz (by omega) (by omega)
    have hmk := hm.out k hk
    rw [hz] at hmk
    clear hz
    rcases hmk with ⟨h1, h2⟩ | ⟨h1, h2⟩
    · go_wp2
      exact ⟨⟨k + 1, by omega, by go_num, trivial⟩, by simp [intOf]; omega⟩
    · subst h2
      go_wp2
      go_ret
      exact ⟨rfl, rfl⟩
set_option maxRecDepth 20000 in
theorem rreserve_any (B P S n x : Int) (h : okG B P S) (hn : 0 ≤ n ∧ n ≤ 1000) (hx : resv B P S n = x) (w : World) : Calls Tryz.prog 24 #[.agg #[.int .i64 B, .int .i64 P, .int .i64 S], .int .i64 n] w fun e w' => e = .returned (.int .i64 x) ∧ Below w.heap.size w w' := by
  have hq := resv_le h hn
  rw [hx] at hq
  unfold okG at h
  obtain ⟨n18, hn18⟩ : ∃ y, 18 * n = y := ⟨_, rfl⟩
  obtain ⟨n19, hn19⟩ : ∃ y, n18 + 135 = y := ⟨_, rfl⟩
  obtain ⟨b11, hb11⟩ : ∃ y, B * 11 = y := ⟨_, rfl⟩
  obtain ⟨l1, hl1⟩ : ∃ y, n19 + b11 = y := ⟨_, rfl⟩
  obtain ⟨p1, hp1⟩ : ∃ y, pgs l1 S = y := ⟨_, rfl⟩
  obtain ⟨l2, hl2⟩ : ∃ y, 72 + b11 = y := ⟨_, rfl⟩
  obtain ⟨p2, hp2⟩ : ∃ y, pgs l2 S = y := ⟨_, rfl⟩
  have hb1 := pgs_le (b := l1) (s := S) (by omega) (by omega) (by omega)
  have hb2 := pgs_le (b := l2) (s := S) (by omega) (by omega) (by omega)
  unfold resv at hx
  rw [show (72 : Int) + 11 * B = l2 by omega, hp2, show 18 * n + 135 + 11 * B = l1 by omega, hp1] at hx
  rw [hp1] at hb1
  rw [hp2] at hb2
  have HC : Hid (∀ b r, (b = l1 ∧ r = p1) ∨ (b = l2 ∧ r = p2) → ∀ w, Calls Tryz.prog 45 #[.int .i64 b, .int .i64 S] w fun e w' => e = .returned (.int .i64 r) ∧ w' = w) := by
    refine Hid.mk fun b r hbr w => ?_
    rcases hbr with ⟨rfl, rfl⟩ | ⟨rfl, rfl⟩
    · rw [← hp1]; exact rpages_any _ S (by omega) (by omega) w
    · rw [← hp2]; exact rpages_any _ S (by omega) (by omega) w
  obtain ⟨y1, hy1⟩ : ∃ y, 2 * P = y := ⟨_, rfl⟩
  obtain ⟨y2, hy2⟩ : ∃ y, 2 * p1 = y := ⟨_, rfl⟩
  obtain ⟨y3, hy3⟩ : ∃ y, y1 + y2 = y := ⟨_, rfl⟩
  obtain ⟨y4, hy4⟩ : ∃ y, 2 * p2 = y := ⟨_, rfl⟩
  obtain ⟨y5, hy5⟩ : ∃ y, y3 + y4 = y := ⟨_, rfl⟩
  have e0 : IntKind.i64.wrap (11 * B) = b11 := wr_id (by omega) (by omega) (by omega)
  have e1 : IntKind.i64.wrap (18 * n) = n18 := wr_id hn18 (by omega) (by omega)
  have e12 : IntKind.i64.wrap (n18 + 135) = n19 := wr_id hn19 (by omega) (by omega)
  have e13 : IntKind.i64.wrap (n19 + b11) = l1 := wr_id hl1 (by omega) (by omega)
  have e3 : IntKind.i64.wrap (72 + b11) = l2 := wr_id hl2 (by omega) (by omega)
  have e4 : IntKind.i64.wrap (2 * P) = y1 := wr_id hy1 (by omega) (by omega)
  have e5 : IntKind.i64.wrap (2 * p1) = y2 := wr_id hy2 (by omega) (by omega)
  have e6 : IntKind.i64.wrap (y1 + y2) = y3 := wr_id hy3 (by omega) (by omega)
  have e7 : IntKind.i64.wrap (2 * p2) = y4 := wr_id hy4 (by omega) (by omega)
  have e8 : IntKind.i64.wrap (y3 + y4) = y5 := wr_id hy5 (by omega) (by omega)
  have e9 : IntKind.i64.wrap (y5 + 8) = x := wr_id (by omega) (by omega) (by omega)
  have HB := Hid.mk (below_box w B P S)
  clear hx hn18 hn19 hl1 hp1 hb11 hl2 hp2 hy1 hy2 hy3 hy4 hy5 hb1 hb2 hq hn h
  go_enter Tryz.func24, Tryz.ntmps24
  go_upto_region 1 with fail
  go_quiet ((go_at_call 45; refine Calls.quiet_of_same (HC.out _ _ (by first | exact .inl ⟨rfl, rfl⟩ | exact .inr ⟨rfl, rfl⟩) _)))
  go_wp2
  go_ret
  exact ⟨rfl, below_drewN HB.out⟩
theorem RmS.more {w B P S v0 v1 v2 v3} {wr : World} (h : RmS w B P S v0 v1 v2 v3 wr) (o : Obj) : RmS w B P S v0 v1 v2 v3 (wr.alloc o) := ⟨(Below.heap_alloc _ _ _ h.geo.lt).trans h.geo, (Below.heap_alloc _ _ _ h.box.lt).trans h.box, h.below.alloc h.below.size _⟩
/-- what the answer's Room holds: the geometry, what it answers, its room -/
structure RrS (w : World) (B P S : Int) (v0 v1 v2 v3 : Value) (wr : World) : Prop where
  geo : Bx3 wr w.heap.size B P S
  ret : Bx4 wr (w.heap.size + 1) (.int .i64 0) (.int .i64 0) (.int .i64 0) (.int .i64 0)
  box : Bx4 wr (w.heap.size + 1 + 1) v0 v1 v2 v3
  below : Below w.heap.size w wr
theorem RrS.call {w B P S v0 v1 v2 v3} {wr w' : World} (h : RrS w B P S v0 v1 v2 v3 wr) (b : Below wr.heap.size wr w') : RrS w B P S v0 v1 v2 v3 w' := ⟨h.geo.call b, h.ret.call b, h.box.call b, below3 h.below b⟩
theorem RrS.F {w B P S v0 v1 v2 v3} {wr : World} (h : RrS w B P S v0 v1 v2 v3 wr) : (wr.cell? ⟨w.heap.size, 0, none⟩ = some (.int .i64 B) ∧ wr.cell? ⟨w.heap.size, 1, none⟩ = some (.int .i64 P) ∧ wr.cell? ⟨w.heap.size, 2, none⟩ = some (.int .i64 S)) ∧ (wr.cell? ⟨w.heap.size + 1 + 1, 0, none⟩ = some v0 ∧ wr.cell? ⟨w.heap.size + 1 + 1, 1, none⟩ = some v1 ∧ wr.cell? ⟨w.heap.size + 1 + 1, 2, none⟩ = some v2 ∧ wr.cell? ⟨w.heap.size + 1 + 1, 3, none⟩ = some v3) ∧ wr.frozen? ⟨w.heap.size + 1 + 1, 1, none⟩ = false ∧ wr.frozen? ⟨w.heap.size + 1 + 1, 2, none⟩ = false := ⟨h.geo.cells, h.box.cells, h.box.fz 1, h.box.fz 2⟩
def RrA (w : World) (B P S k sp : Int) (wr : World) : Prop := ∃ a b, RrS w B P S (.int .i64 k) a b (.int .i64 sp) wr
theorem RrA.F {w B P S k sp} {wr : World} (h : RrA w B P S k sp wr) : (wr.cell? ⟨w.heap.size, 0, none⟩ = some (.int .i64 B) ∧ wr.cell? ⟨w.heap.size, 1, none⟩ = some (.int .i64 P) ∧ wr.cell? ⟨w.heap.size, 2, none⟩ = some (.int .i64 S)) ∧ wr.cell? ⟨w.heap.size + 1 + 1, 0, none⟩ = some (.int .i64 k) := by
  obtain ⟨a, b, h⟩ := h
  exact ⟨h.geo.cells, h.box.cells.1⟩
theorem RrS.drew {w B P S v0 v1 v2 v3} {wr : World} (h : RrS w B P S v0 v1 v2 v3 wr) : RrS w B P S v0 v1 v2 v3 wr.drew := ⟨h.geo, h.ret, h.box, h.below.drew⟩
theorem RrS.put {w B P S v0 v1 v2 v3 u0 u1 u2 u3} {wr : World} {j : Nat} {v : Value} (h : RrS w B P S v0 v1 v2 v3 wr) (e : (#[v0, v1, v2, v3] : Array Value).setIfInBounds j v = #[u0, u1, u2, u3]) : RrS w B P S u0 u1 u2 u3 (wr.setCell ⟨w.heap.size + 1 + 1, j, none⟩ v) := by
  refine ⟨(heap_setCell_other wr _ _ v (by show w.heap.size ≠ w.heap.size + 1 + 1; omega)).trans h.geo, (heap_setCell_other wr _ _ v (by show w.heap.size + 1 ≠ w.heap.size + 1 + 1; omega)).trans h.ret, ?_, h.below.setCell (by show w.heap.size ≤ w.heap.size + 1 + 1; omega) v⟩
  have := heap_setCell_same wr (w.heap.size + 1 + 1) j _ 27 v h.box
  rw [e] at this
  exact this
theorem RrS.put0 {w B P S v0 v1 v2 v3} {wr : World} (h : RrS w B P S v0 v1 v2 v3 wr) (v : Value) : RrS w B P S v v1 v2 v3 (wr.setCell ⟨w.heap.size + 1 + 1, 0, none⟩ v) := h.put rfl
theorem RrS.put1 {w B P S v0 v1 v2 v3} {wr : World} (h : RrS w B P S v0 v1 v2 v3 wr) (v : Value) : RrS w B P S v0 v v2 v3 (wr.setCell ⟨w.heap.size + 1 + 1, 1, none⟩ v) := h.put rfl
theorem RrS.put2 {w B P S v0 v1 v2 v3} {wr : World} (h : RrS w B P S v0 v1 v2 v3 wr) (v : Value) : RrS w B P S v0 v1 v v3 (wr.setCell ⟨w.heap.size + 1 + 1, 2, none⟩ v) := h.put rfl
theorem RrS.beg (w : World) (B P S : Int) (v0 v1 v2 v3 : Value) : RrS w B P S v0 v1 v2 v3 (((w.alloc (.cells #[.int .i64 B, .int .i64 P, .int .i64 S] 23)).alloc (.cells #[.int .i64 0, .int .i64 0, .int .i64 0, .int .i64 0] 27)).alloc (.cells #[v0, v1, v2, v3] 27)) := by
  have h := RmS.beg w B P S (.int .i64 0) (.int .i64 0) (.int .i64 0) (.int .i64 0)
  have h2 := h.more (.cells #[v0, v1, v2, v3] 27)
  refine ⟨h2.geo, h2.box, ?_, h2.below⟩
  have := heap_alloc_new ((w.alloc (.cells #[.int .i64 B, .int .i64 P, .int .i64 S] 23)).alloc (.cells #[.int .i64 0, .int .i64 0, .int .i64 0, .int .i64 0] 27)) (.cells #[v0, v1, v2, v3] 27)
  rw [size_alloc, size_alloc] at this
  exact this
set_option maxRecDepth 20000 in
theorem rroom_ok (B P S : Int) (h : okG B P S) (w : World) : Calls Tryz.prog 10 #[.agg #[.int .i64 B, .int .i64 P, .int .i64 S]] w fun e w' => e = .returned (.agg (roomV B P S)) ∧ Below w.heap.size w w' := by
  have HG := Hid.mk h
  have hg := h
  unfold okG at hg
  obtain ⟨sp, hsp⟩ : ∃ y, B.tdiv 8 = y := ⟨_, rfl⟩
  have hsp2 : 0 ≤ sp ∧ sp ≤ 4 := by
    have : B.tdiv 8 = B / 8 := Int.tdiv_eq_ediv_of_nonneg (by omega)
    omega
  obtain ⟨q, hq⟩ : ∃ y, B - sp = y := ⟨_, rfl⟩
  obtain ⟨qp, hqp⟩ : ∃ y, q * P = y := ⟨_, rfl⟩
  have hqp2 : 0 ≤ qp ∧ qp ≤ 32 * 16 := by
    rw [← hqp]; exact ⟨Int.mul_nonneg (by omega) (by omega), Int.mul_le_mul (by omega) (by omega) (by omega) (by omega)⟩
  obtain ⟨m, hm⟩ : ∃ y, qp - P = y := ⟨_, rfl⟩
  have e1 : IntKind.i64.wrap sp = sp := wr_id rfl (by omega) (by omega)
  have e2 : IntKind.i64.wrap (B - sp) = q := wr_id hq (by omega) (by omega)
  have e3 : IntKind.i64.wrap (q * P) = qp := wr_id hqp (by omega) (by omega)
  have e4 : IntKind.i64.wrap (qp - P) = m := wr_id hm (by omega) (by omega)
  have hfit : Hid (∀ n : Int, fitsR B P S n = decide (2 * n + resv B P S n + 8 ≤ m)) := Hid.mk fun n => by unfold fitsR; rw [hsp, hq, hqp, hm]
  clear h hg hqp hq hm hqp2 hsp2
  unfold roomV
  rw [hsp]
  go_enter Tryz.func10, Tryz.ntmps10
  go_upto_region 3 with fail
  go_loopw [4] (fun v wr => ∃ k : Nat, k ≤ 300 ∧ v = .int .i64 (k + 1 : Nat) ∧ rmG B P S k (600 - k) = roomN B P S ∧ RrS w B P S (.int .i64 k) (.int .i64 0) (.int .i64 0) (.int .i64 sp) wr) (fun v _ => 600 - (intOf v).toNat)
  case atStart =>
    exact ⟨0, by omega, rfl, rfl, RrS.beg w B P S _ _ _ _⟩
  case round =>
    obtain ⟨k, hk, rfl, hrm, hs⟩ := hrel
    have HS := Hid.mk hs
    clear hs
    obtain ⟨g0, g1, g2⟩ := HS.out.geo.cells
    obtain ⟨z0, z1, z2, z3⟩ := HS.out.box.cells
    obtain ⟨k1, hk1⟩ : ∃ y : Nat, k + 1 = y := ⟨_, rfl⟩
    have hk1' : (k : Int) + 1 = k1 := by omega
    have hk512 : (k1 : Int) < 512 := by omega
    obtain ⟨rv, hrv⟩ : ∃ x, resv B P S k1 = x := ⟨_, rfl⟩
    have hr := Hid.mk (rreserve_any B P S k1 rv HG.out (by omega) hrv)
    have hrl := resv_le HG.out (n := (k1 : Int)) (by omega)
    rw [hrv] at hrl
    obtain ⟨x1, hx1⟩ : ∃ x, 2 * (k1 : Int) = x := ⟨_, rfl⟩
    obtain ⟨x2, hx2⟩ : ∃ x, x1 + rv = x := ⟨_, rfl⟩
    obtain ⟨x, hx⟩ : ∃ x, x2 + 8 = x := ⟨_, rfl⟩
    have f1 : IntKind.i64.wrap (2 * (k1 : Int)) = x1 := wr_id hx1 (by omega) (by omega)
    have f2 : IntKind.i64.wrap (x1 + rv) = x2 := wr_id hx2 (by omega) (by omega)
    have f3 : IntKind.i64.wrap (x2 + 8) = x := wr_id hx (by omega) (by omega)
    have hf := hfit.out k1
    rw [hrv, hx1, hx2, hx] at hf
    rw [show 600 - k = (599 - k) + 1 by omega] at hrm
    rw [hk1]
    have kS : Hid (∀ w', Below wr.heap.size wr w' → Below wr.heap.size wr w' ∧ (w'.cell? ⟨w.heap.size, 0, none⟩ = some (.int .i64 B) ∧ w'.cell? ⟨w.heap.size, 1, none⟩ = some (.int .i64 P) ∧ w'.cell? ⟨w.heap.size, 2, none⟩ = some (.int .i64 S)) ∧ w'.cell? ⟨w.heap.size + 1 + 1, 3, none⟩ = some (.int .i64 sp)) := Hid.mk fun w' b => ⟨b, (HS.out.geo.call b).cells, (HS.out.box.call b).cells.2.2.2⟩
    clear g0 g1 g2 z0 z1 z2 z3 hx1 hx2 hx hrv
    go_upto_region 5 with fail
    go_cut [31] from 13 to 31 (fun v wx => v = .bool (decide (m < x)) ∧ Below wr.heap.size wr wx)
    case first =>
      go_region_held3 (fun w' => Below wr.heap.size wr w' ∧ (w'.cell? ⟨w.heap.size, 0, none⟩ = some (.int .i64 B) ∧ w'.cell? ⟨w.heap.size, 1, none⟩ = some (.int .i64 P) ∧ w'.cell? ⟨w.heap.size, 2, none⟩ = some (.int .i64 S)) ∧ w'.cell? ⟨w.heap.size + 1 + 1, 3, none⟩ = some (.int .i64 sp))
        (first | assumption | exact kS.out _ (Below.refl _ wr) | exact kS.out _ (Below.refl _ wr).drew | exact kS.out _ (below3 (And.left (by assumption)) (by assumption)) | fail)
        (first | (go_at_call 24; refine (hr.out _).mono ?_; rintro e w2 ⟨rfl, b2⟩))
      all_goals
        go_wp2_with fail
        go_meet
      all_goals
        exact ⟨rfl, And.left (by assumption)⟩
    case rest =>
      obtain ⟨rfl, hb⟩ := hcut
      have Y := HS.out.call hb
      obtain ⟨g0, g1, g2⟩ := Y.geo.cells
      obtain ⟨z0, z1, z2, z3⟩ := Y.box.cells
      have y0 := Y.box.fz 0
      have y1 := Y.box.fz 1
      have y2 := Y.box.fz 2
      have y3 := Y.box.fz 3
      cases hc : fitsR B P S k1
      · rw [hc] at hf
        have hrs := rmG_stop (B := B) (P := P) (S := S) (k := k) (f := 599 - k) (by rw [hk1']; exact hc)
        rw [hrm] at hrs
        have hxm : decide (m < x) = true := decide_eq_true (by have := of_decide_eq_false hf.symm; omega)
        rw [hxm]
        obtain ⟨rk, hrk⟩ : ∃ y, resv B P S (k : Int) = y := ⟨_, rfl⟩
        have hr2 := Hid.mk (rreserve_any B P S k rk HG.out (by omega) hrk)
        have HRV := Hid.mk hrk
        have f4 : IntKind.i64.wrap (2 * (k : Int)) = 2 * (k : Int) := wr_id rfl (by omega) (by omega)
        have HRS := Hid.mk hrs
        have HY := Hid.mk Y
        have hw1 : ∀ v, RrS w B P S (.int .i64 k) v (.int .i64 0) (.int .i64 sp) (wc.drew.setCell ⟨w.heap.size + 1 + 1, 1, none⟩ v) := fun v => HY.out.drew.put1 v
        have HW := Hid.mk hw1
        clear hf hc hrm hfit hrs hk1 Y hr hrk hw1
        go_upto_region 7 with fail
        refine wp_region_held_drew (S := RrA w B P S k sp) (by kernel_rfl) ⟨_, _, HY.out.drew⟩ (fun hHeld => ?_)
        have Z0 := Hid.mk HY.out.drew
        refine tkF 0 (fun _ q => RrA.F q) hHeld ?_
        refine tkF 1 (fun _ q => RrA.F q) hHeld ?_
        refine tkF 2 (fun _ q => RrA.F q) hHeld ?_
        refine tkF 3 (fun _ q => RrA.F q) hHeld ?_
        refine tkF 4 (fun _ q => RrA.F q) hHeld ?_
        refine tkF 5 (fun _ q => RrA.F q) hHeld ?_
        refine tkF 7 (fun _ q => RrA.F q) hHeld ?_
        refine wpAnyH_ready (rs := [6]) (by kernel_rfl) (by simp) ?_
        refine arH rfl (fun K hK => ?_) AllReadyH.nil
        go_simp
        go_at_call 24
        refine (hr2.out _).mono ?_
        rintro e w3 ⟨rfl, b3⟩
        have Z1 := Hid.mk (Z0.out.call b3)
        clear b3 Z0
        refine hK.out _ _ ⟨_, _, Z1.out⟩ (fun hHeld => ?_)
        clear hK K
        try simp only [Act.put, zA, zB, zC]
        refine wpAnyH_ready (rs := [8]) (by kernel_rfl) (by simp) ?_
        refine arH rfl (fun K hK => ?_) AllReadyH.nil
        obtain ⟨_, ⟨a0, a1, a2, a3⟩, q1, q2⟩ := Z1.out.F
        go_simp
        have Z2 := Hid.mk (Z1.out.put1 (.int .i64 (2 * (k : Int))))
        refine hK.out _ _ ⟨_, _, Z2.out⟩ (fun hHeld => ?_)
        clear hK K a0 a1 a2 a3 q1 q2
        try simp only [Act.put, zA, zB, zC]
        refine tkF 9 (fun _ q => RrA.F q) hHeld ?_
        refine wpAnyH_ready (rs := [10]) (by kernel_rfl) (by simp) ?_
        refine arH rfl (fun K hK => ?_) AllReadyH.nil
        obtain ⟨_, ⟨a0, a1, a2, a3⟩, q1, q2⟩ := Z2.out.F
        go_simp
        have Z3 := Hid.mk (Z2.out.put2 (.int .i64 rk))
        refine hK.out _ _ ⟨_, _, Z3.out⟩ (fun hHeld => ?_)
        clear hK K a0 a1 a2 a3 q1 q2
        try simp only [Act.put, zA, zB, zC]
        refine wpAnyH_done (by kernel_rfl) ?_ _
        obtain ⟨_, ⟨a0, a1, a2, a3⟩, q1, q2⟩ := Z3.out.F
        obtain ⟨r0, r1, r2, r3⟩ := Z3.out.ret.cells
        have t0 := Z3.out.ret.fz 0
        have t1 := Z3.out.ret.fz 1
        have t2 := Z3.out.ret.fz 2
        have t3 := Z3.out.ret.fz 3
        go_wp2_with fail
        exact bodyPost_ret (room_result rfl rfl rfl (Z3.out.ret.set _ _ _ _)) rfl ⟨by rw [HRS.out, HRV.out], set4_below Z3.out.below (by omega) _ _ _ _⟩
      · rw [hc] at hf
        have hrs := rmG_step (B := B) (P := P) (S := S) (k := k) (f := 599 - k) (by rw [hk1']; exact hc)
        rw [hrm] at hrs
        have hxm : decide (m < x) = false := decide_eq_false (by have := of_decide_eq_true hf.symm; omega)
        rw [hxm]
        have h300 := fits_le HG.out (by omega) hc
        have HRS := Hid.mk hrs
        have HY := Hid.mk Y
        rw [hk1] at hrs
        have HRT := Hid.mk hrs
        clear hf hc hrm hfit hrs hk1 Y
        go_wp2_with fail
        exact ⟨⟨k1, by omega, by go_num, by rw [show 600 - k1 = 599 - k by omega]; exact HRT.out.symm, HY.out.put0 _⟩, by simp [intOf]; omega⟩
end Go.Proofs.YtcmmhfjnhlaepaaGreatDoor.Rm
