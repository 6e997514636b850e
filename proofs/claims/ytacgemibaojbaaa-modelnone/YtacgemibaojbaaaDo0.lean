/-
  What the answer's Do makes of its state, said plainly; how its answers are stored. No condition.
-/
import Derived.Test.YtacgemibaojbaaaRfd
namespace Go.Proofs.Ytacgemibaojbaaa
open Go Go.RowKit Go.Maps

theorem fnd_spec (id : Int) : ∀ (l : List S3) (k : Nat), (fndGo id l k = -1 ∧ ∀ y ∈ l, y.1 ≠ id) ∨ ∃ j : Nat, j < l.length ∧ fndGo id l k = ((k + j : Nat) : Int) ∧ (l.getD j (0, 0, false)).1 = id
  | [], k => .inl ⟨rfl, fun _ h => by cases h⟩
  | y :: r, k => by
    unfold fndGo
    by_cases e : y.1 = id
    · rw [if_pos e]
      exact .inr ⟨0, by simp, rfl, by simpa using e⟩
    · rw [if_neg e]
      rcases fnd_spec id r (k + 1) with ⟨h1, h2⟩ | ⟨j, h1, h2, h3⟩
      · exact .inl ⟨h1, fun z hz => by rcases List.mem_cons.1 hz with rfl | hz; exact e; exact h2 z hz⟩
      · exact .inr ⟨j + 1, by simp; omega, by rw [h2]; congr 1; omega, by simpa using h3⟩
def mvL (f t : Int) (y : L3) : L3 := if y.2.2 = f then (y.1, y.2.1, t) else y
/-- pages of one space, put into another -/
def cpL (S T : Int) : List L3 → List L3 → List L3
  | [], out => out
  | y :: r, out => cpL S T r (if y.1 = S then wI (T, y.2.1, y.2.2) false out else out)
abbrev mI (x : S3) (l : List S3) : List S3 := gI (fun y : S3 => decide (x.1 < y.1)) (fun y : S3 => decide (y.1 ≠ x.1)) x false l
/-- what the answer's Do makes of its state, and the error -/
def doR (m : Rs) (K S P A T N : Int) : Rs × Int :=
  if K = 3 then
    if cL A m.lv = 0 ∨ 0 < cL T m.lv then (m, 82) else ({ m with lv := m.lv.map (mvL A T) }, 0)
  else if K = 4 then
    if 0 ≤ fndGo S m.sp 0 then (m, 80) else ({ m with sp := mI (S, N, false) m.sp }, 0)
  else if K = 8 then ({ m with bad := gI (fun y : Int => decide (A ≤ y)) (fun y : Int => decide (y ≠ A)) A false m.bad }, 0)
  else if K = 9 then ({ m with worn := if hitW A N m.worn = true then m.worn else gI (fun y : Int × Int => decide (A ≤ y.1)) (fun y : Int × Int => decide (y.1 ≠ A)) (A, N) false m.worn }, 0)
  else if fndGo S m.sp 0 < 0 then (m, 80)
  else if K = 1 then
    if P < 0 ∨ (m.sp.getD (fndGo S m.sp 0).toNat (0, 0, false)).2.1 ≤ P then (m, 81) else ({ m with lv := wI (S, P, A) false m.lv }, 0)
  else if K = 2 then
    if gL S P m.lv = none then (m, 81) else ({ m with lv := m.lv.filter (fun y : L3 => decide (y.1 ≠ S ∨ 0 ≤ P ∧ y.2.1 ≠ P)) }, 0)
  else if K = 5 then ({ m with sp := m.sp.filter (fun y : S3 => decide (y.1 ≠ S)), lv := m.lv.filter (fun y : L3 => decide (y.1 ≠ S ∨ (0 : Int) ≤ -1 ∧ y.2.1 ≠ -1)) }, 0)
  else if K = 6 then
    if 0 ≤ fndGo T m.sp 0 then (m, 80) else ({ m with sp := mI (T, (m.sp.getD (fndGo S m.sp 0).toNat (0, 0, false)).2.1, false) m.sp, lv := cpL S T m.lv m.lv }, 0)
  else ({ m with sp := mI ((m.sp.getD (fndGo S m.sp 0).toNat (0, 0, false)).1, (m.sp.getD (fndGo S m.sp 0).toNat (0, 0, false)).2.1, true) m.sp }, 0)
/-- lists that are no longer than a state's may be -/
def Lens (m : Rs) : Prop := m.sp.length < 100000 ∧ m.lv.length < 50000 ∧ m.bad.length < 100000 ∧ m.worn.length < 100000
/-- a slice that was there, or a new one -/
def Own2 (w : World) (v u : Value) : Prop := ∀ g, u.ownBlock = some g → v.ownBlock = some g ∨ w.heap.size ≤ g
theorem Own2.refl (w : World) (v : Value) : Own2 w v v := fun _ h => .inl h
theorem Own2.new {w : World} {v u : Value} (h : ∀ g, u.ownBlock = some g → w.heap.size ≤ g) : Own2 w v u := fun g hg => .inr (h g hg)
def DoR (w : World) (B : Nat) (v0 v1 v2 v3 : Value) (r : Rs × Int) (e : Ending) (w' : World) : Prop :=
  ∃ u0 u1 u2 u3, e = .returned (.tuple #[.agg #[u0, u1, u2, u3], .int .i64 r.2]) ∧ RAt w' B u0 u1 u2 u3 r.1 ∧ Below w.heap.size w w' ∧ Own2 w v0 u0 ∧ Own2 w v1 u1 ∧ Own2 w v2 u2 ∧ Own2 w v3 u3
theorem st_result2 {fn : Func} {p u : Tmp} (h : fn.results = #[.cell p 33, .tmp u]) {tmps : Array Value} {w : World} {g : Nat} {v0 v1 v2 v3 : Value} (hp : tmps.getD p undef = .pointer (some ⟨g, 0, none⟩)) (hg : Box4 w g v0 v1 v2 v3) :
    (results fn tmps).run Try.prog w = .ok (.tuple #[.agg #[v0, v1, v2, v3], tmps.getD u undef]) w := by
  rw [results_cell_tmp h, hp]
  have q := run_loadVar_row (P := Try.prog) w g 33 33 #[v0, v1, v2, v3] (0, 0) _ hg Try.underlying33 rfl cells33
  simp only [asAddr, Sem.run_pure, Result.andThen, q]
/-- what Do has laid first: the state's block at G, the record's behind it, the answer's behind that -/
structure DoS (w : World) (B G : Nat) (v0 v1 v2 v3 : Value) (m : Rs) (rc : List Int) (W : World) : Prop where
  box : Box4 W G v0 v1 v2 v3
  rec' : Row W (G + 1) 41 .i64 rc
  res : Box4 W (G + 1 + 1) (.slice none 0 0) (.slice none 0 0) (.slice none 0 0) (.slice none 0 0)
  at' : RAt W B v0 v1 v2 v3 m
  bel : Below w.heap.size w W
  hG : w.heap.size = G
  hB : B ≤ w.heap.size
  old : RAt w B v0 v1 v2 v3 m
theorem DoS.call {w B G v0 v1 v2 v3 m rc W W'} (h : DoS w B G v0 v1 v2 v3 m rc W) (b : Below W.heap.size W W') : DoS w B G v0 v1 v2 v3 m rc W' :=
  ⟨h.box.call b, h.rec'.call b, h.res.call b, h.at'.call b, below3 h.bel b, h.hG, h.hB, h.old⟩
theorem DoS.alloc {w B G v0 v1 v2 v3 m rc W} (h : DoS w B G v0 v1 v2 v3 m rc W) (o : Obj) : DoS w B G v0 v1 v2 v3 m rc (W.alloc o) := h.call (below_al W o)
theorem DoS.lt {w B G v0 v1 v2 v3 m rc W} (h : DoS w B G v0 v1 v2 v3 m rc W) : G + 1 + 1 < W.heap.size := h.res.lt
theorem DoS.start {w : World} {B : Nat} {v0 v1 v2 v3 : Value} {m : Rs} (h : RAt w B v0 v1 v2 v3 m) (hB : B ≤ w.heap.size) (K S P A T N : Int) :
    DoS w B w.heap.size v0 v1 v2 v3 m [K, S, P, A, T, N] (((w.alloc (.cells #[v0, v1, v2, v3] 33)).alloc (.cells #[.int .i64 K, .int .i64 S, .int .i64 P, .int .i64 A, .int .i64 T, .int .i64 N] 41)).alloc (.cells #[.slice none 0 0, .slice none 0 0, .slice none 0 0, .slice none 0 0] 33)) := by
  have b0 : Bel w (((w.alloc (.cells #[v0, v1, v2, v3] 33)).alloc (.cells #[.int .i64 K, .int .i64 S, .int .i64 P, .int .i64 A, .int .i64 T, .int .i64 N] 41)).alloc (.cells #[.slice none 0 0, .slice none 0 0, .slice none 0 0, .slice none 0 0] 33)) := (((Bel.refl w).alloc _).alloc _).alloc _
  refine ⟨((Box4.fresh w v0 v1 v2 v3).alloc _).alloc _, ?_, ?_, h.call b0, b0, rfl, hB, h⟩
  · have := (Row.fresh (w.alloc (.cells #[v0, v1, v2, v3] 33)) 41 .i64 [K, S, P, A, T, N]).alloc (.cells #[.slice none 0 0, .slice none 0 0, .slice none 0 0, .slice none 0 0] 33)
    rw [size_alloc] at this
    exact this
  · have := Box4.fresh ((w.alloc (.cells #[v0, v1, v2, v3] 33)).alloc (.cells #[.int .i64 K, .int .i64 S, .int .i64 P, .int .i64 A, .int .i64 T, .int .i64 N] 41)) (.slice none 0 0) (.slice none 0 0) (.slice none 0 0) (.slice none 0 0)
    rw [size_alloc, size_alloc] at this
    exact this
/-- an answer is stored -/
theorem DoS.fin {w B G v0 v1 v2 v3 m rc W} (h : DoS w B G v0 v1 v2 v3 m rc W) {W5 : World} {u0 u1 u2 u3 : Value} {m' : Rs} (b : Below W.heap.size W W5) (R : RAt W5 B u0 u1 u2 u3 m') (o0 : Own2 W v0 u0) (o1 : Own2 W v1 u1) (o2 : Own2 W v2 u2) (o3 : Own2 W v3 u3) :
    Box4 (set4 W5 (G + 1 + 1) u0 u1 u2 u3) (G + 1 + 1) u0 u1 u2 u3 ∧ RAt (set4 W5 (G + 1 + 1) u0 u1 u2 u3) B u0 u1 u2 u3 m' ∧ Below w.heap.size w (set4 W5 (G + 1 + 1) u0 u1 u2 u3) ∧ Own2 w v0 u0 ∧ Own2 w v1 u1 ∧ Own2 w v2 u2 ∧ Own2 w v3 u3 := by
  have k := set4_kp W5 (G + 1 + 1) (G + 1 + 1) u0 u1 u2 u3
  have hl := h.lt
  have hG := h.hG
  have hbs := h.bel.size
  have ne : ∀ {e sz} {v u : Value} {rows : Rws}, Ow w B e sz v rows → Own2 W v u → u.ownBlock ≠ some (G + 1 + 1) := fun o q e => by
    rcases q _ e with q | q
    · have := (o.lt _ q).2; omega
    · omega
  have n0 := ne h.old.sp o0
  have n1 := ne h.old.lv o1
  have n2 := ne h.old.bad o2
  have n3 := ne h.old.worn o3
  have up : ∀ {v u : Value}, Own2 W v u → Own2 w v u := fun q g hg => (q g hg).imp id (fun q => Nat.le_trans hbs q)
  exact ⟨set4_box (h.res.call b) _ _ _ _, ⟨R.sp.kp k n0 n0, R.lv.kp k n1 n1, R.bad.kp k n2 n2, R.worn.kp k n3 n3⟩, kp_bel (w := w) (w5 := W5) (below3 h.bel b) k (by omega) (by omega), up o0, up o1, up o2, up o3⟩
theorem DoS.same {w B G v0 v1 v2 v3 m rc W} (h : DoS w B G v0 v1 v2 v3 m rc W) : Box4 (set4 W (G + 1 + 1) v0 v1 v2 v3) (G + 1 + 1) v0 v1 v2 v3 ∧ RAt (set4 W (G + 1 + 1) v0 v1 v2 v3) B v0 v1 v2 v3 m ∧ Below w.heap.size w (set4 W (G + 1 + 1) v0 v1 v2 v3) ∧ Own2 w v0 v0 ∧ Own2 w v1 v1 ∧ Own2 w v2 v2 ∧ Own2 w v3 v3 :=
  h.fin (Below.refl _ W) h.at' (Own2.refl _ _) (Own2.refl _ _) (Own2.refl _ _) (Own2.refl _ _)
end Go.Proofs.Ytacgemibaojbaaa
