/-
  A record off the answer's reader: the walk of its Take. No condition.
-/
import Derived.Test.YtdapoonojhfkkaaMust
import Derived.Deep.RegionLaw
namespace Go.Proofs.Ytdapoonojhfkkaa
open Go Go.RowKit

/-- a slice of these numbers at the head of a block from lo on, below hi -/
def IsR (w : World) (lo hi : Nat) (a : Option Addr) (l : List Int) : Prop := 0 < l.length → ∃ g, a = some ⟨g, 0, none⟩ ∧ lo ≤ g ∧ g < hi ∧ Row w g 3 .i64 l
theorem IsR.same {w w' : World} {lo hi a l} (h : IsR w lo hi a l) (hh : ∀ g, g < w.heap.size → lo ≤ g → g < hi → w'.heap[g]? = w.heap[g]?) : IsR w' lo hi a l := by
  intro h0
  obtain ⟨g, ha, h1, h2, hb⟩ := h h0
  exact ⟨g, ha, h1, h2, (hh g hb.lt h1 h2).trans hb⟩
theorem IsR.cell {w : World} {lo hi a l} (h : IsR w lo hi a l) (j : Nat) (hj : j < l.length) : ∃ g, a = some ⟨g, 0, none⟩ ∧ g < w.heap.size ∧ w.cell? ⟨g, j, none⟩ = some (.int .i64 (l.getD j 0)) := by
  obtain ⟨g, ha, h1, h2, hb⟩ := h (by omega)
  exact ⟨g, ha, hb.lt, hb.cell j hj⟩
/-- what must be so much, from the k-th number on -/
def mustGo : List Int → List Int → ByteArray × Int → ByteArray × Int
  | v :: vs, m :: ms, q => mustGo vs ms (must q (decide (m ≤ v)))
  | _, _, q => q
/-- what the answer's Take leaves of its reader -/
def rtQ (s : ByteArray) (e : Int) : ByteArray × Int :=
  mustGo (tkQ s e).2.2 (leasts (flds (rF s e 1).2.2)) (must ((tkQ s e).1, (tkQ s e).2.1) (decide (0 < (flds (rF s e 1).2.2).length)))
/-- and its record -/
def rtL (s : ByteArray) (e : Int) : List Int := if (rtQ s e).2 = 0 then tkL s e else [0, 0, 0, 0, 0, 0]
/-- what holds in the answer's Take: its reader's block is X, the answers' two are behind it, its lists lie from X + 3 to H, the numbers read in a block from H on -/
structure RtS (w : World) (H : Nat) (b c : Option Addr) (ls ms : List Int) (s : ByteArray) (e : Int) (v : Value) (gl : Nat) (l : List Int) (wr : World) : Prop where
  at0 : Ab wr w.heap.size s e
  at1 : Ab wr (w.heap.size + 1) ⟨#[]⟩ 0
  rec0 : Row wr (w.heap.size + 2) 27 .i64 [0, 0, 0, 0, 0, 0]
  least : IsR wr (w.heap.size + 3) H b ls
  most : IsR wr (w.heap.size + 3) H c ms
  read : Sl wr 3 .i64 v gl l
  far : w.heap.size + 3 ≤ H ∧ H ≤ gl
  below : Below w.heap.size w wr
theorem RtS.call {w H b c ls ms s e v gl l wr w2} (h : RtS w H b c ls ms s e v gl l wr) (q : Below wr.heap.size wr w2) : RtS w H b c ls ms s e v gl l w2 :=
  { h with at0 := h.at0.call q, at1 := h.at1.call q, rec0 := h.rec0.call q, least := h.least.same fun g hg _ _ => q.block g hg, most := h.most.same fun g hg _ _ => q.block g hg, read := h.read.call q, below := below3 h.below q }
theorem RtS.alloc {w H b c ls ms s e v gl l wr} (h : RtS w H b c ls ms s e v gl l wr) (o : Obj) : RtS w H b c ls ms s e v gl l (wr.alloc o) := h.call ((Below.refl _ wr).alloc (Nat.le_refl _) o)
theorem RtS.drew {w H b c ls ms s e v gl l wr} (h : RtS w H b c ls ms s e v gl l wr) : RtS w H b c ls ms s e v gl l wr.drew := h.call (Below.refl _ wr).drew
/-- another reader in the reader's block -/
theorem RtS.set {w H b c ls ms s e v gl l wr} (h : RtS w H b c ls ms s e v gl l wr) (t : ByteArray) (k : Int) :
    RtS w H b c ls ms t k v gl l ((wr.setCell ⟨w.heap.size, 0, none⟩ (.string t)).setCell ⟨w.heap.size, 1, none⟩ (.int .i64 k)) := by
  have hb : ∀ g, w.heap.size < g → ((wr.setCell ⟨w.heap.size, 0, none⟩ (.string t)).setCell ⟨w.heap.size, 1, none⟩ (.int .i64 k)).heap[g]? = wr.heap[g]? := fun g hg =>
    (heap_setCell_other _ ⟨w.heap.size, 1, none⟩ g _ (by show g ≠ w.heap.size; omega)).trans (heap_setCell_other _ ⟨w.heap.size, 0, none⟩ g _ (by show g ≠ w.heap.size; omega))
  have hf := h.far
  exact { h with
    at0 := h.at0.set t k
    at1 := (hb _ (by omega)).trans h.at1
    rec0 := (hb _ (by omega)).trans h.rec0
    least := h.least.same fun g _ hg _ => hb g (by omega)
    most := h.most.same fun g _ hg _ => hb g (by omega)
    read := (h.read.other (a := ⟨w.heap.size, 0, none⟩) (by show w.heap.size ≠ gl; omega) _).other (a := ⟨w.heap.size, 1, none⟩) (by show w.heap.size ≠ gl; omega) _
    below := (h.below.setCell (Nat.le_refl _) _).setCell (Nat.le_refl _) _ }
/-- one more number is read -/
theorem RtS.grown {w H b c ls ms s e v gl l wr w2 v2 g2 l2} (h : RtS w H b c ls ms s e v gl l wr) (q : wr.grownBy w2 (some gl)) (hs : Sl w2 3 .i64 v2 g2 l2) (hg : g2 = gl ∨ wr.heap.size ≤ g2) : RtS w H b c ls ms s e v2 g2 l2 w2 := by
  have hf := h.far
  have hl := h.read.lt
  have hz := h.below.size
  exact { at0 := h.at0.kept q (by omega), at1 := h.at1.kept q (by omega), rec0 := h.rec0.kept q (by omega)
          least := h.least.same fun g hgl _ h3 => q.block g hgl (by simp; omega)
          most := h.most.same fun g hgl _ h3 => q.block g hgl (by simp; omega)
          read := hs
          far := ⟨hf.1, by omega⟩
          below := below_grown h.below q hz (by omega) }
/-- the three blocks that are laid first -/
def Three (w : World) (s : ByteArray) (e : Int) (W : World) : Prop := Ab W w.heap.size s e ∧ Ab W (w.heap.size + 1) ⟨#[]⟩ 0 ∧ Row W (w.heap.size + 2) 27 .i64 [0, 0, 0, 0, 0, 0] ∧ Below w.heap.size w W
theorem below_three (w : World) (s : ByteArray) (e : Int) : Three w s e (((w.alloc (.cells #[.string s, .int .i64 e] 25)).alloc (.cells #[.string ⟨#[]⟩, .int .i64 0] 25)).alloc (.cells #[.int .i64 0, .int .i64 0, .int .i64 0, .int .i64 0, .int .i64 0, .int .i64 0] 27)) :=
  ⟨((Ab.fresh w s e).alloc _).alloc _, (Ab.fresh1 w _ ⟨#[]⟩ 0).alloc _, Row.fresh2 w _ _ 27 .i64 [0, 0, 0, 0, 0, 0], (below_two w _ _).alloc (by rw [size_alloc, size_alloc]; omega) _⟩
theorem Three.call {w s e W W2} (h : Three w s e W) (b : Below W.heap.size W W2) : Three w s e W2 := ⟨h.1.call b, h.2.1.call b, h.2.2.1.call b, below3 h.2.2.2 b⟩
theorem Three.set {w s e W} (h : Three w s e W) (t : ByteArray) (k : Int) : Three w t k ((W.setCell ⟨w.heap.size, 0, none⟩ (.string t)).setCell ⟨w.heap.size, 1, none⟩ (.int .i64 k)) := by
  have hb : ∀ g, w.heap.size < g → ((W.setCell ⟨w.heap.size, 0, none⟩ (.string t)).setCell ⟨w.heap.size, 1, none⟩ (.int .i64 k)).heap[g]? = W.heap[g]? := fun g hg =>
    (heap_setCell_other _ ⟨w.heap.size, 1, none⟩ g _ (by show g ≠ w.heap.size; omega)).trans (heap_setCell_other _ ⟨w.heap.size, 0, none⟩ g _ (by show g ≠ w.heap.size; omega))
  exact ⟨h.1.set t k, (hb _ (by omega)).trans h.2.1, (hb _ (by omega)).trans h.2.2.1, (h.2.2.2.setCell (Nat.le_refl _) _).setCell (Nat.le_refl _) _⟩
theorem ab_zero {w0 w1 : World} (b : Below (w0.alloc (.cells #[.string ⟨#[]⟩, .int .i64 0] 25)).drew.heap.size (w0.alloc (.cells #[.string ⟨#[]⟩, .int .i64 0] 25)).drew w1) : Ab w1 w0.heap.size ⟨#[]⟩ 0 :=
  Ab.call (w := (w0.alloc (.cells #[.string ⟨#[]⟩, .int .i64 0] 25)).drew) (Ab.fresh w0 ⟨#[]⟩ 0) b
theorem must_nil (q : ByteArray × Int) (ms : List Int) (h : (mustGo [] ms (must q false)).2 = 0) : False := by
  have e : mustGo [] ms (must q false) = must q false := by cases ms <;> rfl
  rw [e] at h
  unfold must at h
  split at h
  · cases h
  · rename_i hn
    exact hn ⟨h, rfl⟩
theorem rec_result3 {fn : Func} {p u : Tmp} (h : fn.results = #[.cell p 25, .cell u 27]) {tmps : Array Value} {w : World} {g g2 : Nat} {s : ByteArray} {e : Int} {l : List Int} (hp : tmps.getD p undef = .pointer (some ⟨g, 0, none⟩)) (hu : tmps.getD u undef = .pointer (some ⟨g2, 0, none⟩))
    (ha : Ab w g s e) (hl : l.length = 6) (hr : Row w g2 27 .i64 l) : (results fn tmps).run Try.prog w = .ok (.tuple #[.agg #[.string s, .int .i64 e], rvL l]) w := by
  have q := run_loadVar_row (P := Try.prog) w g2 27 27 (cellsOf .i64 l) (0, 0) _ hr Try.underlying27 rfl (by rw [cellsOf_size, hl]; exact info27)
  have q2 := ab_load ha
  have hp' : tmps[p]?.getD undef = .pointer (some ⟨g, 0, none⟩) := by simpa using hp
  have hu' : tmps[u]?.getD undef = .pointer (some ⟨g2, 0, none⟩) := by simpa using hu
  simp [results, h, Sem.run_bind, Result.andThen, asAddr, hp', hu', q, q2]
  rfl
/-- both answers are laid -/
theorem RtS.done {w H b c ls ms s e v gl l wr} (h : RtS w H b c ls ms s e v gl l wr) (t : ByteArray) (k : Int) (x0 x1 x2 x3 x4 x5 : Int) :
    Ab ((((((((wr.setCell ⟨w.heap.size + 1, 0, none⟩ (.string t)).setCell ⟨w.heap.size + 1, 1, none⟩ (.int .i64 k)).setCell ⟨w.heap.size + 1 + 1, 0, none⟩ (.int .i64 x0)).setCell ⟨w.heap.size + 1 + 1, 1, none⟩ (.int .i64 x1)).setCell ⟨w.heap.size + 1 + 1, 2, none⟩ (.int .i64 x2)).setCell ⟨w.heap.size + 1 + 1, 3, none⟩ (.int .i64 x3)).setCell ⟨w.heap.size + 1 + 1, 4, none⟩ (.int .i64 x4)).setCell ⟨w.heap.size + 1 + 1, 5, none⟩ (.int .i64 x5)) (w.heap.size + 1) t k ∧ Row ((((((((wr.setCell ⟨w.heap.size + 1, 0, none⟩ (.string t)).setCell ⟨w.heap.size + 1, 1, none⟩ (.int .i64 k)).setCell ⟨w.heap.size + 1 + 1, 0, none⟩ (.int .i64 x0)).setCell ⟨w.heap.size + 1 + 1, 1, none⟩ (.int .i64 x1)).setCell ⟨w.heap.size + 1 + 1, 2, none⟩ (.int .i64 x2)).setCell ⟨w.heap.size + 1 + 1, 3, none⟩ (.int .i64 x3)).setCell ⟨w.heap.size + 1 + 1, 4, none⟩ (.int .i64 x4)).setCell ⟨w.heap.size + 1 + 1, 5, none⟩ (.int .i64 x5)) (w.heap.size + 1 + 1) 27 .i64 [x0, x1, x2, x3, x4, x5] ∧ Below w.heap.size w ((((((((wr.setCell ⟨w.heap.size + 1, 0, none⟩ (.string t)).setCell ⟨w.heap.size + 1, 1, none⟩ (.int .i64 k)).setCell ⟨w.heap.size + 1 + 1, 0, none⟩ (.int .i64 x0)).setCell ⟨w.heap.size + 1 + 1, 1, none⟩ (.int .i64 x1)).setCell ⟨w.heap.size + 1 + 1, 2, none⟩ (.int .i64 x2)).setCell ⟨w.heap.size + 1 + 1, 3, none⟩ (.int .i64 x3)).setCell ⟨w.heap.size + 1 + 1, 4, none⟩ (.int .i64 x4)).setCell ⟨w.heap.size + 1 + 1, 5, none⟩ (.int .i64 x5)) := by
  have h1 := h.at1.set t k
  have h2 : Row ((wr.setCell ⟨w.heap.size + 1, 0, none⟩ (.string t)).setCell ⟨w.heap.size + 1, 1, none⟩ (.int .i64 k)) (w.heap.size + 1 + 1) 27 .i64 [0, 0, 0, 0, 0, 0] :=
    (h.rec0.other (a := ⟨w.heap.size + 1, 0, none⟩) (by show w.heap.size + 1 ≠ w.heap.size + 2; omega) _).other (a := ⟨w.heap.size + 1, 1, none⟩) (by show w.heap.size + 1 ≠ w.heap.size + 2; omega) _
  have h3 : Below w.heap.size w ((wr.setCell ⟨w.heap.size + 1, 0, none⟩ (.string t)).setCell ⟨w.heap.size + 1, 1, none⟩ (.int .i64 k)) := (h.below.setCell (Nat.le_succ _) _).setCell (Nat.le_succ _) _
  generalize ((wr.setCell ⟨w.heap.size + 1, 0, none⟩ (.string t)).setCell ⟨w.heap.size + 1, 1, none⟩ (.int .i64 k)) = V at *
  have hne : ∀ (V : World) (j : Nat) (v : Value), Ab V (w.heap.size + 1) t k → Ab (V.setCell ⟨w.heap.size + 1 + 1, j, none⟩ v) (w.heap.size + 1) t k := fun V j v q =>
    (heap_setCell_other V ⟨w.heap.size + 1 + 1, j, none⟩ (w.heap.size + 1) v (by show w.heap.size + 1 ≠ w.heap.size + 1 + 1; omega)).trans q
  have hle : w.heap.size ≤ w.heap.size + 1 + 1 := by omega
  exact ⟨hne _ _ _ (hne _ _ _ (hne _ _ _ (hne _ _ _ (hne _ _ _ (hne _ _ _ h1))))), (((((h2.stored 0 x0).stored 1 x1).stored 2 x2).stored 3 x3).stored 4 x4).stored 5 x5,
    (((((h3.setCell hle _).setCell hle _).setCell hle _).setCell hle _).setCell hle _).setCell hle _⟩
theorem RtS.cells {w H b c ls ms s e v gl l wr} (h : RtS w H b c ls ms s e v gl l wr) : wr.cell? ⟨w.heap.size + 1, 0, none⟩ = some (.string ⟨#[]⟩) ∧ wr.cell? ⟨w.heap.size + 1, 1, none⟩ = some (.int .i64 0) ∧ wr.frozen? ⟨w.heap.size + 1, 0, none⟩ = false ∧ wr.frozen? ⟨w.heap.size + 1, 1, none⟩ = false ∧
    (wr.cell? ⟨w.heap.size + 1 + 1, 0, none⟩ = some (.int .i64 0) ∧ wr.cell? ⟨w.heap.size + 1 + 1, 1, none⟩ = some (.int .i64 0) ∧ wr.cell? ⟨w.heap.size + 1 + 1, 2, none⟩ = some (.int .i64 0) ∧ wr.cell? ⟨w.heap.size + 1 + 1, 3, none⟩ = some (.int .i64 0) ∧ wr.cell? ⟨w.heap.size + 1 + 1, 4, none⟩ = some (.int .i64 0) ∧ wr.cell? ⟨w.heap.size + 1 + 1, 5, none⟩ = some (.int .i64 0)) ∧
    ∀ j, wr.frozen? ⟨w.heap.size + 1 + 1, j, none⟩ = false :=
  ⟨h.at1.rest, h.at1.err, h.at1.frozen 0, h.at1.frozen 1, h.rec0.six, fun j => h.rec0.frozen j⟩
theorem info3z : (Try.prog.info? 3).map (fun i => (i.zero, i.size, i.bytes)) = some (some (.int .i64 0), 1, 8) := by kernel_rfl
theorem RtS.eight {w H b c ls ms s e v gl l W Y s2 e2} (_ : RtS w H b c ls ms s e v gl l W) (q : Ab W Y s2 e2) (o : Obj) : (W.alloc o).cell? ⟨Y, 0, none⟩ = some (.string s2) ∧ (W.alloc o).cell? ⟨Y, 1, none⟩ = some (.int .i64 e2) :=
  ⟨(q.alloc o).rest, (q.alloc o).err⟩
set_option maxHeartbeats 4000000 in
theorem refTake_any (s : ByteArray) (e : Int) (w : World) : Calls Try.prog 5 #[.agg #[.string s, .int .i64 e]] w fun x w' =>
    x = .returned (.tuple #[.agg #[.string (rtQ s e).1, .int .i64 (rtQ s e).2], rvL (rtL s e)]) ∧ Below w.heap.size w w' := by
  have hb := rF_byte s e
  have hF := fun w => atFixed_any s e 1 w
  have hQ : tkQ s e = tkGo (flds (rF s e 1).2.2) (rF s e 1).1 (rF s e 1).2.1 := rfl
  have hL : tkL s e = laySet (flds (rF s e 1).2.2) (tkQ s e).2.2 [((rF s e 1).2.2 : Int), 0, 0, 0, 0, 0] := rfl
  have hR : rtQ s e = mustGo (tkQ s e).2.2 (leasts (flds (rF s e 1).2.2)) (must ((tkQ s e).1, (tkQ s e).2.1) (decide (0 < (flds (rF s e 1).2.2).length))) := rfl
  unfold rtL
  generalize rF s e 1 = q1 at *
  obtain ⟨s1, e1, k0⟩ := q1
  simp only at hb hF hQ hL hR ⊢
  have hw : IntKind.i64.wrap (k0 : Int) = k0 := by simp [IntKind.wrap, IntKind.bits, IntKind.signed]; omega
  have hrow := fun w => row_any k0 0 0 0 0 0 w
  unfold rowPost at hrow
  generalize tkQ s e = Q at *
  generalize rtQ s e = RQ at *
  generalize tkL s e = L at *
  have H := Hid.mk (And.intro hF (And.intro hQ (And.intro hL (And.intro hR hrow))))
  clear hF hQ hL hR hrow
  go_enter Try.func5, Try.ntmps5
  go_upto_region 1 with fail
  have a0 := below_three w s e
  generalize (((w.alloc (.cells #[.string s, .int .i64 e] 25)).alloc (.cells #[.string ⟨#[]⟩, .int .i64 0] 25)).alloc (.cells #[.int .i64 0, .int .i64 0, .int .i64 0, .int .i64 0, .int .i64 0, .int .i64 0] 27)) = W at *
  have c0 := a0.1.rest
  have c1 := a0.1.err
  replace a0 := Hid.mk a0
  go_upto_region 2 with (go_at_call 11; refine (H.out.1 _).mono ?_; rintro x w1 ⟨rfl, b1⟩; replace a0 := Hid.mk (a0.out.call b1); clear b1 c0 c1; have c0 := a0.out.1.rest; have c1 := a0.out.1.err; have f0 := a0.out.1.frozen 0; have f1 := a0.out.1.frozen 1)
  have a1 := Hid.mk (a0.out.set s1 e1)
  clear a0 c0 c1 f0 f1
  generalize ((w1.setCell ⟨w.heap.size, 0, none⟩ (.string s1)).setCell ⟨w.heap.size, 1, none⟩ (.int .i64 e1)) = W1 at *
  go_upto_region 3 with (go_at_call 12; refine (H.out.2.2.2.2 _).mono ?_; rintro x w2 ⟨a, b, c, rfl, b1, _, i2, i3⟩)
  have r0 : RtS w w2.heap.size b c (leasts (flds k0)) (mosts (flds k0)) s1 e1 (.slice (some ⟨w2.heap.size, 0, none⟩) 0 0) w2.heap.size [] (w2.alloc (.cells #[] 3)) := by
    have hz := a1.out.2.2.1.lt
    have a2 := (a1.out.call b1).call ((Below.refl _ w2).alloc (Nat.le_refl _) (.cells #[] 3))
    exact { at0 := a2.1, at1 := a2.2.1, rec0 := a2.2.2.1, below := a2.2.2.2
            least := fun h => by
              obtain ⟨g, ha, hg, hr⟩ := i2 h
              exact ⟨g, ha, by omega, hr.lt, hr.alloc _⟩
            most := fun h => by
              obtain ⟨g, ha, hg, hr⟩ := i3 h
              exact ⟨g, ha, by omega, hr.lt, hr.alloc _⟩
            read := Sl.ofRow (Row.fresh w2 3 .i64 [])
            far := ⟨Nat.le_trans hz b1.size, Nat.le_refl _⟩ }
  clear a1 b1 i2 i3
  go_upto_region 5 with fail
  generalize w2.heap.size = HH at *
  generalize (w2.alloc (.cells #[] 3)) = W2 at *
  have hn3 := flds_len k0
  obtain ⟨_, hQ, hL, hR, _⟩ := H.out
  have hofs := Hid.mk (flds_off k0)
  have hofc := Hid.mk (fun l hl h0 w g cp hg hc => of_cells k0 l hl h0 (w := w) (g := g) cp hg hc)
  have qm : Hid ((mosts (flds (k0 : Int))).length = (flds (k0 : Int)).length ∧ (leasts (flds (k0 : Int))).length = (flds (k0 : Int)).length) := Hid.mk (by simp [mosts, leasts])
  have hmg : Hid (∀ k, k < (flds (k0 : Int)).length → (mosts (flds (k0 : Int))).getD k 0 = ((flds (k0 : Int)).getD k (0, 0, 0)).2.2) := Hid.mk (fun k hk => by simp [mosts, List.getD_eq_getElem?_getD, hk])
  clear H
  generalize leasts (flds (k0 : Int)) = ls at *
  generalize mosts (flds (k0 : Int)) = ms at *
  generalize hfs : flds (k0 : Int) = fs at *
  generalize hn : fs.length = n at *
  have HD := Hid.mk (And.intro hQ (And.intro hL (And.intro hR (And.intro hfs hn))))
  clear hQ hL hR hfs hn
  replace r0 := Hid.mk r0
  obtain ⟨S', E', VS⟩ := Q
  go_loopw [9, 10] (fun v i wr => ∃ (k gl : Nat) (sk : ByteArray) (ek : Int) (l : List Int), k ≤ n ∧ i = .int .i64 k ∧ l.length = k ∧ (S', E', VS) = ((tkGo (fs.drop k) sk ek).1, (tkGo (fs.drop k) sk ek).2.1, l ++ (tkGo (fs.drop k) sk ek).2.2) ∧ RtS w HH b c ls ms sk ek v gl l wr)
    (fun _ i _ => n - (intOf i).toNat)
  case atStart => exact ⟨0, HH, s1, e1, [], Nat.zero_le _, rfl, rfl, by rw [HD.out.1]; rfl, r0.out⟩
  case round =>
    clear r0
    obtain ⟨k, gl, sk, ek, l, hk, rfl, hl, hrest, hs⟩ := hrel
    obtain ⟨cap, rfl, hcap⟩ := hs.read.val
    rw [hl]
    by_cases hkn : k < n
    · have hkl : k < fs.length := by rw [HD.out.2.2.2.2]; exact hkn
      obtain ⟨gm, rfl, hgm, cm⟩ := hs.most.cell k (by rw [qm.out.1]; exact hkn)
      rw [hmg.out k hkn] at cm
      have hoff := hofs.out _ (getD_mem _ k hkl)
      rw [drop_getD _ k hkl] at hrest
      generalize fs.getD k (0, 0, 0) = f at *
      obtain ⟨o, lo, hi⟩ := f
      simp only [tkGo] at hrest cm hoff
      have hle := rN_le sk ek hi (by omega)
      have hnum := fun w => atNum_any sk ek hi w
      generalize rN sk ek hi = rr at *
      obtain ⟨s2, e2, m⟩ := rr
      simp only at hrest hle hnum
      have hw1 : IntKind.u64.wrap hi = hi := u64_wrap hi (by omega) (by omega)
      have hw2 : IntKind.i64.wrap (m : Int) = m := by simp [IntKind.wrap, IntKind.bits, IntKind.signed]; omega
      have c0 := hs.at0.rest
      have c1 := hs.at0.err
      have hXl := hs.at0.lt
      have HS := Hid.mk (And.intro hs (And.intro hl (And.intro hrest (And.intro hnum hcap))))
      clear hs hl hrest hnum hoff hcap
      go_upto_region 7 with fail
      have kS : ∀ w', Below wr.heap.size wr w' → (w'.cell? ⟨w.heap.size, 0, none⟩ = some (.string sk) ∧ w'.cell? ⟨w.heap.size, 1, none⟩ = some (.int .i64 ek) ∧ w'.cell? ⟨gm, k, none⟩ = some (.int .i64 hi) ∧ Below wr.heap.size wr w') := fun w' q =>
        ⟨(q.cell (p := ⟨w.heap.size, 0, none⟩) hXl).trans c0, (q.cell (p := ⟨w.heap.size, 1, none⟩) hXl).trans c1, (q.cell (p := ⟨gm, k, none⟩) hgm).trans cm, q⟩
      replace kS := Hid.mk kS
      clear c0 c1 cm
      go_region_held3 (fun w' => w'.cell? ⟨w.heap.size, 0, none⟩ = some (.string sk) ∧ w'.cell? ⟨w.heap.size, 1, none⟩ = some (.int .i64 ek) ∧ w'.cell? ⟨gm, k, none⟩ = some (.int .i64 hi) ∧ Below wr.heap.size wr w')
        (first | assumption | exact kS.out _ (Below.refl _ wr).drew | exact kS.out _ (below3 (And.right (And.right (And.right (by assumption)))) (by assumption)) | exact kS.out _ (Below.alloc (And.right (And.right (And.right (by assumption)))) (Below.size (And.right (And.right (And.right (by assumption))))) _) | exact kS.out _ (((below3 (below_one wr _).drew (by assumption)).setCell (Nat.le_refl _) _).setCell (Nat.le_refl _) _) | exact kS.out _ (Below.alloc (below3 (Below.refl _ wr).drew (by assumption)) (Below.size (below3 (Below.refl _ wr).drew (by assumption))) _) | fail)
        (first | (go_at_call 13; refine (HS.out.2.2.2.1 _).mono ?_; rintro x w5 ⟨rfl, b5⟩; try (have y := ab_zero b5; have y0 := y.rest; have y1 := y.err; have y2 := y.frozen 0; have y3 := y.frozen 1; replace y := Hid.mk y)))
      all_goals
        first
        | (have pq : RtS w HH b (some ⟨gm, 0, none⟩) ls ms sk ek (.slice (some ⟨gl, 0, none⟩) l.length cap) gl l ((w5.setCell ⟨wr.heap.size, 0, none⟩ (.string s2)).setCell ⟨wr.heap.size, 1, none⟩ (.int .i64 e2)) ∧ Ab ((w5.setCell ⟨wr.heap.size, 0, none⟩ (.string s2)).setCell ⟨wr.heap.size, 1, none⟩ (.int .i64 e2)) wr.heap.size s2 e2 ∧ gl < wr.heap.size :=
            ⟨HS.out.1.call (((below3 (below_one wr _).drew b5).setCell (Nat.le_refl _) _).setCell (Nat.le_refl _) _), y.out.set s2 e2, HS.out.1.read.lt⟩
           clear y y0 y1 y2 y3 b5 kS
           generalize ((w5.setCell ⟨wr.heap.size, 0, none⟩ (.string s2)).setCell ⟨wr.heap.size, 1, none⟩ (.int .i64 e2)) = W5 at *
           generalize wr.heap.size = Y at *)
        | (have pq : RtS w HH b (some ⟨gm, 0, none⟩) ls ms sk ek (.slice (some ⟨gl, 0, none⟩) l.length cap) gl l (w5.alloc (.cells #[.string s2, .int .i64 e2] 25)) ∧ Ab (w5.alloc (.cells #[.string s2, .int .i64 e2] 25)) w5.heap.size s2 e2 ∧ gl < w5.heap.size :=
            ⟨HS.out.1.call ((below3 (Below.refl _ wr).drew b5).alloc (below3 (Below.refl _ wr).drew b5).size _), Ab.fresh w5 s2 e2, Nat.lt_of_lt_of_le HS.out.1.read.lt (below3 (Below.refl _ wr).drew b5).size⟩
           clear b5 kS
           generalize (w5.alloc (.cells #[.string s2, .int .i64 e2] 25)) = W5 at *
           generalize w5.heap.size = Y at *)
        go_upto_region 8 with fail
        have y0 := pq.2.1.rest
        have y1 := pq.2.1.err
        have yo := pq.1.eight pq.2.1
        have hl1 : l.length + 1 ≤ 1000000 := by rw [HS.out.2.1]; omega
        have PQ := Hid.mk pq
        clear pq
        go_region_law (refine step_append_sl rfl (.tmp 46) (.tmp 49) 42 rfl Try.underlying42 info3z rfl (by decide) (by rw [HS.out.2.1]; rfl) (PQ.out.1.read.alloc _).drew ⟨W5.heap.size, 0, none⟩ 1 1 [(m : Int)] rfl rfl (one_cell W5 .i64 _ 3) hl1 ?_; intro v3 g3 w6 hs3 hgr hgg hold; have z := Hid.mk ((PQ.out.1.alloc _).drew.grown hgr hs3 hgg); have x0 := z.out.at0.rest; have x1 := z.out.at0.err; have x2 := z.out.at0.frozen 0; have x3 := z.out.at0.frozen 1; have yk := ((PQ.out.2.1.alloc _).drew.kept hgr (Nat.ne_of_gt PQ.out.2.2)); have yk0 := yk.rest; have yk1 := yk.err; clear yk hs3 hgr hgg hold)
        all_goals
          clear y0 y1 yo yk0 yk1 x0 x1 x2 x3 PQ hl1
          go_wp2_with fail
          exact ⟨⟨k + 1, g3, s2, e2, l ++ [(m : Int)], by omega, by go_num, by simp [HS.out.2.1], by rw [HS.out.2.2.1]; simp, z.out.set s2 e2⟩, by simp [intOf]; omega⟩
    · have hk2 : k = n := by omega
      rw [hk2, ← HD.out.2.2.2.2, List.drop_length] at hrest
      simp only [tkGo, Prod.mk.injEq, List.append_nil] at hrest
      obtain ⟨rfl, rfl, rfl⟩ := hrest
      have c0 := hs.at0.rest
      have c1 := hs.at0.err
      have HS := Hid.mk (And.intro hs hl)
      clear hs hl hcap hmg hofs
      subst hk2
      have hR := HD.out.2.2.1
      have hLL := HD.out.2.1
      have hfk := HD.out.2.2.2.1
      simp only at hR hLL
      clear HD
      obtain ⟨B, hB⟩ : ∃ B, decide (0 < k) = B := ⟨_, rfl⟩
      rw [hB] at hR ⊢
      have hpos : Hid (RQ.2 = 0 → 0 < k) := Hid.mk (fun h0 => by
        rcases Nat.eq_zero_or_pos k with hz | hz
        · exfalso
          have hv : VS = [] := List.eq_nil_of_length_eq_zero (HS.out.2.trans hz)
          have hb0 : B = false := by rw [← hB, hz]; rfl
          rw [hR, hv, hb0] at h0
          exact must_nil _ _ h0
        · exact hz)
      have hmust := fun w => must_any S' E' B w
      generalize must (S', E') B = q3 at hR hmust
      obtain ⟨s3, e3⟩ := q3
      simp only at hmust
      have HM := Hid.mk (And.intro hmust (And.intro hB (And.intro hR (And.intro hLL hfk))))
      clear hmust hB hR hLL hfk
      go_upto_region 10 with (go_at_call 14; refine (HM.out.1 _).mono ?_; rintro x w7 ⟨rfl, b7⟩; replace HS := Hid.mk (And.intro (HS.out.1.call b7) HS.out.2); clear c0 c1 b7; have c0 := HS.out.1.at0.rest; have c1 := HS.out.1.at0.err; have f0 := HS.out.1.at0.frozen 0; have f1 := HS.out.1.at0.frozen 1)
      replace HS := Hid.mk (And.intro (HS.out.1.set s3 e3) HS.out.2)
      clear c0 c1 f0 f1
      generalize ((w7.setCell ⟨w.heap.size, 0, none⟩ (.string s3)).setCell ⟨w.heap.size, 1, none⟩ (.int .i64 e3)) = W7 at *
      go_upto_region 11 with fail
      go_loopw [13] (fun i wr => ∃ (j : Nat) (sj : ByteArray) (ej : Int), j ≤ k ∧ i = .int .i64 j ∧ RQ = mustGo (VS.drop j) (ls.drop j) (sj, ej) ∧ RtS w HH b c ls ms sj ej (.slice (some ⟨gl, 0, none⟩) VS.length cap) gl VS wr) (fun i _ => k - (intOf i).toNat)
      case atStart => exact ⟨0, s3, e3, Nat.zero_le _, rfl, HM.out.2.2.1, HS.out.1⟩
      case round =>
        have hVl := HS.out.2
        clear HS
        obtain ⟨j, sj, ej, hj, rfl, hrest, hs⟩ := hrel
        replace hVl := Hid.mk hVl
        by_cases hjk : j < k
        · have d0 := hs.read.cell j (by rw [hVl.out]; exact hjk)
          obtain ⟨gb, rfl, hgb, d1⟩ := hs.least.cell j (by rw [qm.out.2]; exact hjk)
          rw [drop_getDI VS j (by rw [hVl.out]; exact hjk), drop_getDI ls j (by rw [qm.out.2]; exact hjk), mustGo] at hrest
          generalize VS.getD j 0 = x at *
          generalize ls.getD j 0 = lo at *
          have hglt := hs.read.lt
          have c0 := hs.at0.rest
          have c1 := hs.at0.err
          obtain ⟨B2, hB2⟩ : ∃ B2, decide (lo ≤ x) = B2 := ⟨_, rfl⟩
          rw [hB2] at hrest
          have hmust := fun w => must_any sj ej B2 w
          generalize must (sj, ej) B2 = q4 at hrest hmust
          obtain ⟨s4, e4⟩ := q4
          simp only at hmust
          have HS := Hid.mk (And.intro hs (And.intro hrest hmust))
          clear hs hrest hmust
          go_upto_region 13 with fail
          go_region_with (go_at_call 14; refine (HS.out.2.2 _).mono ?_; rintro x w8 ⟨rfl, b8⟩; have z := Hid.mk (HS.out.1.drew.call b8); have z0 := z.out.at0.rest; have z1 := z.out.at0.err; have z2 := z.out.at0.frozen 0; have z3 := z.out.at0.frozen 1)
          all_goals
            clear z0 z1 z2 z3 c0 c1 d0 d1
            go_wp2_with fail
            exact ⟨⟨j + 1, s4, e4, by omega, by go_num, HS.out.2.1, z.out.set s4 e4⟩, by simp [intOf]; omega⟩
        · have hj2 : j = k := by omega
          rw [hj2, List.drop_of_length_le (by rw [hVl.out]; exact Nat.le_refl _)] at hrest
          have hq : RQ = (sj, ej) := by
            rw [hrest]
            cases List.drop k ls <;> rfl
          subst hq
          have c0 := hs.at0.rest
          have c1 := hs.at0.err
          have HS := Hid.mk hs
          clear hs hrest hj2
          by_cases he : ej = 0
          · subst he
            have hk0 : 0 < k := hpos.out rfl
            have hL6 : L.length = 6 := by rw [HM.out.2.2.2.1]; exact laySet_len _ _ _
            obtain ⟨x0, x1, x2, x3, x4, x5, rfl⟩ := six hL6
            have hof : ∀ W, Below wr.heap.size wr W → Calls Try.prog 15 #[.int .i64 k0, .slice (some ⟨gl, 0, none⟩) k cap] W fun e w' => e = .returned (rvL [x0, x1, x2, x3, x4, x5]) ∧ Below W.heap.size W w' := fun W hW => by
              have q := hofc.out VS hVl.out hk0 W gl cap (Nat.lt_of_lt_of_le HS.out.read.lt hW.size) (fun j hj => (hW.cell (p := ⟨gl, j, none⟩) HS.out.read.lt).trans (HS.out.read.cell j hj))
              rw [← HM.out.2.2.2.1] at q
              exact q
            replace hof := Hid.mk hof
            clear hL6
            go_upto_region 16 with fail
            have ZZ := HS
            obtain ⟨p0, p1, p2, p3, ⟨r0, r1, r2, r3, r4, r5⟩, rf⟩ := ZZ.out.cells
            have rf0 := rf 0
            have rf1 := rf 1
            have rf2 := rf 2
            have rf3 := rf 3
            have rf4 := rf 4
            have rf5 := rf 5
            clear rf
            go_region_with (go_at_call 15; refine (hof.out _ (Below.refl _ wr).drew).mono ?_; rintro x w9 ⟨rfl, b9⟩; simp only [rvL_six]; unfold rv; have ZZ := Hid.mk (HS.out.drew.call b9); obtain ⟨p0, p1, p2, p3, ⟨r0, r1, r2, r3, r4, r5⟩, rf⟩ := ZZ.out.cells; have rf0 := rf 0; have rf1 := rf 1; have rf2 := rf 2; have rf3 := rf 3; have rf4 := rf 4; have rf5 := rf 5; clear rf; have c2 := ZZ.out.at0.rest; have c3 := ZZ.out.at0.err)
            all_goals
              go_wp2_with fail
              have hd := ZZ.out.done sj 0 x0 x1 x2 x3 x4 x5
              exact bodyPost_ret (rec_result3 rfl rfl rfl hd.1 rfl hd.2.1) rfl ⟨rfl, hd.2.2⟩
          · have ZZ := HS
            obtain ⟨p0, p1, p2, p3, ⟨r0, r1, r2, r3, r4, r5⟩, rf⟩ := ZZ.out.cells
            have rf0 := rf 0
            have rf1 := rf 1
            have rf2 := rf 2
            have rf3 := rf 3
            have rf4 := rf 4
            have rf5 := rf 5
            clear rf
            go_wp2_with fail
            have hd := ZZ.out.done sj ej 0 0 0 0 0 0
            exact bodyPost_ret (rec_result3 rfl rfl rfl hd.1 rfl hd.2.1) rfl ⟨rfl, hd.2.2⟩
end Go.Proofs.Ytdapoonojhfkkaa
