/-
  Rows of records. No condition.
-/
import Derived.Test.YtdapoonojhfkkaaBytes
import Derived.Laws.OwnMore
import Derived.Lib.SmallJoins
namespace Go.Proofs.Ytdapoonojhfkkaa
open Go Go.RowKit

/-- six numbers -/
abbrev R6 := Int × Int × Int × Int × Int × Int
def R6.l (r : R6) : List Int := [r.1, r.2.1, r.2.2.1, r.2.2.2.1, r.2.2.2.2.1, r.2.2.2.2.2]
def R6.may (r : R6) : Bool := mayB r.1 r.2.1 r.2.2.1 r.2.2.2.1 r.2.2.2.2.1 r.2.2.2.2.2
def R6.put (r : R6) : ByteArray := putB r.1 r.l
def R6.cells (r : R6) : List Value := r.l.map (Value.int .i64)
/-- records as bytes, one behind the other -/
def puts : List R6 → ByteArray
  | [] => ⟨#[]⟩
  | r :: l => r.put ++ puts l
theorem puts_snoc (l : List R6) (r : R6) : puts (l ++ [r]) = puts l ++ r.put := by
  induction l with
  | nil => simp [puts]; apply ByteArray.ext; simp
  | cons a l ih => rw [List.cons_append, puts, ih, puts, ByteArray.append_assoc]
/-- records as cells -/
def rowsC (l : List R6) : List Value := l.flatMap R6.cells
theorem rowsC_snoc (l : List R6) (r : R6) : rowsC (l ++ [r]) = rowsC l ++ r.cells := by simp [rowsC]
theorem rowsC_length (l : List R6) : (rowsC l).length = l.length * 6 := by
  induction l with
  | nil => rfl
  | cons a l ih =>
    show (a.cells ++ rowsC l).length = _
    rw [List.length_append, ih, List.length_cons]
    show 6 + _ = _
    omega
theorem rowsC_get (l : List R6) (j c : Nat) (hj : j < l.length) (hc : c < 6) : (rowsC l)[j * 6 + c]? = some (.int .i64 ((l.getD j (0, 0, 0, 0, 0, 0)).l.getD c 0)) := by
  induction l generalizing j with
  | nil => simp at hj
  | cons a l ih =>
    show (a.cells ++ rowsC l)[j * 6 + c]? = _
    have h6 : a.cells.length = 6 := rfl
    cases j with
    | zero =>
      rw [List.getElem?_append_left (by rw [h6]; omega)]
      match c, hc with
      | 0, _ => rfl
      | 1, _ => rfl
      | 2, _ => rfl
      | 3, _ => rfl
      | 4, _ => rfl
      | 5, _ => rfl
    | succ j =>
      rw [List.getElem?_append_right (by rw [h6]; omega), h6, show (j + 1) * 6 + c - 6 = j * 6 + c by omega, ih j (by simpa using hj)]
      simp
theorem puts_drop (l : List R6) (j : Nat) (h : j < l.length) : puts (l.drop j) = (l.getD j (0, 0, 0, 0, 0, 0)).put ++ puts (l.drop (j + 1)) := by
  rw [List.drop_eq_getElem_cons h, puts]
  simp [List.getD_eq_getElem?_getD, h]
theorem put6_size (r : R6) (h : r.may = true) : r.put.size ≤ 100 := by
  obtain ⟨n, O, RES, g, h3, hz0, F⟩ := putF h
  have := F.size n
  rw [F.last, ← F.res] at this
  exact this
/-- a row of records that is handed in -/
def RecsF (w : World) (a : Option Addr) (n : Nat) (f : Nat → R6) : Prop := ∀ i, i < n → ∃ g o, a = some ⟨g, o, none⟩ ∧ g < w.heap.size ∧
  w.cell? ⟨g, o + i * 6, none⟩ = some (.int .i64 (f i).1) ∧ w.cell? ⟨g, o + i * 6 + 1, none⟩ = some (.int .i64 (f i).2.1) ∧ w.cell? ⟨g, o + i * 6 + 2, none⟩ = some (.int .i64 (f i).2.2.1) ∧
  w.cell? ⟨g, o + i * 6 + 3, none⟩ = some (.int .i64 (f i).2.2.2.1) ∧ w.cell? ⟨g, o + i * 6 + 4, none⟩ = some (.int .i64 (f i).2.2.2.2.1) ∧ w.cell? ⟨g, o + i * 6 + 5, none⟩ = some (.int .i64 (f i).2.2.2.2.2)
/-- the one record that a literal of one lays -/
theorem rec_cells (w : World) (r : R6) : ∀ j u, (R6.cells r)[j]? = some u → (w.alloc (.cells #[.int .i64 r.1, .int .i64 r.2.1, .int .i64 r.2.2.1, .int .i64 r.2.2.2.1, .int .i64 r.2.2.2.2.1, .int .i64 r.2.2.2.2.2] 27)).cell? ((⟨w.heap.size, 0, none⟩ : Addr).add j) = some u := by
  intro j u hu
  have ea : (⟨w.heap.size, 0, none⟩ : Addr).add j = ⟨w.heap.size, j, none⟩ := by unfold Addr.add; split <;> simp_all
  rw [ea, cell_of_row _ _ j _ 27 _ (heap_alloc_new w _), ← hu]
  simp [R6.cells, R6.l]
theorem cells_one (r : R6) : ∀ u ∈ R6.cells r, u.oneCell' = true := by
  intro u hu
  simp only [R6.cells, List.mem_map] at hu
  obtain ⟨x, _, rfl⟩ := hu
  rfl
theorem info23z : ∃ i z, Try.prog.info? 27 = some i ∧ i.zero = some z ∧ i.size = 6 ∧ i.bytes = 48 ∧ z.cells.size = 6 := ⟨_, _, rfl, rfl, rfl, rfl, rfl⟩
theorem RecsF.below {w w' : World} {a n f} (h : RecsF w a n f) (b : Below w.heap.size w w') : RecsF w' a n f := by
  intro i hi
  obtain ⟨g, o, ha, hg, c0, c1, c2, c3, c4, c5⟩ := h i hi
  have e : ∀ j, w'.cell? ⟨g, j, none⟩ = w.cell? ⟨g, j, none⟩ := fun j => b.cell (p := ⟨g, j, none⟩) hg
  exact ⟨g, o, ha, Nat.lt_of_lt_of_le hg b.size, by rw [e]; exact c0, by rw [e]; exact c1, by rw [e]; exact c2, by rw [e]; exact c3, by rw [e]; exact c4, by rw [e]; exact c5⟩
/-- what the first loop holds: records rs that may be, in a slice of the call's own -/
structure Rw (w : World) (v : Value) (rs : List R6) (wr : World) : Prop where
  own : wr.ownsRow w.heap.size 27 6 v rs.length (rowsC rs)
  may : ∀ r ∈ rs, R6.may r = true
  below : Below w.heap.size w wr
theorem Rw.call {w v rs wr w2} (h : Rw w v rs wr) (b : Below wr.heap.size wr w2) : Rw w v rs w2 :=
  ⟨h.own.kept (row := none) ⟨b.os, b.tape, b.output, b.size, fun j hj _ => b.block j hj⟩ (by cases hv : v.ownBlock <;> simp), h.may, below3 h.below b⟩
theorem Rw.form {w v rs wr} (h : Rw w v rs wr) : ∃ a cap, v = .slice a rs.length cap := by
  rcases Go.Joins.ownsRow_forms h.own with ⟨h1, h2⟩ | ⟨g, cap, h1⟩
  · exact ⟨none, 0, by rw [h1, h2]⟩
  · exact ⟨_, cap, h1⟩
theorem Rw.more {w v rs wr w3 v2} (h : Rw w v rs wr) (o : Obj) (r : R6) (hm : r.may = true) (hown : w3.ownsRow w.heap.size 27 6 v2 (rs.length + 1) (rowsC rs ++ r.cells)) (hg : (wr.alloc o).grownBy w3 v.ownBlock) : Rw w v2 (rs ++ [r]) w3 := by
  refine ⟨?_, fun x hx => ?_, ?_⟩
  · rw [rowsC_snoc, List.length_append]
    exact hown
  · rcases List.mem_append.1 hx with hx | hx
    · exact h.may x hx
    · rw [List.mem_singleton.1 hx]
      exact hm
  · exact (h.below.alloc h.below.size o).grown hg (h.below.alloc h.below.size o).size (fun k hk => ((h.own.alloc o).lt k hk).1)
theorem Rw.grown {w v rs wr w2 G} (h : Rw w v rs wr) (b : wr.grownBy w2 (some G)) (hne : v.ownBlock ≠ some G) (hG : w.heap.size ≤ G) : Rw w v rs w2 :=
  ⟨h.own.kept b (Or.inr hne), h.may, below_grown h.below b h.below.size hG⟩
theorem Rw.apart {w v rs wr} (h : Rw w v rs wr) : v.ownBlock ≠ some wr.heap.size := fun e => by
  have := (h.own.lt _ e).2
  omega
/-- the cells of one of the records -/
theorem Rw.at {w a c rs wr} (h : Rw w (.slice a rs.length c) rs wr) (j : Nat) (hj : j < rs.length) {K S P A T N : Int} (hr : rs.getD j (0, 0, 0, 0, 0, 0) = (K, S, P, A, T, N)) : ∃ g, a = some ⟨g, 0, none⟩ ∧ g < wr.heap.size ∧
    wr.cell? ⟨g, j * 6, none⟩ = some (.int .i64 K) ∧ wr.cell? ⟨g, j * 6 + 1, none⟩ = some (.int .i64 S) ∧ wr.cell? ⟨g, j * 6 + 2, none⟩ = some (.int .i64 P) ∧ wr.cell? ⟨g, j * 6 + 3, none⟩ = some (.int .i64 A) ∧ wr.cell? ⟨g, j * 6 + 4, none⟩ = some (.int .i64 T) ∧ wr.cell? ⟨g, j * 6 + 5, none⟩ = some (.int .i64 N) := by
  obtain ⟨g, cap, e⟩ := Go.Joins.ownsRow_form h.own (by omega)
  simp only [Value.slice.injEq] at e
  obtain ⟨rfl, _, rfl⟩ := e
  have hc : ∀ c, c < 6 → wr.cell? ⟨g, j * 6 + c, none⟩ = some (.int .i64 (R6.l (K, S, P, A, T, N) |>.getD c 0)) := fun c hc => by
    rw [h.own.cellAt (j * 6 + c) (by omega), rowsC_get rs j c hj hc, hr]
  exact ⟨g, rfl, (h.own.lt g rfl).2, hc 0 (by omega), hc 1 (by omega), hc 2 (by omega), hc 3 (by omega), hc 4 (by omega), hc 5 (by omega)⟩
theorem Rw.mayAt {w v rs wr} (h : Rw w v rs wr) (j : Nat) (hj : j < rs.length) {K S P A T N : Int} (hr : rs.getD j (0, 0, 0, 0, 0, 0) = (K, S, P, A, T, N)) : mayB K S P A T N = true := by
  have hm : rs.getD j (0, 0, 0, 0, 0, 0) ∈ rs := by simp [List.getD_eq_getElem?_getD, hj]
  have := h.may _ hm
  rw [hr] at this
  exact this
end Go.Proofs.Ytdapoonojhfkkaa
