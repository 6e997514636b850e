/-
  Records packed into texts, and taken off them again, said plainly; how many texts that makes. No condition.
-/
import Derived.Test.YtdapoonojhfkkaaRw
import Derived.Lib.AppendStr
namespace Go.Proofs.Ytdapoonojhfkkaa
open Go Go.RowKit

theorem nb_small {n k : Nat} (h : n < 256 ^ k) : nb n ≤ k := by
  by_cases h0 : n = 0
  · subst h0
    rw [nb_zero]
    exact Nat.zero_le _
  · have h1 := nb_ge n h0
    have h2 := nb_pos n h0
    by_cases q : nb n ≤ k
    · exact q
    · exact absurd (Nat.lt_of_lt_of_le h (Nat.pow_le_pow_right (by omega) (by omega : k ≤ nb n - 1))) (by omega)
theorem numB_le {n : Nat} (k : Nat) (h : n < 256 ^ k) : (numB n).size ≤ k + 1 := by
  show (numL n).toArray.size ≤ k + 1
  rw [List.size_toArray, numL_length]
  have := nb_small h
  omega
theorem numB_1 {x : Int} (h : 0 ≤ x ∧ x ≤ 255) : (numB x.toNat).size ≤ 2 := numB_le 1 (by omega)
theorem numB_2 {x : Int} (h : 0 ≤ x ∧ x ≤ 65535) : (numB x.toNat).size ≤ 3 := numB_le 2 (by omega)
theorem numB_4 {x : Int} (h : 0 ≤ x ∧ x ≤ 4294967295) : (numB x.toNat).size ≤ 5 := numB_le 4 (by omega)
/-- how long a record is -/
theorem put6_le (r : R6) (h : r.may = true) : 1 ≤ r.put.size ∧ r.put.size ≤ 9 := by
  obtain ⟨K, S, P, A, T, N⟩ := r
  have hm : mayR K S P A T N := mayB_iff.1 h
  have h0 : ∀ b : UInt8, (⟨#[b]⟩ : ByteArray).size = 1 := fun _ => rfl
  have h00 : (⟨#[]⟩ : ByteArray).size = 0 := rfl
  show 1 ≤ (putB K [K, S, P, A, T, N]).size ∧ (putB K [K, S, P, A, T, N]).size ≤ 9
  unfold putB
  rw [ByteArray.size_append, h0]
  refine ⟨by omega, ?_⟩
  rcases hm with h | h | h | h | h | h | h | h | h
  · obtain ⟨rfl, h⟩ := h
    have a1 := numB_1 (x := S) (by omega)
    have a2 := numB_2 (x := P) (by omega)
    have a3 := numB_2 (x := A) (by omega)
    show 1 + (numB S.toNat ++ (numB P.toNat ++ (numB A.toNat ++ ⟨#[]⟩))).size ≤ 9
    rw [ByteArray.size_append, ByteArray.size_append, ByteArray.size_append, h00]
    omega
  · obtain ⟨rfl, h⟩ := h
    have a1 := numB_1 (x := S) (by omega)
    have a2 := numB_2 (x := P) (by omega)
    show 1 + (numB S.toNat ++ (numB P.toNat ++ ⟨#[]⟩)).size ≤ 9
    rw [ByteArray.size_append, ByteArray.size_append, h00]
    omega
  · obtain ⟨rfl, h⟩ := h
    have a1 := numB_2 (x := A) (by omega)
    have a2 := numB_2 (x := T) (by omega)
    show 1 + (numB A.toNat ++ (numB T.toNat ++ ⟨#[]⟩)).size ≤ 9
    rw [ByteArray.size_append, ByteArray.size_append, h00]
    omega
  · obtain ⟨rfl, h⟩ := h
    have a1 := numB_1 (x := S) (by omega)
    have a2 := numB_2 (x := N) (by omega)
    show 1 + (numB S.toNat ++ (numB N.toNat ++ ⟨#[]⟩)).size ≤ 9
    rw [ByteArray.size_append, ByteArray.size_append, h00]
    omega
  · obtain ⟨rfl, h⟩ := h
    have a1 := numB_1 (x := S) (by omega)
    show 1 + (numB S.toNat ++ ⟨#[]⟩).size ≤ 9
    rw [ByteArray.size_append, h00]
    omega
  · obtain ⟨rfl, h⟩ := h
    have a1 := numB_1 (x := S) (by omega)
    have a2 := numB_2 (x := T) (by omega)
    show 1 + (numB S.toNat ++ (numB T.toNat ++ ⟨#[]⟩)).size ≤ 9
    rw [ByteArray.size_append, ByteArray.size_append, h00]
    omega
  · obtain ⟨rfl, h⟩ := h
    have a1 := numB_1 (x := S) (by omega)
    show 1 + (numB S.toNat ++ ⟨#[]⟩).size ≤ 9
    rw [ByteArray.size_append, h00]
    omega
  · obtain ⟨rfl, h⟩ := h
    have a1 := numB_1 (x := A) (by omega)
    show 1 + (numB A.toNat ++ ⟨#[]⟩).size ≤ 9
    rw [ByteArray.size_append, h00]
    omega
  · obtain ⟨rfl, h⟩ := h
    have a1 := numB_1 (x := A) (by omega)
    have a2 := numB_4 (x := N) (by omega)
    show 1 + (numB A.toNat ++ (numB N.toNat ++ ⟨#[]⟩)).size ≤ 9
    rw [ByteArray.size_append, ByteArray.size_append, h00]
    omega

/-- records' bytes laid into texts of so many bytes, behind these texts and that one -/
def packGo (n : Int) : List ByteArray → List ByteArray → ByteArray → List ByteArray
  | [], ts, t => ts ++ [t]
  | s :: l, ts, t => if 0 < t.size ∧ n < (t.size + s.size : Nat) then packGo n l (ts ++ [t]) s else packGo n l ts (t ++ s)
/-- how many bytes there are in all -/
def sumS : List ByteArray → Nat
  | [] => 0
  | s :: l => s.size + sumS l
theorem sumS_snoc (l : List ByteArray) (s : ByteArray) : sumS (l ++ [s]) = sumS l + s.size := by
  induction l with
  | nil => simp [sumS]
  | cons a l ih => rw [List.cons_append, sumS, ih, sumS]; omega
theorem sumS_le (l : List ByteArray) (h : ∀ s ∈ l, s.size ≤ 9) : sumS l ≤ 9 * l.length := by
  induction l with
  | nil => simp [sumS]
  | cons a l ih =>
    rw [sumS, List.length_cons]
    have h1 := h a (by simp)
    have h2 := ih (fun s hs => h s (List.mem_cons_of_mem _ hs))
    omega
theorem packGo_len (n : Int) (l ts : List ByteArray) (t : ByteArray) : ts.length + 1 ≤ (packGo n l ts t).length ∧ (packGo n l ts t).length ≤ ts.length + l.length + 1 := by
  induction l generalizing ts t with
  | nil => rw [packGo]; simp
  | cons s l ih =>
    rw [packGo]
    split
    · have := ih (ts ++ [t]) s
      simp only [List.length_append, List.length_cons, List.length_nil] at this ⊢
      omega
    · have := ih ts (t ++ s)
      simp only [List.length_cons] at this ⊢
      omega
theorem packGo_most (n : Int) (l ts : List ByteArray) (t : ByteArray) (A : Int) (h9 : ∀ s ∈ l, s.size ≤ 9) (hA : (ts.length : Int) * (n - 10) + t.size ≤ A) :
    (((packGo n l ts t).length : Int) - 1) * (n - 10) ≤ A + sumS l := by
  induction l generalizing ts t A with
  | nil =>
    rw [packGo, List.length_append, List.length_singleton, sumS]
    have e : (((ts.length + 1 : Nat) : Int) - 1) = (ts.length : Int) := by omega
    rw [e]
    omega
  | cons s l ih =>
    have h1 := h9 s (by simp)
    have h2 : ∀ s ∈ l, s.size ≤ 9 := fun s hs => h9 s (List.mem_cons_of_mem _ hs)
    rw [packGo, sumS]
    split
    · rename_i hc
      have hA2 : ((ts ++ [t]).length : Int) * (n - 10) + s.size ≤ A + s.size := by
        have e : ((ts ++ [t]).length : Int) = (ts.length : Int) + 1 := by simp
        rw [e, Int.add_mul]
        omega
      have := ih (ts ++ [t]) s (A + s.size) h2 hA2
      omega
    · have hA2 : (ts.length : Int) * (n - 10) + (t ++ s).size ≤ A + s.size := by
        rw [ByteArray.size_append]
        omega
      have := ih ts (t ++ s) (A + s.size) h2 hA2
      omega

/-- six numbers of a list -/
def r6 (l : List Int) : R6 := (l.getD 0 0, l.getD 1 0, l.getD 2 0, l.getD 3 0, l.getD 4 0, l.getD 5 0)
/-- the records of a text behind these, and the error -/
def unG : Nat → ByteArray → List R6 → List R6 × Int
  | 0, _, acc => (acc, 0)
  | n + 1, s, acc => if s.size = 0 then (acc, 0) else if tkE s 0 = 0 then unG n (tkQ s 0).1 (acc ++ [r6 (tkR s 0)]) else (acc, tkE s 0)
/-- the records of texts behind these, up to the first error -/
def unT : List ByteArray → List R6 → List R6 × Int
  | [], acc => (acc, 0)
  | t :: ts, acc => if (unG 100 t acc).2 = 0 then unT ts (unG 100 t acc).1 else unG 100 t acc
theorem unG_empty (n : Nat) {s : ByteArray} (h : s.size = 0) (acc : List R6) : unG n s acc = (acc, 0) := by
  cases n with
  | zero => rfl
  | succ n => rw [unG, if_pos h]
theorem unT_snoc (ts : List ByteArray) (t : ByteArray) (acc : List R6) : unT (ts ++ [t]) acc = if (unT ts acc).2 = 0 then unG 100 t (unT ts acc).1 else unT ts acc := by
  induction ts generalizing acc with
  | nil =>
    show (if (unG 100 t acc).2 = 0 then unT [] (unG 100 t acc).1 else unG 100 t acc) = if (0 : Int) = 0 then unG 100 t acc else _
    rw [if_pos rfl]
    split
    · rename_i h
      show ((unG 100 t acc).1, (0 : Int)) = _
      rw [← h]
    · rfl
  | cons a ts ih =>
    rw [List.cons_append, unT, unT]
    split
    · exact ih _
    · rfl
theorem unG_len (n : Nat) (s : ByteArray) (acc : List R6) : (unG n s acc).1.length ≤ acc.length + n := by
  induction n generalizing s acc with
  | zero => exact Nat.le_refl _
  | succ n ih =>
    rw [unG]
    split
    · show acc.length ≤ _; omega
    · split
      · have := ih (tkQ s 0).1 (acc ++ [r6 (tkR s 0)])
        rw [List.length_append, List.length_singleton] at this
        omega
      · show acc.length ≤ _; omega
/-- what is taken off a text: the record, and what both sides leave -/
structure Tk (s : ByteArray) (E : Int) (x0 x1 x2 x3 x4 x5 : Int) (Q : ByteArray) (e : Int) (A : ByteArray) : Prop where
  take : ∀ w g, Rd w g s 0 → Calls Try.prog 18 #[.pointer (some ⟨g, 0, none⟩)] w fun x w' => x = .returned (.tuple #[rv x0 x1 x2 x3 x4 x5, .int .i64 E]) ∧ Rd w' g Q e ∧ w.grownBy w' (some g)
  ref : ∀ w, Calls Try.prog 5 #[.agg #[.string s, .int .i64 0]] w fun x w' => x = .returned (.tuple #[.agg #[.string A, .int .i64 E], rv x0 x1 x2 x3 x4 x5]) ∧ Below w.heap.size w w'
  err : tkE s 0 = E
  row : E = 0 → r6 (tkR s 0) = (x0, x1, x2, x3, x4, x5) ∧ mayB x0 x1 x2 x3 x4 x5 = true
  left : E = 0 → Q = A ∧ (tkQ s 0).1 = A ∧ e = 0 ∧ A.size < s.size
theorem tk_any (s : ByteArray) : ∃ E x0 x1 x2 x3 x4 x5 Q e A, Tk s E x0 x1 x2 x3 x4 x5 Q e A := by
  have h6 : (tkR s 0).length = 6 := by
    unfold tkR
    split
    · exact laySet_len _ _ _
    · rfl
  obtain ⟨x0, x1, x2, x3, x4, x5, hx⟩ := six h6
  refine ⟨tkE s 0, x0, x1, x2, x3, x4, x5, (tkQ s 0).1, (tkQ s 0).2.1, (rtQ s 0).1, ⟨fun w g h => ?_, fun w => ?_, rfl, fun h => ?_, fun h => ?_⟩⟩
  · have q := take_any h
    rw [hx] at q
    exact q
  · have q := refTake_any s 0 w
    rw [rtL_same, rtQ_err, hx] at q
    exact q
  · refine ⟨by rw [hx]; rfl, ?_⟩
    obtain ⟨K, S, P, A, T, N, e1, e2, _⟩ := tk_back s h
    rw [hx] at e1
    obtain ⟨rfl, rfl, rfl, rfl, rfl, rfl⟩ : x0 = K ∧ x1 = S ∧ x2 = P ∧ x3 = A ∧ x4 = T ∧ x5 = N := by simpa using e1
    exact e2
  · refine ⟨(rtQ_left s 0 h).symm, (rtQ_left s 0 h).symm, (tkE_ok h).1, ?_⟩
    obtain ⟨K, S, P, A, T, N, e1, e2, e3⟩ := tk_back s h
    have h1 := (put6_le (K, S, P, A, T, N) e2).1
    have h2 : (R6.put (K, S, P, A, T, N) ++ (tkQ s 0).1).size = s.size := congrArg ByteArray.size e3
    rw [ByteArray.size_append] at h2
    rw [rtQ_left s 0 h]
    omega
theorem unG_ok {s : ByteArray} {E x0 x1 x2 x3 x4 x5 : Int} {Q e A} (h : Tk s E x0 x1 x2 x3 x4 x5 Q e A) (hE : E = 0) (n : Nat) (hs : 0 < s.size) (hn : s.size ≤ n + 1) (acc : List R6) : unG (n + 1) s acc = unG n A (acc ++ [(x0, x1, x2, x3, x4, x5)]) ∧ A.size ≤ n := by
  have h1 := h.left hE
  rw [unG, if_neg (by omega), if_pos (by rw [h.err]; exact hE), h1.2.1, (h.row hE).1]
  exact ⟨rfl, by omega⟩
theorem unG_bad {s : ByteArray} {E x0 x1 x2 x3 x4 x5 : Int} {Q e A} (h : Tk s E x0 x1 x2 x3 x4 x5 Q e A) (hE : E ≠ 0) (n : Nat) (hs : 0 < s.size) (acc : List R6) : unG (n + 1) s acc = (acc, E) := by
  rw [unG, if_neg (by omega), if_neg (by rw [h.err]; exact hE), h.err]
end Go.Proofs.Ytdapoonojhfkkaa
