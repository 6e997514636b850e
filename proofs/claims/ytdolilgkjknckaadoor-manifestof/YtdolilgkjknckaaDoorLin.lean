/-
  A manifest in memory (Mf), a text cut at its first byte 10 (strings.Cut 32), and what stands behind a line's first word (countBehind 55, digestBehind 56). No condition.
-/
import Derived.Test.YtdolilgkjknckaaDoorChk
import Derived.Test.YtdolilgkjknckaaDoorDig
import Derived.Test.YtdolilgkjknckaaDoorDigits
import Derived.OwnWalk
namespace Go.Proofs.YtdolilgkjknckaaDoor
open Go Go.RowKit
set_option maxRecDepth 100000
/-- block g is a manifest -/
def Mf (w : World) (g : Nat) (v l : Int) (d : ByteArray) : Prop := w.heap[g]? = some (.cells #[.int .i64 v, .int .i64 l, .string d] 23 (0, 0))
theorem Mf.lt {w : World} {g v l d} (h : Mf w g v l d) : g < w.heap.size := (Array.getElem?_eq_some_iff.1 h).1
theorem Mf.c0 {w : World} {g v l d} (h : Mf w g v l d) : w.cell? ⟨g, 0, none⟩ = some (.int .i64 v) := by rw [cell_of_row w g 0 _ 23 _ h]; rfl
theorem Mf.c1 {w : World} {g v l d} (h : Mf w g v l d) : w.cell? ⟨g, 1, none⟩ = some (.int .i64 l) := by rw [cell_of_row w g 1 _ 23 _ h]; rfl
theorem Mf.c2 {w : World} {g v l d} (h : Mf w g v l d) : w.cell? ⟨g, 2, none⟩ = some (.string d) := by rw [cell_of_row w g 2 _ 23 _ h]; rfl
theorem Mf.frozen {w : World} {g v l d} (h : Mf w g v l d) (j : Nat) : w.frozen? ⟨g, j, none⟩ = false := frozen_of_row w g j _ 23 h
theorem Mf.drew {w : World} {g v l d} (h : Mf w g v l d) : Mf w.drew g v l d := h
theorem Mf.drewN {w : World} {g v l d} (h : Mf w g v l d) (n : Nat) : Mf (w.drewN n) g v l d := h
theorem Mf.call {w w' : World} {g v l d} (h : Mf w g v l d) (b : Below w.heap.size w w') : Mf w' g v l d := (b.block g h.lt).trans h
theorem Mf.alloc {w : World} {g v l d} (h : Mf w g v l d) (o : Obj) : Mf (w.alloc o) g v l d := (Below.heap_alloc w o g h.lt).trans h
theorem Mf.kept {w w' : World} {g g0 v l d} (h : Mf w g v l d) (b : w.grownBy w' (some g0)) (hne : g ≠ g0) : Mf w' g v l d := (b.block g h.lt (by simpa using hne)).trans h
theorem Mf.set0 {w : World} {g v l d} (h : Mf w g v l d) (x : Int) : Mf (w.setCell ⟨g, 0, none⟩ (.int .i64 x)) g x l d := by
  have := heap_setCell_same w g 0 _ 23 (.int .i64 x) h
  exact this
theorem Mf.set1 {w : World} {g v l d} (h : Mf w g v l d) (x : Int) : Mf (w.setCell ⟨g, 1, none⟩ (.int .i64 x)) g v x d := by
  have := heap_setCell_same w g 1 _ 23 (.int .i64 x) h
  exact this
theorem Mf.set2 {w : World} {g v l d} (h : Mf w g v l d) (x : ByteArray) : Mf (w.setCell ⟨g, 2, none⟩ (.string x)) g v l x := by
  have := heap_setCell_same w g 2 _ 23 (.string x) h
  exact this
theorem Mf.fresh (w : World) (v l : Int) (d : ByteArray) : Mf (w.alloc (.cells #[.int .i64 v, .int .i64 l, .string d] 23)) w.heap.size v l d := heap_alloc_new w _

/-- a byte 10 -/
abbrev nl : ByteArray := ⟨#[10]⟩
theorem indexByte_at (A B : List UInt8) (h : ∀ b ∈ A, b ≠ 10) : Lib.indexByte (A ++ 10 :: B) 10 = A.length := by
  induction A with
  | nil => rfl
  | cons x t ih =>
    have hx := h x (List.mem_cons_self)
    have e := ih (fun b hb => h b (List.mem_cons_of_mem _ hb))
    rw [List.cons_append, Lib.indexByte, if_neg (by simpa using hx), e, if_neg (by simp), List.length_cons]
    omega
theorem x_left (A B : ByteArray) : (A ++ nl ++ B).extract 0 A.size = A := by
  rw [ByteArray.append_assoc, ByteArray.extract_append_eq_left rfl]
theorem size3 (A B : ByteArray) : (A ++ nl ++ B).size = A.size + 1 + B.size := by
  rw [ByteArray.size_append, ByteArray.size_append]
  rfl
theorem x_right (A B : ByteArray) : (A ++ nl ++ B).extract (A.size + 1) (A ++ nl ++ B).size = B := by
  rw [size3]
  have e : (A ++ nl).size = A.size + 1 := by rw [ByteArray.size_append]; rfl
  rw [← e, ← ByteArray.size_append]
  exact ByteArray.extract_append_eq_right rfl (by rw [ByteArray.size_append])
theorem scut_any (A B : ByteArray) (hA : ∀ b ∈ A.data.toList, b ≠ 10) (hs : (A ++ nl ++ B).size ≤ 1000000) (w : World) :
    Calls Tryd.prog 54 #[.string (A ++ nl ++ B), .string nl] w fun e w' => e = .returned (.tuple #[.string A, .string B, .bool true]) ∧ ∃ n, w' = w.drewN n := by
  have e1 := x_left A B
  have e2 := x_right A B
  have e3 := size3 A B
  rw [e3] at e2
  have hi : Lib.indexByte (A ++ nl ++ B).data.toList 10 = (A.size : Int) := by
    rw [ByteArray.data_append, ByteArray.data_append, Array.toList_append, Array.toList_append, List.append_assoc]
    have h := indexByte_at A.data.toList B.data.toList hA
    have hz : A.data.toList.length = A.size := Array.length_toList
    rw [hz] at h
    exact h
  have c : ∀ w, Calls Tryd.prog 71 #[.string (A ++ nl ++ B), .string nl] w fun e w' => e = .returned (.int .i64 (A.size : Int)) ∧ w' = w := fun w => by
    rw [← hi]
    exact sl_stringslite_Index_one (A ++ nl ++ B) 10 w
  have hnl : nl.size = 1 := rfl
  clear hi hA
  generalize hS : A ++ nl ++ B = S at *
  generalize hN : nl = N at *
  have HN := Hid.mk hN
  clear hN hS
  go_enter Tryd.func54, Tryd.ntmps54
  go_wp2_with (go_at_call 71; refine (c _).mono ?_; rintro e w' ⟨rfl, rfl⟩)
  go_region
  go_wp2_with fail
  go_ret3
  exact ⟨rfl, _, rfl⟩
theorem cut_any (A B : ByteArray) (hA : ∀ b ∈ A.data.toList, b ≠ 10) (hs : (A ++ nl ++ B).size ≤ 1000000) (w : World) :
    Calls Tryd.prog 32 #[.string (A ++ nl ++ B), .string nl] w fun e w' => e = .returned (.tuple #[.string A, .string B, .bool true]) ∧ ∃ n, w' = w.drewN n := by
  have c := scut_any A B hA hs
  clear hA hs
  generalize A ++ nl ++ B = S at *
  generalize nl = N at *
  go_enter Tryd.func32, Tryd.ntmps32
  go_wp2_with (go_at_call 54; refine (c _).mono ?_; rintro e w' ⟨rfl, n, rfl⟩)
  go_ret3
  exact ⟨rfl, _, rfl⟩

theorem trim_front (F X : ByteArray) : (⟨(Lib.trimPrefix (F ++ X).data.toList F.data.toList).toArray⟩ : ByteArray) = X ∧ Lib.hasPrefix (F ++ X).data.toList F.data.toList = true := by
  have hp : Lib.hasPrefix (F ++ X).data.toList F.data.toList = true := by
    unfold Lib.hasPrefix
    rw [ByteArray.data_append, Array.toList_append, List.isPrefixOf_iff_prefix]
    exact List.prefix_append _ _
  refine ⟨?_, hp⟩
  unfold Lib.trimPrefix
  rw [if_pos hp, ByteArray.data_append, Array.toList_append, List.drop_left]
theorem front_any (F X : ByteArray) (w : World) :
    Calls Tryd.prog 72 #[.string (F ++ X), .string F] w fun e w' => e = .returned (.tuple #[.string X, .bool true]) ∧ w' = w := by
  have c := sl_strings_CutPrefix (F ++ X) F w
  rw [(trim_front F X).1, (trim_front F X).2] at c
  exact c
theorem countBehind_any (F X : ByteArray) (n : Int) (h : cntV X.data.toList = (n, true)) (w : World) :
    Calls Tryd.prog 55 #[.string F, .string (F ++ X)] w fun e w' => e = .returned (.int .i64 n) ∧ Below w.heap.size w w' := by
  have c := front_any F X
  have c2 := count_walk X
  rw [h] at c2
  generalize F ++ X = S at *
  clear h
  go_enter Tryd.func55, Tryd.ntmps55
  go_wp2_with (first
    | (go_at_call 72; refine (c _).mono ?_; rintro e w' ⟨rfl, rfl⟩)
    | (go_at_call 27; refine (c2 _).mono ?_; rintro e w1 ⟨rfl, b1⟩))
  go_ret
  exact ⟨rfl, b1⟩
theorem digestBehind_any (F X d : ByteArray) (h : Sh.unhex X.data.toList = (d.data.toList, 0)) (hs : X.size ≤ 1000) (w : World) :
    Calls Tryd.prog 56 #[.string F, .string (F ++ X)] w fun e w' => e = .returned (.string d) ∧ Below w.heap.size w w' := by
  have c := front_any F X
  have c2 := Sh.bytes_any X hs
  rw [h] at c2
  have e : (⟨d.data.toList.toArray⟩ : ByteArray) = d := by cases d; simp
  simp only [e] at c2
  generalize F ++ X = S at *
  clear h e hs
  go_enter Tryd.func56, Tryd.ntmps56
  go_wp2_with (first
    | (go_at_call 72; refine (c _).mono ?_; rintro e w' ⟨rfl, rfl⟩)
    | (go_at_call 73; refine (c2 _).mono ?_; rintro e w1 ⟨rfl, b1⟩))
  go_ret
  exact ⟨rfl, b1⟩
end Go.Proofs.YtdolilgkjknckaaDoor
