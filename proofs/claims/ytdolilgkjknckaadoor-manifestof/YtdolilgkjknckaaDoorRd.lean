/-
  The reader's block, and the calls that read and write it: Err, Left, End, fail, Bytes, New. No condition.
-/
import Derived.Test.YtdolilgkjknckaaDoorRows
import Derived.Test.YtdolilgkjknckaaDoorMem
import Derived.WalkSpells
import Derived.WalkLawsBesides
import Derived.Laws.BitsAllLaws
namespace Go.Proofs.YtdolilgkjknckaaDoor
open Go Go.RowKit

theorem Hid.mk {p : Prop} (h : p) : Hid p := h
/-- block g is a reader of these bytes, with this error -/
def Rd (w : World) (g : Nat) (s : ByteArray) (e : Int) : Prop := w.heap[g]? = some (.cells #[.string s, .int .i64 e] 70 (0, 0))
theorem Rd.lt {w : World} {g s e} (h : Rd w g s e) : g < w.heap.size := (Array.getElem?_eq_some_iff.1 h).1
theorem Rd.rest {w : World} {g s e} (h : Rd w g s e) : w.cell? ⟨g, 0, none⟩ = some (.string s) := by rw [cell_of_row w g 0 _ 70 _ h]; rfl
theorem Rd.err {w : World} {g s e} (h : Rd w g s e) : w.cell? ⟨g, 1, none⟩ = some (.int .i64 e) := by rw [cell_of_row w g 1 _ 70 _ h]; rfl
theorem Rd.frozen {w : World} {g s e} (h : Rd w g s e) (j : Nat) : w.frozen? ⟨g, j, none⟩ = false := frozen_of_row w g j _ 70 h
theorem Rd.drew {w : World} {g s e} (h : Rd w g s e) : Rd w.drew g s e := h
theorem Rd.drewN {w : World} {g s e} (h : Rd w g s e) (n : Nat) : Rd (w.drewN n) g s e := h
theorem Rd.call {w w' : World} {g s e} (h : Rd w g s e) (b : Below w.heap.size w w') : Rd w' g s e := (b.block g h.lt).trans h
theorem Rd.alloc {w : World} {g s e} (h : Rd w g s e) (o : Obj) : Rd (w.alloc o) g s e := (Below.heap_alloc w o g h.lt).trans h
theorem Rd.kept {w w' : World} {g g0 s e} (h : Rd w g s e) (b : w.grownBy w' (some g0)) (hne : g ≠ g0) : Rd w' g s e := (b.block g h.lt (by simpa using hne)).trans h
theorem Rd.setRest {w : World} {g s e} (h : Rd w g s e) (t : ByteArray) : Rd (w.setCell ⟨g, 0, none⟩ (.string t)) g t e := by
  have := heap_setCell_same w g 0 _ 70 (.string t) h
  exact this
theorem Rd.setErr {w : World} {g s e} (h : Rd w g s e) (k : Int) : Rd (w.setCell ⟨g, 1, none⟩ (.int .i64 k)) g s k := by
  have := heap_setCell_same w g 1 _ 70 (.int .i64 k) h
  exact this
theorem grown_setCell (w : World) (a : Addr) (u : Value) : w.grownBy (w.setCell a u) (some a.block) :=
  ⟨rfl, rfl, rfl, by simp [World.setCell], fun b _ hne => Below.heap_setCell w a u b (fun e => hne (by rw [e]))⟩
theorem grown_refl (w : World) (g : Option Nat) : w.grownBy w g := ⟨rfl, rfl, rfl, Nat.le_refl _, fun _ _ _ => rfl⟩
theorem grown_trans {a b c : World} {g : Option Nat} (h : a.grownBy b g) (k : b.grownBy c g) : a.grownBy c g :=
  ⟨k.os.trans h.os, k.tape.trans h.tape, k.output.trans h.output, Nat.le_trans h.size k.size, fun i hi hne => (k.block i (Nat.lt_of_lt_of_le hi h.size) hne).trans (h.block i hi hne)⟩
theorem grown_below {a b c : World} {g : Option Nat} (h : a.grownBy b g) (k : Below b.heap.size b c) : a.grownBy c g :=
  ⟨k.os.trans h.os, k.tape.trans h.tape, k.output.trans h.output, Nat.le_trans h.size k.size, fun i hi hne => (k.block i (Nat.lt_of_lt_of_le hi h.size)).trans (h.block i hi hne)⟩
theorem grown_alloc {a b : World} {g : Option Nat} (h : a.grownBy b g) (o : Obj) : a.grownBy (b.alloc o) g :=
  grown_below h ((Below.refl b.heap.size b).alloc (Nat.le_refl _) o)
theorem grown_drewN {a b : World} {g : Option Nat} (h : a.grownBy b g) (n : Nat) : a.grownBy (b.drewN n) g :=
  ⟨h.os, h.tape, h.output, h.size, h.block⟩

/-- how many bytes a fixed number has -/
def wid (n : Int) : Int := if n < 0 then 0 else if 8 < n then 8 else n
theorem wid_le (n : Int) : 0 ≤ wid n ∧ wid n ≤ 8 := by unfold wid; split <;> (try split) <;> omega
theorem width_any (n : Int) (w : World) : Calls Tryd.prog 78 #[.int .i64 n] w fun e w' => e = .returned (.int .i64 (wid n)) ∧ w' = w := by
  unfold wid
  by_cases h : n < 0
  · rw [if_pos h]
    go_enter Tryd.func78, Tryd.ntmps78
    go_wp2
    go_ret
    exact ⟨rfl, rfl⟩
  · rw [if_neg h]
    by_cases h8 : 8 < n
    · rw [if_pos h8]
      go_enter Tryd.func78, Tryd.ntmps78
      go_wp2
      go_ret
      exact ⟨rfl, rfl⟩
    · rw [if_neg h8]
      go_enter Tryd.func78, Tryd.ntmps78
      go_wp2
      go_ret
      exact ⟨rfl, rfl⟩

theorem err_any {w : World} {g s e} (h : Rd w g s e) : Calls Tryd.prog 26 #[.pointer (some ⟨g, 0, none⟩)] w fun x w' => x = .returned (.int .i64 e) ∧ w' = w := by
  have c1 := h.err
  have HH := Hid.mk h
  clear h
  go_enter Tryd.func26, Tryd.ntmps26
  go_wp2
  go_ret
  exact ⟨rfl, rfl⟩
theorem left_any {w : World} {g s e} (h : Rd w g s e) : Calls Tryd.prog 52 #[.pointer (some ⟨g, 0, none⟩)] w fun x w' => x = .returned (.int .i64 s.size) ∧ w' = w := by
  have c1 := h.rest
  have HH := Hid.mk h
  clear h
  go_enter Tryd.func52, Tryd.ntmps52
  go_wp2
  go_ret
  exact ⟨rfl, rfl⟩
theorem fail_any {w : World} {g s e} (h : Rd w g s e) (k : Int) : Calls Tryd.prog 68 #[.pointer (some ⟨g, 0, none⟩), .int .i64 k] w fun x w' => x = .returned (.tuple #[]) ∧ Rd w' g ⟨#[]⟩ k ∧ w.grownBy w' (some g) := by
  have c0 := h.rest
  have c1 := h.err
  have f0 := h.frozen 0
  have f1 := h.frozen 1
  have HH := Hid.mk h
  clear h
  go_enter Tryd.func68, Tryd.ntmps68
  go_wp2
  go_end0
  exact ⟨rfl, (HH.out.setRest _).setErr _, grown_trans (grown_setCell w ⟨g, 0, none⟩ _) (grown_setCell _ ⟨g, 1, none⟩ _)⟩
theorem new_any (s : ByteArray) (w : World) : Calls Tryd.prog 20 #[.string s] w fun x w' => x = .returned (.pointer (some ⟨w.heap.size, 0, none⟩)) ∧ Rd w' w.heap.size s 0 ∧ Below w.heap.size w w' := by
  go_enter Tryd.func20, Tryd.ntmps20
  go_wp2
  go_ret
  exact ⟨rfl, heap_alloc_new w _, (Below.refl w.heap.size w).alloc (Nat.le_refl _) _⟩
/-- so many bytes off a reader: what is left, the error, what was taken -/
def rB (s : ByteArray) (e n : Int) : ByteArray × Int × ByteArray :=
  if e ≠ 0 then (s, e, ⟨#[]⟩) else if n < 0 ∨ (s.size : Int) < n then (⟨#[]⟩, 2, ⟨#[]⟩) else (s.extract n.toNat s.size, 0, s.extract 0 n.toNat)
theorem bytes_any {w : World} {g s e} (h : Rd w g s e) (n : Int) : Calls Tryd.prog 48 #[.pointer (some ⟨g, 0, none⟩), .int .i64 n] w fun x w' =>
    x = .returned (.string (rB s e n).2.2) ∧ Rd w' g (rB s e n).1 (rB s e n).2.1 ∧ w.grownBy w' (some g) := by
  have c0 := h.rest
  have f0 := h.frozen 0
  have HH := Hid.mk h
  clear h
  by_cases he : e = 0
  · subst he
    by_cases hn : n < 0
    · have er : rB s 0 n = (⟨#[]⟩, 2, ⟨#[]⟩) := by unfold rB; rw [if_neg (by decide), if_pos (Or.inl hn)]
      rw [er]
      clear er
      go_enter Tryd.func48, Tryd.ntmps48
      go_wp2_with (first
        | (go_at_call 26; refine (err_any HH.out).mono ?_; rintro x w' ⟨rfl, rfl⟩)
        | (go_at_call 68; refine (fail_any HH.out _).mono ?_; rintro x w1 ⟨rfl, r1, g1⟩; replace HH := Hid.mk r1; clear r1))
      go_ret
      exact ⟨rfl, HH.out, g1⟩
    · by_cases hs : (s.size : Int) < n
      · have er : rB s 0 n = (⟨#[]⟩, 2, ⟨#[]⟩) := by unfold rB; rw [if_neg (by decide), if_pos (Or.inr hs)]
        rw [er]
        clear er
        go_enter Tryd.func48, Tryd.ntmps48
        go_wp2_with (first
          | (go_at_call 26; refine (err_any HH.out).mono ?_; rintro x w' ⟨rfl, rfl⟩)
          | (go_at_call 68; refine (fail_any HH.out _).mono ?_; rintro x w1 ⟨rfl, r1, g1⟩; replace HH := Hid.mk r1; clear r1))
        go_ret
        exact ⟨rfl, HH.out, g1⟩
      · have er : rB s 0 n = (s.extract n.toNat s.size, 0, s.extract 0 n.toNat) := by unfold rB; rw [if_neg (by decide), if_neg (by omega)]
        rw [er]
        clear er
        go_enter Tryd.func48, Tryd.ntmps48
        go_wp2_with (go_at_call 26; refine (err_any HH.out).mono ?_; rintro x w' ⟨rfl, rfl⟩)
        go_ret
        exact ⟨rfl, HH.out.setRest _, grown_setCell _ ⟨g, 0, none⟩ _⟩
  · have er : rB s e n = (s, e, ⟨#[]⟩) := by unfold rB; rw [if_pos he]
    rw [er]
    clear er
    go_enter Tryd.func48, Tryd.ntmps48
    go_wp2_with (go_at_call 26; refine (err_any HH.out).mono ?_; rintro x w' ⟨rfl, rfl⟩)
    go_ret
    exact ⟨rfl, HH.out, grown_refl _ _⟩
/-- what End answers -/
def rE (s : ByteArray) (e : Int) : Int := if 0 < s.size then 4 else e
theorem end_any {w : World} {g s e} (h : Rd w g s e) : Calls Tryd.prog 25 #[.pointer (some ⟨g, 0, none⟩)] w fun x w' => x = .returned (.int .i64 (rE s e)) ∧ w' = w := by
  have HH := Hid.mk h
  clear h
  unfold rE
  by_cases hs : 0 < s.size
  · rw [if_pos hs]
    go_enter Tryd.func25, Tryd.ntmps25
    go_wp2_with (go_at_call 52; refine (left_any HH.out).mono ?_; rintro x w' ⟨rfl, rfl⟩)
    go_ret
    exact ⟨rfl, rfl⟩
  · rw [if_neg hs]
    go_enter Tryd.func25, Tryd.ntmps25
    go_wp2_with (first
      | (go_at_call 52; refine (left_any HH.out).mono ?_; rintro x w' ⟨rfl, rfl⟩)
      | (go_at_call 26; refine (err_any HH.out).mono ?_; rintro x w' ⟨rfl, rfl⟩))
    go_ret
    exact ⟨rfl, rfl⟩

/- no reader -/
theorem err_nil (w : World) : Calls Tryd.prog 26 #[.pointer none] w fun x w' => x = .returned (.int .i64 1) ∧ w' = w := by
  go_enter Tryd.func26, Tryd.ntmps26
  go_wp2
  go_ret
  exact ⟨rfl, rfl⟩
theorem left_nil (w : World) : Calls Tryd.prog 52 #[.pointer none] w fun x w' => x = .returned (.int .i64 0) ∧ w' = w := by
  go_enter Tryd.func52, Tryd.ntmps52
  go_wp2
  go_ret
  exact ⟨rfl, rfl⟩
theorem end_nil (w : World) : Calls Tryd.prog 25 #[.pointer none] w fun x w' => x = .returned (.int .i64 1) ∧ w' = w := by
  go_enter Tryd.func25, Tryd.ntmps25
  go_wp2_with (first
    | (go_at_call 52; refine (left_nil _).mono ?_; rintro x w' ⟨rfl, rfl⟩)
    | (go_at_call 26; refine (err_nil _).mono ?_; rintro x w' ⟨rfl, rfl⟩))
  go_ret
  exact ⟨rfl, rfl⟩
theorem bytes_nil (n : Int) (w : World) : Calls Tryd.prog 48 #[.pointer none, .int .i64 n] w fun x w' => x = .returned (.string ⟨#[]⟩) ∧ w' = w := by
  go_enter Tryd.func48, Tryd.ntmps48
  go_wp2_with (go_at_call 26; refine (err_nil _).mono ?_; rintro x w' ⟨rfl, rfl⟩)
  go_ret
  exact ⟨rfl, rfl⟩
end Go.Proofs.YtdolilgkjknckaaDoor
