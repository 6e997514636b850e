/-
  A manifest's lines (manifest.Text 11, the answer's Text 14), and that they are read again (tells 33, Parse 12). Condition: the library's table of powers of ten holds what it was laid with (Tb).
-/
import Derived.Test.YtdolilgkjknckaaDoorLin
namespace Go.Proofs.YtdolilgkjknckaaDoor
open Go Go.RowKit
set_option maxRecDepth 100000
def titleB : ByteArray := ⟨#[116, 105, 110, 100, 101, 114, 98, 111, 120, 32, 105, 109, 97, 103, 101]⟩
def verB : ByteArray := ⟨#[118, 101, 114, 115, 105, 111, 110, 32]⟩
def lenB : ByteArray := ⟨#[108, 101, 110, 103, 116, 104, 32]⟩
def digB : ByteArray := ⟨#[100, 105, 103, 101, 115, 116, 32]⟩
def hexB (d : ByteArray) : ByteArray := ⟨(Sh.hexL d.data.toList).toArray⟩
/-- line k of a manifest -/
def lineN (v l : Int) (d : ByteArray) : Nat → ByteArray
  | 1 => titleB
  | 2 => verB ++ decB v
  | 3 => lenB ++ decB l
  | _ => digB ++ hexB d
/-- what stands from line k on -/
def restN (v l : Int) (d : ByteArray) : Nat → ByteArray
  | 1 => titleB ++ nl ++ (verB ++ decB v ++ nl ++ (lenB ++ decB l ++ nl ++ (digB ++ hexB d ++ nl ++ ⟨#[]⟩)))
  | 2 => verB ++ decB v ++ nl ++ (lenB ++ decB l ++ nl ++ (digB ++ hexB d ++ nl ++ ⟨#[]⟩))
  | 3 => lenB ++ decB l ++ nl ++ (digB ++ hexB d ++ nl ++ ⟨#[]⟩)
  | 4 => digB ++ hexB d ++ nl ++ ⟨#[]⟩
  | _ => ⟨#[]⟩
theorem restN_step (v l : Int) (d : ByteArray) (k : Nat) (h1 : 1 ≤ k) (h4 : k ≤ 4) : restN v l d k = lineN v l d k ++ nl ++ restN v l d (k + 1) := by
  rcases (by omega : k = 1 ∨ k = 2 ∨ k = 3 ∨ k = 4) with rfl | rfl | rfl | rfl <;> rfl
/-- what a manifest may be -/
structure Mok (v l : Int) (d : ByteArray) : Prop where
  v1 : 1 ≤ v
  v2 : v ≤ 1073741824
  l1 : 0 ≤ l
  l2 : l ≤ 1048576
  d1 : d.size = 32
/-- what has been read ahead of line k -/
def mV (v : Int) (k : Nat) : Int := if 3 ≤ k then v else 0
def mL (l : Int) (k : Nat) : Int := if 4 ≤ k then l else 0
def mD (d : ByteArray) (k : Nat) : ByteArray := if 5 ≤ k then d else ⟨#[]⟩
theorem cntV_dec2 (v : Int) (h0 : 0 ≤ v) (h1 : v < 2147483648) : cntV (decB v).data.toList = (v, true) := by
  show cntV (Lib.itoa v) = (v, true)
  rw [cntV_itoa, if_pos ⟨h0, h1⟩, decide_eq_true ⟨h0, h1⟩]
theorem hexB_size (d : ByteArray) (h : d.size = 32) : (hexB d).size = 64 := by
  have hz : d.data.toList.length = d.size := Array.length_toList
  show (Sh.hexL d.data.toList).toArray.size = 64
  rw [List.size_toArray, Sh.hexL_length]
  omega
theorem unhexB (d : ByteArray) : Sh.unhex (hexB d).data.toList = (d.data.toList, 0) := by
  show Sh.unhex (Sh.hexL d.data.toList) = _
  have hl := Sh.hexL_length d.data.toList
  have ha := Sh.all_hexL d.data.toList
  have hu := Sh.unL_hexL d.data.toList
  unfold Sh.unhex
  rw [if_neg (by omega), if_pos ha, Sh.unTo_eq _ _ (by omega), hu]
theorem tells_any (v l : Int) (d : ByteArray) (m : Mok v l d) (k : Nat) (h1 : 1 ≤ k) (h4 : k ≤ 4) {w : World} {g : Nat} (h : Mf w g (mV v k) (mL l k) (mD d k)) :
    Calls Tryd.prog 33 #[.pointer (some ⟨g, 0, none⟩), .int .i64 (k : Int), .string (lineN v l d k)] w fun e w' => e = .returned (.bool true) ∧ Mf w' g (mV v (k + 1)) (mL l (k + 1)) (mD d (k + 1)) ∧ w.grownBy w' (some g) := by
  have c1 := isVersion_any v
  have c2 := isLength_any l
  have c3 := isDigest_any d
  have o1 : vOk v = true := by unfold vOk; rw [Bool.and_eq_true, decide_eq_true_iff, decide_eq_true_iff]; exact ⟨m.v1, m.v2⟩
  have o2 : lOk l = true := by unfold lOk; rw [Bool.and_eq_true, decide_eq_true_iff, decide_eq_true_iff]; exact ⟨m.l1, m.l2⟩
  have o3 : dOk d = true := by unfold dOk; rw [m.d1]; rfl
  rw [o1] at c1
  rw [o2] at c2
  rw [o3] at c3
  clear o1 o2 o3
  rcases (by omega : k = 1 ∨ k = 2 ∨ k = 3 ∨ k = 4) with rfl | rfl | rfl | rfl
  · have HH := Hid.mk h
    clear h
    show Calls Tryd.prog 33 #[.pointer (some ⟨g, 0, none⟩), .int .i64 1, .string titleB] w _
    go_enter Tryd.func33, Tryd.ntmps33
    go_wp2_with fail
    go_ret
    exact ⟨by simp [ByteArray.toList_eq, titleB], HH.out, grown_refl _ _⟩
  · have cc := countBehind_any verB (decB v) v (cntV_dec2 v (by have := m.v1; omega) (by have := m.v2; omega))
    have f0 := h.frozen 0
    have HH := Hid.mk h
    clear h
    show Calls Tryd.prog 33 #[.pointer (some ⟨g, 0, none⟩), .int .i64 2, .string (verB ++ decB v)] w _
    generalize verB ++ decB v = S at *
    have hv : (⟨#[118, 101, 114, 115, 105, 111, 110, 32]⟩ : ByteArray) = verB := rfl
    go_enter Tryd.func33, Tryd.ntmps33
    go_wp2_with (first
      | (go_at_call 55; refine (cc _).mono ?_; rintro e w1 ⟨rfl, b1⟩; have q := HH.out.call b1; have f0 := q.frozen 0; have p0 := q.c0)
      | (go_at_call 36; refine (c1 _).mono ?_; rintro e w2 ⟨rfl, rfl⟩))
    go_ret
    exact ⟨rfl, q.set0 _, grown_trans (grown_below (grown_refl _ _) b1) (grown_setCell _ _ _)⟩
  · have cc := countBehind_any lenB (decB l) l (cntV_dec2 l m.l1 (by have := m.l2; omega))
    have f0 := h.frozen 1
    have HH := Hid.mk h
    clear h
    show Calls Tryd.prog 33 #[.pointer (some ⟨g, 0, none⟩), .int .i64 3, .string (lenB ++ decB l)] w _
    generalize lenB ++ decB l = S at *
    have hv : (⟨#[108, 101, 110, 103, 116, 104, 32]⟩ : ByteArray) = lenB := rfl
    go_enter Tryd.func33, Tryd.ntmps33
    go_wp2_with (first
      | (go_at_call 55; refine (cc _).mono ?_; rintro e w1 ⟨rfl, b1⟩; have q := HH.out.call b1; have f0 := q.frozen 1; have p0 := q.c1)
      | (go_at_call 37; refine (c2 _).mono ?_; rintro e w2 ⟨rfl, rfl⟩))
    go_ret
    exact ⟨rfl, q.set1 _, grown_trans (grown_below (grown_refl _ _) b1) (grown_setCell _ _ _)⟩
  · have cc := digestBehind_any digB (hexB d) d (unhexB d) (by rw [hexB_size d m.d1]; omega)
    have f0 := h.frozen 2
    have HH := Hid.mk h
    clear h
    show Calls Tryd.prog 33 #[.pointer (some ⟨g, 0, none⟩), .int .i64 4, .string (digB ++ hexB d)] w _
    generalize digB ++ hexB d = S at *
    have hv : (⟨#[100, 105, 103, 101, 115, 116, 32]⟩ : ByteArray) = digB := rfl
    go_enter Tryd.func33, Tryd.ntmps33
    go_wp2_with (first
      | (go_at_call 56; refine (cc _).mono ?_; rintro e w1 ⟨rfl, b1⟩; have q := HH.out.call b1; have f0 := q.frozen 2; have p0 := q.c2)
      | (go_at_call 38; refine (c3 _).mono ?_; rintro e w2 ⟨rfl, rfl⟩))
    go_ret
    exact ⟨rfl, q.set2 _, grown_trans (grown_below (grown_refl _ _) b1) (grown_setCell _ _ _)⟩
end Go.Proofs.YtdolilgkjknckaaDoor
