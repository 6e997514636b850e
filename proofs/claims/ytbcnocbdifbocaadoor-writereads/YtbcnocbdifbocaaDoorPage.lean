/-
  Pages of one byte throughout: the walks of filled, fill, kept and of the law's text. No condition.
-/
import Derived.Test.YtbcnocbdifbocaaDoorSmall
import Derived.Test.YtbcnocbdifbocaaDoorShelf
import Derived.Deep.OwnRows
namespace Go.Proofs.YtbcnocbdifbocaaDoor
open Go Go.RowKit

/-- so many bytes of one kind -/
def rep (n : Nat) (x : UInt8) : ByteArray := ⟨(List.replicate n x).toArray⟩
theorem rep_size (n : Nat) (x : UInt8) : (rep n x).size = n := by
  show (List.replicate n x).toArray.size = n
  simp
/-- a number as a byte -/
def u8 (f : Int) : UInt8 := UInt8.ofNat f.toNat
theorem u8_toNat (f : Int) (h : 0 ≤ f ∧ f < 256) : ((u8 f).toNat : Int) = f := by
  unfold u8
  rw [UInt8.toNat_ofNat']
  omega
/-- a page as it is kept -/
def kp (Z : Nat) (s : ByteArray) : ByteArray := if s = rep (Z + 32) 255 then ⟨#[]⟩ else s
theorem kp_size (Z : Nat) (s : ByteArray) (h : s.size = Z + 32) : (kp Z s).size = 0 ∨ (kp Z s).size = Z + 32 := by
  unfold kp
  split
  · exact Or.inl rfl
  · exact Or.inr h
theorem filled_any {w : World} {L C} (h : Chip w L C) (x : UInt8) : Calls Tryd.prog 52 #[.pointer (some ⟨L.a, 0, none⟩), .string ⟨#[x]⟩] w fun e w' => e = .returned (.string (rep (C.Z + 32) x)) ∧ Below w.heap.size w w' := by
  obtain ⟨mc, mf, n, k, _, _, c0, c1, c2, c3, c4, c5, c6, c7, _⟩ := h.cellA
  have hg := h.geo
  have hr := repeat_main ⟨#[x]⟩ (C.Z + 32) w (by omega) (by omega) (by show 1 * (C.Z + 32) ≤ _; omega) (by show 0 < 1; decide)
  have e1 : (⟨(Lib.repeatL (⟨#[x]⟩ : ByteArray).data.toList (C.Z + 32)).toArray⟩ : ByteArray) = rep (C.Z + 32) x := by
    unfold rep
    show (⟨(Lib.repeatL (List.replicate 1 x) (C.Z + 32)).toArray⟩ : ByteArray) = _
    rw [Lib.repeatL_replicate, Nat.mul_one]
  rw [e1] at hr
  have hz : (C.Z : Int) ≤ 256 := by omega
  have hz0 : ((C.Z + 32 : Nat) : Int) = (C.Z : Int) + 32 := by omega
  rw [hz0] at hr
  have HG := Hid.mk hg
  clear h hg e1 hz0
  generalize rep (C.Z + 32) x = R at *
  go_enter Tryd.func52, Tryd.ntmps52
  go_wp2_with (go_at_call 71; refine (hr).mono ?_; rintro e w' ⟨rfl, b1⟩)
  go_ret
  exact ⟨rfl, b1⟩
theorem run_one (f : Int) (hf : 0 ≤ f ∧ f < 256) (W : World) (g : Nat) (h : W.cell? ⟨g, 0, none⟩ = some (.int .u8 f)) :
    (convert 121 9 (.slice (some ⟨g, 0, none⟩) 1 1)).run Tryd.prog W = .ok (.string ⟨#[u8 f]⟩) W := by
  refine run_convert_bytes_back (P := Tryd.prog) W 121 9 5 ⟨g, 0, none⟩ 1 [u8 f] Tryd.underlying121 Tryd.underlying5 Tryd.underlying9 ?_
  intro j hj
  obtain rfl : j = 0 := by simp at hj; omega
  simp only [List.getElem_cons_zero, u8_toNat f hf]
  exact h
theorem fill_any (i k f : Int) (hf : 0 ≤ f ∧ f < 256) (w : World) : Calls Tryd.prog 53 #[cutV i k f] w fun e w' => e = .returned (.string ⟨#[u8 f]⟩) ∧ Below w.heap.size w w' := by
  have hone := run_one f hf
  generalize (⟨#[u8 f]⟩ : ByteArray) = R at *
  unfold cutV
  clear hf
  go_enter Tryd.func53, Tryd.ntmps53
  go_wp2
  go_ret
  refine ⟨rfl, ?_⟩
  refine ((Below.refl w.heap.size w).alloc (Nat.le_refl _) _).alloc ?_ _
  rw [size_alloc]
  omega
theorem bytes_beq_false (a b : ByteArray) (h : ¬ a = b) : (a.toList == b.toList) = false := by
  rw [beq_eq_false_iff_ne]
  intro e
  rw [ByteArray.toList_eq, ByteArray.toList_eq] at e
  exact h (ByteArray.ext (Array.toList_inj.1 e))
theorem kept_any {w : World} {L C} (h : Chip w L C) (s : ByteArray) : Calls Tryd.prog 51 #[.pointer (some ⟨L.a, 0, none⟩), .string s] w fun e w' => e = .returned (.string (kp C.Z s)) ∧ Below w.heap.size w w' := by
  have HH := Hid.mk h
  clear h
  unfold kp
  by_cases he : s = rep (C.Z + 32) 255
  · rw [if_pos he]
    go_enter Tryd.func51, Tryd.ntmps51
    go_wp2_with (go_at_call 52; refine (filled_any HH.out _).mono ?_; rintro e w1 ⟨rfl, b1⟩; rw [← he])
    go_ret
    exact ⟨rfl, b1⟩
  · rw [if_neg he]
    generalize hR : rep (C.Z + 32) 255 = R at *
    have HR := Hid.mk hR
    have hbq := bytes_beq_false _ _ he
    clear hR
    go_enter Tryd.func51, Tryd.ntmps51
    go_wp2_with (go_at_call 52; refine (filled_any HH.out _).mono ?_; rintro e w1 ⟨rfl, b1⟩; rw [HR.out])
    go_ret
    exact ⟨rfl, b1⟩
/-- k bytes of one kind, then noughts -/
def part (n k : Nat) (x : UInt8) : List UInt8 := List.replicate k x ++ List.replicate (n - k) 0
theorem part_length (n k : Nat) (x : UInt8) (h : k ≤ n) : (part n k x).length = n := by
  unfold part
  rw [List.length_append, List.length_replicate, List.length_replicate]
  omega
theorem part_step (n k : Nat) (x : UInt8) (h : k < n) : (part n k x).set k x = part n (k + 1) x := by
  unfold part
  rw [List.set_append_right _ _ (by rw [List.length_replicate]; exact Nat.le_refl _), List.length_replicate, Nat.sub_self, show n - k = (n - (k + 1)) + 1 by omega, List.replicate_succ, List.set_cons_zero, List.replicate_succ', List.append_assoc]
  rfl
theorem Tryd.info5 : (Tryd.prog.info? 5).map (fun i => (i.zero, i.size, i.bytes)) = some (some (.int .u8 0), 1, 1) := by kernel_rfl
end Go.Proofs.YtbcnocbdifbocaaDoor
