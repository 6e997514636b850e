/-
  What only reads a chip, or is small: within, Check, hasBlock, refusesBlock, refusesPage, Off, Did, Geometry, Marked, Power; the same without a chip. No condition. Pages of one byte throughout: the walks of filled, fill, kept and of the law's text. No condition. What happens in an action: the walks of cutNow and failsNow. No condition.
-/
import Derived.Test.YtbhggcleijjofaaDoorChip
import Derived.Test.YtbhggcleijjofaaDoorShelf
import Derived.Deep.OwnRows
import Derived.Laws.ResultCell
import Derived.Laws.NewBlocks
namespace Go.Proofs.YtbhggcleijjofaaDoor
open Go Go.RowKit

def inR (n a b : Int) : Bool := decide (a ≤ n ∧ n ≤ b)
theorem within_any (n a b : Int) (w : World) : Calls Tryd.prog 54 #[.int .i64 n, .int .i64 a, .int .i64 b] w fun e w' => e = .returned (.bool (inR n a b)) ∧ w' = w := by
  unfold inR
  by_cases h : a ≤ n
  · by_cases h2 : n ≤ b
    · rw [show decide (a ≤ n ∧ n ≤ b) = true by simp [h, h2]]
      go_enter Tryd.func54, Tryd.ntmps54
      go_wp2
      go_ret
      exact ⟨rfl, rfl⟩
    · rw [show decide (a ≤ n ∧ n ≤ b) = false by simp [h2]]
      go_enter Tryd.func54, Tryd.ntmps54
      go_wp2
      go_ret
      exact ⟨rfl, rfl⟩
  · rw [show decide (a ≤ n ∧ n ≤ b) = false by simp [h]]
    go_enter Tryd.func54, Tryd.ntmps54
    go_wp2
    go_ret
    exact ⟨rfl, rfl⟩
def okG (B P Z : Int) : Bool := inR B 8 32 && inR P 4 16 && inR Z 64 256
theorem check_any (B P Z : Int) (w : World) : Calls Tryd.prog 36 #[.agg #[.int .i64 B, .int .i64 P, .int .i64 Z]] w fun e w' => e = .returned (.bool (okG B P Z)) ∧ Below w.heap.size w w' := by
  unfold okG
  have hb := Hid.mk ((Below.refl w.heap.size w).alloc (Nat.le_refl _) (.cells #[.int .i64 B, .int .i64 P, .int .i64 Z] 29))
  cases h1 : inR B 8 32 <;> cases h2 : inR P 4 16 <;> cases h3 : inR Z 64 256 <;>
  · go_enter Tryd.func36, Tryd.ntmps36
    go_wp2_with (go_at_call 54; refine (within_any _ _ _ _).mono ?_; rintro e w' ⟨rfl, rfl⟩)
    go_ret
    exact ⟨rfl, hb.out⟩
theorem has_any {w : World} {L C} (h : Chip w L C) (b : Int) : Calls Tryd.prog 37 #[.pointer (some ⟨L.a, 0, none⟩), .int .i64 b] w fun e w' => e = .returned (.bool (decide (0 ≤ b ∧ b < C.B))) ∧ w' = w := by
  obtain ⟨mc, mf, n, k, _, _, c0, c1, c2, c3, c4, c5, c6, c7, _⟩ := h.cellA
  have HH := Hid.mk h
  clear h
  by_cases h0 : 0 ≤ b
  · by_cases h2 : b < C.B
    · rw [show decide (0 ≤ b ∧ b < C.B) = true by simp [h0, h2]]
      go_enter Tryd.func37, Tryd.ntmps37
      go_wp2
      go_ret
      exact ⟨rfl, rfl⟩
    · rw [show decide (0 ≤ b ∧ b < C.B) = false by simp [h2]]
      go_enter Tryd.func37, Tryd.ntmps37
      go_wp2
      go_ret
      exact ⟨rfl, rfl⟩
  · rw [show decide (0 ≤ b ∧ b < C.B) = false by simp [h0]]
    go_enter Tryd.func37, Tryd.ntmps37
    go_wp2
    go_ret
    exact ⟨rfl, rfl⟩
/-- why nothing can be done with a block, and with a page -/
def refB (C : Ch) (b : Int) : Int := if C.off = true then 51 else if 0 ≤ b ∧ b < C.B then 0 else 50
def refP (C : Ch) (b p : Int) : Int := if refB C b = 0 then (if 0 ≤ p ∧ p < C.P then 0 else 50) else refB C b
theorem refB_zero {C : Ch} {b : Int} (h : refB C b = 0) : C.off = false ∧ ∃ n : Nat, b = n ∧ n < C.B := by
  unfold refB at h
  cases ho : C.off
  · rw [ho, if_neg (by decide)] at h
    by_cases hb : 0 ≤ b ∧ b < C.B
    · exact ⟨rfl, b.toNat, by omega, by omega⟩
    · rw [if_neg hb] at h
      exact absurd h (by decide)
  · rw [ho, if_pos rfl] at h
    exact absurd h (by decide)
theorem refP_zero {C : Ch} {b p : Int} (h : refP C b p = 0) : C.off = false ∧ (∃ n : Nat, b = n ∧ n < C.B) ∧ ∃ q : Nat, p = q ∧ q < C.P := by
  unfold refP at h
  by_cases h0 : refB C b = 0
  · rw [if_pos h0] at h
    by_cases hp : 0 ≤ p ∧ p < C.P
    · exact ⟨(refB_zero h0).1, (refB_zero h0).2, p.toNat, by omega, by omega⟩
    · rw [if_neg hp] at h
      exact absurd h (by decide)
  · rw [if_neg h0] at h
    exact absurd h h0
theorem refuse_any {w : World} {L C} (h : Chip w L C) (b : Int) : Calls Tryd.prog 71 #[.pointer (some ⟨L.a, 0, none⟩), .int .i64 b] w fun e w' => e = .returned (.int .i64 (refB C b)) ∧ w' = w := by
  obtain ⟨mc, mf, n, k, _, _, c0, c1, c2, c3, c4, c5, c6, c7, _⟩ := h.cellA
  have HH := Hid.mk h
  clear h
  unfold refB
  cases ho : C.off
  · rw [ho] at c7
    rw [if_neg (by decide)]
    by_cases h2 : 0 ≤ b ∧ b < C.B
    · rw [if_pos h2]
      have hd : decide (0 ≤ b ∧ b < C.B) = true := by simp [h2]
      clear h2
      go_enter Tryd.func71, Tryd.ntmps71
      go_wp2_with (go_at_call 37; refine (has_any HH.out _).mono ?_; rintro e w' ⟨rfl, rfl⟩; rw [hd])
      go_ret
      exact ⟨rfl, rfl⟩
    · rw [if_neg h2]
      have hd : decide (0 ≤ b ∧ b < C.B) = false := by simpa using h2
      clear h2
      go_enter Tryd.func71, Tryd.ntmps71
      go_wp2_with (go_at_call 37; refine (has_any HH.out _).mono ?_; rintro e w' ⟨rfl, rfl⟩; rw [hd])
      go_ret
      exact ⟨rfl, rfl⟩
  · rw [ho] at c7
    rw [if_pos rfl]
    go_enter Tryd.func71, Tryd.ntmps71
    go_wp2
    go_ret
    exact ⟨rfl, rfl⟩
theorem refusep_any {w : World} {L C} (h : Chip w L C) (b p : Int) : Calls Tryd.prog 49 #[.pointer (some ⟨L.a, 0, none⟩), .int .i64 b, .int .i64 p] w fun e w' => e = .returned (.int .i64 (refP C b p)) ∧ w' = w := by
  obtain ⟨mc, mf, n, k, _, _, c0, c1, c2, c3, c4, c5, c6, c7, _⟩ := h.cellA
  have HH := Hid.mk h
  clear h
  unfold refP
  by_cases h0 : refB C b = 0
  · rw [if_pos h0]
    by_cases h1 : 0 ≤ p
    · by_cases h2 : p < C.P
      · rw [if_pos ⟨h1, h2⟩]
        go_enter Tryd.func49, Tryd.ntmps49
        go_wp2_with (go_at_call 71; refine (refuse_any HH.out _).mono ?_; rintro e w' ⟨rfl, rfl⟩; rw [h0])
        go_ret
        exact ⟨rfl, rfl⟩
      · rw [if_neg (by omega)]
        go_enter Tryd.func49, Tryd.ntmps49
        go_wp2_with (go_at_call 71; refine (refuse_any HH.out _).mono ?_; rintro e w' ⟨rfl, rfl⟩; rw [h0])
        go_ret
        exact ⟨rfl, rfl⟩
    · rw [if_neg (by omega)]
      go_enter Tryd.func49, Tryd.ntmps49
      go_wp2_with (go_at_call 71; refine (refuse_any HH.out _).mono ?_; rintro e w' ⟨rfl, rfl⟩; rw [h0])
      go_ret
      exact ⟨rfl, rfl⟩
  · rw [if_neg h0]
    go_enter Tryd.func49, Tryd.ntmps49
    go_wp2_with (go_at_call 71; refine (refuse_any HH.out _).mono ?_; rintro e w' ⟨rfl, rfl⟩)
    go_ret
    exact ⟨rfl, rfl⟩
theorem power_any {w : World} {L C} (h : Chip w L C) : Calls Tryd.prog 17 #[.pointer (some ⟨L.a, 0, none⟩)] w fun e w' => e = .returned (.tuple #[]) ∧ Chip w' L { C with off := false } ∧ Kp (L.own C.B) w w' := by
  obtain ⟨mc, mf, n, k, _, _, c0, c1, c2, c3, c4, c5, c6, c7, hf⟩ := h.cellA
  have f7 := hf 7
  have HH := Hid.mk h
  clear h hf
  go_enter Tryd.func17, Tryd.ntmps17
  go_wp2
  go_end0
  exact ⟨rfl, HH.out.setOff false, (Kp.refl _ _).setCell (p := ⟨L.a, 7, none⟩) (Or.inl rfl) _⟩
/-- so many bytes of one kind -/
def rep (n : Nat) (x : UInt8) : ByteArray := ⟨(List.replicate n x).toArray⟩
theorem rep_size (n : Nat) (x : UInt8) : (rep n x).size = n := by
  show (List.replicate n x).toArray.size = n
  simp
/-- a number as a byte -/
def u8 (f : Int) : UInt8 := UInt8.ofNat f.toNat
theorem u8_toNat (f : Int) (h : 0 ≤ f ∧ f < 256) : ((u8 f).toNat : Int) = f := by
  unfold u8
  rw [UInt8.toNat_ofNat']
  omega
/-- a page as it is kept -/
def kp (Z : Nat) (s : ByteArray) : ByteArray := if s = rep (Z + 32) 255 then ⟨#[]⟩ else s
theorem kp_size (Z : Nat) (s : ByteArray) (h : s.size = Z + 32) : (kp Z s).size = 0 ∨ (kp Z s).size = Z + 32 := by
  unfold kp
  split
  · exact Or.inl rfl
  · exact Or.inr h
theorem filled_any {w : World} {L C} (h : Chip w L C) (x : UInt8) : Calls Tryd.prog 50 #[.pointer (some ⟨L.a, 0, none⟩), .string ⟨#[x]⟩] w fun e w' => e = .returned (.string (rep (C.Z + 32) x)) ∧ Below w.heap.size w w' := by
  obtain ⟨mc, mf, n, k, _, _, c0, c1, c2, c3, c4, c5, c6, c7, _⟩ := h.cellA
  have hg := h.geo
  have hr := repeat_main ⟨#[x]⟩ (C.Z + 32) w (by omega) (by omega) (by show 1 * (C.Z + 32) ≤ _; omega) (by show 0 < 1; decide)
  have e1 : (⟨(Lib.repeatL (⟨#[x]⟩ : ByteArray).data.toList (C.Z + 32)).toArray⟩ : ByteArray) = rep (C.Z + 32) x := by
    unfold rep
    show (⟨(Lib.repeatL (List.replicate 1 x) (C.Z + 32)).toArray⟩ : ByteArray) = _
    rw [Lib.repeatL_replicate, Nat.mul_one]
  rw [e1] at hr
  have hz : (C.Z : Int) ≤ 256 := by omega
  have hz0 : ((C.Z + 32 : Nat) : Int) = (C.Z : Int) + 32 := by omega
  rw [hz0] at hr
  have HG := Hid.mk hg
  clear h hg e1 hz0
  generalize rep (C.Z + 32) x = R at *
  go_enter Tryd.func50, Tryd.ntmps50
  go_wp2_with (go_at_call 72; refine (hr).mono ?_; rintro e w' ⟨rfl, b1⟩)
  go_ret
  exact ⟨rfl, b1⟩
theorem run_one (f : Int) (hf : 0 ≤ f ∧ f < 256) (W : World) (g : Nat) (h : W.cell? ⟨g, 0, none⟩ = some (.int .u8 f)) :
    (convert 51 9 (.slice (some ⟨g, 0, none⟩) 1 1)).run Tryd.prog W = .ok (.string ⟨#[u8 f]⟩) W := by
  refine run_convert_bytes_back (P := Tryd.prog) W 51 9 5 ⟨g, 0, none⟩ 1 [u8 f] Tryd.underlying51 Tryd.underlying5 Tryd.underlying9 ?_
  intro j hj
  obtain rfl : j = 0 := by simp at hj; omega
  simp only [List.getElem_cons_zero, u8_toNat f hf]
  exact h
theorem fill_any (i k f : Int) (hf : 0 ≤ f ∧ f < 256) (w : World) : Calls Tryd.prog 81 #[cutV i k f] w fun e w' => e = .returned (.string ⟨#[u8 f]⟩) ∧ Below w.heap.size w w' := by
  have hone := run_one f hf
  generalize (⟨#[u8 f]⟩ : ByteArray) = R at *
  unfold cutV
  clear hf
  go_enter Tryd.func81, Tryd.ntmps81
  go_wp2
  go_ret
  refine ⟨rfl, ?_⟩
  refine ((Below.refl w.heap.size w).alloc (Nat.le_refl _) _).alloc ?_ _
  rw [size_alloc]
  omega
theorem bytes_beq_false (a b : ByteArray) (h : ¬ a = b) : (a.toList == b.toList) = false := by
  rw [beq_eq_false_iff_ne]
  intro e
  rw [ByteArray.toList_eq, ByteArray.toList_eq] at e
  exact h (ByteArray.ext (Array.toList_inj.1 e))
theorem kept_any {w : World} {L C} (h : Chip w L C) (s : ByteArray) : Calls Tryd.prog 80 #[.pointer (some ⟨L.a, 0, none⟩), .string s] w fun e w' => e = .returned (.string (kp C.Z s)) ∧ Below w.heap.size w w' := by
  have HH := Hid.mk h
  clear h
  unfold kp
  by_cases he : s = rep (C.Z + 32) 255
  · rw [if_pos he]
    go_enter Tryd.func80, Tryd.ntmps80
    go_wp2_with (go_at_call 50; refine (filled_any HH.out _).mono ?_; rintro e w1 ⟨rfl, b1⟩; rw [← he])
    go_ret
    exact ⟨rfl, b1⟩
  · rw [if_neg he]
    generalize hR : rep (C.Z + 32) 255 = R at *
    have HR := Hid.mk hR
    have hbq := bytes_beq_false _ _ he
    clear hR
    go_enter Tryd.func80, Tryd.ntmps80
    go_wp2_with (go_at_call 50; refine (filled_any HH.out _).mono ?_; rintro e w1 ⟨rfl, b1⟩; rw [HR.out])
    go_ret
    exact ⟨rfl, b1⟩
/-- k bytes of one kind, then noughts -/
def part (n k : Nat) (x : UInt8) : List UInt8 := List.replicate k x ++ List.replicate (n - k) 0
theorem part_length (n k : Nat) (x : UInt8) (h : k ≤ n) : (part n k x).length = n := by
  unfold part
  rw [List.length_append, List.length_replicate, List.length_replicate]
  omega
theorem part_step (n k : Nat) (x : UInt8) (h : k < n) : (part n k x).set k x = part n (k + 1) x := by
  unfold part
  rw [List.set_append_right _ _ (by rw [List.length_replicate]; exact Nat.le_refl _), List.length_replicate, Nat.sub_self, show n - k = (n - (k + 1)) + 1 by omega, List.replicate_succ, List.set_cons_zero, List.replicate_succ', List.append_assoc]
  rfl
theorem Tryd.info5 : (Tryd.prog.info? 5).map (fun i => (i.zero, i.size, i.bytes)) = some (some (.int .u8 0), 1, 1) := by kernel_rfl
theorem below_two (w : World) (o1 o2 : Obj) : Below w.heap.size w ((w.alloc o1).alloc o2) := by
  refine ((Below.refl w.heap.size w).alloc (Nat.le_refl _) o1).alloc ?_ o2
  rw [size_alloc]
  omega
theorem wf_did {d : Int} (h : 0 ≤ d ∧ d < 1000000) : (Lit.int .i64 d).wf = true := by
  exact WalkArith.wf_i64 (by omega)
def cut0 : Value := .agg #[.int .i64 0, .int .i64 0, .int .u8 0]
theorem zero57 (w : World) : (zeroValue 61).run Tryd.prog w = .ok cut0 w := by kernel_rfl
theorem zero86 (w : World) : (zeroValue 103).run Tryd.prog w = .ok (.agg #[]) w := by kernel_rfl
theorem cutnow_none {w : World} {L C} (h : Chip w L C) (hc : C.cuts C.did = none) : Calls Tryd.prog 79 #[.pointer (some ⟨L.a, 0, none⟩)] w fun e w' => e = .returned (.tuple #[cut0, .bool false]) ∧ Below w.heap.size w w' := by
  obtain ⟨mc, mf, n, k, m1, m2, c0, c1, c2, c3, c4, c5, c6, c7, _⟩ := h.cellA
  have hl : ∀ w', w'.heap[mc]? = w.heap[mc]? → (Instr.lookup 77 (.map (some mc)) (.int .i64 C.did) true).run Tryd.prog w' = .ok (.tuple #[cut0, .bool false]) w' := by
    intro w' hw
    rw [(m1.of_block hw).look Tryd.underlying77 (zero57 _) (wf_did h.didr)]
    unfold cutF
    rw [hc]
    rfl
  have hlt := m1.lt
  unfold cut0 at *
  have la : L.a < w.heap.size := h.lt (Or.inl rfl)
  have hl1 : ∀ o, (Instr.lookup 77 (.map (some mc)) (.int .i64 C.did) true).run Tryd.prog (w.alloc o).drew = .ok (.tuple #[.agg #[.int .i64 0, .int .i64 0, .int .u8 0], .bool false]) (w.alloc o).drew := fun o => hl _ (Below.heap_alloc w o mc hlt)
  have hl2 : ∀ o o', (Instr.lookup 77 (.map (some mc)) (.int .i64 C.did) true).run Tryd.prog ((w.alloc o).alloc o').drew = .ok (.tuple #[.agg #[.int .i64 0, .int .i64 0, .int .u8 0], .bool false]) ((w.alloc o).alloc o').drew :=
    fun o o' => hl _ ((Below.heap_alloc (w.alloc o) o' mc (by rw [size_alloc]; omega)).trans (Below.heap_alloc w o mc hlt))
  have HH := Hid.mk h
  clear h m1 m2 hl hlt
  go_enter Tryd.func79, Tryd.ntmps79
  go_wp2_with fail
  go_region
  go_wp2_with fail
  exact bodyPost_ret (v := .tuple #[.agg #[.int .i64 0, .int .i64 0, .int .u8 0], .bool false]) (by rw [results_cell_tmp rfl]; go_simp) rfl ⟨rfl, (below_two w _ _).drew⟩
theorem cutnow_some {w : World} {L C} (h : Chip w L C) {k0 f : Int} (hc : C.cuts C.did = some (k0, f)) : Calls Tryd.prog 79 #[.pointer (some ⟨L.a, 0, none⟩)] w fun e w' => e = .returned (.tuple #[cutV C.did k0 f, .bool true]) ∧ Chip w' L { C with off := true } ∧ Kp (L.own C.B) w w' := by
  obtain ⟨mc, mf, n, k, m1, m2, c0, c1, c2, c3, c4, c5, c6, c7, hf⟩ := h.cellA
  have f7 := hf 7
  have hl : ∀ w', w'.heap[mc]? = w.heap[mc]? → (Instr.lookup 77 (.map (some mc)) (.int .i64 C.did) true).run Tryd.prog w' = .ok (.tuple #[cutV C.did k0 f, .bool true]) w' := by
    intro w' hw
    rw [(m1.of_block hw).look Tryd.underlying77 (zero57 _) (wf_did h.didr)]
    unfold cutF
    rw [hc]
    rfl
  have hlt := m1.lt
  unfold cutV at *
  have la : L.a < w.heap.size := h.lt (Or.inl rfl)
  have hl1 : ∀ o, (Instr.lookup 77 (.map (some mc)) (.int .i64 C.did) true).run Tryd.prog (w.alloc o).drew = .ok (.tuple #[.agg #[.int .i64 C.did, .int .i64 k0, .int .u8 f], .bool true]) (w.alloc o).drew := fun o => hl _ (Below.heap_alloc w o mc hlt)
  have hl2 : ∀ o o', (Instr.lookup 77 (.map (some mc)) (.int .i64 C.did) true).run Tryd.prog ((w.alloc o).alloc o').drew = .ok (.tuple #[.agg #[.int .i64 C.did, .int .i64 k0, .int .u8 f], .bool true]) ((w.alloc o).alloc o').drew :=
    fun o o' => hl _ ((Below.heap_alloc (w.alloc o) o' mc (by rw [size_alloc]; omega)).trans (Below.heap_alloc w o mc hlt))
  have HH := Hid.mk h
  clear h m1 m2 hl hlt hf
  go_enter Tryd.func79, Tryd.ntmps79
  go_wp2_with fail
  go_region
  go_wp2_with fail
  exact bodyPost_ret (v := .tuple #[.agg #[.int .i64 C.did, .int .i64 k0, .int .u8 f], .bool true]) (by rw [results_cell_tmp rfl]; go_simp) rfl ⟨rfl, (((HH.out.setOff true).alloc _).alloc _).drew, ((((Kp.refl _ w).setCell (p := ⟨L.a, 7, none⟩) (Or.inl rfl) _).alloc _).alloc _).drew⟩
theorem upd_self {α : Type} (f : Nat → α) (b : Nat) : upd f b (f b) = f := by
  funext i
  unfold upd
  split
  · rename_i h
    rw [h]
  · rfl
theorem failsnow_any {w : World} {L C} (h : Chip w L C) {b : Nat} (hb : b < C.B) : Calls Tryd.prog 82 #[.pointer (some ⟨L.a, 0, none⟩), .pointer (some ⟨L.bs, b * 4, none⟩)] w fun e w' =>
    e = .returned (.bool (C.dead b || C.fails C.did)) ∧ Chip w' L { C with dead := upd C.dead b (C.dead b || C.fails C.did) } ∧ Kp (L.own C.B) w w' := by
  obtain ⟨mc, mf, n, k, m1, m2, c0, c1, c2, c3, c4, c5, c6, c7, hf⟩ := h.cellA
  obtain ⟨b0, b1, b2, b3⟩ := h.cellB b hb
  have f2 := h.frozenB (b * 4 + 2)
  have hlt := m2.lt
  have la : L.a < w.heap.size := h.lt (Or.inl rfl)
  have lb : L.bs < w.heap.size := h.lt (Or.inr (Or.inl rfl))
  cases hfa : C.fails C.did
  · have hl : ∀ w', w'.heap[mf]? = w.heap[mf]? → (Instr.lookup 78 (.map (some mf)) (.int .i64 C.did) true).run Tryd.prog w' = .ok (.tuple #[.agg #[], .bool false]) w' := by
      intro w' hw
      rw [(m2.of_block hw).look Tryd.underlying78 (zero86 _) (wf_did h.didr)]
      unfold failF
      rw [hfa]
      rfl
    have hl1 : (Instr.lookup 78 (.map (some mf)) (.int .i64 C.did) true).run Tryd.prog w.drew = .ok (.tuple #[.agg #[], .bool false]) w.drew := hl _ rfl
    have hl2 : ∀ o, (Instr.lookup 78 (.map (some mf)) (.int .i64 C.did) true).run Tryd.prog (w.alloc o).drew = .ok (.tuple #[.agg #[], .bool false]) (w.alloc o).drew := fun o => hl _ (Below.heap_alloc w o mf hlt)
    rw [Bool.or_false, upd_self]
    have HH := Hid.mk h
    clear h m1 m2 hl hlt hf
    go_enter Tryd.func82, Tryd.ntmps82
    go_wp2_with fail
    go_region
    go_wp2_with fail
    go_ret
    refine ⟨rfl, ?_, ?_⟩
    · exact (HH.out.alloc _).drew
    · exact ((Kp.refl _ w).alloc _).drew
  · have hl : ∀ w', w'.heap[mf]? = w.heap[mf]? → (Instr.lookup 78 (.map (some mf)) (.int .i64 C.did) true).run Tryd.prog w' = .ok (.tuple #[.agg #[], .bool true]) w' := by
      intro w' hw
      rw [(m2.of_block hw).look Tryd.underlying78 (zero86 _) (wf_did h.didr)]
      unfold failF
      rw [hfa]
      rfl
    have hl1 : (Instr.lookup 78 (.map (some mf)) (.int .i64 C.did) true).run Tryd.prog w.drew = .ok (.tuple #[.agg #[], .bool true]) w.drew := hl _ rfl
    have hl2 : ∀ o, (Instr.lookup 78 (.map (some mf)) (.int .i64 C.did) true).run Tryd.prog (w.alloc o).drew = .ok (.tuple #[.agg #[], .bool true]) (w.alloc o).drew := fun o => hl _ (Below.heap_alloc w o mf hlt)
    rw [Bool.or_true]
    have HH := Hid.mk h
    clear h m1 m2 hl hlt hf
    go_enter Tryd.func82, Tryd.ntmps82
    go_wp2_with fail
    go_region
    go_wp2_with fail
    go_ret
    refine ⟨rfl, ?_, ?_⟩
    · exact ((HH.out.setDead b true).alloc _).drew
    · exact (((Kp.refl _ w).setCell (p := ⟨L.bs, b * 4 + 2, none⟩) (Or.inr (Or.inl rfl)) _).alloc _).drew
end Go.Proofs.YtbhggcleijjofaaDoor
