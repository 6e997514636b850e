/-
  What only reads a chip, or is small: within, Check, hasBlock, refusesBlock, refusesPage, Off, Did, Geometry, Marked, Power; the same without a chip. No condition. Pages of one byte throughout: the walks of filled, fill, kept and of the law's text. No condition. What happens in an action: the walks of cutNow and failsNow. No condition. Reading a page, marking a block: the walks of Read and Mark. No condition. Erasing a block: the walk of Erase. No condition. Writing a page: the walk of Program. No condition. Faults laid anew: the walk of Arm. No condition. A new chip: the walk of New. No condition. What is told of all blocks, a geometry; and all of it without a chip: the walks of Worn, Dead, Geometry, and of every function at nil. No condition. A chip that may be, out of whatever numbers: the walk of the law's Geometry; what an erasure does where nothing happens. No condition.
-/
import Derived.Test.YtcmmhfjnhlaepabGreatDoorRK1
import Derived.Test.YtcmmhfjnhlaepabGreatDoorRK2
import Derived.Deep.OwnRows
import Derived.Laws.ResultCell
import Derived.Laws.NewBlocks
import Derived.Deep.RegionHeld3
import Derived.Lib.SliceRun
import Derived.Lib.LazyBuf
import Derived.BigFrame
namespace Go.Proofs.YtcmmhfjnhlaepabGreatDoor
open Go Go.RowKit
def inR (n a b : Int) : Bool := decide (a <= n /\ n <= b)
theorem within_any (n a b : Int) (w : World) : Calls Tryz.prog 60 #[.int .i64 n, .int .i64 a, .int .i64 b] w fun e w' => e = .returned (.bool (inR n a b)) /\ w' = w := by
 unfold inR
 by_cases h : a <= n
 ·by_cases h2 : n <= b
  ·rw [show decide (a <= n /\ n <= b) = true by simp [h, h2]]
   go_enter Tryz.func60, Tryz.ntmps60
   go_wp2
   go_ret
   exact ⟨rfl, rfl⟩
  ·rw [show decide (a <= n /\ n <= b) = false by simp [h2]]
   go_enter Tryz.func60, Tryz.ntmps60
   go_wp2
   go_ret
   exact ⟨rfl, rfl⟩
 ·rw [show decide (a <= n /\ n <= b) = false by simp [h]]
  go_enter Tryz.func60, Tryz.ntmps60
  go_wp2
  go_ret
  exact ⟨rfl, rfl⟩
def okG (B P Z : Int) : Bool := inR B 8 32 && inR P 4 16 && inR Z 64 256
theorem check_any (B P Z : Int) (w : World) : Calls Tryz.prog 29 #[.agg #[.int .i64 B, .int .i64 P, .int .i64 Z]] w fun e w' => e = .returned (.bool (okG B P Z)) /\ Below w.heap.size w w' := by
 unfold okG
 have hb := Hid.mk ((Below.refl w.heap.size w).alloc (Nat.le_refl _) (.cells #[.int .i64 B, .int .i64 P, .int .i64 Z] 23))
 cases h1 : inR B 8 32 <;> cases h2 : inR P 4 16 <;> cases h3 : inR Z 64 256 <;>
 ·go_enter Tryz.func29, Tryz.ntmps29
  go_wp2_with (go_at_call 60; refine (within_any _ _ _ _).mono ?_; rintro e w' ⟨rfl, rfl⟩)
  go_ret
  exact ⟨rfl, hb.out⟩
theorem has_any {w : World} {L C} (h : Chip w L C) (b : Int) : Calls Tryz.prog 30 #[.pointer (some ⟨L.a, 0, none⟩), .int .i64 b] w fun e w' => e = .returned (.bool (decide (0 <= b /\ b < C.B))) /\ w' = w := by
 obtain ⟨mc, mf, n, k, _, _, c0, c1, c2, c3, c4, c5, c6, c7, _⟩ := h.cellA
 have HH := Hid.mk h
 clear h
 by_cases h0 : 0 <= b
 ·by_cases h2 : b < C.B
  ·rw [show decide (0 <= b /\ b < C.B) = true by simp [h0, h2]]
   go_enter Tryz.func30, Tryz.ntmps30
   go_wp2
   go_ret
   exact ⟨rfl, rfl⟩
  ·rw [show decide (0 <= b /\ b < C.B) = false by simp [h2]]
   go_enter Tryz.func30, Tryz.ntmps30
   go_wp2
   go_ret
   exact ⟨rfl, rfl⟩
 ·rw [show decide (0 <= b /\ b < C.B) = false by simp [h0]]
  go_enter Tryz.func30, Tryz.ntmps30
  go_wp2
  go_ret
  exact ⟨rfl, rfl⟩
def refB (C : Ch) (b : Int) : Int := if C.off = true then 51 else if 0 <= b /\ b < C.B then 0 else 50
def refP (C : Ch) (b p : Int) : Int := if refB C b = 0 then (if 0 <= p /\ p < C.P then 0 else 50) else refB C b
theorem refB_zero {C : Ch} {b : Int} (h : refB C b = 0) : C.off = false /\ ∃ n : Nat, b = n /\ n < C.B := by
 unfold refB at h
 cases ho : C.off
 ·rw [ho, if_neg (by decide)] at h
  by_cases hb : 0 <= b /\ b < C.B
  ·exact ⟨rfl, b.toNat, by omega, by omega⟩
  ·rw [if_neg hb] at h
   exact absurd h (by decide)
 ·rw [ho, if_pos rfl] at h
  exact absurd h (by decide)
theorem refP_zero {C : Ch} {b p : Int} (h : refP C b p = 0) : C.off = false /\ (∃ n : Nat, b = n /\ n < C.B) /\ ∃ q : Nat, p = q /\ q < C.P := by
 unfold refP at h
 by_cases h0 : refB C b = 0
 ·rw [if_pos h0] at h
  by_cases hp : 0 <= p /\ p < C.P
  ·exact ⟨(refB_zero h0).1, (refB_zero h0).2, p.toNat, by omega, by omega⟩
  ·rw [if_neg hp] at h
   exact absurd h (by decide)
 ·rw [if_neg h0] at h
  exact absurd h h0
theorem refuse_any {w : World} {L C} (h : Chip w L C) (b : Int) : Calls Tryz.prog 156 #[.pointer (some ⟨L.a, 0, none⟩), .int .i64 b] w fun e w' => e = .returned (.int .i64 (refB C b)) /\ w' = w := by
 obtain ⟨mc, mf, n, k, _, _, c0, c1, c2, c3, c4, c5, c6, c7, _⟩ := h.cellA
 have HH := Hid.mk h
 clear h
 unfold refB
 cases ho : C.off
 ·rw [ho] at c7
  rw [if_neg (by decide)]
  by_cases h2 : 0 <= b /\ b < C.B
  ·rw [if_pos h2]
   have hd : decide (0 <= b /\ b < C.B) = true := by simp [h2]
   clear h2
   go_enter Tryz.func156, Tryz.ntmps156
   go_wp2_with (go_at_call 30; refine (has_any HH.out _).mono ?_; rintro e w' ⟨rfl, rfl⟩; rw [hd])
   go_ret
   exact ⟨rfl, rfl⟩
  ·rw [if_neg h2]
   have hd : decide (0 <= b /\ b < C.B) = false := by simpa using h2
   clear h2
   go_enter Tryz.func156, Tryz.ntmps156
   go_wp2_with (go_at_call 30; refine (has_any HH.out _).mono ?_; rintro e w' ⟨rfl, rfl⟩; rw [hd])
   go_ret
   exact ⟨rfl, rfl⟩
 ·rw [ho] at c7
  rw [if_pos rfl]
  go_enter Tryz.func156, Tryz.ntmps156
  go_wp2
  go_ret
  exact ⟨rfl, rfl⟩
theorem refusep_any {w : World} {L C} (h : Chip w L C) (b p : Int) : Calls Tryz.prog 138 #[.pointer (some ⟨L.a, 0, none⟩), .int .i64 b, .int .i64 p] w fun e w' => e = .returned (.int .i64 (refP C b p)) /\ w' = w := by
 obtain ⟨mc, mf, n, k, _, _, c0, c1, c2, c3, c4, c5, c6, c7, _⟩ := h.cellA
 have HH := Hid.mk h
 clear h
 unfold refP
 by_cases h0 : refB C b = 0
 ·rw [if_pos h0]
  by_cases h1 : 0 <= p
  ·by_cases h2 : p < C.P
   ·rw [if_pos ⟨h1, h2⟩]
    go_enter Tryz.func138, Tryz.ntmps138
    go_wp2_with (go_at_call 156; refine (refuse_any HH.out _).mono ?_; rintro e w' ⟨rfl, rfl⟩; rw [h0])
    go_ret
    exact ⟨rfl, rfl⟩
   ·rw [if_neg (by omega)]
    go_enter Tryz.func138, Tryz.ntmps138
    go_wp2_with (go_at_call 156; refine (refuse_any HH.out _).mono ?_; rintro e w' ⟨rfl, rfl⟩; rw [h0])
    go_ret
    exact ⟨rfl, rfl⟩
  ·rw [if_neg (by omega)]
   go_enter Tryz.func138, Tryz.ntmps138
   go_wp2_with (go_at_call 156; refine (refuse_any HH.out _).mono ?_; rintro e w' ⟨rfl, rfl⟩; rw [h0])
   go_ret
   exact ⟨rfl, rfl⟩
 ·rw [if_neg h0]
  go_enter Tryz.func138, Tryz.ntmps138
  go_wp2_with (go_at_call 156; refine (refuse_any HH.out _).mono ?_; rintro e w' ⟨rfl, rfl⟩)
  go_ret
  exact ⟨rfl, rfl⟩
def rep (n : Nat) (x : UInt8) : ByteArray := ⟨(List.replicate n x).toArray⟩
theorem rep_size (n : Nat) (x : UInt8) : (rep n x).size = n := by
 show (List.replicate n x).toArray.size = n
 simp
def u8 (f : Int) : UInt8 := UInt8.ofNat f.toNat
theorem u8_toNat (f : Int) (h : 0 <= f /\ f < 256) : ((u8 f).toNat : Int) = f := by
 unfold u8
 rw [UInt8.toNat_ofNat']
 omega
def kp (Z : Nat) (s : ByteArray) : ByteArray := if s = rep (Z + 32) 255 then ⟨#[]⟩ else s
theorem kp_size (Z : Nat) (s : ByteArray) (h : s.size = Z + 32) : (kp Z s).size = 0 \/ (kp Z s).size = Z + 32 := by
 unfold kp
 split
 ·exact Or.inl rfl
 ·exact Or.inr h
theorem filled_any {w : World} {L C} (h : Chip w L C) (x : UInt8) : Calls Tryz.prog 139 #[.pointer (some ⟨L.a, 0, none⟩), .string ⟨#[x]⟩] w fun e w' => e = .returned (.string (rep (C.Z + 32) x)) /\ Below w.heap.size w w' := by
 obtain ⟨mc, mf, n, k, _, _, c0, c1, c2, c3, c4, c5, c6, c7, _⟩ := h.cellA
 have hg := h.geo
 have hr := repeat_main ⟨#[x]⟩ (C.Z + 32) w (by omega) (by omega) (by show 1 * (C.Z + 32) <= _; omega) (by show 0 < 1; decide)
 have e1 : (⟨(Lib.repeatL (⟨#[x]⟩ : ByteArray).data.toList (C.Z + 32)).toArray⟩ : ByteArray) = rep (C.Z + 32) x := by
  unfold rep
  show (⟨(Lib.repeatL (List.replicate 1 x) (C.Z + 32)).toArray⟩ : ByteArray) = _
  rw [Lib.repeatL_replicate, Nat.mul_one]
 rw [e1] at hr
 have hz : (C.Z : Int) <= 256 := by omega
 have hz0 : ((C.Z + 32 : Nat) : Int) = (C.Z : Int) + 32 := by omega
 rw [hz0] at hr
 have HG := Hid.mk hg
 clear h hg e1 hz0
 generalize rep (C.Z + 32) x = R at *
 go_enter Tryz.func139, Tryz.ntmps139
 go_wp2_with (go_at_call 179; refine (hr).mono ?_; rintro e w' ⟨rfl, b1⟩)
 go_ret
 exact ⟨rfl, b1⟩
theorem run_one (f : Int) (hf : 0 <= f /\ f < 256) (W : World) (g : Nat) (h : W.cell? ⟨g, 0, none⟩ = some (.int .u8 f)) :
  (convert 257 9 (.slice (some ⟨g, 0, none⟩) 1 1)).run Tryz.prog W = .ok (.string ⟨#[u8 f]⟩) W := by
 refine run_convert_bytes_back (P := Tryz.prog) W 257 9 5 ⟨g, 0, none⟩ 1 [u8 f] Tryz.underlying257 Tryz.underlying5 Tryz.underlying9 ?_
 intro j hj
 obtain rfl : j = 0 := by simp at hj; omega
 simp only [List.getElem_cons_zero, u8_toNat f hf]
 exact h
theorem fill_any (i k f : Int) (hf : 0 <= f /\ f < 256) (w : World) : Calls Tryz.prog 159 #[cutV i k f] w fun e w' => e = .returned (.string ⟨#[u8 f]⟩) /\ Below w.heap.size w w' := by
 have hone := run_one f hf
 generalize (⟨#[u8 f]⟩ : ByteArray) = R at *
 unfold cutV
 clear hf
 go_enter Tryz.func159, Tryz.ntmps159
 go_wp2
 go_ret
 refine ⟨rfl, ?_⟩
 refine ((Below.refl w.heap.size w).alloc (Nat.le_refl _) _).alloc ?_ _
 rw [size_alloc]
 omega
theorem bytes_beq_false (a b : ByteArray) (h : ¬ a = b) : (a.toList == b.toList) = false := by
 rw [beq_eq_false_iff_ne]
 intro e
 rw [ByteArray.toList_eq, ByteArray.toList_eq] at e
 exact h (ByteArray.ext (Array.toList_inj.1 e))
theorem kept_any {w : World} {L C} (h : Chip w L C) (s : ByteArray) : Calls Tryz.prog 158 #[.pointer (some ⟨L.a, 0, none⟩), .string s] w fun e w' => e = .returned (.string (kp C.Z s)) /\ Below w.heap.size w w' := by
 have HH := Hid.mk h
 clear h
 unfold kp
 by_cases he : s = rep (C.Z + 32) 255
 ·rw [if_pos he]
  go_enter Tryz.func158, Tryz.ntmps158
  go_wp2_with (go_at_call 139; refine (filled_any HH.out _).mono ?_; rintro e w1 ⟨rfl, b1⟩; rw [<- he])
  go_ret
  exact ⟨rfl, b1⟩
 ·rw [if_neg he]
  generalize hR : rep (C.Z + 32) 255 = R at *
  have HR := Hid.mk hR
  have hbq := bytes_beq_false _ _ he
  clear hR
  go_enter Tryz.func158, Tryz.ntmps158
  go_wp2_with (go_at_call 139; refine (filled_any HH.out _).mono ?_; rintro e w1 ⟨rfl, b1⟩; rw [HR.out])
  go_ret
  exact ⟨rfl, b1⟩
theorem below_two (w : World) (o1 o2 : Obj) : Below w.heap.size w ((w.alloc o1).alloc o2) := by
 refine ((Below.refl w.heap.size w).alloc (Nat.le_refl _) o1).alloc ?_ o2
 rw [size_alloc]
 omega
theorem wf_did {d : Int} (h : 0 <= d /\ d < 1000000) : (Lit.int .i64 d).wf = true := by
 exact WalkArith.wf_i64 (by omega)
def cut0 : Value := .agg #[.int .i64 0, .int .i64 0, .int .u8 0]
theorem zero57 (w : World) : (zeroValue 87).run Tryz.prog w = .ok cut0 w := by kernel_rfl
theorem zero86 (w : World) : (zeroValue 89).run Tryz.prog w = .ok (.agg #[]) w := by kernel_rfl
theorem cutnow_none {w : World} {L C} (h : Chip w L C) (hc : C.cuts C.did = none) : Calls Tryz.prog 157 #[.pointer (some ⟨L.a, 0, none⟩)] w fun e w' => e = .returned (.tuple #[cut0, .bool false]) /\ Below w.heap.size w w' := by
 obtain ⟨mc, mf, n, k, m1, m2, c0, c1, c2, c3, c4, c5, c6, c7, _⟩ := h.cellA
 have hl : ∀ w', w'.heap[mc]? = w.heap[mc]? -> (Instr.lookup 66 (.map (some mc)) (.int .i64 C.did) true).run Tryz.prog w' = .ok (.tuple #[cut0, .bool false]) w' := by
  intro w' hw
  rw [(m1.of_block hw).look Tryz.underlying66 (zero57 _) (wf_did h.didr)]
  unfold cutF
  rw [hc]
  rfl
 have hlt := m1.lt
 unfold cut0 at *
 have la : L.a < w.heap.size := h.lt (Or.inl rfl)
 have hl1 : ∀ o, (Instr.lookup 66 (.map (some mc)) (.int .i64 C.did) true).run Tryz.prog (w.alloc o).drew = .ok (.tuple #[.agg #[.int .i64 0, .int .i64 0, .int .u8 0], .bool false]) (w.alloc o).drew := fun o => hl _ (Below.heap_alloc w o mc hlt)
 have hl2 : ∀ o o', (Instr.lookup 66 (.map (some mc)) (.int .i64 C.did) true).run Tryz.prog ((w.alloc o).alloc o').drew = .ok (.tuple #[.agg #[.int .i64 0, .int .i64 0, .int .u8 0], .bool false]) ((w.alloc o).alloc o').drew :=
  fun o o' => hl _ ((Below.heap_alloc (w.alloc o) o' mc (by rw [size_alloc]; omega)).trans (Below.heap_alloc w o mc hlt))
 have HH := Hid.mk h
 clear h m1 m2 hl hlt
 go_enter Tryz.func157, Tryz.ntmps157
 go_wp2_with fail
 go_region
 go_wp2_with fail
 exact bodyPost_ret (v := .tuple #[.agg #[.int .i64 0, .int .i64 0, .int .u8 0], .bool false]) (by rw [results_cell_tmp rfl]; go_simp) rfl ⟨rfl, (below_two w _ _).drew⟩
theorem cutnow_some {w : World} {L C} (h : Chip w L C) {k0 f : Int} (hc : C.cuts C.did = some (k0, f)) : Calls Tryz.prog 157 #[.pointer (some ⟨L.a, 0, none⟩)] w fun e w' => e = .returned (.tuple #[cutV C.did k0 f, .bool true]) /\ Chip w' L { C with off := true } /\ Kp (L.own C.B) w w' := by
 obtain ⟨mc, mf, n, k, m1, m2, c0, c1, c2, c3, c4, c5, c6, c7, hf⟩ := h.cellA
 have f7 := hf 7
 have hl : ∀ w', w'.heap[mc]? = w.heap[mc]? -> (Instr.lookup 66 (.map (some mc)) (.int .i64 C.did) true).run Tryz.prog w' = .ok (.tuple #[cutV C.did k0 f, .bool true]) w' := by
  intro w' hw
  rw [(m1.of_block hw).look Tryz.underlying66 (zero57 _) (wf_did h.didr)]
  unfold cutF
  rw [hc]
  rfl
 have hlt := m1.lt
 unfold cutV at *
 have la : L.a < w.heap.size := h.lt (Or.inl rfl)
 have hl1 : ∀ o, (Instr.lookup 66 (.map (some mc)) (.int .i64 C.did) true).run Tryz.prog (w.alloc o).drew = .ok (.tuple #[.agg #[.int .i64 C.did, .int .i64 k0, .int .u8 f], .bool true]) (w.alloc o).drew := fun o => hl _ (Below.heap_alloc w o mc hlt)
 have hl2 : ∀ o o', (Instr.lookup 66 (.map (some mc)) (.int .i64 C.did) true).run Tryz.prog ((w.alloc o).alloc o').drew = .ok (.tuple #[.agg #[.int .i64 C.did, .int .i64 k0, .int .u8 f], .bool true]) ((w.alloc o).alloc o').drew :=
  fun o o' => hl _ ((Below.heap_alloc (w.alloc o) o' mc (by rw [size_alloc]; omega)).trans (Below.heap_alloc w o mc hlt))
 have HH := Hid.mk h
 clear h m1 m2 hl hlt hf
 go_enter Tryz.func157, Tryz.ntmps157
 go_wp2_with fail
 go_region
 go_wp2_with fail
 exact bodyPost_ret (v := .tuple #[.agg #[.int .i64 C.did, .int .i64 k0, .int .u8 f], .bool true]) (by rw [results_cell_tmp rfl]; go_simp) rfl ⟨rfl, (((HH.out.setOff true).alloc _).alloc _).drew, ((((Kp.refl _ w).setCell (p := ⟨L.a, 7, none⟩) (Or.inl rfl) _).alloc _).alloc _).drew⟩
theorem upd_self {α : Type} (f : Nat -> α) (b : Nat) : upd f b (f b) = f := by
 funext i
 unfold upd
 split
 ·rename_i h
  rw [h]
 ·rfl
theorem failsnow_any {w : World} {L C} (h : Chip w L C) {b : Nat} (hb : b < C.B) : Calls Tryz.prog 160 #[.pointer (some ⟨L.a, 0, none⟩), .pointer (some ⟨L.bs, b * 4, none⟩)] w fun e w' =>
  e = .returned (.bool (C.dead b || C.fails C.did)) /\ Chip w' L { C with dead := upd C.dead b (C.dead b || C.fails C.did) } /\ Kp (L.own C.B) w w' := by
 obtain ⟨mc, mf, n, k, m1, m2, c0, c1, c2, c3, c4, c5, c6, c7, hf⟩ := h.cellA
 obtain ⟨b0, b1, b2, b3⟩ := h.cellB b hb
 have f2 := h.frozenB (b * 4 + 2)
 have hlt := m2.lt
 have la : L.a < w.heap.size := h.lt (Or.inl rfl)
 have lb : L.bs < w.heap.size := h.lt (Or.inr (Or.inl rfl))
 cases hfa : C.fails C.did
 ·have hl : ∀ w', w'.heap[mf]? = w.heap[mf]? -> (Instr.lookup 67 (.map (some mf)) (.int .i64 C.did) true).run Tryz.prog w' = .ok (.tuple #[.agg #[], .bool false]) w' := by
   intro w' hw
   rw [(m2.of_block hw).look Tryz.underlying67 (zero86 _) (wf_did h.didr)]
   unfold failF
   rw [hfa]
   rfl
  have hl1 : (Instr.lookup 67 (.map (some mf)) (.int .i64 C.did) true).run Tryz.prog w.drew = .ok (.tuple #[.agg #[], .bool false]) w.drew := hl _ rfl
  have hl2 : ∀ o, (Instr.lookup 67 (.map (some mf)) (.int .i64 C.did) true).run Tryz.prog (w.alloc o).drew = .ok (.tuple #[.agg #[], .bool false]) (w.alloc o).drew := fun o => hl _ (Below.heap_alloc w o mf hlt)
  rw [Bool.or_false, upd_self]
  have HH := Hid.mk h
  clear h m1 m2 hl hlt hf
  go_enter Tryz.func160, Tryz.ntmps160
  go_wp2_with fail
  go_region
  go_wp2_with fail
  go_ret
  refine ⟨rfl, ?_, ?_⟩
  ·exact (HH.out.alloc _).drew
  ·exact ((Kp.refl _ w).alloc _).drew
 ·have hl : ∀ w', w'.heap[mf]? = w.heap[mf]? -> (Instr.lookup 67 (.map (some mf)) (.int .i64 C.did) true).run Tryz.prog w' = .ok (.tuple #[.agg #[], .bool true]) w' := by
   intro w' hw
   rw [(m2.of_block hw).look Tryz.underlying67 (zero86 _) (wf_did h.didr)]
   unfold failF
   rw [hfa]
   rfl
  have hl1 : (Instr.lookup 67 (.map (some mf)) (.int .i64 C.did) true).run Tryz.prog w.drew = .ok (.tuple #[.agg #[], .bool true]) w.drew := hl _ rfl
  have hl2 : ∀ o, (Instr.lookup 67 (.map (some mf)) (.int .i64 C.did) true).run Tryz.prog (w.alloc o).drew = .ok (.tuple #[.agg #[], .bool true]) (w.alloc o).drew := fun o => hl _ (Below.heap_alloc w o mf hlt)
  rw [Bool.or_true]
  have HH := Hid.mk h
  clear h m1 m2 hl hlt hf
  go_enter Tryz.func160, Tryz.ntmps160
  go_wp2_with fail
  go_region
  go_wp2_with fail
  go_ret
  refine ⟨rfl, ?_, ?_⟩
  ·exact ((HH.out.setDead b true).alloc _).drew
  ·exact (((Kp.refl _ w).setCell (p := ⟨L.bs, b * 4 + 2, none⟩) (Or.inr (Or.inl rfl)) _).alloc _).drew
end Go.Proofs.YtcmmhfjnhlaepabGreatDoor
namespace Go.Proofs.YtcmmhfjnhlaepabGreatDoor
open Go Go.RowKit
theorem notEmpty {R : ByteArray} (h : ¬ R = ⟨#[]⟩) : R.toList.isEmpty = false := by
 rw [ByteArray.toList_eq]
 cases hl : R.data.toList with
 | nil => exact absurd (ByteArray.ext (by simpa using hl)) h
 | cons => rfl
def seen (C : Ch) (b p : Nat) : ByteArray := if C.pg b p = ⟨#[]⟩ then rep (C.Z + 32) 255 else C.pg b p
theorem seen_size {w : World} {L C} (h : Chip w L C) (b p : Nat) : (seen C b p).size = C.Z + 32 := by
 unfold seen
 split
 ·exact rep_size _ _
 ·rename_i hne
  rcases h.len b p with h0 | h0
  ·exact absurd (ByteArray.ext (Array.eq_empty_of_size_eq_zero h0)) hne
  ·exact h0
def rdV (C : Ch) (b p : Int) : Value := if refP C b p = 0 then .tuple #[.string ((seen C b.toNat p.toNat).extract 0 C.Z), .string ((seen C b.toNat p.toNat).extract C.Z (C.Z + 32)), .int .i64 0] else .tuple #[.string ⟨#[]⟩, .string ⟨#[]⟩, .int .i64 (refP C b p)]
theorem read_any {w : World} {L C} (h : Chip w L C) (b p : Int) : Calls Tryz.prog 82 #[.pointer (some ⟨L.a, 0, none⟩), .int .i64 b, .int .i64 p] w fun e w' => e = .returned (rdV C b p) /\ Below w.heap.size w w' := by
 unfold rdV
 by_cases h0 : refP C b p = 0
 ·rw [if_pos h0]
  have hr0 := Hid.mk h0
  obtain ⟨_, ⟨b, rfl, hb⟩, p, rfl, hp⟩ := refP_zero h0
  rw [Int.toNat_natCast, Int.toNat_natCast]
  obtain ⟨mc, mf, n, k, _, _, c0, c1, c2, c3, c4, c5, c6, c7, _⟩ := h.cellA
  obtain ⟨b0, b1, b2, b3⟩ := h.cellB b hb
  have p0 := h.cellP b p hb hp
  have hs := seen_size h b p
  have hg := h.geo
  have HH := Hid.mk h
  have HG := Hid.mk hg
  have hb1 : (b : Int) < C.B := by omega
  have hp1 : (p : Int) < C.P := by omega
  clear h h0 hg
  by_cases he : C.pg b p = ⟨#[]⟩
  ·have es : seen C b p = rep (C.Z + 32) 255 := by unfold seen; rw [if_pos he]
   rw [es] at hs
   rw [es]
   rw [he] at p0
   generalize hR : rep (C.Z + 32) 255 = R at *
   have HR := Hid.mk (And.intro hR es)
   clear hR es
   go_enter Tryz.func82, Tryz.ntmps82
   go_upto_region 7 with (first
    | (go_at_call 138; refine (refusep_any HH.out _ _).mono ?_; rintro e w' ⟨rfl, rfl⟩; rw [hr0.out])
    | (go_at_call 139; refine (filled_any HH.out _).mono ?_; rintro e w1 ⟨rfl, b1⟩; rw [HR.out.1]))
   obtain ⟨_, _, _, _, _, _, _, _, d2, _⟩ := (HH.out.call b1).cellA
   have HB := Hid.mk b1
   clear b1 c0 c1 c2 c3 c4 c5 c6 c7 b0 b2 b3 p0
   go_region
   go_wp2_with fail
   go_ret3
   exact ⟨rfl, HB.out.drew⟩
  ·have es : seen C b p = C.pg b p := by unfold seen; rw [if_neg he]
   rw [es] at hs
   rw [es]
   generalize hR : C.pg b p = R at *
   have HR := Hid.mk (And.intro hR es)
   have hne := notEmpty he
   clear hR es he
   go_enter Tryz.func82, Tryz.ntmps82
   go_upto_region 7 with (first
    | (go_at_call 138; refine (refusep_any HH.out _ _).mono ?_; rintro e w' ⟨rfl, rfl⟩; rw [hr0.out]))
   clear c0 c1 c3 c4 c5 c6 c7 b0 b1 b2 b3 p0
   go_region
   go_wp2_with fail
   go_ret3
   exact ⟨rfl, (Below.refl _ _).drew⟩
 ·rw [if_neg h0]
  have HH := Hid.mk h
  clear h
  go_enter Tryz.func82, Tryz.ntmps82
  go_wp2_with (go_at_call 138; refine (refusep_any HH.out _ _).mono ?_; rintro e w' ⟨rfl, rfl⟩)
  go_ret3
  exact ⟨rfl, Below.refl _ _⟩
def markC (C : Ch) (b : Int) : Ch × Int :=
 if refB C b = 0 then
  match C.cuts (C.did + 1) with
  | some x => ({ C with did := C.did + 1, off := true, mark := upd C.mark b.toNat (C.mark b.toNat || decide (0 < x.1)) }, 51)
  | none => ({ C with did := C.did + 1, mark := upd C.mark b.toNat true }, 0)
 else (C, refB C b)
theorem mark_any {w : World} {L C} (h : Chip w L C) (b : Int) (hd : C.did < 999999) : Calls Tryz.prog 114 #[.pointer (some ⟨L.a, 0, none⟩), .int .i64 b] w fun e w' =>
  e = .returned (.int .i64 (markC C b).2) /\ Chip w' L (markC C b).1 /\ Kp (L.own C.B) w w' := by
 unfold markC
 by_cases h0 : refB C b = 0
 ·rw [if_pos h0]
  have hr0 := Hid.mk h0
  obtain ⟨hoff, b, rfl, hb⟩ := refB_zero h0
  have HO := Hid.mk hoff
  clear hoff
  rw [Int.toNat_natCast]
  obtain ⟨mc, mf, n, k, _, _, c0, c1, c2, c3, c4, c5, c6, c7, hf⟩ := h.cellA
  obtain ⟨b0, b1, b2, b3⟩ := h.cellB b hb
  have f6 := hf 6
  have hdr := h.didr
  have HD := Hid.mk (h.setDid (C.did + 1) (by omega))
  have HK := Hid.mk ((Kp.refl (L.own C.B) w).setCell (p := ⟨L.a, 6, none⟩) (Or.inl rfl) (.int .i64 (C.did + 1)))
  have HH := Hid.mk h
  have hb1 : (b : Int) < C.B := by omega
  clear h h0 hf
  cases hc : C.cuts (C.did + 1) with
  | none =>
   simp only
   go_enter Tryz.func114, Tryz.ntmps114
   go_upto_region 9 with (first
    | (go_at_call 156; refine (refuse_any HH.out _).mono ?_; rintro e w' ⟨rfl, rfl⟩; rw [hr0.out])
    | (go_at_call 157; refine (cutnow_none HD.out hc).mono ?_; rintro e w1 ⟨rfl, b1⟩; unfold cut0))
   have HW := Hid.mk ((HD.out.call b1).alloc (.cells #[.int .i64 0, .int .i64 0, .int .u8 0] 87))
   have HQ := Hid.mk ((HK.out.call b1).alloc (.cells #[.int .i64 0, .int .i64 0, .int .u8 0] 87))
   generalize w1.alloc (.cells #[.int .i64 0, .int .i64 0, .int .u8 0] 87) = W at *
   clear b1 HD HK HH c0 c1 c2 c3 c4 c5 c6 c7 b0 b2 b3 f6
   obtain ⟨_, _, _, _, _, _, _, _, _, c3, _⟩ := HW.out.cellA
   obtain ⟨b0, b1, b2, b3⟩ := HW.out.cellB b hb
   have f3 := HW.out.frozenB (b * 4 + 3)
   go_wp2_with fail
   go_ret
   exact ⟨rfl, HW.out.setMark b true, HQ.out.setCell (p := ⟨L.bs, b * 4 + 3, none⟩) (Or.inr (Or.inl rfl)) _⟩
  | some x =>
   obtain ⟨k0, f⟩ := x
   simp only
   generalize hv : (C.mark b || decide (0 < k0)) = v
   have HV := Hid.mk hv
   clear hv
   go_enter Tryz.func114, Tryz.ntmps114
   go_upto_region 7 with (first
    | (go_at_call 156; refine (refuse_any HH.out _).mono ?_; rintro e w' ⟨rfl, rfl⟩; rw [hr0.out])
    | (go_at_call 157; refine (cutnow_some HD.out hc).mono ?_; rintro e w1 ⟨rfl, h1, q1⟩; unfold cutV))
   have cv : (w1.alloc (.cells #[.int .i64 (C.did + 1), .int .i64 k0, .int .u8 f] 87)).cell? ⟨w1.heap.size, 1, none⟩ = some (.int .i64 k0) := cell_of_row _ _ 1 _ 87 _ (heap_alloc_new w1 _)
   have HW := Hid.mk (h1.alloc (.cells #[.int .i64 (C.did + 1), .int .i64 k0, .int .u8 f] 87))
   have HQ := Hid.mk ((HK.out.trans q1).alloc (.cells #[.int .i64 (C.did + 1), .int .i64 k0, .int .u8 f] 87))
   generalize w1.alloc (.cells #[.int .i64 (C.did + 1), .int .i64 k0, .int .u8 f] 87) = W at *
   generalize w1.heap.size = G at *
   clear h1 q1 HD HK HH c0 c1 c2 c3 c4 c5 c6 c7 b0 b1 b2 b3 f6
   obtain ⟨_, _, _, _, _, _, _, _, _, c3, _⟩ := HW.out.cellA
   obtain ⟨b0, b1, b2, b3⟩ := HW.out.cellB b hb
   have f3 := HW.out.frozenB (b * 4 + 3)
   have hq : ∀ v, Chip (W.setCell ⟨L.bs, b * 4 + 3, none⟩ (.bool v)).drew L _ /\ Kp (L.own C.B) w' (W.setCell ⟨L.bs, b * 4 + 3, none⟩ (.bool v)).drew := fun v => ⟨(HW.out.setMark b v).drew, (HQ.out.setCell (p := ⟨L.bs, b * 4 + 3, none⟩) (Or.inr (Or.inl rfl)) _).drew⟩
   have HX := Hid.mk hq
   clear hq
   simp only at b3
   cases hm : C.mark b
   ·rw [hm] at b3
    by_cases hk : 0 < k0
    ·obtain rfl : v = true := by rw [<- HV.out, hm]; simp [hk]
     go_region
     go_wp2_with fail
     go_ret
     exact ⟨rfl, HX.out true⟩
    ·obtain rfl : v = false := by rw [<- HV.out, hm]; simp [hk]
     go_region
     go_wp2_with fail
     go_ret
     exact ⟨rfl, HX.out false⟩
   ·rw [hm] at b3
    obtain rfl : v = true := by rw [<- HV.out, hm]; rfl
    go_region
    go_wp2_with fail
    go_ret
    exact ⟨rfl, HX.out true⟩
 ·rw [if_neg h0]
  have HH := Hid.mk h
  clear h
  go_enter Tryz.func114, Tryz.ntmps114
  go_wp2_with (go_at_call 156; refine (refuse_any HH.out _).mono ?_; rintro e w' ⟨rfl, rfl⟩)
  go_ret
  exact ⟨rfl, HH.out, Kp.refl _ _⟩
theorem zero9 (w : World) : (zeroValue 9).run Tryz.prog w = .ok (.string ⟨#[]⟩) w := by kernel_rfl
theorem clear_run {W : World} {g P : Nat} {f : Nat -> Value} (h : W.rowIs g 9 P f) (n c : Nat) (hn : n <= P) (ty : TypeId) :
  (Builtin.clear_ #[76] ty #[.slice (some ⟨g, 0, none⟩) n c]).run Tryz.prog W = .ok (.tuple #[]) (W.setCells g 0 (List.replicate n (.string ⟨#[]⟩))) := by
 by_cases h0 : n = 0
 ·subst h0
  simp [Builtin.clear_, run_underlying Tryz.underlying76]
  rfl
 ·refine Lib.run_clear_slice W 76 9 ty (.string ⟨#[]⟩) Tryz.underlying76 zero9 rfl rfl g 0 n c (by omega) (fun j hj => ?_) (fun j _ => ?_)
  ·rw [Nat.zero_add, h.cell (by omega)]
   rfl
  ·exact h.frozen _
theorem heap_setCells (g : Nat) : ∀ (vs : List Value) (o : Nat) (w : World) (i : Nat), i ≠ g -> (w.setCells g o vs).heap[i]? = w.heap[i]?
 | [], _, _, _, _ => rfl
 | v :: r, o, w, i, h => (heap_setCells g r (o + 1) _ i h).trans (Below.heap_setCell w ⟨g, o, none⟩ v i h)
theorem Chip.clear {w : World} {L C} (h : Chip w L C) (b n : Nat) (hb : b < C.B) : Chip (w.setCells (L.pb b) 0 (List.replicate n (.string ⟨#[]⟩))) L { C with pg := upd C.pg b (fun p => if p < n then ⟨#[]⟩ else C.pg b p) } := by
 refine h.setRow b hb _ (fun p => ?_) ((rowIs_setCells _ 0 w _ (h.pgs b hb)).congr (fun p _ => ?_)) (fun i _ hi => heap_setCells _ _ _ _ i hi)
 ·split
  ·exact Or.inl rfl
  ·exact h.len b p
 ·rw [List.length_replicate]
  by_cases hp : p < n
  ·rw [if_pos ⟨Nat.zero_le _, by omega⟩, if_pos hp]
   simp [hp]
  ·rw [if_neg (by omega), if_neg hp]
theorem upd_upd {α : Type} (f : Nat -> α) (b : Nat) (v u : α) : upd (upd f b v) b u = upd f b u := by
 funext i
 unfold upd
 split <;> rfl
theorem upd_same {α : Type} (f : Nat -> α) (b : Nat) (v : α) : upd f b v b = v := by
 unfold upd
 rw [if_pos rfl]
def strAt (w : World) (a : Addr) : ByteArray := match w.cell? a with | some (.string s) => s | _ => ⟨#[]⟩
theorem strAt_of {w : World} {a : Addr} {s : ByteArray} (h : w.cell? a = some (.string s)) : strAt w a = s := by
 unfold strAt
 rw [h]
def putPg (C : Ch) (b q : Nat) (s : ByteArray) : Ch := { C with pg := upd C.pg b (upd (C.pg b) q s) }
theorem putPg_self (C : Ch) (b q : Nat) : putPg C b q (C.pg b q) = C := by
 unfold putPg
 rw [upd_self, upd_self]
theorem putPg_put (C : Ch) (b q : Nat) (s t : ByteArray) : putPg (putPg C b q s) b q t = putPg C b q t := by
 unfold putPg
 simp only [upd_upd, upd_same]
structure PgK (w0 : World) (L : Ly) (C : Ch) (b q G : Nat) (i k x : Int) (w' : World) : Prop where
 chip : Chip w' L (putPg C b q (strAt w' ⟨L.pb b, q, none⟩))
 kept : Kp (L.own C.B) w0 w'
 cut : w'.heap[G]? = some (.cells #[.int .i64 i, .int .i64 k, .int .u8 x] 87 (0, 0))
 ne : G ≠ L.pb b
 hb : b < C.B
 hq : q < C.P
theorem PgK.page {w0 : World} {L C b q G i k x} {w' : World} (h : PgK w0 L C b q G i k x w') : w'.cell? ⟨L.pb b, q, none⟩ = some (.string (strAt w' ⟨L.pb b, q, none⟩)) := by
 have := h.chip.cellP b q h.hb h.hq
 unfold putPg at this
 simp only [upd_same] at this
 exact this
theorem PgK.start {w0 w' : World} {L C b q G i k x} (h : Chip w' L C) (hk : Kp (L.own C.B) w0 w') (hc : w'.heap[G]? = some (.cells #[.int .i64 i, .int .i64 k, .int .u8 x] 87 (0, 0))) (hn : G ≠ L.pb b) (hb : b < C.B) (hq : q < C.P) : PgK w0 L C b q G i k x w' :=
 ⟨by rw [strAt_of (h.cellP b q hb hq), putPg_self]; exact h, hk, hc, hn, hb, hq⟩
theorem PgK.call {w0 : World} {L C b q G i k x} {w1 w2 : World} (h : PgK w0 L C b q G i k x w1) (b' : Below w1.heap.size w1 w2) : PgK w0 L C b q G i k x w2 := by
 have e : strAt w2 ⟨L.pb b, q, none⟩ = strAt w1 ⟨L.pb b, q, none⟩ := strAt_of ((b'.cell (p := ⟨L.pb b, q, none⟩) (h.chip.lt (Or.inr (Or.inr ⟨b, h.hb, rfl⟩)))).trans h.page)
 exact ⟨by rw [e]; exact h.chip.call b', h.kept.call b', (b'.block G (Array.getElem?_eq_some_iff.1 h.cut).1).trans h.cut, h.ne, h.hb, h.hq⟩
theorem PgK.drew {w0 : World} {L C b q G i k x} {w1 : World} (h : PgK w0 L C b q G i k x w1) : PgK w0 L C b q G i k x w1.drew := ⟨h.chip.drew, h.kept.drew, h.cut, h.ne, h.hb, h.hq⟩
theorem PgK.stored {w0 : World} {L C b q G i k x} {w1 : World} (h : PgK w0 L C b q G i k x w1) {s : ByteArray} (hs : s.size = 0 \/ s.size = C.Z + 32) : PgK w0 L C b q G i k x (w1.setCell ⟨L.pb b, q, none⟩ (.string s)) := by
 have e : strAt (w1.setCell ⟨L.pb b, q, none⟩ (.string s)) ⟨L.pb b, q, none⟩ = s := strAt_of (World.cell?_setCell_same _ _ _ h.page)
 have h2 := h.chip.setPage b q h.hb s hs
 have h3 : Chip (w1.setCell ⟨L.pb b, q, none⟩ (.string s)) L (putPg (putPg C b q (strAt w1 ⟨L.pb b, q, none⟩)) b q s) := h2
 rw [putPg_put] at h3
 exact ⟨by rw [e]; exact h3, h.kept.setCell (p := ⟨L.pb b, q, none⟩) (Or.inr (Or.inr ⟨b, h.hb, rfl⟩)) _, (Below.heap_setCell w1 _ _ G h.ne).trans h.cut, h.ne, h.hb, h.hq⟩
theorem PgK.done {w0 : World} {L C b q G i k x} {w1 : World} (h : PgK w0 L C b q G i k x w1) {s : ByteArray} (hs : s.size = 0 \/ s.size = C.Z + 32) : Chip (w1.setCell ⟨L.pb b, q, none⟩ (.string s)) L (putPg C b q s) /\ Kp (L.own C.B) w0 (w1.setCell ⟨L.pb b, q, none⟩ (.string s)) := by
 have h2 := (h.stored hs).chip
 rw [strAt_of (World.cell?_setCell_same _ _ _ h.page)] at h2
 exact ⟨h2, (h.stored hs).kept⟩
theorem PgK.cells {w0 : World} {L C b q G i k x} {w' : World} (h : PgK w0 L C b q G i k x w') :
  w'.cell? ⟨L.bs, b * 4, none⟩ = some (.slice (some ⟨L.pb b, 0, none⟩) C.P C.P) /\ w'.cell? ⟨L.pb b, q, none⟩ = some (.string (strAt w' ⟨L.pb b, q, none⟩)) /\ w'.frozen? ⟨L.pb b, q, none⟩ = false ∧
  w'.cell? ⟨G, 0, none⟩ = some (.int .i64 i) /\ w'.cell? ⟨G, 1, none⟩ = some (.int .i64 k) /\ w'.cell? ⟨G, 2, none⟩ = some (.int .u8 x) /\ PgK w0 L C b q G i k x w' :=
 ⟨(h.chip.cellB b h.hb).1, h.page, h.chip.frozenP b q h.hb, cell_of_row _ _ 0 _ 87 _ h.cut, cell_of_row _ _ 1 _ 87 _ h.cut, cell_of_row _ _ 2 _ 87 _ h.cut, h⟩
theorem pg_keep {w0 : World} {L C b q G i k x} {w1 w2 : World} {a1 a2 a3 a4 a5 a6 : Prop} (h : a1 /\ a2 /\ a3 /\ a4 /\ a5 /\ a6 /\ PgK w0 L C b q G i k x w1) (b' : Below w1.heap.size w1 w2) :
  w2.cell? ⟨L.bs, b * 4, none⟩ = some (.slice (some ⟨L.pb b, 0, none⟩) C.P C.P) /\ w2.cell? ⟨L.pb b, q, none⟩ = some (.string (strAt w2 ⟨L.pb b, q, none⟩)) /\ w2.frozen? ⟨L.pb b, q, none⟩ = false ∧
  w2.cell? ⟨G, 0, none⟩ = some (.int .i64 i) /\ w2.cell? ⟨G, 1, none⟩ = some (.int .i64 k) /\ w2.cell? ⟨G, 2, none⟩ = some (.int .u8 x) /\ PgK w0 L C b q G i k x w2 := (h.2.2.2.2.2.2.call b').cells
theorem pg_store {w0 : World} {L C b q G i k x} {w1 : World} {a1 a2 a3 a4 a5 a6 : Prop} (h : a1 /\ a2 /\ a3 /\ a4 /\ a5 /\ a6 /\ PgK w0 L C b q G i k x w1) {s : ByteArray} (hs : s.size = 0 \/ s.size = C.Z + 32) {w2 : World} (hw : w2 = w1.setCell ⟨L.pb b, q, none⟩ (.string s)) :
  w2.cell? ⟨L.bs, b * 4, none⟩ = some (.slice (some ⟨L.pb b, 0, none⟩) C.P C.P) /\ w2.cell? ⟨L.pb b, q, none⟩ = some (.string (strAt w2 ⟨L.pb b, q, none⟩)) /\ w2.frozen? ⟨L.pb b, q, none⟩ = false ∧
  w2.cell? ⟨G, 0, none⟩ = some (.int .i64 i) /\ w2.cell? ⟨G, 1, none⟩ = some (.int .i64 k) /\ w2.cell? ⟨G, 2, none⟩ = some (.int .u8 x) /\ PgK w0 L C b q G i k x w2 := by
 rw [hw]
 exact (h.2.2.2.2.2.2.stored hs).cells
theorem pg_chip {w0 : World} {L C b q G i k x} {a1 a2 a3 a4 a5 a6 : Prop} {w' : World} (h : a1 /\ a2 /\ a3 /\ a4 /\ a5 /\ a6 /\ PgK w0 L C b q G i k x w') : Chip w' L (putPg C b q (strAt w' ⟨L.pb b, q, none⟩)) := h.2.2.2.2.2.2.chip
def tornB (C : Ch) (f : Nat -> ByteArray) (k x : Int) (p : Nat) : ByteArray := if (p : Int) = k /\ (p : Int) < C.P then kp C.Z (rep (C.Z + 32) (u8 x)) else if (p : Int) < k /\ (p : Int) < C.P then ⟨#[]⟩ else f p
def eraseC (C : Ch) (b : Int) : Ch × Int :=
 if refB C b = 0 then
  match C.cuts (C.did + 1) with
  | some x => ({ C with did := C.did + 1, worn := upd C.worn b.toNat (C.worn b.toNat + 1), off := true, pg := upd C.pg b.toNat (tornB C (C.pg b.toNat) x.1 x.2) }, 51)
  | none => if (C.dead b.toNat || C.fails (C.did + 1)) = true then ({ C with did := C.did + 1, worn := upd C.worn b.toNat (C.worn b.toNat + 1), dead := upd C.dead b.toNat true }, 54)
   else ({ C with did := C.did + 1, worn := upd C.worn b.toNat (C.worn b.toNat + 1), pg := upd C.pg b.toNat (fun p => if p < C.P then ⟨#[]⟩ else C.pg b.toNat p) }, 0)
 else (C, refB C b)
theorem torn_in {C C2 : Ch} {b kk q : Nat} {x : Int} (hCC : C2 = { C with did := C.did + 1, worn := upd C.worn b (C.worn b + 1), off := true, pg := upd C.pg b (fun p => if p < kk then ⟨#[]⟩ else C.pg b p) }) (hk : kk = q) (hq : q < C.P) :
  ({ C2 with pg := upd C2.pg b (upd (C2.pg b) q (kp C2.Z (rep (C2.Z + 32) (u8 x)))) } : Ch) = { C with did := C.did + 1, worn := upd C.worn b (C.worn b + 1), off := true, pg := upd C.pg b (tornB C (C.pg b) q x) } := by
 subst hCC hk
 have e : upd (fun p => if p < kk then ⟨#[]⟩ else C.pg b p) kk (kp C.Z (rep (C.Z + 32) (u8 x))) = tornB C (C.pg b) kk x := by
  funext p
  unfold upd tornB
  by_cases h1 : p = kk
  ·rw [if_pos h1, if_pos (by omega)]
  ·rw [if_neg h1, if_neg (by omega)]
   by_cases h2 : p < kk
   ·simp only [if_pos h2]
    rw [if_pos (by omega)]
   ·simp only [if_neg h2]
    rw [if_neg (by omega)]
 simp only [upd_upd, upd_same, e]
theorem torn_out {C C2 : Ch} {b kk : Nat} {k x : Int} (hCC : C2 = { C with did := C.did + 1, worn := upd C.worn b (C.worn b + 1), off := true, pg := upd C.pg b (fun p => if p < kk then ⟨#[]⟩ else C.pg b p) }) (hk : ¬ (0 <= k /\ k < C.P)) (hm : min (max k 0) (C.P : Int) = kk) (hkk : kk <= C.P) :
  C2 = { C with did := C.did + 1, worn := upd C.worn b (C.worn b + 1), off := true, pg := upd C.pg b (tornB C (C.pg b) k x) } := by
 have e : (fun p => if p < kk then ⟨#[]⟩ else C.pg b p) = tornB C (C.pg b) k x := by
  funext p
  unfold tornB
  by_cases h2 : p < kk
  ·rw [if_pos h2, if_neg (by omega), if_pos (by omega)]
  ·rw [if_neg h2, if_neg (by omega), if_neg (by omega)]
 rw [hCC, e]
def usedB (C : Ch) (b p : Nat) : Bool := (List.range C.P).any fun q => decide (p <= q /\ C.pg b q ≠ ⟨#[]⟩)
theorem usedB_false {C : Ch} {b p : Nat} (h : usedB C b p = false) (q : Nat) (h1 : p <= q) (h2 : q < C.P) : C.pg b q = ⟨#[]⟩ := by
 unfold usedB at h
 rw [List.any_eq_false] at h
 have := h q (List.mem_range.2 h2)
 simp only [decide_eq_true_eq, not_and, ne_eq, Decidable.not_not] at this
 exact this h1
theorem usedB_true {C : Ch} {b p : Nat} (h : usedB C b p = true) : ∃ q, p <= q /\ q < C.P /\ ¬ C.pg b q = ⟨#[]⟩ := by
 unfold usedB at h
 rw [List.any_eq_true] at h
 obtain ⟨q, h1, h2⟩ := h
 rw [decide_eq_true_eq] at h2
 exact ⟨q, h2.1, List.mem_range.1 h1, h2.2⟩
def tornP (Z : Nat) (raw : ByteArray) (k x : Int) : ByteArray := raw.extract 0 (min (max k 0) ((Z + 32 : Nat) : Int)).toNat ++ (rep (Z + 32) (u8 x)).extract (min (max k 0) ((Z + 32 : Nat) : Int)).toNat (Z + 32)
theorem cut_size (Z kk : Nat) (raw y : ByteArray) (h : raw.size = Z + 32) (hy : y.size = Z + 32) (hk : kk <= Z + 32) : (raw.extract 0 kk ++ y.extract kk (Z + 32)).size = Z + 32 := by
 rw [ByteArray.size_append, ByteArray.size_extract, ByteArray.size_extract]
 omega
def progC (C : Ch) (b p : Int) (data spare : ByteArray) : Ch × Int :=
 if refP C b p = 0 then
  if data.size = C.Z /\ spare.size = 32 then
   if usedB C b.toNat p.toNat = true then (C, 52)
   else match C.cuts (C.did + 1) with
    | some x => (putPg { C with did := C.did + 1, off := true } b.toNat p.toNat (kp C.Z (tornP C.Z (data ++ spare) x.1 x.2)), 51)
    | none => if (C.dead b.toNat || C.fails (C.did + 1)) = true then (putPg { C with did := C.did + 1, dead := upd C.dead b.toNat true } b.toNat p.toNat (rep (C.Z + 32) 0), 53)
     else (putPg { C with did := C.did + 1 } b.toNat p.toNat (kp C.Z (data ++ spare)), 0)
  else (C, 1)
 else (C, refP C b p)
theorem prog_used {w : World} {L C} (h : Chip w L C) (b p : Nat) (hb : b < C.B) (hp : p < C.P) (hr0 : Hid (refP C b p = 0)) (data spare : ByteArray) (hs1 : data.size = C.Z) (hs2 : spare.size = 32) (hd : C.did < 999999) (hu : usedB C b p = true) :
  Calls Tryz.prog 223 #[.pointer (some ⟨L.a, 0, none⟩), .int .i64 b, .int .i64 p, .string data, .string spare] w fun e w' => e = .returned (.int .i64 52) /\ w' = w := by
 obtain ⟨mc, mf, n, k, _, _, c0, c1, c2, c3, c4, c5, c6, c7, hf⟩ := h.cellA
 obtain ⟨b0, b1, b2, b3⟩ := h.cellB b hb
 have hp0 := fun q hq => h.cellP b q hb hq
 have f6 := hf 6
 have hdr := h.didr
 have HD := Hid.mk (h.setDid (C.did + 1) (by omega))
 have HK := Hid.mk ((Kp.refl (L.own C.B) w).setCell (p := ⟨L.a, 6, none⟩) (Or.inl rfl) (.int .i64 (C.did + 1)))
 have HG := Hid.mk h.geo
 have HH := Hid.mk h
 have hb1 : (b : Int) < C.B := by omega
 have hp1 : (p : Int) < C.P := by omega
 have hgp := h.geo
 clear h hf
 go_enter Tryz.func223, Tryz.ntmps223
 go_upto_region 8 with (first
  | (go_at_call 138; refine (refusep_any HH.out _ _).mono ?_; rintro e w' ⟨rfl, hw'⟩; rw [hw', hr0.out]; clear hw'))
 have hpp : ((C.P - p : Nat) : Int) = (C.P : Int) - p := by omega
 go_loopw [52] (fun i wr => ∃ k : Nat, k <= C.P - p /\ i = .int .i64 k /\ wr = w /\ ∀ q, p <= q -> q < p + k -> C.pg b q = ⟨#[]⟩) (fun i _ => C.P - p - (intOf i).toNat)
 case atStart => exact ⟨0, Nat.zero_le _, rfl, rfl, fun q h1 h2 => by omega⟩
 case round =>
  obtain ⟨i, hi, rfl, rfl, hall⟩ := hrel
  have HA := Hid.mk hall
  clear hall
  by_cases hik : i < C.P - p
  ·have ci := hp0 (p + i) (by omega)
   have hi1 : (i : Int) < (C.P : Int) - p := by omega
   have hi2 : (i : Int) < ((C.P - p : Nat) : Int) := by omega
   by_cases he : C.pg b (p + i) = ⟨#[]⟩
   ·rw [he] at ci
    clear hp0 c0 c1 c2 c3 c4 c5 c6 c7 b0 b1 b2 b3
    go_wp2_with fail
    refine ⟨⟨i + 1, by omega, by go_num, by first | rfl | trivial, fun q h1 h2 => ?_⟩, by simp [intOf]; omega⟩
    by_cases hqi : q = p + i
    ·rw [hqi]
     exact he
    ·exact HA.out q h1 (by omega)
   ·have hne := notEmpty he
    generalize C.pg b (p + i) = S at *
    clear hp0 c0 c1 c2 c3 c4 c5 c6 c7 b0 b1 b2 b3 he
    go_wp2_with fail
    go_ret
    exact ⟨rfl, rfl⟩
  ·have hall : ∀ q, p <= q -> q < C.P -> C.pg b q = ⟨#[]⟩ := fun q h1 h2 => HA.out q h1 (by omega)
   have hi1 : ¬ (i : Int) < (C.P : Int) - p := by omega
   have hi2 : ¬ (i : Int) < ((C.P - p : Nat) : Int) := by omega
   obtain ⟨q, q1, q2, q3⟩ := usedB_true hu
   exact absurd (hall q q1 q2) q3
set_option maxHeartbeats 1000000 in
theorem prog_ok {w : World} {L C} (h : Chip w L C) (b p : Nat) (hb : b < C.B) (hp : p < C.P) (hr0 : Hid (refP C b p = 0)) (data spare R : ByteArray) (hR : data ++ spare = R) (hs1 : data.size = C.Z) (hs2 : spare.size = 32) (hd : C.did < 999999) (hu : usedB C b p = false) (hc : C.cuts (C.did + 1) = none) (hfa : (C.dead b || C.fails (C.did + 1)) = false) :
  Calls Tryz.prog 223 #[.pointer (some ⟨L.a, 0, none⟩), .int .i64 b, .int .i64 p, .string data, .string spare] w fun e w' => e = .returned (.int .i64 0) /\ Chip w' L (putPg { C with did := C.did + 1 } b p (kp C.Z R)) /\ Kp (L.own C.B) w w' := by
 have hRs : R.size = C.Z + 32 := by rw [<- hR, ByteArray.size_append, hs1, hs2]
 obtain ⟨mc, mf, n, k, _, _, c0, c1, c2, c3, c4, c5, c6, c7, hf⟩ := h.cellA
 obtain ⟨b0, b1, b2, b3⟩ := h.cellB b hb
 have hp0 := fun q hq => h.cellP b q hb hq
 have f6 := hf 6
 have hdr := h.didr
 have HD := Hid.mk (h.setDid (C.did + 1) (by omega))
 have HK := Hid.mk ((Kp.refl (L.own C.B) w).setCell (p := ⟨L.a, 6, none⟩) (Or.inl rfl) (.int .i64 (C.did + 1)))
 have HG := Hid.mk h.geo
 have HH := Hid.mk h
 have hb1 : (b : Int) < C.B := by omega
 have hp1 : (p : Int) < C.P := by omega
 have hgp := h.geo
 clear h hf
 go_enter Tryz.func223, Tryz.ntmps223
 go_upto_region 8 with (first
  | (go_at_call 138; refine (refusep_any HH.out _ _).mono ?_; rintro e w' ⟨rfl, hw'⟩; rw [hw', hr0.out]; clear hw'))
 have hpp : ((C.P - p : Nat) : Int) = (C.P : Int) - p := by omega
 go_loopw [52] (fun i wr => ∃ k : Nat, k <= C.P - p /\ i = .int .i64 k /\ wr = w /\ ∀ q, p <= q -> q < p + k -> C.pg b q = ⟨#[]⟩) (fun i _ => C.P - p - (intOf i).toNat)
 case atStart => exact ⟨0, Nat.zero_le _, rfl, rfl, fun q h1 h2 => by omega⟩
 case round =>
  obtain ⟨i, hi, rfl, rfl, hall⟩ := hrel
  have HA := Hid.mk hall
  clear hall
  by_cases hik : i < C.P - p
  ·have ci := hp0 (p + i) (by omega)
   have hi1 : (i : Int) < (C.P : Int) - p := by omega
   have hi2 : (i : Int) < ((C.P - p : Nat) : Int) := by omega
   by_cases he : C.pg b (p + i) = ⟨#[]⟩
   ·rw [he] at ci
    clear hp0 c0 c1 c2 c3 c4 c5 c6 c7 b0 b1 b2 b3
    go_wp2_with fail
    refine ⟨⟨i + 1, by omega, by go_num, by first | rfl | trivial, fun q h1 h2 => ?_⟩, by simp [intOf]; omega⟩
    by_cases hqi : q = p + i
    ·rw [hqi]
     exact he
    ·exact HA.out q h1 (by omega)
   ·have hne := notEmpty he
    exact absurd (usedB_false hu (p + i) (by omega) (by omega)) he
  ·have hall : ∀ q, p <= q -> q < C.P -> C.pg b q = ⟨#[]⟩ := fun q h1 h2 => HA.out q h1 (by omega)
   have hi1 : ¬ (i : Int) < (C.P : Int) - p := by omega
   have hi2 : ¬ (i : Int) < ((C.P - p : Nat) : Int) := by omega
   clear hp0
   go_upto_region 23 with (first
    | (go_at_call 157; refine (cutnow_none HD.out hc).mono ?_; rintro e w1 ⟨rfl, b1⟩; unfold cut0; have HW := Hid.mk ((HD.out.call b1).alloc (.cells #[.int .i64 0, .int .i64 0, .int .u8 0] 87)); have HQ := Hid.mk ((HK.out.call b1).alloc (.cells #[.int .i64 0, .int .i64 0, .int .u8 0] 87)))
    | (go_at_call 160; refine (failsnow_any HW.out (b := b) hb).mono ?_; rintro e w2 ⟨rfl, h2, q2⟩; simp only [hfa]))
   have hGa : ∀ i, L.own C.B i -> i < w1.heap.size := fun i hi => (HD.out.call b1).lt hi
   have cv := heap_alloc_new w1 (.cells #[.int .i64 0, .int .i64 0, .int .u8 0] 87)
   have cv2 : w2.heap[w1.heap.size]? = some (.cells #[.int .i64 0, .int .i64 0, .int .u8 0] 87 (0, 0)) := (q2.block _ (by rw [size_alloc]; omega) (fun hx => by have := hGa _ hx; omega)).trans cv
   have hnG : w1.heap.size ≠ L.pb b := fun e => by have := hGa (L.pb b) (Or.inr (Or.inr ⟨b, hb, rfl⟩)); omega
   replace h2 : Chip w2 L { C with did := C.did + 1, dead := upd C.dead b (C.dead b || C.fails (C.did + 1)) } := h2
   have hk2 : Kp (L.own C.B) wr w2 := HQ.out.trans q2
   generalize w1.heap.size = G at *
   clear b1 HD HK HH c0 c1 c2 c3 c4 c5 c6 c7 b0 b2 b3 f6 HW HQ q2 cv hGa hall HA
   have ed : C.dead b = false := by
    cases hx : C.dead b
    ·rfl
    ·rw [hx] at hfa
     exact absurd hfa (by simp)
   have e2 : upd C.dead b (C.dead b || C.fails (C.did + 1)) = C.dead := by rw [hfa, <- ed, upd_self]
   rw [e2] at h2
   clear e2 ed
   obtain ⟨C2, eC⟩ : ∃ C2 : Ch, C2 = { C with did := C.did + 1 } := ⟨_, rfl⟩
   rw [<- eC] at h2
   have eB : C2.B = C.B := by rw [eC]
   have eP : C2.P = C.P := by rw [eC]
   have eZ : C2.Z = C.Z := by rw [eC]
   rw [<- eB] at hk2
   have hfin : (kp C2.Z R).size = 0 \/ (kp C2.Z R).size = C2.Z + 32 := kp_size _ _ (by rw [eZ]; exact hRs)
   have HPK := Hid.mk (PgK.start (b := b) (q := p) h2 hk2 cv2 hnG (by rw [eB]; exact hb) (by rw [eP]; exact hp))
   have HS := Hid.mk HPK.out.drew.cells
   have HE := Hid.mk (And.intro eZ eC)
   have hq3 : (p : Int) < C2.P := by rw [eP]; exact hp1
   have HF := Hid.mk hfin
   clear h2 hk2 cv2 hnG eB eP eZ eC hfin
   go_region_held3 (fun w9 => w9.cell? ⟨L.bs, b * 4, none⟩ = some (.slice (some ⟨L.pb b, 0, none⟩) C2.P C2.P) /\ w9.cell? ⟨L.pb b, p, none⟩ = some (.string (strAt w9 ⟨L.pb b, p, none⟩)) /\ w9.frozen? ⟨L.pb b, p, none⟩ = false ∧
      w9.cell? ⟨G, 0, none⟩ = some (.int .i64 0) /\ w9.cell? ⟨G, 1, none⟩ = some (.int .i64 0) /\ w9.cell? ⟨G, 2, none⟩ = some (.int .u8 0) /\ PgK wr L C2 b p G 0 0 0 w9) (first | assumption | exact HS.out | exact pg_keep (by assumption) (by assumption) | exact pg_store (by assumption) HF.out rfl | fail)
     (first
      | (go_at_call 158; refine (kept_any (pg_chip (by assumption)) _).mono ?_; rintro e w7 ⟨rfl, b7⟩))
   have H7 := Hid.mk ((HPK.out.drew.call b7).done HF.out)
   clear b7 HS HPK
   go_wp2_with fail
   go_ret
   have h8 := H7.out
   have e8 := HE.out.2
   clear HE HF H7 hq3
   subst e8
   exact ⟨rfl, h8.1, h8.2⟩
set_option maxHeartbeats 1000000 in
theorem prog_dead {w : World} {L C} (h : Chip w L C) (b p : Nat) (hb : b < C.B) (hp : p < C.P) (hr0 : Hid (refP C b p = 0)) (data spare R : ByteArray) (hR : data ++ spare = R) (hs1 : data.size = C.Z) (hs2 : spare.size = 32) (hd : C.did < 999999) (hu : usedB C b p = false) (hc : C.cuts (C.did + 1) = none) (hfa : (C.dead b || C.fails (C.did + 1)) = true) :
  Calls Tryz.prog 223 #[.pointer (some ⟨L.a, 0, none⟩), .int .i64 b, .int .i64 p, .string data, .string spare] w fun e w' => e = .returned (.int .i64 53) /\ Chip w' L (putPg { C with did := C.did + 1, dead := upd C.dead b true } b p (rep (C.Z + 32) 0)) /\ Kp (L.own C.B) w w' := by
 have hRs : R.size = C.Z + 32 := by rw [<- hR, ByteArray.size_append, hs1, hs2]
 obtain ⟨mc, mf, n, k, _, _, c0, c1, c2, c3, c4, c5, c6, c7, hf⟩ := h.cellA
 obtain ⟨b0, b1, b2, b3⟩ := h.cellB b hb
 have hp0 := fun q hq => h.cellP b q hb hq
 have f6 := hf 6
 have hdr := h.didr
 have HD := Hid.mk (h.setDid (C.did + 1) (by omega))
 have HK := Hid.mk ((Kp.refl (L.own C.B) w).setCell (p := ⟨L.a, 6, none⟩) (Or.inl rfl) (.int .i64 (C.did + 1)))
 have HG := Hid.mk h.geo
 have HH := Hid.mk h
 have hb1 : (b : Int) < C.B := by omega
 have hp1 : (p : Int) < C.P := by omega
 have hgp := h.geo
 clear h hf
 go_enter Tryz.func223, Tryz.ntmps223
 go_upto_region 8 with (first
  | (go_at_call 138; refine (refusep_any HH.out _ _).mono ?_; rintro e w' ⟨rfl, hw'⟩; rw [hw', hr0.out]; clear hw'))
 have hpp : ((C.P - p : Nat) : Int) = (C.P : Int) - p := by omega
 go_loopw [52] (fun i wr => ∃ k : Nat, k <= C.P - p /\ i = .int .i64 k /\ wr = w /\ ∀ q, p <= q -> q < p + k -> C.pg b q = ⟨#[]⟩) (fun i _ => C.P - p - (intOf i).toNat)
 case atStart => exact ⟨0, Nat.zero_le _, rfl, rfl, fun q h1 h2 => by omega⟩
 case round =>
  obtain ⟨i, hi, rfl, rfl, hall⟩ := hrel
  have HA := Hid.mk hall
  clear hall
  by_cases hik : i < C.P - p
  ·have ci := hp0 (p + i) (by omega)
   have hi1 : (i : Int) < (C.P : Int) - p := by omega
   have hi2 : (i : Int) < ((C.P - p : Nat) : Int) := by omega
   by_cases he : C.pg b (p + i) = ⟨#[]⟩
   ·rw [he] at ci
    clear hp0 c0 c1 c2 c3 c4 c5 c6 c7 b0 b1 b2 b3
    go_wp2_with fail
    refine ⟨⟨i + 1, by omega, by go_num, by first | rfl | trivial, fun q h1 h2 => ?_⟩, by simp [intOf]; omega⟩
    by_cases hqi : q = p + i
    ·rw [hqi]
     exact he
    ·exact HA.out q h1 (by omega)
   ·have hne := notEmpty he
    exact absurd (usedB_false hu (p + i) (by omega) (by omega)) he
  ·have hall : ∀ q, p <= q -> q < C.P -> C.pg b q = ⟨#[]⟩ := fun q h1 h2 => HA.out q h1 (by omega)
   have hi1 : ¬ (i : Int) < (C.P : Int) - p := by omega
   have hi2 : ¬ (i : Int) < ((C.P - p : Nat) : Int) := by omega
   clear hp0
   go_upto_region 21 with (first
    | (go_at_call 157; refine (cutnow_none HD.out hc).mono ?_; rintro e w1 ⟨rfl, b1⟩; unfold cut0; have HW := Hid.mk ((HD.out.call b1).alloc (.cells #[.int .i64 0, .int .i64 0, .int .u8 0] 87)); have HQ := Hid.mk ((HK.out.call b1).alloc (.cells #[.int .i64 0, .int .i64 0, .int .u8 0] 87)))
    | (go_at_call 160; refine (failsnow_any HW.out (b := b) hb).mono ?_; rintro e w2 ⟨rfl, h2, q2⟩; simp only [hfa]))
   have hGa : ∀ i, L.own C.B i -> i < w1.heap.size := fun i hi => (HD.out.call b1).lt hi
   have cv := heap_alloc_new w1 (.cells #[.int .i64 0, .int .i64 0, .int .u8 0] 87)
   have cv2 : w2.heap[w1.heap.size]? = some (.cells #[.int .i64 0, .int .i64 0, .int .u8 0] 87 (0, 0)) := (q2.block _ (by rw [size_alloc]; omega) (fun hx => by have := hGa _ hx; omega)).trans cv
   have hnG : w1.heap.size ≠ L.pb b := fun e => by have := hGa (L.pb b) (Or.inr (Or.inr ⟨b, hb, rfl⟩)); omega
   replace h2 : Chip w2 L { C with did := C.did + 1, dead := upd C.dead b (C.dead b || C.fails (C.did + 1)) } := h2
   have hk2 : Kp (L.own C.B) wr w2 := HQ.out.trans q2
   generalize w1.heap.size = G at *
   clear b1 HD HK HH c0 c1 c2 c3 c4 c5 c6 c7 b0 b2 b3 f6 HW HQ q2 cv hGa hall HA
   rw [hfa] at h2
   obtain ⟨C2, eC⟩ : ∃ C2 : Ch, C2 = { C with did := C.did + 1, dead := upd C.dead b true } := ⟨_, rfl⟩
   rw [<- eC] at h2
   have eB : C2.B = C.B := by rw [eC]
   have eP : C2.P = C.P := by rw [eC]
   have eZ : C2.Z = C.Z := by rw [eC]
   rw [<- eB] at hk2
   have hfin : (rep (C2.Z + 32) 0).size = 0 \/ (rep (C2.Z + 32) 0).size = C2.Z + 32 := Or.inr (rep_size _ _)
   have HPK := Hid.mk (PgK.start (b := b) (q := p) h2 hk2 cv2 hnG (by rw [eB]; exact hb) (by rw [eP]; exact hp))
   have HS := Hid.mk HPK.out.drew.cells
   have HE := Hid.mk (And.intro eZ eC)
   have hq3 : (p : Int) < C2.P := by rw [eP]; exact hp1
   have HF := Hid.mk hfin
   clear h2 hk2 cv2 hnG eB eP eZ eC hfin
   go_region_held3 (fun w9 => w9.cell? ⟨L.bs, b * 4, none⟩ = some (.slice (some ⟨L.pb b, 0, none⟩) C2.P C2.P) /\ w9.cell? ⟨L.pb b, p, none⟩ = some (.string (strAt w9 ⟨L.pb b, p, none⟩)) /\ w9.frozen? ⟨L.pb b, p, none⟩ = false ∧
      w9.cell? ⟨G, 0, none⟩ = some (.int .i64 0) /\ w9.cell? ⟨G, 1, none⟩ = some (.int .i64 0) /\ w9.cell? ⟨G, 2, none⟩ = some (.int .u8 0) /\ PgK wr L C2 b p G 0 0 0 w9) (first | assumption | exact HS.out | exact pg_keep (by assumption) (by assumption) | exact pg_store (by assumption) HF.out rfl | fail)
     (first
      | (go_at_call 139; refine (filled_any (pg_chip (by assumption)) _).mono ?_; rintro e w7 ⟨rfl, b7⟩))
   have H7 := Hid.mk ((HPK.out.drew.call b7).done HF.out)
   clear b7 HS HPK
   go_wp2_with fail
   go_ret
   have h8 := H7.out
   have e8 := HE.out.2
   clear HE HF H7 hq3
   subst e8
   exact ⟨rfl, h8.1, h8.2⟩
set_option maxHeartbeats 1000000 in
theorem prog_cut {w : World} {L C} (h : Chip w L C) (b p : Nat) (hb : b < C.B) (hp : p < C.P) (hr0 : Hid (refP C b p = 0)) (data spare R : ByteArray) (hR : data ++ spare = R) (hs1 : data.size = C.Z) (hs2 : spare.size = 32) (hd : C.did < 999999) (hu : usedB C b p = false) (k0 x0 : Int) (hc : C.cuts (C.did + 1) = some (k0, x0)) :
  Calls Tryz.prog 223 #[.pointer (some ⟨L.a, 0, none⟩), .int .i64 b, .int .i64 p, .string data, .string spare] w fun e w' => e = .returned (.int .i64 51) /\ Chip w' L (putPg { C with did := C.did + 1, off := true } b p (kp C.Z (tornP C.Z R k0 x0))) /\ Kp (L.own C.B) w w' := by
 have hRs : R.size = C.Z + 32 := by rw [<- hR, ByteArray.size_append, hs1, hs2]
 obtain ⟨mc, mf, n, k, _, _, c0, c1, c2, c3, c4, c5, c6, c7, hf⟩ := h.cellA
 obtain ⟨b0, b1, b2, b3⟩ := h.cellB b hb
 have hp0 := fun q hq => h.cellP b q hb hq
 have f6 := hf 6
 have hdr := h.didr
 have HD := Hid.mk (h.setDid (C.did + 1) (by omega))
 have HK := Hid.mk ((Kp.refl (L.own C.B) w).setCell (p := ⟨L.a, 6, none⟩) (Or.inl rfl) (.int .i64 (C.did + 1)))
 have HG := Hid.mk h.geo
 have HH := Hid.mk h
 have hb1 : (b : Int) < C.B := by omega
 have hp1 : (p : Int) < C.P := by omega
 have hgp := h.geo
 clear h hf
 go_enter Tryz.func223, Tryz.ntmps223
 go_upto_region 8 with (first
  | (go_at_call 138; refine (refusep_any HH.out _ _).mono ?_; rintro e w' ⟨rfl, hw'⟩; rw [hw', hr0.out]; clear hw'))
 have hpp : ((C.P - p : Nat) : Int) = (C.P : Int) - p := by omega
 go_loopw [52] (fun i wr => ∃ k : Nat, k <= C.P - p /\ i = .int .i64 k /\ wr = w /\ ∀ q, p <= q -> q < p + k -> C.pg b q = ⟨#[]⟩) (fun i _ => C.P - p - (intOf i).toNat)
 case atStart => exact ⟨0, Nat.zero_le _, rfl, rfl, fun q h1 h2 => by omega⟩
 case round =>
  obtain ⟨i, hi, rfl, rfl, hall⟩ := hrel
  have HA := Hid.mk hall
  clear hall
  by_cases hik : i < C.P - p
  ·have ci := hp0 (p + i) (by omega)
   have hi1 : (i : Int) < (C.P : Int) - p := by omega
   have hi2 : (i : Int) < ((C.P - p : Nat) : Int) := by omega
   by_cases he : C.pg b (p + i) = ⟨#[]⟩
   ·rw [he] at ci
    clear hp0 c0 c1 c2 c3 c4 c5 c6 c7 b0 b1 b2 b3
    go_wp2_with fail
    refine ⟨⟨i + 1, by omega, by go_num, by first | rfl | trivial, fun q h1 h2 => ?_⟩, by simp [intOf]; omega⟩
    by_cases hqi : q = p + i
    ·rw [hqi]
     exact he
    ·exact HA.out q h1 (by omega)
   ·have hne := notEmpty he
    exact absurd (usedB_false hu (p + i) (by omega) (by omega)) he
  ·have hall : ∀ q, p <= q -> q < C.P -> C.pg b q = ⟨#[]⟩ := fun q h1 h2 => HA.out q h1 (by omega)
   have hi1 : ¬ (i : Int) < (C.P : Int) - p := by omega
   have hi2 : ¬ (i : Int) < ((C.P - p : Nat) : Int) := by omega
   have hfl := HH.out.fill _ _ hc
   obtain ⟨kk, hkk, hm⟩ : ∃ kk : Nat, kk <= C.Z + 32 /\ min (max k0 0) ((C.Z : Int) + 32) = kk := ⟨(min (max k0 0) ((C.Z : Int) + 32)).toNat, by omega, by omega⟩
   have et : tornP C.Z R k0 x0 = R.extract 0 kk ++ (rep (C.Z + 32) (u8 x0)).extract kk (C.Z + 32) := by
    unfold tornP
    rw [show (((C.Z + 32 : Nat)) : Int) = (C.Z : Int) + 32 by omega, hm, Int.toNat_natCast]
   have hkz : (kk : Int) <= (C.Z : Int) + 32 := by omega
   clear hp0
   go_upto_region 18 with (first
    | (go_at_call 157; refine (cutnow_some HD.out hc).mono ?_; rintro e w2 ⟨rfl, h1, q1⟩; unfold cutV))
   have hGa : ∀ i, L.own C.B i -> i < w2.heap.size := fun i hi => h1.lt hi
   have cv2 := heap_alloc_new w2 (.cells #[.int .i64 (C.did + 1), .int .i64 k0, .int .u8 x0] 87)
   have hnG : w2.heap.size ≠ L.pb b := fun e => by have := hGa (L.pb b) (Or.inr (Or.inr ⟨b, hb, rfl⟩)); omega
   have h2 : Chip (w2.alloc (.cells #[.int .i64 (C.did + 1), .int .i64 k0, .int .u8 x0] 87)) L { C with did := C.did + 1, off := true } := h1.alloc _
   have hk2 : Kp (L.own C.B) wr (w2.alloc (.cells #[.int .i64 (C.did + 1), .int .i64 k0, .int .u8 x0] 87)) := (HK.out.trans q1).alloc _
   generalize w2.alloc (.cells #[.int .i64 (C.did + 1), .int .i64 k0, .int .u8 x0] 87) = W at *
   generalize w2.heap.size = G at *
   clear h1 q1 HD HK HH c0 c1 c2 c3 c4 c5 c6 c7 b0 b1 b2 b3 f6 hGa hall HA
   obtain ⟨C2, eC⟩ : ∃ C2 : Ch, C2 = { C with did := C.did + 1, off := true } := ⟨_, rfl⟩
   rw [<- eC] at h2
   have eB : C2.B = C.B := by rw [eC]
   have eP : C2.P = C.P := by rw [eC]
   have eZ : C2.Z = C.Z := by rw [eC]
   rw [<- eB] at hk2
   obtain ⟨Y, hY⟩ : ∃ Y, rep (C.Z + 32) (u8 x0) = Y := ⟨_, rfl⟩
   have hYs : Y.size = C.Z + 32 := by rw [<- hY, rep_size]
   have hfin : (kp C.Z (R.extract 0 kk ++ Y.extract kk (C.Z + 32))).size = 0 \/ (kp C.Z (R.extract 0 kk ++ Y.extract kk (C.Z + 32))).size = C2.Z + 32 := by rw [eZ]; exact kp_size _ _ (cut_size _ _ _ _ hRs hYs hkk)
   rw [hY] at et
   have hkz2 : (kk : Int) <= ((C.Z + 32 : Nat) : Int) := by omega
   have hzz : ¬ 9223372036854775807 < C.Z + 32 := by omega
   have HY := Hid.mk (And.intro hY et)
   clear hY et
   have HPK := Hid.mk (PgK.start (b := b) (q := p) h2 hk2 cv2 hnG (by rw [eB]; exact hb) (by rw [eP]; exact hp))
   obtain ⟨u0, u1, u2, u3, u4, u5, _⟩ := HPK.out.cells
   have HS := Hid.mk HPK.out.drew.cells
   have HE := Hid.mk (And.intro eZ eC)
   have hq3 : (p : Int) < C2.P := by rw [eP]; exact hp1
   have HF := Hid.mk hfin
   clear h2 hk2 cv2 hnG eB eP eZ eC hfin
   go_region_held3 (fun w9 => w9.cell? ⟨L.bs, b * 4, none⟩ = some (.slice (some ⟨L.pb b, 0, none⟩) C2.P C2.P) /\ w9.cell? ⟨L.pb b, p, none⟩ = some (.string (strAt w9 ⟨L.pb b, p, none⟩)) /\ w9.frozen? ⟨L.pb b, p, none⟩ = false ∧
      w9.cell? ⟨G, 0, none⟩ = some (.int .i64 (C.did + 1)) /\ w9.cell? ⟨G, 1, none⟩ = some (.int .i64 k0) /\ w9.cell? ⟨G, 2, none⟩ = some (.int .u8 x0) /\ PgK wr L C2 b p G (C.did + 1) k0 x0 w9) (first | assumption | exact HS.out | exact pg_keep (by assumption) (by assumption) | exact pg_store (by assumption) HF.out rfl | fail)
     (first
      | (go_at_call 159; refine (fill_any _ _ _ hfl _).mono ?_; rintro e w5 ⟨rfl, b5⟩)
      | (go_at_call 139; refine (filled_any (pg_chip (by assumption)) _).mono ?_; rintro e w6 ⟨rfl, b6⟩; rw [show (putPg C2 b p (strAt w5 ⟨L.pb b, p, none⟩)).Z = C.Z from HE.out.1, HY.out.1])
      | (go_at_call 158; refine (kept_any (pg_chip (by assumption)) _).mono ?_; rintro e w7 ⟨rfl, b7⟩; rw [show (putPg C2 b p (strAt w6 ⟨L.pb b, p, none⟩)).Z = C.Z from HE.out.1]))
   have H7 := Hid.mk ((((HPK.out.drew.call b5).call b6).call b7).done (s := kp C.Z (R.extract 0 kk ++ Y.extract kk (C.Z + 32))) HF.out)
   clear b5 b6 b7 HS HPK
   go_wp2_with fail
   go_ret
   have h8 := H7.out
   have e8 := HE.out.2
   have e9 := HY.out.2
   clear HE HF H7 hq3
   subst e8
   rw [e9]
   exact ⟨rfl, h8.1, h8.2⟩
theorem prog_any {w : World} {L C} (h : Chip w L C) (b p : Int) (data spare : ByteArray) (hd : C.did < 999999) : Calls Tryz.prog 223 #[.pointer (some ⟨L.a, 0, none⟩), .int .i64 b, .int .i64 p, .string data, .string spare] w fun e w' =>
  e = .returned (.int .i64 (progC C b p data spare).2) /\ Chip w' L (progC C b p data spare).1 /\ Kp (L.own C.B) w w' := by
 unfold progC
 by_cases h0 : refP C b p = 0
 ·rw [if_pos h0]
  obtain ⟨_, ⟨b, rfl, hb⟩, p, rfl, hp⟩ := refP_zero h0
  rw [Int.toNat_natCast, Int.toNat_natCast]
  by_cases hs : data.size = C.Z /\ spare.size = 32
  ·rw [if_pos hs]
   cases hu : usedB C b p
   ·rw [if_neg (by decide)]
    cases hc : C.cuts (C.did + 1) with
    | none =>
     simp only
     cases hfa : C.dead b || C.fails (C.did + 1)
     ·rw [if_neg (by decide)]
      exact prog_ok h b p hb hp h0 data spare _ rfl hs.1 hs.2 hd hu hc hfa
     ·rw [if_pos rfl]
      exact prog_dead h b p hb hp h0 data spare _ rfl hs.1 hs.2 hd hu hc hfa
    | some x => exact prog_cut h b p hb hp h0 data spare _ rfl hs.1 hs.2 hd hu x.1 x.2 hc
   ·rw [if_pos rfl]
    refine (prog_used h b p hb hp h0 data spare hs.1 hs.2 hd hu).mono ?_
    rintro e w' ⟨rfl, rfl⟩
    exact ⟨rfl, h, Kp.refl _ _⟩
  ·rw [if_neg hs]
   obtain ⟨mc, mf, n, k, _, _, c0, c1, c2, c3, c4, c5, c6, c7, hf⟩ := h.cellA
   have HH := Hid.mk h
   have hr0 := Hid.mk h0
   clear h h0 hf
   by_cases hs1 : data.size = C.Z
   ·have hs2 : ¬ (spare.size : Int) = 32 := by omega
    go_enter Tryz.func223, Tryz.ntmps223
    go_wp2_with (go_at_call 138; refine (refusep_any HH.out _ _).mono ?_; rintro e w' ⟨rfl, rfl⟩; rw [hr0.out])
    go_ret
    exact ⟨rfl, HH.out, Kp.refl _ _⟩
   ·have hs2 : ¬ (data.size : Int) = C.Z := by omega
    go_enter Tryz.func223, Tryz.ntmps223
    go_wp2_with (go_at_call 138; refine (refusep_any HH.out _ _).mono ?_; rintro e w' ⟨rfl, rfl⟩; rw [hr0.out])
    go_ret
    exact ⟨rfl, HH.out, Kp.refl _ _⟩
 ·rw [if_neg h0]
  have HH := Hid.mk h
  clear h
  go_enter Tryz.func223, Tryz.ntmps223
  go_wp2_with (go_at_call 138; refine (refusep_any HH.out _ _).mono ?_; rintro e w' ⟨rfl, rfl⟩)
  go_ret
  exact ⟨rfl, HH.out, Kp.refl _ _⟩
end Go.Proofs.YtcmmhfjnhlaepabGreatDoor
namespace Go.Proofs.YtcmmhfjnhlaepabGreatDoor
open Go Go.RowKit
def topV (L : Ly) (C : Ch) (v4 v5 : Value) : Array Value :=
 #[.int .i64 C.B, .int .i64 C.P, .int .i64 C.Z, .slice (some ⟨L.bs, 0, none⟩) C.B C.B, v4, v5, .int .i64 C.did, .bool C.off]
structure Chip0 (w : World) (L : Ly) (C : Ch) (v4 v5 : Value) : Prop where
 geo : 8 <= C.B /\ C.B <= 32 /\ 4 <= C.P /\ C.P <= 16 /\ 64 <= C.Z /\ C.Z <= 256
 top : w.heap[L.a]? = some (.cells (topV L C v4 v5) 69 (0, 0))
 row : w.rowIs L.bs 78 (C.B * 4) (blkF L C)
 pgs : ∀ b, b < C.B -> w.rowIs (L.pb b) 9 C.P (fun p => .string (C.pg b p))
 inj : ∀ b, b < C.B -> ∀ d, d < C.B -> L.pb b = L.pb d -> b = d
 pa : ∀ b, b < C.B -> L.pb b ≠ L.a
 pbs : ∀ b, b < C.B -> L.pb b ≠ L.bs
 ab : L.bs ≠ L.a
 len : ∀ b p, (C.pg b p).size = 0 \/ (C.pg b p).size = C.Z + 32
 didr : 0 <= C.did /\ C.did < 1000000
theorem Chip.to0 {w : World} {L C} (h : Chip w L C) : ∃ mc mf n k, Chip0 w L C (.map (some mc)) (.map (some mf)) /\ MapIs w mc n (cutF C.cuts) /\ MapIs w mf k (failF C.fails) := by
 obtain ⟨mc, mf, n, k, ht, h1, h2⟩ := h.top
 exact ⟨mc, mf, n, k, { h with top := ht }, h1, h2⟩
theorem Chip0.chip {w : World} {L C} {mc mf n k : Nat} (h : Chip0 w L C (.map (some mc)) (.map (some mf))) (h1 : MapIs w mc n (cutF C.cuts)) (h2 : MapIs w mf k (failF C.fails)) (hf : ∀ i x, C.cuts i = some x -> 0 <= x.2 /\ x.2 < 256) : Chip w L C :=
 { h with top := ⟨mc, mf, n, k, h.top, h1, h2⟩, fill := hf }
theorem Chip0.lt {w : World} {L C v4 v5} (h : Chip0 w L C v4 v5) {i : Nat} (hi : L.own C.B i) : i < w.heap.size := by
 rcases hi with rfl | rfl | ⟨b, hb, rfl⟩
 ·exact (Array.getElem?_eq_some_iff.1 h.top).1
 ·exact h.row.lt
 ·exact (h.pgs b hb).lt
theorem Chip0.cells {w : World} {L C v4 v5} (h : Chip0 w L C v4 v5) {i : Nat} (hi : L.own C.B i) : ∃ c t, w.heap[i]? = some (.cells c t (0, 0)) := by
 rcases hi with rfl | rfl | ⟨b, hb, rfl⟩
 ·exact ⟨_, _, h.top⟩
 ·obtain ⟨c, hc, _⟩ := h.row
  exact ⟨c, _, hc⟩
 ·obtain ⟨c, hc, _⟩ := h.pgs b hb
  exact ⟨c, _, hc⟩
theorem Chip0.same {w w' : World} {L C v4 v5} (h : Chip0 w L C v4 v5) (e : ∀ i, L.own C.B i -> w'.heap[i]? = w.heap[i]?) : Chip0 w' L C v4 v5 :=
 { h with
  top := (e L.a (Or.inl rfl)).trans h.top
  row := h.row.of_block (e _ (Or.inr (Or.inl rfl)))
  pgs := fun b hb => (h.pgs b hb).of_block (e _ (Or.inr (Or.inr ⟨b, hb, rfl⟩))) }
theorem Chip0.call {w w' : World} {L C v4 v5} (h : Chip0 w L C v4 v5) (b : Below w.heap.size w w') : Chip0 w' L C v4 v5 := h.same (fun i hi => b.block i (h.lt hi))
theorem Chip0.alloc {w : World} {L C v4 v5} (h : Chip0 w L C v4 v5) (o : Obj) : Chip0 (w.alloc o) L C v4 v5 := h.same (fun i hi => Below.heap_alloc w o i (h.lt hi))
theorem Chip0.drew {w : World} {L C v4 v5} (h : Chip0 w L C v4 v5) : Chip0 w.drew L C v4 v5 := h.same (fun _ _ => rfl)
theorem Chip0.turned {w w' : World} {L C v4 v5} {m n : Nat} {F} (h : Chip0 w L C v4 v5) (hm : MapIs w m n F) (ht : w.mapTurned w' m) : Chip0 w' L C v4 v5 :=
 h.same (fun i hi => by
  obtain ⟨c, t, hc⟩ := h.cells hi
  exact ht.grown.block i (h.lt hi) (fun e => hm.notCells hc (by cases e; rfl)))
theorem Chip0.cellA {w : World} {L C v4 v5} (h : Chip0 w L C v4 v5) : w.cell? ⟨L.a, 0, none⟩ = some (.int .i64 C.B) /\ w.cell? ⟨L.a, 1, none⟩ = some (.int .i64 C.P) /\ w.cell? ⟨L.a, 2, none⟩ = some (.int .i64 C.Z) ∧
  w.cell? ⟨L.a, 3, none⟩ = some (.slice (some ⟨L.bs, 0, none⟩) C.B C.B) /\ w.cell? ⟨L.a, 4, none⟩ = some v4 /\ w.cell? ⟨L.a, 5, none⟩ = some v5 /\ w.cell? ⟨L.a, 6, none⟩ = some (.int .i64 C.did) /\ w.cell? ⟨L.a, 7, none⟩ = some (.bool C.off) /\ ∀ j, w.frozen? ⟨L.a, j, none⟩ = false := by
 have ht := h.top
 refine ⟨?_, ?_, ?_, ?_, ?_, ?_, ?_, ?_, fun j => frozen_of_row w L.a j _ 69 ht⟩ <;> (rw [cell_of_row w L.a _ _ 69 _ ht]; rfl)
theorem Chip0.setTop {w : World} {L C v4 v5} (h : Chip0 w L C v4 v5) (j : Nat) (v : Value) (C' : Ch) (u4 u5 : Value) (e1 : C'.B = C.B) (e2 : C'.P = C.P) (e3 : C'.Z = C.Z) (e4 : C'.pg = C.pg) (e5 : C'.worn = C.worn) (e6 : C'.dead = C.dead) (e7 : C'.mark = C.mark)
  (hd : 0 <= C'.did /\ C'.did < 1000000) (hc : (topV L C v4 v5).setIfInBounds j v = topV L C' u4 u5) : Chip0 (w.setCell ⟨L.a, j, none⟩ v) L C' u4 u5 := by
 have hbk : blkF L C' = blkF L C := by funext i; simp only [blkF, e2, e5, e6, e7]
 refine { geo := by rw [e1, e2, e3]; exact h.geo, top := ?_, row := ?_, pgs := ?_, inj := by rw [e1]; exact h.inj, pa := by rw [e1]; exact h.pa, pbs := by rw [e1]; exact h.pbs, ab := h.ab, len := by rw [e3, e4]; exact h.len, didr := hd }
 ·have := heap_setCell_same w L.a j _ 69 v h.top
  rw [hc] at this
  exact this
 ·rw [e1, hbk]; exact h.row.setOther h.ab v
 ·rw [e1]; intro b hb; rw [e2, e4]; exact (h.pgs b hb).setOther (h.pa b hb) v
theorem Chip0.setDid {w : World} {L C v4 v5} (h : Chip0 w L C v4 v5) (d : Int) (hd : 0 <= d /\ d < 1000000) : Chip0 (w.setCell ⟨L.a, 6, none⟩ (.int .i64 d)) L { C with did := d } v4 v5 :=
 h.setTop 6 _ { C with did := d } v4 v5 rfl rfl rfl rfl rfl rfl rfl hd rfl
theorem Chip0.set4 {w : World} {L C v4 v5} (h : Chip0 w L C v4 v5) (v : Value) : Chip0 (w.setCell ⟨L.a, 4, none⟩ v) L C v v5 :=
 h.setTop 4 v C v v5 rfl rfl rfl rfl rfl rfl rfl h.didr rfl
theorem Chip0.set5 {w : World} {L C v4 v5} (h : Chip0 w L C v4 v5) (v : Value) : Chip0 (w.setCell ⟨L.a, 5, none⟩ v) L C v4 v :=
 h.setTop 5 v C v4 v rfl rfl rfl rfl rfl rfl rfl h.didr rfl
def CutsAt (w : World) (S : Nat -> Prop) (a : Option Addr) (cl : List (Int × Int × Int)) : Prop := ∀ i, i < cl.length -> ∃ g o, a = some ⟨g, o, none⟩ /\ g < w.heap.size /\ ¬ S g ∧
  w.cell? ⟨g, o + i * 3, none⟩ = some (.int .i64 (cl.getD i (0, 0, 0)).1) /\ w.cell? ⟨g, o + i * 3 + 1, none⟩ = some (.int .i64 (cl.getD i (0, 0, 0)).2.1) /\ w.cell? ⟨g, o + i * 3 + 2, none⟩ = some (.int .u8 (cl.getD i (0, 0, 0)).2.2)
def IntsAt (w : World) (S : Nat -> Prop) (a : Option Addr) (l : List Int) : Prop := ∀ i, i < l.length -> ∃ g o, a = some ⟨g, o, none⟩ /\ g < w.heap.size /\ ¬ S g /\ w.cell? ⟨g, o + i, none⟩ = some (.int .i64 (l.getD i 0))
theorem CutsAt.kept {w w' : World} {S a cl} (h : CutsAt w S a cl) (e : Kp S w w') : CutsAt w' S a cl := by
 intro i hi
 obtain ⟨g, o, ha, hg, hs, hc⟩ := h i hi
 have e2 : ∀ j, w'.cell? ⟨g, j, none⟩ = w.cell? ⟨g, j, none⟩ := fun j => World.cell?_of_block (w := w) (a := ⟨g, j, none⟩) (e.block g hg hs)
 exact ⟨g, o, ha, Nat.lt_of_lt_of_le hg e.size, hs, by rw [e2, e2, e2]; exact hc⟩
theorem IntsAt.kept {w w' : World} {S a l} (h : IntsAt w S a l) (e : Kp S w w') : IntsAt w' S a l := by
 intro i hi
 obtain ⟨g, o, ha, hg, hs, hc⟩ := h i hi
 exact ⟨g, o, ha, Nat.lt_of_lt_of_le hg e.size, hs, by rw [World.cell?_of_block (w := w) (a := ⟨g, o + i, none⟩) (e.block g hg hs)]; exact hc⟩
def cutsOf (cl : List (Int × Int × Int)) (i : Int) : Option (Int × Int) := (cl.find? fun x => decide (x.1 = i)).map (·.2)
def failsOf (l : List Int) (i : Int) : Bool := decide (i ∈ l)
theorem cutsOf_take {cl : List (Int × Int × Int)} {k : Nat} (hk : k < cl.length) : cutF (cutsOf (cl.take (k + 1))) =
  if (cutF (cutsOf (cl.take k)) (cl.getD k (0, 0, 0)).1).isSome = true then cutF (cutsOf (cl.take k)) else fun j => if j = (cl.getD k (0, 0, 0)).1 then some (cutV (cl.getD k (0, 0, 0)).1 (cl.getD k (0, 0, 0)).2.1 (cl.getD k (0, 0, 0)).2.2) else cutF (cutsOf (cl.take k)) j := by
 have e1 : cl.take (k + 1) = cl.take k ++ [cl.getD k (0, 0, 0)] := by
  rw [List.take_add_one, List.getElem?_eq_getElem hk]
  simp [List.getD_eq_getElem?_getD, hk]
 generalize cl.getD k (0, 0, 0) = x at *
 rw [e1]
 generalize cl.take k = l at *
 have e2 : ∀ j, cutsOf (l ++ [x]) j = match cutsOf l j with | some y => some y | none => if x.1 = j then some x.2 else none := by
  intro j
  unfold cutsOf
  rw [List.find?_append]
  cases List.find? (fun x => decide (x.1 = j)) l with
  | some y => rfl
  | none => by_cases hx : x.1 = j <;> simp [hx]
 split
 ·rename_i hs
  funext j
  unfold cutF
  rw [e2]
  cases hj : cutsOf l j with
  | some y => rfl
  | none =>
   by_cases hx : x.1 = j
   ·subst hx
    simp [cutF, hj] at hs
   ·simp [hx]
 ·rename_i hs
  funext j
  unfold cutF
  rw [e2]
  by_cases hx : j = x.1
  ·subst hx
   simp only [if_pos]
   cases hj : cutsOf l x.1 with
   | some y => simp [cutF, hj] at hs
   | none => rfl
  ·rw [if_neg hx]
   have hx2 : ¬ x.1 = j := fun e => hx e.symm
   cases hj : cutsOf l j <;> simp [hx2]
theorem failsOf_take {l : List Int} {k : Nat} (hk : k < l.length) : failF (failsOf (l.take (k + 1))) = fun j => if j = l.getD k 0 then some (.agg #[]) else failF (failsOf (l.take k)) j := by
 have e1 : l.take (k + 1) = l.take k ++ [l.getD k 0] := by
  rw [List.take_add_one, List.getElem?_eq_getElem hk]
  simp [List.getD_eq_getElem?_getD, hk]
 rw [e1]
 generalize l.getD k 0 = x at *
 funext j
 unfold failF failsOf
 by_cases hj : j = x
 ·simp [hj]
 ·rw [if_neg hj]
  have : (j ∈ List.take k l ++ [x]) ↔ j ∈ List.take k l := by simp [hj]
  simp only [this]
theorem cutsOf_mem {cl : List (Int × Int × Int)} {i : Int} {x : Int × Int} (h : cutsOf cl i = some x) : (i, x) ∈ cl := by
 unfold cutsOf at h
 cases hf : cl.find? fun x => decide (x.1 = i) with
 | none => rw [hf] at h; cases h
 | some y =>
  rw [hf] at h
  have h1 := List.find?_some hf
  have h2 := List.mem_of_find?_eq_some hf
  rw [decide_eq_true_eq] at h1
  have h3 : y.2 = x := by simpa using h
  rw [<- h1, <- h3]
  exact h2
theorem MapIs.mono {w : World} {b n n' F} (h : MapIs w b n F) (hn : n <= n') : MapIs w b n' F := by
 obtain ⟨D, h1, h2⟩ := h
 exact ⟨D, h1.mono hn, h2⟩
structure ArmI (w0 : World) (L : Ly) (C : Ch) (v5 : Value) (M : Nat) (cl : List (Int × Int × Int)) (G : Nat) (bx : Array Value) (k : Nat) (w : World) : Prop where
 chip : Chip0 w L C (.map (some M)) v5
 map : MapIs w M k (cutF (cutsOf (cl.take k)))
 kept : Kp (L.own C.B) w0 w
 box : w.heap[G]? = some (.cells bx 32 (0, 0))
 boxn : ¬ L.own C.B G
 new : w0.heap.size <= M
theorem ArmI.below {w0 : World} {L C v5 M cl G bx k} {w w' : World} (h : ArmI w0 L C v5 M cl G bx k w) (b : Below w.heap.size w w') : ArmI w0 L C v5 M cl G bx k w' :=
 ⟨h.chip.call b, h.map.of_block (b.block _ h.map.lt), h.kept.call b, (b.block _ (Array.getElem?_eq_some_iff.1 h.box).1).trans h.box, h.boxn, h.new⟩
theorem ArmI.alloc {w0 : World} {L C v5 M cl G bx k} {w : World} (h : ArmI w0 L C v5 M cl G bx k w) (o : Obj) : ArmI w0 L C v5 M cl G bx k (w.alloc o) := h.below ((Below.refl _ w).alloc (Nat.le_refl _) o)
theorem ArmI.drew {w0 : World} {L C v5 M cl G bx k} {w : World} (h : ArmI w0 L C v5 M cl G bx k w) : ArmI w0 L C v5 M cl G bx k w.drew := h.below (Below.refl _ w).drew
theorem ArmI.known {w0 : World} {L C v5 M cl G bx k} {w : World} (h : ArmI w0 L C v5 M cl G bx k w) (hk : k < cl.length) {y : Int × Int} (hy : cutsOf (cl.take k) (cl.getD k (0, 0, 0)).1 = some y) : ArmI w0 L C v5 M cl G bx (k + 1) w :=
 { h with map := by rw [cutsOf_take hk, if_pos (by unfold cutF; rw [hy]; rfl)]; exact h.map.mono (Nat.le_succ _) }
theorem ArmI.fresh {w0 : World} {L C v5 M cl G bx k} {w : World} (h : ArmI w0 L C v5 M cl G bx k w) (hk : k < cl.length) (hn : cutsOf (cl.take k) (cl.getD k (0, 0, 0)).1 = none) (hw : (Lit.int .i64 (cl.getD k (0, 0, 0)).1).wf = true) (hk2 : k <= 1000) :
  ∃ w', (Instr.mapUpdate 66 (.map (some M)) (.int .i64 (cl.getD k (0, 0, 0)).1) (cutV (cl.getD k (0, 0, 0)).1 (cl.getD k (0, 0, 0)).2.1 (cl.getD k (0, 0, 0)).2.2)).run Tryz.prog w = .ok () w' /\ ArmI w0 L C v5 M cl G bx (k + 1) w' := by
 obtain ⟨w', hr, hm, ht⟩ := h.map.store Tryz.underlying66 (by unfold maxLen; omega) (cutV (cl.getD k (0, 0, 0)).1 (cl.getD k (0, 0, 0)).2.1 (cl.getD k (0, 0, 0)).2.2) hw
 have hg := ht.grown
 refine ⟨w', hr, ⟨h.chip.turned h.map ht, ?_, ?_, ?_, h.boxn, h.new⟩⟩
 ·rw [cutsOf_take hk, if_neg (by unfold cutF; rw [hn]; simp)]
  exact hm
 ·refine ⟨hg.os.trans h.kept.os, hg.tape.trans h.kept.tape, hg.output.trans h.kept.output, Nat.le_trans h.kept.size hg.size, fun i hi hn => ?_⟩
  exact (hg.block i (Nat.lt_of_lt_of_le hi h.kept.size) (fun e => by cases e; have := h.new; omega)).trans (h.kept.block i hi hn)
 ·exact (hg.block G (Array.getElem?_eq_some_iff.1 h.box).1 (fun e => h.map.notCells h.box (by cases e; rfl))).trans h.box
theorem ArmI.look {w0 : World} {L C v5 M cl G bx k} {w : World} (h : ArmI w0 L C v5 M cl G bx k w) {i : Int} (hi : (Lit.int .i64 i).wf = true) :
  (Instr.lookup 66 (.map (some M)) (.int .i64 i) true).run Tryz.prog w = .ok (.tuple #[(cutF (cutsOf (cl.take k)) i).getD cut0, .bool (cutF (cutsOf (cl.take k)) i).isSome]) w := h.map.look Tryz.underlying66 (zero57 _) hi
structure ArmJ (w0 : World) (L : Ly) (C : Ch) (M M2 : Nat) (cl : List (Int × Int × Int)) (n : Nat) (fl : List Int) (k : Nat) (w : World) : Prop where
 chip : Chip0 w L C (.map (some M)) (.map (some M2))
 map : MapIs w M n (cutF (cutsOf cl))
 mapF : MapIs w M2 k (failF (failsOf (fl.take k)))
 kept : Kp (L.own C.B) w0 w
 new : w0.heap.size <= M2
 ne : M ≠ M2
theorem ArmJ.fresh {w0 : World} {L C M M2 cl n fl k} {w : World} (h : ArmJ w0 L C M M2 cl n fl k w) (hk : k < fl.length) (hw : (Lit.int .i64 (fl.getD k 0)).wf = true) (hk2 : k <= 1000) :
  ∃ w', (Instr.mapUpdate 67 (.map (some M2)) (.int .i64 (fl.getD k 0)) (.agg #[])).run Tryz.prog w = .ok () w' /\ ArmJ w0 L C M M2 cl n fl (k + 1) w' := by
 obtain ⟨w', hr, hm, ht⟩ := h.mapF.store Tryz.underlying67 (by unfold maxLen; omega) (.agg #[]) hw
 have hg := ht.grown
 refine ⟨w', hr, ⟨h.chip.turned h.mapF ht, ?_, ?_, ?_, h.new, h.ne⟩⟩
 ·exact h.map.of_block (hg.block M h.map.lt (fun e => h.ne (by cases e; rfl)))
 ·rw [failsOf_take hk]
  exact hm
 ·refine ⟨hg.os.trans h.kept.os, hg.tape.trans h.kept.tape, hg.output.trans h.kept.output, Nat.le_trans h.kept.size hg.size, fun i hi hn => ?_⟩
  exact (hg.block i (Nat.lt_of_lt_of_le hi h.kept.size) (fun e => by cases e; have := h.new; omega)).trans (h.kept.block i hi hn)
theorem ArmJ.fin {w0 : World} {L C M M2 cl n fl k} {w : World} (h : ArmJ w0 L C M M2 cl n fl k w) (hk : fl.take k = fl) (hf : ∀ x ∈ cl, 0 <= x.2.2 /\ x.2.2 < 256) : Chip w L { C with cuts := cutsOf cl, fails := failsOf fl } /\ Kp (L.own C.B) w0 w := by
 have h2 := h.mapF
 rw [hk] at h2
 have h0 : Chip0 w L { C with cuts := cutsOf cl, fails := failsOf fl } (.map (some M)) (.map (some M2)) := ⟨h.chip.geo, h.chip.top, h.chip.row, h.chip.pgs, h.chip.inj, h.chip.pa, h.chip.pbs, h.chip.ab, h.chip.len, h.chip.didr⟩
 exact ⟨h0.chip h.map h2 (fun i x hx => hf _ (cutsOf_mem hx)), h.kept⟩
set_option maxHeartbeats 2000000 in
theorem arm_any {w : World} {L C v4 v5} (h : Chip0 w L C v4 v5) (ca fa : Option Addr) (cl : List (Int × Int × Int)) (fl : List Int) (cc fc : Nat) (bv : Value) (hc : CutsAt w (L.own C.B) ca cl) (hf : IntsAt w (L.own C.B) fa fl) (hcl : cl.length <= 1000) (hfl : fl.length <= 1000)
  (hwc : ∀ x ∈ cl, (Lit.int .i64 x.1).wf = true /\ 0 <= x.2.2 /\ x.2.2 < 256) (hwf : ∀ x ∈ fl, (Lit.int .i64 x).wf = true) :
  Calls Tryz.prog 15 #[.pointer (some ⟨L.a, 0, none⟩), .agg #[.slice ca cl.length cc, .slice fa fl.length fc, bv]] w fun e w' => e = .returned (.tuple #[]) /\ Chip w' L { C with did := 0, cuts := cutsOf cl, fails := failsOf fl } /\ Kp (L.own C.B) w w' := by
 obtain ⟨c0, c1, c2, c3, c4, c5, c6, c7, hfr⟩ := h.cellA
 have f4 := hfr 4
 have f6 := hfr 6
 have la : L.a < w.heap.size := h.lt (Or.inl rfl)
 have hmm := @run_makeMap Tryz.prog
 have HH := Hid.mk h
 obtain ⟨n, hn⟩ : ∃ n, cl.length = n := ⟨_, rfl⟩
 obtain ⟨m, hm⟩ : ∃ m, fl.length = m := ⟨_, rfl⟩
 rw [hn, hm]
 have HN := Hid.mk (And.intro hn hm)
 have HC := Hid.mk (And.intro hc hf)
 have HW := Hid.mk (And.intro hwc hwf)
 have hn1 : n <= 1000 := by omega
 have hm1 : m <= 1000 := by omega
 clear h hfr hn hm hc hf hwc hwf hcl hfl
 go_enter Tryz.func15, Tryz.ntmps15
 go_upto_region 5 with fail
 obtain ⟨C0, hC0⟩ : ∃ C0 : Ch, C0 = { C with did := 0 } := ⟨_, rfl⟩
 have eB : C0.B = C.B := by rw [hC0]
 have hA0 : ArmI w L C0 v5 (w.heap.size + 1) cl w.heap.size #[.slice ca n cc, .slice fa m fc, bv] 0 ((((w.setCell ⟨L.a, 6, none⟩ (.int .i64 0)).setCell ⟨L.a, 4, none⟩ (.map (some (w.heap.size + 1)))).alloc (.cells #[.slice ca n cc, .slice fa m fc, bv] 32)).alloc (.map #[] 0)) := by
  have hz : ((w.setCell ⟨L.a, 6, none⟩ (.int .i64 0)).setCell ⟨L.a, 4, none⟩ (.map (some (w.heap.size + 1)))).heap.size = w.heap.size := by simp [World.setCell]
  have hkk : Kp (L.own C0.B) w ((w.setCell ⟨L.a, 6, none⟩ (.int .i64 0)).setCell ⟨L.a, 4, none⟩ (.map (some (w.heap.size + 1)))) := ((Kp.refl _ w).setCell (p := ⟨L.a, 6, none⟩) (Or.inl rfl) _).setCell (p := ⟨L.a, 4, none⟩) (Or.inl rfl) _
  have hch : Chip0 ((w.setCell ⟨L.a, 6, none⟩ (.int .i64 0)).setCell ⟨L.a, 4, none⟩ (.map (some (w.heap.size + 1)))) L C0 (.map (some (w.heap.size + 1))) v5 := by
   rw [hC0]
   exact (HH.out.setDid 0 (by omega)).set4 _
  generalize (w.setCell ⟨L.a, 6, none⟩ (.int .i64 0)).setCell ⟨L.a, 4, none⟩ (.map (some (w.heap.size + 1))) = X at *
  have hmd := MapIs.made (X.alloc (.cells #[.slice ca n cc, .slice fa m fc, bv] 32))
  rw [size_alloc, hz] at hmd
  have hbx := heap_alloc_new X (.cells #[.slice ca n cc, .slice fa m fc, bv] 32)
  rw [hz] at hbx
  exact ⟨(hch.alloc _).alloc _, hmd, (hkk.alloc _).alloc _, (Below.heap_alloc _ _ _ (by rw [size_alloc]; omega)).trans hbx, fun ho => by have := hch.lt ho; omega, by omega⟩
 generalize (((w.setCell ⟨L.a, 6, none⟩ (.int .i64 0)).setCell ⟨L.a, 4, none⟩ (.map (some (w.heap.size + 1)))).alloc (.cells #[.slice ca n cc, .slice fa m fc, bv] 32)).alloc (.map #[] 0) = W0 at *
 generalize w.heap.size + 1 = M at *
 generalize w.heap.size = G at *
 have HA0 := Hid.mk hA0
 have HE := Hid.mk (And.intro eB hC0)
 clear hA0 c0 c1 c2 c3 c4 c5 c6 c7 f4 f6 la hmm eB hC0
 go_loopw [22] (fun i wr => ∃ k : Nat, k <= n /\ i = .int .i64 k /\ ArmI w L C0 v5 M cl G #[.slice ca n cc, .slice fa m fc, bv] k wr) (fun i _ => n - (intOf i).toNat)
 case atStart => exact ⟨0, Nat.zero_le _, rfl, HA0.out⟩
 case round =>
  obtain ⟨k, hk, rfl, hA⟩ := hrel
  clear HA0 W0
  by_cases hkn : k < n
  ·have hkc : k < cl.length := by rw [HN.out.1]; exact hkn
   have hkn1 : (k : Int) < n := by omega
   have hcc := HC.out.1
   rw [<- HE.out.1] at hcc
   obtain ⟨g, o, rfl, hg, hgs, d0, d1, d2⟩ := (hcc.kept hA.kept) k hkc
   have hwx := HW.out.1 (cl.getD k (0, 0, 0)) (by rw [List.getD_eq_getElem?_getD, List.getElem?_eq_getElem hkc]; exact List.getElem_mem hkc)
   have H1 := Hid.mk (And.intro hkc hwx)
   have HA := Hid.mk hA
   obtain ⟨x0, hx0⟩ : ∃ x, (cl.getD k (0, 0, 0)).1 = x := ⟨_, rfl⟩
   obtain ⟨x1, hx1⟩ : ∃ x, (cl.getD k (0, 0, 0)).2.1 = x := ⟨_, rfl⟩
   obtain ⟨x2, hx2⟩ : ∃ x, (cl.getD k (0, 0, 0)).2.2 = x := ⟨_, rfl⟩
   rw [hx0] at d0
   rw [hx1] at d1
   rw [hx2] at d2
   have HX := Hid.mk (And.intro hx0 (And.intro hx1 hx2))
   clear hwx hkc hcc hA hx0 hx1 hx2
   go_upto_region 7 with fail
   have HAW := Hid.mk (HA.out.alloc (.cells #[.int .i64 x0, .int .i64 x1, .int .u8 x2] 87))
   have hcv := heap_alloc_new wr (.cells #[.int .i64 x0, .int .i64 x1, .int .u8 x2] 87)
   have lv : wr.heap.size < (wr.alloc (.cells #[.int .i64 x0, .int .i64 x1, .int .u8 x2] 87)).heap.size := by rw [size_alloc]; omega
   generalize wr.alloc (.cells #[.int .i64 x0, .int .i64 x1, .int .u8 x2] 87) = W at *
   generalize wr.heap.size = V at *
   clear HA d0 d1 d2 hg hgs
   obtain ⟨_, _, _, _, c4, _⟩ := HAW.out.chip.cellA
   have la : L.a < W.heap.size := HAW.out.chip.lt (Or.inl rfl)
   have v0 : W.cell? ⟨V, 0, none⟩ = some (.int .i64 x0) := cell_of_row _ _ 0 _ 87 _ hcv
   have v1 : W.cell? ⟨V, 1, none⟩ = some (.int .i64 x1) := cell_of_row _ _ 1 _ 87 _ hcv
   have v2 : W.cell? ⟨V, 2, none⟩ = some (.int .u8 x2) := cell_of_row _ _ 2 _ 87 _ hcv
   have hwx : (Lit.int .i64 x0).wf = true := by rw [<- HX.out.1]; exact H1.out.2.1
   have hl1 := HAW.out.drew.look hwx
   have hl2 := fun o => (HAW.out.alloc o).drew.look hwx
   have HCV := Hid.mk hcv
   clear hcv hwx
   cases hy : cutsOf (cl.take k) x0 with
   | none =>
    have ey : cutF (cutsOf (cl.take k)) x0 = none := by unfold cutF; rw [hy]; rfl
    rw [ey] at hl1
    simp only [ey] at hl2
    simp only [Option.getD_none, Option.isSome_none, cut0] at hl1 hl2
    obtain ⟨W4, hr, hA4⟩ := ((HAW.out.alloc (.cells #[.int .i64 0, .int .i64 0, .int .u8 0] 87)).drew.drew).fresh H1.out.1 (by rw [HX.out.1]; exact hy) H1.out.2.1 (by omega)
    rw [HX.out.1, HX.out.2.1, HX.out.2.2] at hr
    unfold cutV at hr
    have HA4 := Hid.mk hA4
    clear hA4
    go_region
    go_upto_region 9 with fail
    clear hl1 hl2
    go_region
    go_wp2_with fail
    exact ⟨⟨k + 1, by omega, by go_num, HA4.out⟩, by simp [intOf]; omega⟩
   | some y =>
    obtain ⟨y1, y2⟩ := y
    have ey : cutF (cutsOf (cl.take k)) x0 = some (.agg #[.int .i64 x0, .int .i64 y1, .int .u8 y2]) := by unfold cutF; rw [hy]; rfl
    rw [ey] at hl1
    simp only [ey] at hl2
    simp only [Option.getD_some, Option.isSome_some] at hl1 hl2
    go_region
    go_wp2_with fail
    refine ⟨⟨k + 1, by omega, by go_num, ((HAW.out.alloc _).drew).known H1.out.1 (by rw [HX.out.1]; exact hy)⟩, by simp [intOf]; omega⟩
  ·have hkn1 : ¬ (k : Int) < n := by omega
   have hk2 : k = n := by omega
   rw [hk2] at hA
   have HA := Hid.mk hA
   obtain ⟨_, _, _, _, c4, c5, _, _, hfr⟩ := hA.chip.cellA
   have f5 := hfr 5
   have la : L.a < wr.heap.size := hA.chip.lt (Or.inl rfl)
   have lg : G < wr.heap.size := (Array.getElem?_eq_some_iff.1 hA.box).1
   have g1 : wr.cell? ⟨G, 1, none⟩ = some (.slice fa m fc) := cell_of_row _ _ 1 _ 32 _ hA.box
   have hmm := @run_makeMap Tryz.prog
   clear hfr hA
   go_upto_region 13 with fail
   have hJ0 : ArmJ w L C0 M wr.heap.size cl n fl 0 ((wr.setCell ⟨L.a, 5, none⟩ (.map (some wr.heap.size))).alloc (.map #[] 0)) := by
    have hz : (wr.setCell ⟨L.a, 5, none⟩ (.map (some wr.heap.size))).heap.size = wr.heap.size := by simp [World.setCell]
    have hmd := MapIs.made (wr.setCell ⟨L.a, 5, none⟩ (.map (some wr.heap.size)))
    rw [hz] at hmd
    have hm1 := HA.out.map
    rw [show cl.take n = cl by rw [<- HN.out.1, List.take_length]] at hm1
    have hml := hm1.lt
    exact ⟨(HA.out.chip.set5 _).alloc _, hm1.of_block ((Below.heap_alloc _ _ _ (by rw [hz]; exact hml)).trans (Below.heap_setCell wr ⟨L.a, 5, none⟩ _ M (hm1.notCells HA.out.chip.top))), hmd, (HA.out.kept.setCell (p := ⟨L.a, 5, none⟩) (Or.inl rfl) _).alloc _, HA.out.kept.size, by omega⟩
   generalize (wr.setCell ⟨L.a, 5, none⟩ (.map (some wr.heap.size))).alloc (.map #[] 0) = W0 at *
   generalize wr.heap.size = M2 at *
   have HJ0 := Hid.mk hJ0
   clear hJ0 HA c4 c5 f5 la lg g1 hmm
   go_loopw [53] (fun i wr => ∃ k : Nat, k <= m /\ i = .int .i64 k /\ ArmJ w L C0 M M2 cl n fl k wr) (fun i _ => m - (intOf i).toNat)
   case atStart => exact ⟨0, Nat.zero_le _, rfl, HJ0.out⟩
   case round =>
    obtain ⟨j, hj, rfl, hJ⟩ := hrel
    clear HJ0
    by_cases hjm : j < m
    ·have hjc : j < fl.length := by rw [HN.out.2]; exact hjm
     have hjn1 : (j : Int) < m := by omega
     have hcc := HC.out.2
     rw [<- HE.out.1] at hcc
     obtain ⟨g, o, rfl, hg, hgs, d0⟩ := (hcc.kept hJ.kept) j hjc
     have hwx := HW.out.2 (fl.getD j 0) (by rw [List.getD_eq_getElem?_getD, List.getElem?_eq_getElem hjc]; exact List.getElem_mem hjc)
     obtain ⟨_, _, _, _, c4, c5, _⟩ := hJ.chip.cellA
     obtain ⟨W4, hr, hJ4⟩ := hJ.fresh hjc hwx (by omega)
     generalize fl.getD j 0 = x at *
     have HJ4 := Hid.mk hJ4
     clear hwx hjc hcc hJ hJ4 hg hgs
     go_wp2_with fail
     exact ⟨⟨j + 1, by omega, by go_num, HJ4.out⟩, by simp [intOf]; omega⟩
    ·have hjn1 : ¬ (j : Int) < m := by omega
     have hj2 : j = m := by omega
     rw [hj2] at hJ
     have HJ := Hid.mk hJ
     clear hJ
     go_wp2_with fail
     go_end0
     have h9 := HJ.out.fin (by rw [<- HN.out.2, List.take_length]) (fun x hx => (HW.out.1 x hx).2)
     have e9 := HE.out.2
     clear HE HJ
     subst e9
     exact ⟨rfl, h9⟩
def blk0 : Value := .agg #[.slice none 0 0, .int .i64 0, .bool false, .bool false]
def blkZ : Array Value := #[.slice none 0 0, .int .i64 0, .bool false, .bool false]
theorem Tryz.info78 : (Tryz.prog.info? 78).map (fun i => (i.zero, i.size, i.bytes)) = some (some blk0, 4, 40) := by kernel_rfl
theorem Tryz.info9 : (Tryz.prog.info? 9).map (fun i => (i.zero, i.size, i.bytes)) = some (some (.string ⟨#[]⟩), 1, 16) := by kernel_rfl
theorem run_make_blocks (n : Nat) (hn : n <= 1000) (w : World) : (Instr.makeSlice 65 (.int .i64 n) (.int .i64 n)).run Tryz.prog w = .ok (.slice (some ⟨w.heap.size, 0, none⟩) n n) (w.alloc (.cells (madeCells blkZ (n * 4)) 78)) := by
 obtain ⟨i, hi, hzz⟩ := Option.map_eq_some_iff.1 Tryz.info78
 simp only [Prod.mk.injEq] at hzz
 obtain ⟨hz, hs, hb⟩ := hzz
 have hr := run_make (P := Tryz.prog) w 65 78 i blk0 Tryz.underlying65 hi hz .i64 .i64 n n (by omega) (Int.le_refl _) (by rw [hb]; omega) (by omega)
 rw [hs, Int.toNat_natCast] at hr
 exact hr
def newF (L : Ly) (P k : Nat) (i : Nat) : Value := if i % 4 = 0 then (if i / 4 < k then .slice (some ⟨L.pb (i / 4), 0, none⟩) P P else .slice none 0 0) else if i % 4 = 1 then .int .i64 0 else .bool false
theorem newF_made (L : Ly) (P n : Nat) (w : World) : (w.alloc (.cells (madeCells blkZ (n * 4)) 78)).rowIs w.heap.size 78 (n * 4) (newF L P 0) := by
 have h := World.rowIs_alloc w (madeCells blkZ (n * 4)) 78 (newF L P 0) (fun i hi => ?_)
 ·rw [size_madeCells] at h
  exact h
 ·rw [size_madeCells] at hi
  have h4 : i % 4 = 0 \/ i % 4 = 1 \/ i % 4 = 2 \/ i % 4 = 3 := by omega
  unfold madeCells newF
  rw [Array.getElem?_map, Array.getElem?_range, if_pos hi]
  rcases h4 with h | h | h | h <;> simp [blkZ, h]
structure NewI (w0 : World) (B P Z : Nat) (bx : Array Value) (L : Ly) (k : Nat) (w : World) : Prop where
 top : w.heap[L.a]? = some (.cells #[.int .i64 B, .int .i64 P, .int .i64 Z, .slice (some ⟨L.bs, 0, none⟩) B B, .map none, .map none, .int .i64 0, .bool false] 69 (0, 0))
 row : w.rowIs L.bs 78 (B * 4) (newF L P k)
 pgs : ∀ b, b < k -> w.rowIs (L.pb b) 9 P (fun _ => .string ⟨#[]⟩)
 inj : ∀ b, b < k -> ∀ d, d < k -> L.pb b = L.pb d -> b = d
 pa : ∀ b, b < k -> L.pb b ≠ L.a
 pbs : ∀ b, b < k -> L.pb b ≠ L.bs
 ab : L.bs ≠ L.a
 newA : w0.heap.size + 1 < L.a
 newB : w0.heap.size + 1 < L.bs
 newP : ∀ b, b < k -> w0.heap.size + 1 < L.pb b
 below : Below w0.heap.size w0 w
 gbox : w.heap[w0.heap.size]? = some (.cells #[.int .i64 B, .int .i64 P, .int .i64 Z] 23 (0, 0))
 fbox : w.heap[w0.heap.size + 1]? = some (.cells bx 32 (0, 0))
theorem NewI.step {w0 : World} {B P Z bx L k} {w : World} (h : NewI w0 B P Z bx L k w) :
  NewI w0 B P Z bx ⟨L.a, L.bs, upd L.pb k w.heap.size⟩ (k + 1) ((w.setCell ⟨L.bs, k * 4, none⟩ (.slice (some ⟨w.heap.size, 0, none⟩) P P)).alloc (.cells (madeCells #[.string ⟨#[]⟩] P) 9)) := by
 have hz : (w.setCell ⟨L.bs, k * 4, none⟩ (.slice (some ⟨w.heap.size, 0, none⟩) P P)).heap.size = w.heap.size := by simp [World.setCell]
 have hmade := World.rowIs_made (w.setCell ⟨L.bs, k * 4, none⟩ (.slice (some ⟨w.heap.size, 0, none⟩) P P)) (.string ⟨#[]⟩) P 9
 rw [hz] at hmade
 have hlA : L.a < w.heap.size := (Array.getElem?_eq_some_iff.1 h.top).1
 have hlB : L.bs < w.heap.size := h.row.lt
 have hlP : ∀ b, b < k -> L.pb b < w.heap.size := fun b hb => (h.pgs b hb).lt
 have e1 : ∀ i, i < w.heap.size -> i ≠ L.bs -> ((w.setCell ⟨L.bs, k * 4, none⟩ (.slice (some ⟨w.heap.size, 0, none⟩) P P)).alloc (.cells (madeCells #[.string ⟨#[]⟩] P) 9)).heap[i]? = w.heap[i]? := fun i hi hn =>
  (Below.heap_alloc _ _ i (by rw [hz]; exact hi)).trans (Below.heap_setCell w ⟨L.bs, k * 4, none⟩ _ i hn)
 have hu : ∀ b, b < k + 1 -> (b < k /\ upd L.pb k w.heap.size b = L.pb b) \/ (b = k /\ upd L.pb k w.heap.size b = w.heap.size) := by
  intro b hb
  unfold upd
  by_cases e : b = k
  ·exact Or.inr ⟨e, by rw [if_pos e]⟩
  ·exact Or.inl ⟨by omega, by rw [if_neg e]⟩
 refine ⟨(e1 _ hlA (fun e => h.ab e.symm)).trans h.top, ?_, ?_, ?_, ?_, ?_, h.ab, h.newA, h.newB, ?_, ?_, ?_, ?_⟩
 ·refine (((h.row.set (k * 4) _).alloc _)).congr (fun i _ => ?_)
  unfold newF upd
  by_cases e : i = k * 4
  ·subst e
   rw [if_pos rfl, if_pos (by omega), if_pos (by omega)]
   simp only
   rw [if_pos (by omega)]
  ·rw [if_neg e]
   by_cases e0 : i % 4 = 0
   ·rw [if_pos e0, if_pos e0]
    simp only
    by_cases e2 : i / 4 < k
    ·rw [if_pos e2, if_pos (by omega), if_neg (by omega)]
    ·rw [if_neg e2, if_neg (by omega)]
   ·rw [if_neg e0, if_neg e0]
 ·intro b hb
  rcases hu b hb with ⟨h1, h2⟩ | ⟨h1, h2⟩
  ·simp only [h2]
   exact (h.pgs b h1).of_block (e1 _ (hlP b h1) (h.pbs b h1))
  ·simp only [h2]
   exact hmade
 ·intro b hb d hd he
  simp only at he
  rcases hu b hb with ⟨h1, h2⟩ | ⟨h1, h2⟩ <;> rcases hu d hd with ⟨h3, h4⟩ | ⟨h3, h4⟩ <;> rw [h2, h4] at he
  ·exact h.inj b h1 d h3 he
  ·have := hlP b h1; omega
  ·have := hlP d h3; omega
  ·omega
 ·intro b hb
  simp only
  rcases hu b hb with ⟨h1, h2⟩ | ⟨h1, h2⟩ <;> rw [h2]
  ·exact h.pa b h1
  ·omega
 ·intro b hb
  simp only
  rcases hu b hb with ⟨h1, h2⟩ | ⟨h1, h2⟩ <;> rw [h2]
  ·exact h.pbs b h1
  ·omega
 ·intro b hb
  simp only
  rcases hu b hb with ⟨h1, h2⟩ | ⟨h1, h2⟩ <;> rw [h2]
  ·exact h.newP b h1
  ·have := h.newA; omega
 ·refine (h.below.setCell (p := ⟨L.bs, k * 4, none⟩) (by have := h.newB; show _ <= L.bs; omega) _).alloc (by rw [hz]; exact h.below.size) _
 ·exact (e1 _ (by have := h.newA; omega) (by have := h.newB; omega)).trans h.gbox
 ·exact (e1 _ (by have := h.newA; omega) (by have := h.newB; omega)).trans h.fbox
theorem NewI.drew {w0 : World} {B P Z bx L k} {w : World} (h : NewI w0 B P Z bx L k w) : NewI w0 B P Z bx L k w.drew := ⟨h.top, h.row, h.pgs, h.inj, h.pa, h.pbs, h.ab, h.newA, h.newB, h.newP, h.below.drew, h.gbox, h.fbox⟩
def newC (B P Z : Nat) (l : List Int) : Ch := { B := B, P := P, Z := Z, pg := fun _ _ => ⟨#[]⟩, worn := fun _ => 0, dead := fun b => decide ((b : Int) ∈ l), mark := fun b => decide ((b : Int) ∈ l), cuts := fun _ => none, fails := fun _ => false, did := 0, off := false }
structure NewJ (w0 : World) (B P Z : Nat) (bx : Array Value) (L : Ly) (l : List Int) (w : World) : Prop where
 chip : Chip0 w L (newC B P Z l) (.map none) (.map none)
 new : ∀ i, L.own B i -> w0.heap.size + 1 < i
 below : Below w0.heap.size w0 w
 fbox : w.heap[w0.heap.size + 1]? = some (.cells bx 32 (0, 0))
theorem NewI.done {w0 : World} {B P Z bx L} {w : World} (h : NewI w0 B P Z bx L B w) (hg : 8 <= B /\ B <= 32 /\ 4 <= P /\ P <= 16 /\ 64 <= Z /\ Z <= 256) : NewJ w0 B P Z bx L [] w := by
 refine ⟨⟨hg, h.top, h.row.congr (fun i hi => ?_), h.pgs, h.inj, h.pa, h.pbs, h.ab, fun _ _ => Or.inl rfl, by show (0 : Int) <= 0 /\ (0 : Int) < 1000000; omega⟩, ?_, h.below, h.fbox⟩
 ·unfold newF blkF newC
  rw [if_pos (by omega : i / 4 < B)]
  simp
 ·intro i hi
  rcases hi with rfl | rfl | ⟨b, hb, rfl⟩
  ·exact h.newA
  ·exact h.newB
  ·exact h.newP b hb
theorem Chip0.setBlk {w : World} {L C v4 v5} (h : Chip0 w L C v4 v5) (b j : Nat) (v : Value) (C' : Ch) (e1 : C'.B = C.B) (e2 : C'.P = C.P) (e3 : C'.Z = C.Z) (e4 : C'.pg = C.pg) (e10 : C'.did = C.did) (e11 : C'.off = C.off)
  (hc : ∀ i, (if i = b * 4 + j then v else blkF L C i) = blkF L C' i) : Chip0 (w.setCell ⟨L.bs, b * 4 + j, none⟩ v) L C' v4 v5 := by
 have htc : topV L C' v4 v5 = topV L C v4 v5 := by simp only [topV, e1, e2, e3, e10, e11]
 refine { geo := by rw [e1, e2, e3]; exact h.geo, top := ?_, row := ?_, pgs := ?_, inj := by rw [e1]; exact h.inj, pa := by rw [e1]; exact h.pa, pbs := by rw [e1]; exact h.pbs, ab := h.ab, len := by rw [e3, e4]; exact h.len, didr := by rw [e10]; exact h.didr }
 ·rw [htc]; exact (Below.heap_setCell w _ v L.a (fun e => h.ab e.symm)).trans h.top
 ·rw [e1]; exact (h.row.set (b * 4 + j) v).congr (fun i _ => hc i)
 ·rw [e1]; intro d hd; rw [e2, e4]; exact (h.pgs d hd).setOther (h.pbs d hd) v
theorem blk_dead (L : Ly) (C : Ch) (b : Nat) (v : Bool) (i : Nat) : (if i = b * 4 + 2 then .bool v else blkF L C i) = blkF L { C with dead := upd C.dead b v } i := by
 unfold blkF upd
 by_cases e : i = b * 4 + 2
 ·subst e
  rw [if_pos rfl, if_neg (by omega), if_neg (by omega), if_pos (by omega)]
  simp only
  rw [if_pos (by omega)]
 ·rw [if_neg e]
  simp only
  by_cases e1 : i % 4 = 2
  ·rw [if_neg (by omega : ¬ i % 4 = 0), if_neg (by omega : ¬ i % 4 = 1), if_pos e1, if_neg (by omega : ¬ i % 4 = 0), if_neg (by omega : ¬ i % 4 = 1), if_pos e1, if_neg (by omega)]
  ·simp only [if_neg e1]
theorem blk_mark (L : Ly) (C : Ch) (b : Nat) (v : Bool) (i : Nat) : (if i = b * 4 + 3 then .bool v else blkF L C i) = blkF L { C with mark := upd C.mark b v } i := by
 unfold blkF upd
 by_cases e : i = b * 4 + 3
 ·subst e
  rw [if_pos rfl, if_neg (by omega), if_neg (by omega), if_neg (by omega)]
  simp only
  rw [if_pos (by omega)]
 ·rw [if_neg e]
  simp only
  by_cases e1 : i % 4 = 3
  ·rw [if_neg (by omega : ¬ i % 4 = 0), if_neg (by omega : ¬ i % 4 = 1), if_neg (by omega : ¬ i % 4 = 2), if_neg (by omega : ¬ i % 4 = 0), if_neg (by omega : ¬ i % 4 = 1), if_neg (by omega : ¬ i % 4 = 2), if_neg (by omega)]
  ·by_cases e2 : i % 4 = 0
   ·rw [if_pos e2, if_pos e2]
   ·by_cases e3 : i % 4 = 1
    ·rw [if_neg e2, if_pos e3, if_neg e2, if_pos e3]
    ·rw [if_neg e2, if_neg e3, if_pos (by omega), if_neg e2, if_neg e3, if_pos (by omega)]
theorem newC_bad (B P Z : Nat) (l : List Int) (b : Nat) : newC B P Z (l ++ [(b : Int)]) = { newC B P Z l with dead := upd (newC B P Z l).dead b true, mark := upd (newC B P Z l).mark b true } := by
 have e : (fun d : Nat => decide ((d : Int) ∈ l ++ [(b : Int)])) = upd (fun d : Nat => decide ((d : Int) ∈ l)) b true := by
  funext d
  unfold upd
  by_cases h : d = b
  ·simp [h]
  ·rw [if_neg h]
   have : ¬ (d : Int) = b := by omega
   simp [this]
 unfold newC
 simp only [e]
theorem NewJ.drew {w0 : World} {B P Z bx L l} {w : World} (h : NewJ w0 B P Z bx L l w) : NewJ w0 B P Z bx L l w.drew := ⟨h.chip.drew, h.new, h.below.drew, h.fbox⟩
theorem NewJ.badA {w0 : World} {B P Z bx L l} {w : World} (h : NewJ w0 B P Z bx L l w) (b : Nat) : NewJ w0 B P Z bx L (l ++ [(b : Int)]) ((w.setCell ⟨L.bs, b * 4 + 3, none⟩ (.bool true)).setCell ⟨L.bs, b * 4 + 2, none⟩ (.bool true)) := by
 have hn := h.new L.bs (Or.inr (Or.inl rfl))
 have h1 := h.chip.setBlk b 3 (.bool true) { newC B P Z l with mark := upd (newC B P Z l).mark b true } rfl rfl rfl rfl rfl rfl (blk_mark L _ b true)
 have h2 := h1.setBlk b 2 (.bool true) { newC B P Z l with dead := upd (newC B P Z l).dead b true, mark := upd (newC B P Z l).mark b true } rfl rfl rfl rfl rfl rfl (blk_dead L _ b true)
 refine ⟨by rw [newC_bad]; exact h2, h.new, (h.below.setCell (p := ⟨L.bs, b * 4 + 3, none⟩) (by show _ <= L.bs; omega) _).setCell (p := ⟨L.bs, b * 4 + 2, none⟩) (by show _ <= L.bs; omega) _, ?_⟩
 exact (Below.heap_setCell _ ⟨L.bs, b * 4 + 2, none⟩ _ _ (by show _ ≠ L.bs; omega)).trans ((Below.heap_setCell w ⟨L.bs, b * 4 + 3, none⟩ _ _ (by show _ ≠ L.bs; omega)).trans h.fbox)
theorem has0_any {w : World} {L C v4 v5} (h : Chip0 w L C v4 v5) (b : Int) : Calls Tryz.prog 30 #[.pointer (some ⟨L.a, 0, none⟩), .int .i64 b] w fun e w' => e = .returned (.bool (decide (0 <= b /\ b < C.B))) /\ w' = w := by
 obtain ⟨c0, c1, c2, c3, _⟩ := h.cellA
 clear h
 by_cases h0 : 0 <= b
 ·by_cases h2 : b < C.B
  ·rw [show decide (0 <= b /\ b < C.B) = true by simp [h0, h2]]
   go_enter Tryz.func30, Tryz.ntmps30
   go_wp2
   go_ret
   exact ⟨rfl, rfl⟩
  ·rw [show decide (0 <= b /\ b < C.B) = false by simp [h2]]
   go_enter Tryz.func30, Tryz.ntmps30
   go_wp2
   go_ret
   exact ⟨rfl, rfl⟩
 ·rw [show decide (0 <= b /\ b < C.B) = false by simp [h0]]
  go_enter Tryz.func30, Tryz.ntmps30
  go_wp2
  go_ret
  exact ⟨rfl, rfl⟩
theorem NewJ.skip {w0 : World} {B P Z bx L l} {w : World} (h : NewJ w0 B P Z bx L l w) {x : Int} (hx : ¬ (0 <= x /\ x < B)) : NewJ w0 B P Z bx L (l ++ [x]) w := by
 refine ⟨⟨h.chip.geo, h.chip.top, h.chip.row.congr (fun i hi => ?_), h.chip.pgs, h.chip.inj, h.chip.pa, h.chip.pbs, h.chip.ab, h.chip.len, h.chip.didr⟩, h.new, h.below, h.fbox⟩
 have hi2 : i < B * 4 := hi
 have : ¬ ((i / 4 : Nat) : Int) = x := by omega
 unfold blkF newC
 simp only [List.mem_append, List.mem_singleton, this, or_false]
theorem CutsAt.other {w : World} {S T : Nat -> Prop} {a cl} (h : CutsAt w S a cl) (hn : ∀ i, i < cl.length -> a.isSome = true -> ∃ g o, a = some ⟨g, o, none⟩ /\ ¬ T g) : CutsAt w T a cl := by
 intro i hi
 obtain ⟨g, o, ha, hg, _, hc⟩ := h i hi
 obtain ⟨g', o', ha', ht⟩ := hn i hi (by rw [ha]; rfl)
 rw [ha] at ha'
 cases ha'
 exact ⟨g, o, ha, hg, ht, hc⟩
theorem IntsAt.other {w : World} {S T : Nat -> Prop} {a l} (h : IntsAt w S a l) (hn : ∀ i, i < l.length -> a.isSome = true -> ∃ g o, a = some ⟨g, o, none⟩ /\ ¬ T g) : IntsAt w T a l := by
 intro i hi
 obtain ⟨g, o, ha, hg, _, hc⟩ := h i hi
 obtain ⟨g', o', ha', ht⟩ := hn i hi (by rw [ha]; rfl)
 rw [ha] at ha'
 cases ha'
 exact ⟨g, o, ha, hg, ht, hc⟩
def begC (B P Z : Nat) (cl : List (Int × Int × Int)) (fl bl : List Int) : Ch := { newC B P Z bl with cuts := cutsOf cl, fails := failsOf fl }
set_option maxHeartbeats 2000000 in
theorem new_any (B P Z : Nat) (hg : 8 <= B /\ B <= 32 /\ 4 <= P /\ P <= 16 /\ 64 <= Z /\ Z <= 256) (ca fa ba : Option Addr) (cl : List (Int × Int × Int)) (fl bl : List Int) (cc fc bc : Nat) (w : World)
  (hc : CutsAt w (fun _ => False) ca cl) (hf : IntsAt w (fun _ => False) fa fl) (hb : IntsAt w (fun _ => False) ba bl) (hcl : cl.length <= 1000) (hfl : fl.length <= 1000) (hbl : bl.length <= 1000)
  (hwc : ∀ x ∈ cl, (Lit.int .i64 x.1).wf = true /\ 0 <= x.2.2 /\ x.2.2 < 256) (hwf : ∀ x ∈ fl, (Lit.int .i64 x).wf = true) :
  Calls Tryz.prog 13 #[.agg #[.int .i64 B, .int .i64 P, .int .i64 Z], .agg #[.slice ca cl.length cc, .slice fa fl.length fc, .slice ba bl.length bc]] w fun e w' =>
   ∃ L : Ly, e = .returned (.tuple #[.pointer (some ⟨L.a, 0, none⟩), .int .i64 0]) /\ Chip w' L (begC B P Z cl fl bl) /\ Below w.heap.size w w' /\ ∀ i, L.own B i -> w.heap.size < i := by
 have hok : okG (B : Int) P Z = true := by
  unfold okG inR
  simp
  omega
 have hmk := run_make_blocks B (by omega)
 have hmp := run_make_row' (P := Tryz.prog) 76 9 (.string ⟨#[]⟩) 16 Tryz.underlying76 Tryz.info9 rfl .i64 .i64 P (by omega) (by omega)
 have HA := Hid.mk (And.intro hc (And.intro hf hb))
 have HL := Hid.mk (And.intro hcl (And.intro hfl hbl))
 have HW := Hid.mk (And.intro hwc hwf)
 have HG := Hid.mk hg
 have hB32 : B <= 32 := hg.2.1
 clear hc hf hb hwc hwf hg
 generalize hn1 : cl.length = n1 at *
 generalize hn2 : fl.length = n2 at *
 generalize hn3 : bl.length = n3 at *
 have HN := Hid.mk (And.intro hn1 (And.intro hn2 hn3))
 clear hn1 hn2 hn3
 go_enter Tryz.func13, Tryz.ntmps13
 go_upto_region 3 with (go_at_call 29; refine (check_any _ _ _ _).mono ?_; rintro e w1 ⟨rfl, b1⟩; rw [hok])
 have hgb : w1.heap[w.heap.size]? = some (.cells #[.int .i64 B, .int .i64 P, .int .i64 Z] 23 (0, 0)) :=
  (b1.block _ (by rw [size_alloc, size_alloc]; omega)).trans ((Below.heap_alloc _ _ _ (by rw [size_alloc]; omega)).trans (heap_alloc_new w _))
 have hfb : w1.heap[w.heap.size + 1]? = some (.cells #[.slice ca n1 cc, .slice fa n2 fc, .slice ba n3 bc] 32 (0, 0)) := by
  have h1 := heap_alloc_new (w.alloc (.cells #[.int .i64 B, .int .i64 P, .int .i64 Z] 23)) (.cells #[.slice ca n1 cc, .slice fa n2 fc, .slice ba n3 bc] 32)
  rw [size_alloc] at h1
  exact (b1.block _ (by rw [size_alloc, size_alloc]; omega)).trans h1
 have hbw : Below w.heap.size w w1 := below3 (below_two w _ _) b1
 have hs1 : w.heap.size + 1 < w1.heap.size := (Array.getElem?_eq_some_iff.1 hfb).1
 clear b1
 have g0 : w1.cell? ⟨w.heap.size, 0, none⟩ = some (.int .i64 B) := cell_of_row _ _ 0 _ 23 _ hgb
 have g1 : w1.cell? ⟨w.heap.size, 1, none⟩ = some (.int .i64 P) := cell_of_row _ _ 1 _ 23 _ hgb
 have g2 : w1.cell? ⟨w.heap.size, 2, none⟩ = some (.int .i64 Z) := cell_of_row _ _ 2 _ 23 _ hgb
 have lg : w.heap.size < w1.heap.size := by omega
 have HB := Hid.mk (And.intro hgb (And.intro hfb (And.intro hbw hs1)))
 clear hgb hfb hbw
 go_region
 go_upto_region 5 with fail
 have hI0 : NewI w B P Z #[.slice ca n1 cc, .slice fa n2 fc, .slice ba n3 bc] ⟨w1.heap.size + 1, w1.heap.size, fun _ => 0⟩ 0 (((w1.alloc (.cells (madeCells blkZ (B * 4)) 78)).alloc (.cells #[.int .i64 B, .int .i64 P, .int .i64 Z, .slice (some ⟨w1.heap.size, 0, none⟩) B B, .map none, .map none, .int .i64 0, .bool false] 69)).drew) := by
  have hz := size_alloc w1 (.cells (madeCells blkZ (B * 4)) 78)
  have ht := heap_alloc_new (w1.alloc (.cells (madeCells blkZ (B * 4)) 78)) (.cells #[.int .i64 B, .int .i64 P, .int .i64 Z, .slice (some ⟨w1.heap.size, 0, none⟩) B B, .map none, .map none, .int .i64 0, .bool false] 69)
  rw [hz] at ht
  have hr := newF_made ⟨w1.heap.size + 1, w1.heap.size, fun _ => 0⟩ P B w1
  have hrl := hr.lt
  have ho : ∀ i, i < w1.heap.size -> (((w1.alloc (.cells (madeCells blkZ (B * 4)) 78)).alloc (.cells #[.int .i64 B, .int .i64 P, .int .i64 Z, .slice (some ⟨w1.heap.size, 0, none⟩) B B, .map none, .map none, .int .i64 0, .bool false] 69)).drew).heap[i]? = w1.heap[i]? := fun i hi =>
   (Below.heap_alloc _ _ i (by rw [hz]; omega)).trans (Below.heap_alloc w1 _ i hi)
  refine NewI.drew ⟨ht, hr.alloc _, fun b hb => absurd hb (by omega), fun b hb => absurd hb (by omega), fun b hb => absurd hb (by omega), fun b hb => absurd hb (by omega), by show w1.heap.size ≠ w1.heap.size + 1; omega, by show _ < w1.heap.size + 1; omega, hs1, fun b hb => absurd hb (by omega), ?_, (ho _ (by omega)).trans HB.out.1, (ho _ hs1).trans HB.out.2.1⟩
  exact below3 HB.out.2.2.1 (below_two w1 _ _)
 generalize ((w1.alloc (.cells (madeCells blkZ (B * 4)) 78)).alloc (.cells #[.int .i64 B, .int .i64 P, .int .i64 Z, .slice (some ⟨w1.heap.size, 0, none⟩) B B, .map none, .map none, .int .i64 0, .bool false] 69)).drew = W0 at *
 have hba : ¬ w1.heap.size + 1 = w1.heap.size := by omega
 generalize w1.heap.size + 1 = a at *
 generalize w1.heap.size = bs at *
 have HI0 := Hid.mk hI0
 clear hI0 g0 g1 g2 lg HB hs1 hmk
 go_loopw [24] (fun i wr => ∃ k : Nat, ∃ pb : Nat -> Nat, k <= B /\ i = .int .i64 k /\ NewI w B P Z #[.slice ca n1 cc, .slice fa n2 fc, .slice ba n3 bc] ⟨a, bs, pb⟩ k wr) (fun i _ => B - (intOf i).toNat)
 case atStart => exact ⟨0, _, Nat.zero_le _, rfl, HI0.out⟩
 case round =>
  obtain ⟨k, pb, hk, rfl, hI⟩ := hrel
  clear HI0 W0
  by_cases hkn : k < B
  ·have hkn1 : (k : Int) < B := by omega
   have a3 : wr.cell? ⟨a, 3, none⟩ = some (.slice (some ⟨bs, 0, none⟩) B B) := cell_of_row _ _ 3 _ 69 _ hI.top
   have g1 : wr.cell? ⟨w.heap.size, 1, none⟩ = some (.int .i64 P) := cell_of_row _ _ 1 _ 23 _ hI.gbox
   have bc0 := hI.row.cell (i := k * 4) (by omega)
   have bf0 := hI.row.frozen (k * 4)
   have la : a < wr.heap.size := (Array.getElem?_eq_some_iff.1 hI.top).1
   have lb : bs < wr.heap.size := hI.row.lt
   have lg : w.heap.size < wr.heap.size := (Array.getElem?_eq_some_iff.1 hI.gbox).1
   have HI := Hid.mk hI
   generalize newF ⟨a, bs, pb⟩ P k (k * 4) = V at bc0
   clear hI
   go_upto_region 7 with fail
   go_region
   go_wp2_with fail
   exact ⟨⟨k + 1, _, by omega, by go_num, HI.out.step.drew⟩, by simp [intOf]; omega⟩
  ·have hkn1 : ¬ (k : Int) < B := by omega
   have hk2 : k = B := by omega
   rw [hk2] at hI
   have hJ := hI.done HG.out
   have a3 : wr.cell? ⟨a, 3, none⟩ = some (.slice (some ⟨bs, 0, none⟩) B B) := cell_of_row _ _ 3 _ 69 _ hI.top
   have q0 : wr.cell? ⟨w.heap.size + 1, 0, none⟩ = some (.slice ca n1 cc) := cell_of_row _ _ 0 _ 32 _ hI.fbox
   have q1 : wr.cell? ⟨w.heap.size + 1, 1, none⟩ = some (.slice fa n2 fc) := cell_of_row _ _ 1 _ 32 _ hI.fbox
   have q2 : wr.cell? ⟨w.heap.size + 1, 2, none⟩ = some (.slice ba n3 bc) := cell_of_row _ _ 2 _ 32 _ hI.fbox
   have HJ0 := Hid.mk hJ
   clear hI hJ
   go_upto_region 10 with fail
   clear a3 q0 q1 q2
   go_loopw [41] (fun i wr => ∃ k : Nat, k <= n3 /\ i = .int .i64 k /\ NewJ w B P Z #[.slice ca n1 cc, .slice fa n2 fc, .slice ba n3 bc] ⟨a, bs, pb⟩ (bl.take k) wr) (fun i _ => n3 - (intOf i).toNat)
   case atStart => exact ⟨0, Nat.zero_le _, rfl, HJ0.out⟩
   case round =>
    obtain ⟨j, hj, rfl, hJ⟩ := hrel
    clear HJ0
    by_cases hjm : j < n3
    ·have hjc : j < bl.length := by rw [HN.out.2.2]; exact hjm
     have hjn1 : (j : Int) < n3 := by omega
     obtain ⟨g, o, rfl, hg, hgs, d0⟩ := (HA.out.2.2.kept (S := fun _ => False) (Kp.ofBelow hJ.below)) j hjc
     have e1 : bl.take (j + 1) = bl.take j ++ [bl.getD j 0] := by
      rw [List.take_add_one, List.getElem?_eq_getElem hjc]
      simp [List.getD_eq_getElem?_getD, hjc]
     generalize bl.getD j 0 = x at *
     have HJ := Hid.mk hJ
     have HE1 := Hid.mk e1
     clear e1 hJ hg hgs
     by_cases hx : 0 <= x /\ x < B
     ·obtain ⟨b, rfl⟩ := Int.eq_ofNat_of_zero_le hx.1
      have hb : b < B := by omega
      have hb1 : (b : Int) < B := hx.2
      have hdc : decide (0 <= (b : Int) /\ (b : Int) < (newC B P Z (bl.take j)).B) = true := by simp [newC, hb]
      obtain ⟨_, _, _, c3, _⟩ := HJ.out.chip.cellA
      simp only [newC] at c3
      have b2 := HJ.out.chip.row.cell (i := b * 4 + 2) (by show _ < B * 4; omega)
      have b3 := HJ.out.chip.row.cell (i := b * 4 + 3) (by show _ < B * 4; omega)
      have f2 := HJ.out.chip.row.frozen (b * 4 + 2)
      have f3 := HJ.out.chip.row.frozen (b * 4 + 3)
      simp only at b2 b3 f2 f3
      generalize blkF ⟨a, bs, pb⟩ (newC B P Z (bl.take j)) (b * 4 + 2) = V2 at b2
      generalize blkF ⟨a, bs, pb⟩ (newC B P Z (bl.take j)) (b * 4 + 3) = V3 at b3
      clear hx
      go_upto_region 13 with (go_at_call 30; refine (has0_any HJ.out.chip _).mono ?_; rintro e w' ⟨rfl, hw'⟩; rw [hw', hdc]; clear hw')
      go_region
      go_wp2_with fail
      refine ⟨⟨j + 1, by omega, by go_num, ?_⟩, by simp [intOf]; omega⟩
      rw [HE1.out]
      exact (HJ.out.badA b).drew
     ·have hdc : decide (0 <= x /\ x < (newC B P Z (bl.take j)).B) = false := decide_eq_false hx
      have HX := Hid.mk hx
      clear hx
      go_wp2_with (go_at_call 30; refine (has0_any HJ.out.chip _).mono ?_; rintro e w' ⟨rfl, hw'⟩; rw [hw', hdc]; clear hw')
      refine ⟨⟨j + 1, by omega, by go_num, ?_⟩, by simp [intOf]; omega⟩
      rw [HE1.out]
      exact HJ.out.skip HX.out
    ·have hjn1 : ¬ (j : Int) < n3 := by omega
     have hj2 : j = n3 := by omega
     have et : bl.take n3 = bl := by rw [<- HN.out.2.2, List.take_length]
     rw [hj2, et] at hJ
     clear et
     have q0 : wr.cell? ⟨w.heap.size + 1, 0, none⟩ = some (.slice ca n1 cc) := cell_of_row _ _ 0 _ 32 _ hJ.fbox
     have q1 : wr.cell? ⟨w.heap.size + 1, 1, none⟩ = some (.slice fa n2 fc) := cell_of_row _ _ 1 _ 32 _ hJ.fbox
     have q2 : wr.cell? ⟨w.heap.size + 1, 2, none⟩ = some (.slice ba n3 bc) := cell_of_row _ _ 2 _ 32 _ hJ.fbox
     have hnw : ∀ i, (Ly.mk a bs pb).own B i -> w.heap.size <= i := fun i hi => by have := hJ.new i hi; omega
     have harm := arm_any hJ.chip ca fa cl fl cc fc (.slice ba n3 bc) ((HA.out.1.kept (S := fun _ => False) (Kp.ofBelow hJ.below)).other (by
       intro i hi hx
       obtain ⟨g, o, ha, hg, _⟩ := HA.out.1 i hi
       exact ⟨g, o, ha, fun ho => by have := hnw g ho; omega⟩)) ((HA.out.2.1.kept (S := fun _ => False) (Kp.ofBelow hJ.below)).other (by
       intro i hi hx
       obtain ⟨g, o, ha, hg, _⟩ := HA.out.2.1 i hi
       exact ⟨g, o, ha, fun ho => by have := hnw g ho; omega⟩)) (by rw [HN.out.1]; exact HL.out.1) (by rw [HN.out.2.1]; exact HL.out.2.1) HW.out.1 HW.out.2
     rw [HN.out.1, HN.out.2.1] at harm
     have HJ := Hid.mk (And.intro hJ hnw)
     have HM := Hid.mk harm
     clear hJ hnw harm
     go_wp2_with (go_at_call 15; refine HM.out.mono ?_; rintro e w' ⟨rfl, h9, k9⟩)
     go_ret2
     refine ⟨⟨a, bs, pb⟩, rfl, h9, k9.below HJ.out.1.below HJ.out.1.below.size HJ.out.2, fun i hi => by have := HJ.out.1.new i hi; omega⟩
theorem results_cell1 {fn : Func} {p : Tmp} {ty : TypeId} (h : fn.results = #[.cell p ty]) (tmps : Array Value) (P : Program) (w : World) :
  (results fn tmps).run P w = ((asAddr (tmps.getD p undef)).run P w).andThen fun a w₁ => (loadVar ty a).run P w₁ := by
 simp only [results, h]
 simp [Sem.run_bind]
theorem Tryz.info3 : (Tryz.prog.info? 3).map (fun i => (i.zero, i.size, i.bytes)) = some (some (.int .i64 0), 1, 8) := by kernel_rfl
theorem Tryz.info4 : (Tryz.prog.info? 4).map (fun i => (i.zero, i.size, i.bytes)) = some (some (.bool false), 1, 1) := by kernel_rfl
theorem geom_any {w : World} {L C} (h : Chip w L C) : Calls Tryz.prog 8 #[.pointer (some ⟨L.a, 0, none⟩)] w fun e w' => e = .returned (.agg #[.int .i64 C.B, .int .i64 C.P, .int .i64 C.Z]) /\ Below w.heap.size w w' := by
 obtain ⟨mc, mf, n, k, _, _, c0, c1, c2, c3, c4, c5, c6, c7, _⟩ := h.cellA
 have la : L.a < w.heap.size := h.lt (Or.inl rfl)
 clear h
 go_enter Tryz.func8, Tryz.ntmps8
 go_wp2_with fail
 exact bodyPost_ret (v := .agg #[.int .i64 C.B, .int .i64 C.P, .int .i64 C.Z]) (by rw [results_cell1 rfl]; go_simp) rfl ⟨rfl, (Below.refl w.heap.size w).alloc (Nat.le_refl _) _⟩
/- no chip -/
theorem geom_nil (w : World) : Calls Tryz.prog 8 #[.pointer none] w fun e w' => e = .returned (.agg #[.int .i64 0, .int .i64 0, .int .i64 0]) /\ Below w.heap.size w w' := by
 go_enter Tryz.func8, Tryz.ntmps8
 go_wp2_with fail
 exact bodyPost_ret (v := .agg #[.int .i64 0, .int .i64 0, .int .i64 0]) (by rw [results_cell1 rfl]; go_simp) rfl ⟨rfl, (Below.refl w.heap.size w).alloc (Nat.le_refl _) _⟩
theorem new_refused (B P Z : Int) (h : okG B P Z = false) (v a b c : Value) (hv : v = .agg #[a, b, c]) (w : World) : Calls Tryz.prog 13 #[.agg #[.int .i64 B, .int .i64 P, .int .i64 Z], v] w fun e w' => e = .returned (.tuple #[.pointer none, .int .i64 1]) /\ Below w.heap.size w w' := by
 subst hv
 go_enter Tryz.func13, Tryz.ntmps13
 go_wp2_with (go_at_call 29; refine (check_any _ _ _ _).mono ?_; rintro e w1 ⟨rfl, b1⟩; rw [h])
 go_ret2
 exact ⟨rfl, below3 (below_two w _ _) b1⟩
theorem refB_ok {C : Ch} {b : Nat} (ho : C.off = false) (hb : b < C.B) : refB C b = 0 := by
 unfold refB
 rw [ho, if_neg (by decide), if_pos (by omega)]
theorem refP_ok {C : Ch} {b p : Nat} (ho : C.off = false) (hb : b < C.B) (hp : p < C.P) : refP C b p = 0 := by
 unfold refP
 rw [refB_ok ho hb, if_pos rfl, if_pos (by omega)]
end Go.Proofs.YtcmmhfjnhlaepabGreatDoor
