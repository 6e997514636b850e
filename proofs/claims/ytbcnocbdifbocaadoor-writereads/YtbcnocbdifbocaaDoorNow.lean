/-
  What happens in an action: the walks of cutNow and failsNow. No condition.
-/
import Derived.Test.YtbcnocbdifbocaaDoorPage
import Derived.Laws.ResultCell
import Derived.Laws.NewBlocks
namespace Go.Proofs.YtbcnocbdifbocaaDoor
open Go Go.RowKit

theorem below_two (w : World) (o1 o2 : Obj) : Below w.heap.size w ((w.alloc o1).alloc o2) := by
  refine ((Below.refl w.heap.size w).alloc (Nat.le_refl _) o1).alloc ?_ o2
  rw [size_alloc]
  omega
theorem wf_did {d : Int} (h : 0 ≤ d ∧ d < 1000000) : (Lit.int .i64 d).wf = true := by
  exact WalkArith.wf_i64 (by omega)
def cut0 : Value := .agg #[.int .i64 0, .int .i64 0, .int .u8 0]
theorem zero57 (w : World) : (zeroValue 64).run Tryd.prog w = .ok cut0 w := by kernel_rfl
theorem zero86 (w : World) : (zeroValue 120).run Tryd.prog w = .ok (.agg #[]) w := by kernel_rfl
theorem cutnow_none {w : World} {L C} (h : Chip w L C) (hc : C.cuts C.did = none) : Calls Tryd.prog 50 #[.pointer (some ⟨L.a, 0, none⟩)] w fun e w' => e = .returned (.tuple #[cut0, .bool false]) ∧ Below w.heap.size w w' := by
  obtain ⟨mc, mf, n, k, m1, m2, c0, c1, c2, c3, c4, c5, c6, c7, _⟩ := h.cellA
  have hl : ∀ w', w'.heap[mc]? = w.heap[mc]? → (Instr.lookup 76 (.map (some mc)) (.int .i64 C.did) true).run Tryd.prog w' = .ok (.tuple #[cut0, .bool false]) w' := by
    intro w' hw
    rw [(m1.of_block hw).look Tryd.underlying76 (zero57 _) (wf_did h.didr)]
    unfold cutF
    rw [hc]
    rfl
  have hlt := m1.lt
  unfold cut0 at *
  have la : L.a < w.heap.size := h.lt (Or.inl rfl)
  have hl1 : ∀ o, (Instr.lookup 76 (.map (some mc)) (.int .i64 C.did) true).run Tryd.prog (w.alloc o).drew = .ok (.tuple #[.agg #[.int .i64 0, .int .i64 0, .int .u8 0], .bool false]) (w.alloc o).drew := fun o => hl _ (Below.heap_alloc w o mc hlt)
  have hl2 : ∀ o o', (Instr.lookup 76 (.map (some mc)) (.int .i64 C.did) true).run Tryd.prog ((w.alloc o).alloc o').drew = .ok (.tuple #[.agg #[.int .i64 0, .int .i64 0, .int .u8 0], .bool false]) ((w.alloc o).alloc o').drew :=
    fun o o' => hl _ ((Below.heap_alloc (w.alloc o) o' mc (by rw [size_alloc]; omega)).trans (Below.heap_alloc w o mc hlt))
  have HH := Hid.mk h
  clear h m1 m2 hl hlt
  go_enter Tryd.func50, Tryd.ntmps50
  go_wp2_with fail
  go_region
  go_wp2_with fail
  exact bodyPost_ret (v := .tuple #[.agg #[.int .i64 0, .int .i64 0, .int .u8 0], .bool false]) (by rw [results_cell_tmp rfl]; go_simp) rfl ⟨rfl, (below_two w _ _).drew⟩
theorem cutnow_some {w : World} {L C} (h : Chip w L C) {k0 f : Int} (hc : C.cuts C.did = some (k0, f)) : Calls Tryd.prog 50 #[.pointer (some ⟨L.a, 0, none⟩)] w fun e w' => e = .returned (.tuple #[cutV C.did k0 f, .bool true]) ∧ Chip w' L { C with off := true } ∧ Kp (L.own C.B) w w' := by
  obtain ⟨mc, mf, n, k, m1, m2, c0, c1, c2, c3, c4, c5, c6, c7, hf⟩ := h.cellA
  have f7 := hf 7
  have hl : ∀ w', w'.heap[mc]? = w.heap[mc]? → (Instr.lookup 76 (.map (some mc)) (.int .i64 C.did) true).run Tryd.prog w' = .ok (.tuple #[cutV C.did k0 f, .bool true]) w' := by
    intro w' hw
    rw [(m1.of_block hw).look Tryd.underlying76 (zero57 _) (wf_did h.didr)]
    unfold cutF
    rw [hc]
    rfl
  have hlt := m1.lt
  unfold cutV at *
  have la : L.a < w.heap.size := h.lt (Or.inl rfl)
  have hl1 : ∀ o, (Instr.lookup 76 (.map (some mc)) (.int .i64 C.did) true).run Tryd.prog (w.alloc o).drew = .ok (.tuple #[.agg #[.int .i64 C.did, .int .i64 k0, .int .u8 f], .bool true]) (w.alloc o).drew := fun o => hl _ (Below.heap_alloc w o mc hlt)
  have hl2 : ∀ o o', (Instr.lookup 76 (.map (some mc)) (.int .i64 C.did) true).run Tryd.prog ((w.alloc o).alloc o').drew = .ok (.tuple #[.agg #[.int .i64 C.did, .int .i64 k0, .int .u8 f], .bool true]) ((w.alloc o).alloc o').drew :=
    fun o o' => hl _ ((Below.heap_alloc (w.alloc o) o' mc (by rw [size_alloc]; omega)).trans (Below.heap_alloc w o mc hlt))
  have HH := Hid.mk h
  clear h m1 m2 hl hlt hf
  go_enter Tryd.func50, Tryd.ntmps50
  go_wp2_with fail
  go_region
  go_wp2_with fail
  exact bodyPost_ret (v := .tuple #[.agg #[.int .i64 C.did, .int .i64 k0, .int .u8 f], .bool true]) (by rw [results_cell_tmp rfl]; go_simp) rfl ⟨rfl, (((HH.out.setOff true).alloc _).alloc _).drew, ((((Kp.refl _ w).setCell (p := ⟨L.a, 7, none⟩) (Or.inl rfl) _).alloc _).alloc _).drew⟩
theorem upd_self {α : Type} (f : Nat → α) (b : Nat) : upd f b (f b) = f := by
  funext i
  unfold upd
  split
  · rename_i h
    rw [h]
  · rfl
theorem failsnow_any {w : World} {L C} (h : Chip w L C) {b : Nat} (hb : b < C.B) : Calls Tryd.prog 54 #[.pointer (some ⟨L.a, 0, none⟩), .pointer (some ⟨L.bs, b * 4, none⟩)] w fun e w' =>
    e = .returned (.bool (C.dead b || C.fails C.did)) ∧ Chip w' L { C with dead := upd C.dead b (C.dead b || C.fails C.did) } ∧ Kp (L.own C.B) w w' := by
  obtain ⟨mc, mf, n, k, m1, m2, c0, c1, c2, c3, c4, c5, c6, c7, hf⟩ := h.cellA
  obtain ⟨b0, b1, b2, b3⟩ := h.cellB b hb
  have f2 := h.frozenB (b * 4 + 2)
  have hlt := m2.lt
  have la : L.a < w.heap.size := h.lt (Or.inl rfl)
  have lb : L.bs < w.heap.size := h.lt (Or.inr (Or.inl rfl))
  cases hfa : C.fails C.did
  · have hl : ∀ w', w'.heap[mf]? = w.heap[mf]? → (Instr.lookup 77 (.map (some mf)) (.int .i64 C.did) true).run Tryd.prog w' = .ok (.tuple #[.agg #[], .bool false]) w' := by
      intro w' hw
      rw [(m2.of_block hw).look Tryd.underlying77 (zero86 _) (wf_did h.didr)]
      unfold failF
      rw [hfa]
      rfl
    have hl1 : (Instr.lookup 77 (.map (some mf)) (.int .i64 C.did) true).run Tryd.prog w.drew = .ok (.tuple #[.agg #[], .bool false]) w.drew := hl _ rfl
    have hl2 : ∀ o, (Instr.lookup 77 (.map (some mf)) (.int .i64 C.did) true).run Tryd.prog (w.alloc o).drew = .ok (.tuple #[.agg #[], .bool false]) (w.alloc o).drew := fun o => hl _ (Below.heap_alloc w o mf hlt)
    rw [Bool.or_false, upd_self]
    have HH := Hid.mk h
    clear h m1 m2 hl hlt hf
    go_enter Tryd.func54, Tryd.ntmps54
    go_wp2_with fail
    go_region
    go_wp2_with fail
    go_ret
    refine ⟨rfl, ?_, ?_⟩
    · exact (HH.out.alloc _).drew
    · exact ((Kp.refl _ w).alloc _).drew
  · have hl : ∀ w', w'.heap[mf]? = w.heap[mf]? → (Instr.lookup 77 (.map (some mf)) (.int .i64 C.did) true).run Tryd.prog w' = .ok (.tuple #[.agg #[], .bool true]) w' := by
      intro w' hw
      rw [(m2.of_block hw).look Tryd.underlying77 (zero86 _) (wf_did h.didr)]
      unfold failF
      rw [hfa]
      rfl
    have hl1 : (Instr.lookup 77 (.map (some mf)) (.int .i64 C.did) true).run Tryd.prog w.drew = .ok (.tuple #[.agg #[], .bool true]) w.drew := hl _ rfl
    have hl2 : ∀ o, (Instr.lookup 77 (.map (some mf)) (.int .i64 C.did) true).run Tryd.prog (w.alloc o).drew = .ok (.tuple #[.agg #[], .bool true]) (w.alloc o).drew := fun o => hl _ (Below.heap_alloc w o mf hlt)
    rw [Bool.or_true]
    have HH := Hid.mk h
    clear h m1 m2 hl hlt hf
    go_enter Tryd.func54, Tryd.ntmps54
    go_wp2_with fail
    go_region
    go_wp2_with fail
    go_ret
    refine ⟨rfl, ?_, ?_⟩
    · exact ((HH.out.setDead b true).alloc _).drew
    · exact (((Kp.refl _ w).setCell (p := ⟨L.bs, b * 4 + 2, none⟩) (Or.inr (Or.inl rfl)) _).alloc _).drew
end Go.Proofs.YtbcnocbdifbocaaDoor
