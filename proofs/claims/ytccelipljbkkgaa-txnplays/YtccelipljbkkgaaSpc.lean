/-
  Space: what is told of one space. No condition.
-/
import Derived.Test.YtccelipljbkkgaaSli
namespace Go.Proofs.Ytccelipljbkkgaa
open Go Go.RowKit Go.Maps

/-- what is told of a space -/
def svC (id q n : Int) (sl : Bool) : Array Value := #[.int .i64 id, .int .i64 q, .int .i64 n, .bool sl]
def sv (id q n : Int) (sl : Bool) : Value := .agg (svC id q n sl)
def svO (x : Option Asp) : Value := match x with | some x => sv x.id x.q (x.ps.length : Int) x.sl | none => sv 0 0 0 false
theorem info83 : (Try.prog.info? 83).map (·.size) = some 4 := by kernel_rfl
theorem sp_result {fn : Func} {p u : Tmp} (h : fn.results = #[.cell p 83, .tmp u]) {tmps : Array Value} {w : World} {g : Nat} {cs : Array Value} (hp : tmps.getD p undef = .pointer (some ⟨g, 0, none⟩)) (hs : cs.size = 4) (hg : w.heap[g]? = some (.cells cs 83 (0, 0))) :
    (results fn tmps).run Try.prog w = .ok (.tuple #[.agg cs, tmps.getD u undef]) w := by
  rw [results_cell_tmp h, hp]
  have q := run_loadVar_row (P := Try.prog) w g 83 83 cs (0, 0) _ hg Try.underlying83 rfl (by rw [hs]; exact info83)
  simp only [asAddr, Sem.run_pure, Result.andThen, q]
set_option maxRecDepth 20000 in
theorem space_none {w s} (h : StAt w s) {id : Int} (hi : K64 id) (hg : gsp s.sp id = none) :
    Calls Try.prog 40 #[.pointer (some ⟨s.p, 0, none⟩), .int .i64 id] w fun e w' => e = .returned (.tuple #[sv 0 0 0 false, .bool false]) ∧ Below w.heap.size w w' := by
  have c0 := h.c0
  have l0 := fun o => (h.alloc o).noSp hi hg
  have hpl := h.lt
  clear h hg
  go_enter Try.func40, Try.ntmps40
  go_wp2
  refine bodyPost_ret (sp_result rfl rfl (cs := svC 0 0 0 false) rfl ?_) rfl ⟨rfl, ?_⟩
  · exact heap_alloc_new _ _
  · exact (Below.refl _ w).alloc (Nat.le_refl _) _
set_option maxRecDepth 20000 in
theorem space_nil (w : World) (id : Int) :
    Calls Try.prog 40 #[.pointer none, .int .i64 id] w fun e w' => e = .returned (.tuple #[sv 0 0 0 false, .bool false]) ∧ Below w.heap.size w w' := by
  go_enter Try.func40, Try.ntmps40
  go_wp2
  refine bodyPost_ret (sp_result rfl rfl (cs := svC 0 0 0 false) rfl ?_) rfl ⟨rfl, ?_⟩
  · exact heap_alloc_new _ _
  · exact (Below.refl _ w).alloc (Nat.le_refl _) _
set_option maxRecDepth 20000 in
theorem space_some {w s} (h : StAt w s) {x : Sp} (hi : K64 x.id) (hg : gsp s.sp x.id = some x) :
    Calls Try.prog 40 #[.pointer (some ⟨s.p, 0, none⟩), .int .i64 x.id] w fun e w' => e = .returned (.tuple #[sv x.id x.q (x.ps.length : Int) x.sl, .bool true]) ∧ Below w.heap.size w w' := by
  have c0 := h.c0
  have l0 := fun o => (h.alloc o).aSp hi hg
  have hpl := h.lt
  have hX := h.hsp x (gsp_some hg).1
  have q0 := hX.q
  have q1 := hX.sl
  have q2 := hX.pb
  have hxl := hX.lt
  have ln := fun o ty => (hX.2.alloc o).drew.len Try.underlying65 ty
  clear h hg hX
  generalize (x.ps : Pl).length = n at *
  go_enter Try.func40, Try.ntmps40
  go_upto_region 4 with fail
  go_region
  go_wp2_with fail
  refine bodyPost_ret (sp_result rfl rfl (cs := svC x.id x.q n x.sl) rfl ?_) rfl ⟨rfl, ?_⟩
  · exact heap_alloc_new _ _
  · exact ((Below.refl _ w).alloc (Nat.le_refl _) _).drew
end Go.Proofs.Ytccelipljbkkgaa
