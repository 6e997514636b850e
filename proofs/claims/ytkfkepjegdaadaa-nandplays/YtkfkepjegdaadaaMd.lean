/-
  The law's model in memory: a struct of twelve cells, four rows, two lists of faults; what calls leave of it. No condition.
-/
import Derived.Test.YtkfkepjegdaadaaGeo
import Derived.Test.YtkfkepjegdaadaaOwn
namespace Go.Proofs.Ytkfkepjegdaadaa
open Go Go.RowKit

/-- where a model's rows lie -/
structure Mx where
  ca : Option Addr
  cl : List (Int × Int × Int)
  cc : Nat
  fa : Option Addr
  fl : List Int
  fc : Nat
  ba : Option Addr
  bn : Nat
  bc : Nat
  gp : Nat
  cp : Nat
  gw : Nat
  cw : Nat
  gd : Nat
  cd : Nat
  gm : Nat
  cm : Nat
def mdA (X : Mx) (C : Ch) : Array Value := #[.int .i64 C.B, .int .i64 C.P, .int .i64 C.Z, .slice X.ca X.cl.length X.cc, .slice X.fa X.fl.length X.fc, .slice X.ba X.bn X.bc, .slice (some ⟨X.gp, 0, none⟩) (C.B * C.P) X.cp,
  .slice (some ⟨X.gw, 0, none⟩) C.B X.cw, .slice (some ⟨X.gd, 0, none⟩) C.B X.cd, .slice (some ⟨X.gm, 0, none⟩) C.B X.cm, .int .i64 C.did, .bool C.off]
/-- the model of C, its rows in blocks that are none of S -/
structure Md (w : World) (S : Nat → Prop) (X : Mx) (C : Ch) : Prop where
  cut : CutsAt w S X.ca X.cl
  fail : IntsAt w S X.fa X.fl
  ecut : C.cuts = cutsOf X.cl
  efail : C.fails = failsOf X.fl
  len : X.cl.length ≤ 8 ∧ X.fl.length ≤ 8
  rng : ∀ x ∈ X.cl, 0 ≤ x.2.2 ∧ x.2.2 < 256
  pg : ∀ i, i < C.B * C.P → w.cell? ⟨X.gp, i, none⟩ = some (.string (C.pg (i / C.P) (i % C.P)))
  worn : ∀ i, i < C.B → w.cell? ⟨X.gw, i, none⟩ = some (.int .i64 (C.worn i))
  dead : ∀ i, i < C.B → w.cell? ⟨X.gd, i, none⟩ = some (.bool (C.dead i))
  mark : ∀ i, i < C.B → w.cell? ⟨X.gm, i, none⟩ = some (.bool (C.mark i))
  lt : X.gp < w.heap.size ∧ X.gw < w.heap.size ∧ X.gd < w.heap.size ∧ X.gm < w.heap.size
  out : ¬ S X.gp ∧ ¬ S X.gw ∧ ¬ S X.gd ∧ ¬ S X.gm
  geo : 8 ≤ C.B ∧ C.B ≤ 32 ∧ 4 ≤ C.P ∧ C.P ≤ 16 ∧ 64 ≤ C.Z ∧ C.Z ≤ 256
  didr : 0 ≤ C.did ∧ C.did < 1000
  wornr : ∀ i, 0 ≤ C.worn i ∧ C.worn i < 1000
theorem Md.kept {w w' : World} {S X C} (h : Md w S X C) (k : Kp S w w') : Md w' S X C := by
  have e : ∀ g, g < w.heap.size → ¬ S g → ∀ j, w'.cell? ⟨g, j, none⟩ = w.cell? ⟨g, j, none⟩ := fun g hg hs j => World.cell?_of_block (w := w) (a := ⟨g, j, none⟩) (k.block g hg hs)
  have hs := k.size
  have hl := h.lt
  exact { h with
    cut := h.cut.kept k
    fail := h.fail.kept k
    pg := fun i hi => by rw [e _ h.lt.1 h.out.1]; exact h.pg i hi
    worn := fun i hi => by rw [e _ h.lt.2.1 h.out.2.1]; exact h.worn i hi
    dead := fun i hi => by rw [e _ h.lt.2.2.1 h.out.2.2.1]; exact h.dead i hi
    mark := fun i hi => by rw [e _ h.lt.2.2.2 h.out.2.2.2]; exact h.mark i hi
    lt := by omega }
theorem Md.call {w w' : World} {S X C} (h : Md w S X C) (b : Below w.heap.size w w') : Md w' S X C := h.kept (Kp.ofBelow b)
theorem Md.alloc {w : World} {S X C} (h : Md w S X C) (o : Obj) : Md (w.alloc o) S X C := h.call ((Below.refl _ w).alloc (Nat.le_refl _) o)
theorem Md.drew {w : World} {S X C} (h : Md w S X C) : Md w.drew S X C := h.call (Below.refl _ w).drew
/-- a model's struct in a block -/
def MdAt (w : World) (T : Nat) (X : Mx) (C : Ch) : Prop := w.heap[T]? = some (.cells (mdA X C) 39 (0, 0))
theorem MdAt.lt {w : World} {T X C} (h : MdAt w T X C) : T < w.heap.size := (Array.getElem?_eq_some_iff.1 h).1
theorem MdAt.call {w w' : World} {T X C} (h : MdAt w T X C) (b : Below w.heap.size w w') : MdAt w' T X C := (b.block _ h.lt).trans h
theorem MdAt.kept {w w' : World} {S : Nat → Prop} {T X C} (h : MdAt w T X C) (k : Kp S w w') (hs : ¬ S T) : MdAt w' T X C := (k.block _ h.lt hs).trans h
theorem MdAt.alloc {w : World} {T X C} (h : MdAt w T X C) (o : Obj) : MdAt (w.alloc o) T X C := (Below.heap_alloc w o T h.lt).trans h
theorem MdAt.cells {w : World} {T X C} (h : MdAt w T X C) : w.cell? ⟨T, 0, none⟩ = some (.int .i64 C.B) ∧ w.cell? ⟨T, 1, none⟩ = some (.int .i64 C.P) ∧ w.cell? ⟨T, 2, none⟩ = some (.int .i64 C.Z) ∧ w.cell? ⟨T, 3, none⟩ = some (.slice X.ca X.cl.length X.cc) ∧
    w.cell? ⟨T, 4, none⟩ = some (.slice X.fa X.fl.length X.fc) ∧ w.cell? ⟨T, 5, none⟩ = some (.slice X.ba X.bn X.bc) ∧ w.cell? ⟨T, 6, none⟩ = some (.slice (some ⟨X.gp, 0, none⟩) (C.B * C.P) X.cp) ∧ w.cell? ⟨T, 7, none⟩ = some (.slice (some ⟨X.gw, 0, none⟩) C.B X.cw) ∧
    w.cell? ⟨T, 8, none⟩ = some (.slice (some ⟨X.gd, 0, none⟩) C.B X.cd) ∧ w.cell? ⟨T, 9, none⟩ = some (.slice (some ⟨X.gm, 0, none⟩) C.B X.cm) ∧ w.cell? ⟨T, 10, none⟩ = some (.int .i64 C.did) ∧ w.cell? ⟨T, 11, none⟩ = some (.bool C.off) := by
  refine ⟨?_, ?_, ?_, ?_, ?_, ?_, ?_, ?_, ?_, ?_, ?_, ?_⟩ <;> (rw [cell_of_row w T _ _ 39 _ h]; rfl)
theorem MdAt.frozen {w : World} {T X C} (h : MdAt w T X C) (j : Nat) : w.frozen? ⟨T, j, none⟩ = false := frozen_of_row w T j _ 39 h
theorem info39 : (Try.prog.info? 39).map (·.size) = some 12 := by kernel_rfl
theorem info57 : (Try.prog.info? 57).map (·.size) = some 3 := by kernel_rfl
theorem mdA_size (X : Mx) (C : Ch) : (mdA X C).size = 12 := rfl
/-- a struct of twelve cells, and one of three, out of a block and into one -/
theorem ld39 {w : World} {g : Nat} {cs : Array Value} (h : w.heap[g]? = some (.cells cs 39 (0, 0))) (hs : cs.size = 12) : (Instr.loadAt 39 (.pointer (some ⟨g, 0, none⟩))).run Try.prog w = .ok (.agg cs) w := by
  simp only [Instr.loadAt, Instr.sureAddr, Sem.run_bind, Sem.run_pure, Result.andThen]
  exact run_loadVar_row w g 39 39 cs (0, 0) _ h Try.underlying39 rfl (by rw [hs]; exact info39)
theorem st39 {w : World} {g : Nat} {old cs : Array Value} (h : w.heap[g]? = some (.cells old 39 (0, 0))) (ho : old.size = 12) (hs : cs.size = 12) (h1 : cs.all (·.oneCell') = true) : (Instr.storeAt 39 (.pointer (some ⟨g, 0, none⟩)) (.agg cs)).run Try.prog w = .ok () (w.setRow g cs) := by
  simp only [Instr.storeAt, Instr.sureAddr, Sem.run_bind, Sem.run_pure, Result.andThen]
  exact run_storeVar_row w g 39 39 old cs h (by rw [hs]; exact info39) (by rw [ho, hs]) h1
theorem st57 {w : World} {g : Nat} {old cs : Array Value} (h : w.heap[g]? = some (.cells old 57 (0, 0))) (ho : old.size = 3) (hs : cs.size = 3) (h1 : cs.all (·.oneCell') = true) : (Instr.storeAt 57 (.pointer (some ⟨g, 0, none⟩)) (.agg cs)).run Try.prog w = .ok () (w.setRow g cs) := by
  simp only [Instr.storeAt, Instr.sureAddr, Sem.run_bind, Sem.run_pure, Result.andThen]
  exact run_storeVar_row w g 57 57 old cs h (by rw [hs]; exact info57) (by rw [ho, hs]) h1
theorem lv39 {w : World} {g : Nat} {cs : Array Value} (h : w.heap[g]? = some (.cells cs 39 (0, 0))) (hs : cs.size = 12) : (loadVar 39 ⟨g, 0, none⟩).run Try.prog w = .ok (.agg cs) w :=
  run_loadVar_row w g 39 39 cs (0, 0) _ h Try.underlying39 rfl (by rw [hs]; exact info39)
theorem lv57 {w : World} {g : Nat} {cs : Array Value} (h : w.heap[g]? = some (.cells cs 57 (0, 0))) (hs : cs.size = 3) : (loadVar 57 ⟨g, 0, none⟩).run Try.prog w = .ok (.agg cs) w :=
  run_loadVar_row w g 57 57 cs (0, 0) _ h Try.underlying57 rfl (by rw [hs]; exact info57)
/-- one block alone is another -/
structure Put (W W' : World) (T : Nat) (o : Obj) : Prop where
  here : W'.heap[T]? = some o
  other : ∀ i, i ≠ T → W'.heap[i]? = W.heap[i]?
  size : W'.heap.size = W.heap.size
  os : W'.os = W.os
  tape : W'.tape = W.tape
  output : W'.output = W.output
theorem Put.below {W W' w0 : World} {T o B} (p : Put W W' T o) (h : Below B w0 W) (hT : B ≤ T) : Below B w0 W' := ⟨p.os.trans h.os, p.tape.trans h.tape, p.output.trans h.output, by rw [p.size]; exact h.size, fun i hi => (p.other i (by omega)).trans (h.block i hi)⟩
theorem Put.drew {W W' : World} {T o} (p : Put W W' T o) : Put W W'.drew T o := ⟨p.here, p.other, p.size, p.os, p.tape, p.output⟩
theorem Put.kp {W W' w0 : World} {S : Nat → Prop} {T o} (p : Put W W' T o) (h : Kp S w0 W) (hT : w0.heap.size ≤ T) : Kp S w0 W' := ⟨p.os.trans h.os, p.tape.trans h.tape, p.output.trans h.output, by rw [p.size]; exact h.size, fun i hi hs => (p.other i (by omega)).trans (h.block i hi hs)⟩
theorem Put.md {W W' : World} {S X C T o} (p : Put W W' T o) (h : Md W S X C) (h1 : T ≠ X.gp) (h2 : T ≠ X.gw) (h3 : T ≠ X.gd) (h4 : T ≠ X.gm) (h5 : ∀ i, i < X.cl.length → ∀ g f, X.ca = some ⟨g, f, none⟩ → g ≠ T) (h6 : ∀ i, i < X.fl.length → ∀ g f, X.fa = some ⟨g, f, none⟩ → g ≠ T) : Md W' S X C := by
  have e : ∀ g, g ≠ T → ∀ j, W'.cell? ⟨g, j, none⟩ = W.cell? ⟨g, j, none⟩ := fun g hg j => World.cell?_of_block (w := W) (a := ⟨g, j, none⟩) (p.other g hg)
  exact { h with
    cut := fun i hi => by
      obtain ⟨g, f, ha, hg, hs, hc⟩ := h.cut i hi
      exact ⟨g, f, ha, by rw [p.size]; exact hg, hs, by rw [e g (h5 i hi g f ha), e g (h5 i hi g f ha), e g (h5 i hi g f ha)]; exact hc⟩
    fail := fun i hi => by
      obtain ⟨g, f, ha, hg, hs, hc⟩ := h.fail i hi
      exact ⟨g, f, ha, by rw [p.size]; exact hg, hs, by rw [e g (h6 i hi g f ha)]; exact hc⟩
    pg := fun i hi => by rw [e _ (fun x => h1 x.symm)]; exact h.pg i hi
    worn := fun i hi => by rw [e _ (fun x => h2 x.symm)]; exact h.worn i hi
    dead := fun i hi => by rw [e _ (fun x => h3 x.symm)]; exact h.dead i hi
    mark := fun i hi => by rw [e _ (fun x => h4 x.symm)]; exact h.mark i hi
    lt := by rw [p.size]; exact h.lt }
theorem sc_os (w : World) (a : Addr) (v : Value) : (w.setCell a v).os = w.os := rfl
theorem sc_tape (w : World) (a : Addr) (v : Value) : (w.setCell a v).tape = w.tape := rfl
theorem sc_output (w : World) (a : Addr) (v : Value) : (w.setCell a v).output = w.output := rfl
theorem sc_size (w : World) (a : Addr) (v : Value) : (w.setCell a v).heap.size = w.heap.size := by simp [World.setCell]
theorem put12 {W : World} {T : Nat} {u0 u1 u2 u3 u4 u5 u6 u7 u8 u9 u10 u11 : Value} (h : W.heap[T]? = some (.cells #[u0, u1, u2, u3, u4, u5, u6, u7, u8, u9, u10, u11] 39 (0, 0))) (v0 v1 v2 v3 v4 v5 v6 v7 v8 v9 v10 v11 : Value) : Put W ((((((((((((W.setCell ⟨T, 0, none⟩ v0).setCell ⟨T, 1, none⟩ v1).setCell ⟨T, 2, none⟩ v2).setCell ⟨T, 3, none⟩ v3).setCell ⟨T, 4, none⟩ v4).setCell ⟨T, 5, none⟩ v5).setCell ⟨T, 6, none⟩ v6).setCell ⟨T, 7, none⟩ v7).setCell ⟨T, 8, none⟩ v8).setCell ⟨T, 9, none⟩ v9).setCell ⟨T, 10, none⟩ v10).setCell ⟨T, 11, none⟩ v11) T (.cells #[v0, v1, v2, v3, v4, v5, v6, v7, v8, v9, v10, v11] 39 (0, 0)) := by
  have h0 : (W.setCell ⟨T, 0, none⟩ v0).heap[T]? = some (.cells #[v0, u1, u2, u3, u4, u5, u6, u7, u8, u9, u10, u11] 39 (0, 0)) := heap_setCell_same _ T 0 _ 39 v0 h
  have h1 : ((W.setCell ⟨T, 0, none⟩ v0).setCell ⟨T, 1, none⟩ v1).heap[T]? = some (.cells #[v0, v1, u2, u3, u4, u5, u6, u7, u8, u9, u10, u11] 39 (0, 0)) := heap_setCell_same _ T 1 _ 39 v1 h0
  have h2 : (((W.setCell ⟨T, 0, none⟩ v0).setCell ⟨T, 1, none⟩ v1).setCell ⟨T, 2, none⟩ v2).heap[T]? = some (.cells #[v0, v1, v2, u3, u4, u5, u6, u7, u8, u9, u10, u11] 39 (0, 0)) := heap_setCell_same _ T 2 _ 39 v2 h1
  have h3 : ((((W.setCell ⟨T, 0, none⟩ v0).setCell ⟨T, 1, none⟩ v1).setCell ⟨T, 2, none⟩ v2).setCell ⟨T, 3, none⟩ v3).heap[T]? = some (.cells #[v0, v1, v2, v3, u4, u5, u6, u7, u8, u9, u10, u11] 39 (0, 0)) := heap_setCell_same _ T 3 _ 39 v3 h2
  have h4 : (((((W.setCell ⟨T, 0, none⟩ v0).setCell ⟨T, 1, none⟩ v1).setCell ⟨T, 2, none⟩ v2).setCell ⟨T, 3, none⟩ v3).setCell ⟨T, 4, none⟩ v4).heap[T]? = some (.cells #[v0, v1, v2, v3, v4, u5, u6, u7, u8, u9, u10, u11] 39 (0, 0)) := heap_setCell_same _ T 4 _ 39 v4 h3
  have h5 : ((((((W.setCell ⟨T, 0, none⟩ v0).setCell ⟨T, 1, none⟩ v1).setCell ⟨T, 2, none⟩ v2).setCell ⟨T, 3, none⟩ v3).setCell ⟨T, 4, none⟩ v4).setCell ⟨T, 5, none⟩ v5).heap[T]? = some (.cells #[v0, v1, v2, v3, v4, v5, u6, u7, u8, u9, u10, u11] 39 (0, 0)) := heap_setCell_same _ T 5 _ 39 v5 h4
  have h6 : (((((((W.setCell ⟨T, 0, none⟩ v0).setCell ⟨T, 1, none⟩ v1).setCell ⟨T, 2, none⟩ v2).setCell ⟨T, 3, none⟩ v3).setCell ⟨T, 4, none⟩ v4).setCell ⟨T, 5, none⟩ v5).setCell ⟨T, 6, none⟩ v6).heap[T]? = some (.cells #[v0, v1, v2, v3, v4, v5, v6, u7, u8, u9, u10, u11] 39 (0, 0)) := heap_setCell_same _ T 6 _ 39 v6 h5
  have h7 : ((((((((W.setCell ⟨T, 0, none⟩ v0).setCell ⟨T, 1, none⟩ v1).setCell ⟨T, 2, none⟩ v2).setCell ⟨T, 3, none⟩ v3).setCell ⟨T, 4, none⟩ v4).setCell ⟨T, 5, none⟩ v5).setCell ⟨T, 6, none⟩ v6).setCell ⟨T, 7, none⟩ v7).heap[T]? = some (.cells #[v0, v1, v2, v3, v4, v5, v6, v7, u8, u9, u10, u11] 39 (0, 0)) := heap_setCell_same _ T 7 _ 39 v7 h6
  have h8 : (((((((((W.setCell ⟨T, 0, none⟩ v0).setCell ⟨T, 1, none⟩ v1).setCell ⟨T, 2, none⟩ v2).setCell ⟨T, 3, none⟩ v3).setCell ⟨T, 4, none⟩ v4).setCell ⟨T, 5, none⟩ v5).setCell ⟨T, 6, none⟩ v6).setCell ⟨T, 7, none⟩ v7).setCell ⟨T, 8, none⟩ v8).heap[T]? = some (.cells #[v0, v1, v2, v3, v4, v5, v6, v7, v8, u9, u10, u11] 39 (0, 0)) := heap_setCell_same _ T 8 _ 39 v8 h7
  have h9 : ((((((((((W.setCell ⟨T, 0, none⟩ v0).setCell ⟨T, 1, none⟩ v1).setCell ⟨T, 2, none⟩ v2).setCell ⟨T, 3, none⟩ v3).setCell ⟨T, 4, none⟩ v4).setCell ⟨T, 5, none⟩ v5).setCell ⟨T, 6, none⟩ v6).setCell ⟨T, 7, none⟩ v7).setCell ⟨T, 8, none⟩ v8).setCell ⟨T, 9, none⟩ v9).heap[T]? = some (.cells #[v0, v1, v2, v3, v4, v5, v6, v7, v8, v9, u10, u11] 39 (0, 0)) := heap_setCell_same _ T 9 _ 39 v9 h8
  have h10 : (((((((((((W.setCell ⟨T, 0, none⟩ v0).setCell ⟨T, 1, none⟩ v1).setCell ⟨T, 2, none⟩ v2).setCell ⟨T, 3, none⟩ v3).setCell ⟨T, 4, none⟩ v4).setCell ⟨T, 5, none⟩ v5).setCell ⟨T, 6, none⟩ v6).setCell ⟨T, 7, none⟩ v7).setCell ⟨T, 8, none⟩ v8).setCell ⟨T, 9, none⟩ v9).setCell ⟨T, 10, none⟩ v10).heap[T]? = some (.cells #[v0, v1, v2, v3, v4, v5, v6, v7, v8, v9, v10, u11] 39 (0, 0)) := heap_setCell_same _ T 10 _ 39 v10 h9
  have h11 : ((((((((((((W.setCell ⟨T, 0, none⟩ v0).setCell ⟨T, 1, none⟩ v1).setCell ⟨T, 2, none⟩ v2).setCell ⟨T, 3, none⟩ v3).setCell ⟨T, 4, none⟩ v4).setCell ⟨T, 5, none⟩ v5).setCell ⟨T, 6, none⟩ v6).setCell ⟨T, 7, none⟩ v7).setCell ⟨T, 8, none⟩ v8).setCell ⟨T, 9, none⟩ v9).setCell ⟨T, 10, none⟩ v10).setCell ⟨T, 11, none⟩ v11).heap[T]? = some (.cells #[v0, v1, v2, v3, v4, v5, v6, v7, v8, v9, v10, v11] 39 (0, 0)) := heap_setCell_same _ T 11 _ 39 v11 h10
  refine ⟨h11, fun i hi => ?_, by simp only [sc_size], by simp only [sc_os], by simp only [sc_tape], by simp only [sc_output]⟩
  iterate 12 rw [Below.heap_setCell _ _ _ i hi]
theorem put3 {W : World} {T : Nat} {u0 u1 u2 : Value} (h : W.heap[T]? = some (.cells #[u0, u1, u2] 57 (0, 0))) (v0 v1 v2 : Value) : Put W (((W.setCell ⟨T, 0, none⟩ v0).setCell ⟨T, 1, none⟩ v1).setCell ⟨T, 2, none⟩ v2) T (.cells #[v0, v1, v2] 57 (0, 0)) := by
  have h0 : (W.setCell ⟨T, 0, none⟩ v0).heap[T]? = some (.cells #[v0, u1, u2] 57 (0, 0)) := heap_setCell_same _ T 0 _ 57 v0 h
  have h1 : ((W.setCell ⟨T, 0, none⟩ v0).setCell ⟨T, 1, none⟩ v1).heap[T]? = some (.cells #[v0, v1, u2] 57 (0, 0)) := heap_setCell_same _ T 1 _ 57 v1 h0
  have h2 : (((W.setCell ⟨T, 0, none⟩ v0).setCell ⟨T, 1, none⟩ v1).setCell ⟨T, 2, none⟩ v2).heap[T]? = some (.cells #[v0, v1, v2] 57 (0, 0)) := heap_setCell_same _ T 2 _ 57 v2 h1
  refine ⟨h2, fun i hi => ?_, by simp only [sc_size], rfl, rfl, rfl⟩
  iterate 3 rw [Below.heap_setCell _ _ _ i hi]
/-- a model's struct, stored -/
def setMd (W : World) (T : Nat) (X : Mx) (C : Ch) : World := ((((((((((((W.setCell ⟨T, 0, none⟩ (.int .i64 C.B)).setCell ⟨T, 1, none⟩ (.int .i64 C.P)).setCell ⟨T, 2, none⟩ (.int .i64 C.Z)).setCell ⟨T, 3, none⟩ (.slice X.ca X.cl.length X.cc)).setCell ⟨T, 4, none⟩ (.slice X.fa X.fl.length X.fc)).setCell ⟨T, 5, none⟩ (.slice X.ba X.bn X.bc)).setCell ⟨T, 6, none⟩ (.slice (some ⟨X.gp, 0, none⟩) (C.B * C.P) X.cp)).setCell ⟨T, 7, none⟩ (.slice (some ⟨X.gw, 0, none⟩) C.B X.cw)).setCell ⟨T, 8, none⟩ (.slice (some ⟨X.gd, 0, none⟩) C.B X.cd)).setCell ⟨T, 9, none⟩ (.slice (some ⟨X.gm, 0, none⟩) C.B X.cm)).setCell ⟨T, 10, none⟩ (.int .i64 C.did)).setCell ⟨T, 11, none⟩ (.bool C.off))
theorem putMd {W : World} {T : Nat} {u0 u1 u2 u3 u4 u5 u6 u7 u8 u9 u10 u11 : Value} (h : W.heap[T]? = some (.cells #[u0, u1, u2, u3, u4, u5, u6, u7, u8, u9, u10, u11] 39 (0, 0))) (X : Mx) (C : Ch) : Put W (setMd W T X C) T (.cells (mdA X C) 39 (0, 0)) := put12 h _ _ _ _ _ _ _ _ _ _ _ _
theorem MdAt.put {W : World} {T X C} (h : MdAt W T X C) (X' : Mx) (C' : Ch) : Put W (setMd W T X' C') T (.cells (mdA X' C') 39 (0, 0)) := putMd h X' C'
def set3 (W : World) (T : Nat) (a b c : Value) : World := ((W.setCell ⟨T, 0, none⟩ a).setCell ⟨T, 1, none⟩ b).setCell ⟨T, 2, none⟩ c
theorem putCut {W : World} {T : Nat} {u0 u1 u2 : Value} (h : W.heap[T]? = some (.cells #[u0, u1, u2] 57 (0, 0))) (a b c : Value) : Put W (set3 W T a b c) T (.cells #[a, b, c] 57 (0, 0)) := put3 h a b c
/-- a struct of twelve cells that holds nothing: its cells -/
def z39 : Array Value := #[.int .i64 0, .int .i64 0, .int .i64 0, .slice none 0 0, .slice none 0 0, .slice none 0 0, .slice none 0 0, .slice none 0 0, .slice none 0 0, .slice none 0 0, .int .i64 0, .bool false]
theorem z39_cells {w : World} {T : Nat} (h : w.heap[T]? = some (.cells #[.int .i64 0, .int .i64 0, .int .i64 0, .slice none 0 0, .slice none 0 0, .slice none 0 0, .slice none 0 0, .slice none 0 0, .slice none 0 0, .slice none 0 0, .int .i64 0, .bool false] 39 (0, 0))) : w.cell? ⟨T, 0, none⟩ = some (.int .i64 0) ∧ w.cell? ⟨T, 1, none⟩ = some (.int .i64 0) ∧ w.cell? ⟨T, 2, none⟩ = some (.int .i64 0) ∧ w.cell? ⟨T, 3, none⟩ = some (.slice none 0 0) ∧ w.cell? ⟨T, 4, none⟩ = some (.slice none 0 0) ∧ w.cell? ⟨T, 5, none⟩ = some (.slice none 0 0) ∧
    w.cell? ⟨T, 6, none⟩ = some (.slice none 0 0) ∧ w.cell? ⟨T, 7, none⟩ = some (.slice none 0 0) ∧ w.cell? ⟨T, 8, none⟩ = some (.slice none 0 0) ∧ w.cell? ⟨T, 9, none⟩ = some (.slice none 0 0) ∧ w.cell? ⟨T, 10, none⟩ = some (.int .i64 0) ∧ w.cell? ⟨T, 11, none⟩ = some (.bool false) ∧ ∀ j, w.frozen? ⟨T, j, none⟩ = false := by
  refine ⟨?_, ?_, ?_, ?_, ?_, ?_, ?_, ?_, ?_, ?_, ?_, ?_, fun j => frozen_of_row w T j _ 39 h⟩ <;> (rw [cell_of_row w T _ _ 39 _ h]; rfl)
theorem z57_cells {w : World} {T : Nat} {a b c : Value} (h : w.heap[T]? = some (.cells #[a, b, c] 57 (0, 0))) : w.cell? ⟨T, 0, none⟩ = some a ∧ w.cell? ⟨T, 1, none⟩ = some b ∧ w.cell? ⟨T, 2, none⟩ = some c ∧ ∀ j, w.frozen? ⟨T, j, none⟩ = false := by
  refine ⟨?_, ?_, ?_, fun j => frozen_of_row w T j _ 57 h⟩ <;> (rw [cell_of_row w T _ _ 57 _ h]; rfl)
/-- a row is copied behind a slice of none -/
theorem append0 (w : World) (t e : TypeId) (z : Value) (bytes : Nat) (ht : Try.prog.underlying t = some (.slice e)) (hinfo : (Try.prog.info? e).map (fun i => (i.zero, i.size, i.bytes)) = some (some z, 1, bytes)) (hb : bytes ≤ 16)
    (h g n c : Nat) (V : Nat → Value) (hV : ∀ j, j < n → w.cell? ⟨g, j, none⟩ = some (V j)) (hn0 : 0 < n) (hn : n ≤ 100000) :
    ∃ cap, n ≤ cap ∧ ∃ w', (∀ ty, (Builtin.append_ #[t, t] ty #[.slice (some ⟨h, 0, none⟩) 0 0, .slice (some ⟨g, 0, none⟩) n c]).run Try.prog w = .ok (.slice (some ⟨w.heap.size, 0, none⟩) n cap) w') ∧ Below w.heap.size w w' ∧ w.heap.size < w'.heap.size ∧
      (∀ j, j < n → w'.cell? ⟨w.heap.size, j, none⟩ = some (V j)) ∧ ∀ j, w'.frozen? ⟨w.heap.size, j, none⟩ = false := by
  obtain ⟨i, hi, hz, hsz, hby⟩ := info_parts hinfo
  have hr := fun ty => run_append_grow (P := Try.prog) w t ty e i z ht hi hz ⟨h, 0, none⟩ 0 0 [] (by simp) (fun j u hj => by simp at hj) ⟨g, 0, none⟩ n c ((List.range n).map V) (by rw [List.length_map, List.length_range, hsz, Nat.mul_one]) (fun j u hj => by
      have hjn : j < n := by
        have := (List.getElem?_eq_some_iff.1 hj).1
        simpa using this
      have ea : (⟨g, 0, none⟩ : Addr).add j = ⟨g, j, none⟩ := by unfold Addr.add; split <;> simp_all
      rw [ea, hV j hjn, ← hj]
      simp [hjn]) (by omega) (by omega) (growslice_fits (by omega) (by rw [hby, Nat.zero_add]; have := Nat.mul_le_mul hn hb; omega))
  have hge := grownCap_ge w (0 + n) 0 e
  have hnew := heap_alloc_new w.drew (.cells (([] : List Value).toArray ++ ((List.range n).map V).toArray ++ Builtin.zeroCells z.cells (grownCap w (0 + n) 0 e - (0 + n))) e)
  simp only [Nat.zero_add] at hr hge hnew
  refine ⟨_, hge, _, hr, (Below.refl _ w).drew.alloc (Nat.le_refl _) _, by rw [size_alloc]; exact Nat.lt_succ_self _, fun j hj => ?_, fun j => frozen_of_row _ _ j _ e hnew⟩
  have := cell_of_row _ _ j _ e _ hnew
  rw [show (⟨w.heap.size, j, none⟩ : Addr) = ⟨w.drew.heap.size, j, none⟩ from rfl, this, Array.getElem?_append_left (by simp [hj])]
  simp [hj]
end Go.Proofs.Ytkfkepjegdaadaa
