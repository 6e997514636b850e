/-
  The law's begun: its drawn region that makes the model's four rows and the model. No condition.
-/
import Derived.Test.YtkfkepjegdaadaaMd4
import Derived.Test.YtkfkepjegdaadaaNew
namespace Go.Proofs.Ytkfkepjegdaadaa
open Go Go.RowKit

theorem Try.info3b : (Try.prog.info? 3).map (fun i => (i.zero, i.size, i.bytes)) = some (some (.int .i64 0), 1, 8) := by kernel_rfl
theorem Try.info4b : (Try.prog.info? 4).map (fun i => (i.zero, i.size, i.bytes)) = some (some (.bool false), 1, 1) := by kernel_rfl
/-- what begun's region reads -/
def BgS (N : Nat) (B P Z : Nat) (ca fa ba : Option Addr) (n1 n2 n3 cc fc bc : Nat) (w : World) : Prop :=
  w.cell? ⟨N, 0, none⟩ = some (.int .i64 B) ∧ w.cell? ⟨N, 1, none⟩ = some (.int .i64 P) ∧ w.cell? ⟨N, 2, none⟩ = some (.int .i64 Z) ∧
  w.cell? ⟨N + 1, 0, none⟩ = some (.slice ca n1 cc) ∧ w.cell? ⟨N + 1, 1, none⟩ = some (.slice fa n2 fc) ∧ w.cell? ⟨N + 1, 2, none⟩ = some (.slice ba n3 bc) ∧
  w.heap[N]? = some (.cells #[.int .i64 B, .int .i64 P, .int .i64 Z] 23 (0, 0)) ∧ w.heap[N + 1]? = some (.cells #[.slice ca n1 cc, .slice fa n2 fc, .slice ba n3 bc] 27 (0, 0))
theorem bgs_of {N B P Z : Nat} {ca fa ba : Option Addr} {n1 n2 n3 cc fc bc : Nat} {w : World} (h1 : w.heap[N]? = some (.cells #[.int .i64 B, .int .i64 P, .int .i64 Z] 23 (0, 0))) (h2 : w.heap[N + 1]? = some (.cells #[.slice ca n1 cc, .slice fa n2 fc, .slice ba n3 bc] 27 (0, 0))) : BgS N B P Z ca fa ba n1 n2 n3 cc fc bc w :=
  ⟨cell_of_row _ _ 0 _ 23 _ h1, cell_of_row _ _ 1 _ 23 _ h1, cell_of_row _ _ 2 _ 23 _ h1, cell_of_row _ _ 0 _ 27 _ h2, cell_of_row _ _ 1 _ 27 _ h2, cell_of_row _ _ 2 _ 27 _ h2, h1, h2⟩
/-- which of its blocks are made -/
structure Bg (w : World) (N B P Z : Nat) (ca fa ba : Option Addr) (n1 n2 n3 cc fc bc BP : Nat) (d15 d18 d21 d24 d5 : Bool) (g15 g18 g21 g24 g5 : Nat) (wx : World) : Prop where
  s : BgS N B P Z ca fa ba n1 n2 n3 cc fc bc wx
  below : Below w.heap.size w wx
  res : wx.heap[N + 1 + 1]? = some (.cells z39 39 (0, 0))
  r15 : d15 = true → wx.rowIs g15 9 BP (fun _ => .string ⟨#[]⟩) ∧ N + 1 + 1 < g15
  r18 : d18 = true → wx.rowIs g18 3 B (fun _ => .int .i64 0) ∧ N + 1 + 1 < g18
  r21 : d21 = true → wx.rowIs g21 4 B (fun _ => .bool false) ∧ N + 1 + 1 < g21
  r24 : d24 = true → wx.rowIs g24 4 B (fun _ => .bool false) ∧ N + 1 + 1 < g24
  r5 : d5 = true → wx.heap[g5]? = some (.cells z39 39 (0, 0)) ∧ N + 1 + 1 < g5
  ne : d21 = true → d24 = true → g21 ≠ g24
theorem Bg.size {w : World} {N B P Z : Nat} {ca fa ba : Option Addr} {n1 n2 n3 cc fc bc BP : Nat} {d15 d18 d21 d24 d5 : Bool} {g15 g18 g21 g24 g5 : Nat} {wx : World} (h : Bg w N B P Z ca fa ba n1 n2 n3 cc fc bc BP d15 d18 d21 d24 d5 g15 g18 g21 g24 g5 wx) : N + 1 + 1 < wx.heap.size := (Array.getElem?_eq_some_iff.1 h.res).1
theorem Bg.alloc {w : World} {N B P Z : Nat} {ca fa ba : Option Addr} {n1 n2 n3 cc fc bc BP : Nat} {d15 d18 d21 d24 d5 : Bool} {g15 g18 g21 g24 g5 : Nat} {wx : World} (h : Bg w N B P Z ca fa ba n1 n2 n3 cc fc bc BP d15 d18 d21 d24 d5 g15 g18 g21 g24 g5 wx) (o : Obj) : Bg w N B P Z ca fa ba n1 n2 n3 cc fc bc BP d15 d18 d21 d24 d5 g15 g18 g21 g24 g5 (wx.alloc o) := by
  have hz := h.size
  exact ⟨bgs_of ((Below.heap_alloc _ _ _ (by omega)).trans h.s.2.2.2.2.2.2.1) ((Below.heap_alloc _ _ _ (by omega)).trans h.s.2.2.2.2.2.2.2), h.below.alloc h.below.size o, (Below.heap_alloc _ _ _ hz).trans h.res,
    fun d => ⟨(h.r15 d).1.alloc o, (h.r15 d).2⟩, fun d => ⟨(h.r18 d).1.alloc o, (h.r18 d).2⟩, fun d => ⟨(h.r21 d).1.alloc o, (h.r21 d).2⟩, fun d => ⟨(h.r24 d).1.alloc o, (h.r24 d).2⟩,
    fun d => ⟨(Below.heap_alloc _ _ _ (Array.getElem?_eq_some_iff.1 (h.r5 d).1).1).trans (h.r5 d).1, (h.r5 d).2⟩, h.ne⟩
theorem Bg.drew {w : World} {N B P Z : Nat} {ca fa ba : Option Addr} {n1 n2 n3 cc fc bc BP : Nat} {d15 d18 d21 d24 d5 : Bool} {g15 g18 g21 g24 g5 : Nat} {wx : World} (h : Bg w N B P Z ca fa ba n1 n2 n3 cc fc bc BP d15 d18 d21 d24 d5 g15 g18 g21 g24 g5 wx) : Bg w N B P Z ca fa ba n1 n2 n3 cc fc bc BP d15 d18 d21 d24 d5 g15 g18 g21 g24 g5 wx.drew := ⟨bgs_of h.s.2.2.2.2.2.2.1 h.s.2.2.2.2.2.2.2, h.below.drew, h.res, h.r15, h.r18, h.r21, h.r24, h.r5, h.ne⟩
theorem Bg.m15 {w : World} {N B P Z : Nat} {ca fa ba : Option Addr} {n1 n2 n3 cc fc bc BP : Nat} {d15 d18 d21 d24 d5 : Bool} {g15 g18 g21 g24 g5 : Nat} {wx : World} (h : Bg w N B P Z ca fa ba n1 n2 n3 cc fc bc BP d15 d18 d21 d24 d5 g15 g18 g21 g24 g5 wx) : Bg w N B P Z ca fa ba n1 n2 n3 cc fc bc BP true d18 d21 d24 d5 wx.heap.size g18 g21 g24 g5 (wx.alloc (.cells (madeCells #[.string ⟨#[]⟩] BP) 9)) :=
  { h.alloc _ with r15 := fun _ => ⟨World.rowIs_made wx _ _ _, h.size⟩ }
theorem Bg.m18 {w : World} {N B P Z : Nat} {ca fa ba : Option Addr} {n1 n2 n3 cc fc bc BP : Nat} {d15 d18 d21 d24 d5 : Bool} {g15 g18 g21 g24 g5 : Nat} {wx : World} (h : Bg w N B P Z ca fa ba n1 n2 n3 cc fc bc BP d15 d18 d21 d24 d5 g15 g18 g21 g24 g5 wx) : Bg w N B P Z ca fa ba n1 n2 n3 cc fc bc BP d15 true d21 d24 d5 g15 wx.heap.size g21 g24 g5 (wx.alloc (.cells (madeCells #[.int .i64 0] B) 3)) :=
  { h.alloc _ with r18 := fun _ => ⟨World.rowIs_made wx _ _ _, h.size⟩ }
theorem Bg.m21 {w : World} {N B P Z : Nat} {ca fa ba : Option Addr} {n1 n2 n3 cc fc bc BP : Nat} {d15 d18 d21 d24 d5 : Bool} {g15 g18 g21 g24 g5 : Nat} {wx : World} (h : Bg w N B P Z ca fa ba n1 n2 n3 cc fc bc BP d15 d18 d21 d24 d5 g15 g18 g21 g24 g5 wx) : Bg w N B P Z ca fa ba n1 n2 n3 cc fc bc BP d15 d18 true d24 d5 g15 g18 wx.heap.size g24 g5 (wx.alloc (.cells (madeCells #[.bool false] B) 4)) :=
  { h.alloc _ with r21 := fun _ => ⟨World.rowIs_made wx _ _ _, h.size⟩, ne := fun _ d => by have := (h.r24 d).1.lt; omega }
theorem Bg.m24 {w : World} {N B P Z : Nat} {ca fa ba : Option Addr} {n1 n2 n3 cc fc bc BP : Nat} {d15 d18 d21 d24 d5 : Bool} {g15 g18 g21 g24 g5 : Nat} {wx : World} (h : Bg w N B P Z ca fa ba n1 n2 n3 cc fc bc BP d15 d18 d21 d24 d5 g15 g18 g21 g24 g5 wx) : Bg w N B P Z ca fa ba n1 n2 n3 cc fc bc BP d15 d18 d21 true d5 g15 g18 g21 wx.heap.size g5 (wx.alloc (.cells (madeCells #[.bool false] B) 4)) :=
  { h.alloc _ with r24 := fun _ => ⟨World.rowIs_made wx _ _ _, h.size⟩, ne := fun d _ => by have := (h.r21 d).1.lt; omega }
theorem Bg.m5 {w : World} {N B P Z : Nat} {ca fa ba : Option Addr} {n1 n2 n3 cc fc bc BP : Nat} {d15 d18 d21 d24 d5 : Bool} {g15 g18 g21 g24 g5 : Nat} {wx : World} (h : Bg w N B P Z ca fa ba n1 n2 n3 cc fc bc BP d15 d18 d21 d24 d5 g15 g18 g21 g24 g5 wx) : Bg w N B P Z ca fa ba n1 n2 n3 cc fc bc BP d15 d18 d21 d24 true g15 g18 g21 g24 wx.heap.size (wx.alloc (.cells z39 39)) :=
  { h.alloc _ with r5 := fun _ => ⟨heap_alloc_new wx _, h.size⟩ }
/-- all are made, and the model lies in its own -/
structure BgE (w : World) (N B P Z : Nat) (ca fa ba : Option Addr) (n1 n2 n3 cc fc bc BP : Nat) (g15 g18 g21 g24 g5 : Nat) (wx : World) : Prop where
  g : wx.heap[N]? = some (.cells #[.int .i64 B, .int .i64 P, .int .i64 Z] 23 (0, 0))
  f : wx.heap[N + 1]? = some (.cells #[.slice ca n1 cc, .slice fa n2 fc, .slice ba n3 bc] 27 (0, 0))
  below : Below w.heap.size w wx
  res : wx.heap[N + 1 + 1]? = some (.cells z39 39 (0, 0))
  r15 : wx.rowIs g15 9 BP (fun _ => .string ⟨#[]⟩)
  r18 : wx.rowIs g18 3 B (fun _ => .int .i64 0)
  r21 : wx.rowIs g21 4 B (fun _ => .bool false)
  r24 : wx.rowIs g24 4 B (fun _ => .bool false)
  r5 : wx.heap[g5]? = some (.cells #[.int .i64 B, .int .i64 P, .int .i64 Z, .slice ca n1 cc, .slice fa n2 fc, .slice ba n3 bc, .slice (some ⟨g15, 0, none⟩) BP BP, .slice (some ⟨g18, 0, none⟩) B B, .slice (some ⟨g21, 0, none⟩) B B, .slice (some ⟨g24, 0, none⟩) B B, .int .i64 0, .bool false] 39 (0, 0))
  lt : N + 1 + 1 < g15 ∧ N + 1 + 1 < g18 ∧ N + 1 + 1 < g21 ∧ N + 1 + 1 < g24 ∧ N + 1 + 1 < g5
  ne : g21 ≠ g24
  n5 : g15 ≠ g5 ∧ g18 ≠ g5 ∧ g21 ≠ g5 ∧ g24 ≠ g5
theorem rowne {w : World} {g h n : Nat} {t : TypeId} {f : Nat → Value} {cs : Array Value} {u : TypeId} {m : Nat × Nat} (r : w.rowIs g t n f) (k : w.heap[h]? = some (.cells cs u m)) (ht : t ≠ u) : g ≠ h := by
  obtain ⟨c, hc, _⟩ := r
  intro e
  rw [e, k] at hc
  cases hc
  exact ht rfl
theorem Bg.done {w : World} {N B P Z : Nat} {ca fa ba : Option Addr} {n1 n2 n3 cc fc bc BP : Nat} {g15 g18 g21 g24 g5 : Nat} {wx : World} (h : Bg w N B P Z ca fa ba n1 n2 n3 cc fc bc BP true true true true true g15 g18 g21 g24 g5 wx) (hN : w.heap.size ≤ N) {W : World} (p : Put wx W g5 (.cells #[.int .i64 B, .int .i64 P, .int .i64 Z, .slice ca n1 cc, .slice fa n2 fc, .slice ba n3 bc, .slice (some ⟨g15, 0, none⟩) BP BP, .slice (some ⟨g18, 0, none⟩) B B, .slice (some ⟨g21, 0, none⟩) B B, .slice (some ⟨g24, 0, none⟩) B B, .int .i64 0, .bool false] 39 (0, 0))) : BgE w N B P Z ca fa ba n1 n2 n3 cc fc bc BP g15 g18 g21 g24 g5 W := by
  have k5 := (h.r5 rfl).1
  have n15 := rowne (h.r15 rfl).1 k5 (by decide)
  have n18 := rowne (h.r18 rfl).1 k5 (by decide)
  have n21 := rowne (h.r21 rfl).1 k5 (by decide)
  have n24 := rowne (h.r24 rfl).1 k5 (by decide)
  have l5 := (h.r5 rfl).2
  exact ⟨(p.other _ (by omega)).trans h.s.2.2.2.2.2.2.1, (p.other _ (by omega)).trans h.s.2.2.2.2.2.2.2, p.below h.below (by omega), (p.other _ (by omega)).trans h.res, (h.r15 rfl).1.of_block (p.other _ n15), (h.r18 rfl).1.of_block (p.other _ n18), (h.r21 rfl).1.of_block (p.other _ n21), (h.r24 rfl).1.of_block (p.other _ n24), p.here,
    ⟨(h.r15 rfl).2, (h.r18 rfl).2, (h.r21 rfl).2, (h.r24 rfl).2, l5⟩, h.ne rfl rfl, ⟨n15, n18, n21, n24⟩⟩
def bgOps : Array Oper := #[
  { dst := some 8, op := Op.load 23 (Operand.tmp 2), type := 23, pos := "law.go:50", after := #[], guard := none },
  { dst := some 9, op := Op.load 27 (Operand.tmp 3), type := 27, pos := "law.go:50", after := #[], guard := none },
  { dst := some 10, op := Op.fieldAddr 23 (Operand.tmp 2) 0, type := 0, pos := "law.go:50", after := #[], guard := none },
  { dst := some 11, op := Op.load 3 (Operand.tmp 10), type := 3, pos := "law.go:50", after := #[{ on := 2, ground := Ground.data }], guard := none },
  { dst := some 12, op := Op.fieldAddr 23 (Operand.tmp 2) 1, type := 0, pos := "law.go:50", after := #[], guard := none },
  { dst := some 13, op := Op.load 3 (Operand.tmp 12), type := 3, pos := "law.go:50", after := #[{ on := 4, ground := Ground.data }], guard := none },
  { dst := some 14, op := Op.binOp BinOp.mul 3 (Operand.tmp 11) (Operand.tmp 13) 3, type := 3, pos := "law.go:50", after := #[{ on := 3, ground := Ground.data }, { on := 5, ground := Ground.data }], guard := none },
  { dst := some 15, op := Op.makeSlice 36 (Operand.tmp 14) (Operand.tmp 14), type := 36, pos := "law.go:50", after := #[{ on := 6, ground := Ground.data }, { on := 6, ground := Ground.data }], guard := none },
  { dst := some 16, op := Op.fieldAddr 23 (Operand.tmp 2) 0, type := 0, pos := "law.go:50", after := #[], guard := none },
  { dst := some 17, op := Op.load 3 (Operand.tmp 16), type := 3, pos := "law.go:50", after := #[{ on := 8, ground := Ground.data }], guard := none },
  { dst := some 18, op := Op.makeSlice 25 (Operand.tmp 17) (Operand.tmp 17), type := 25, pos := "law.go:50", after := #[{ on := 9, ground := Ground.data }, { on := 9, ground := Ground.data }], guard := none },
  { dst := some 19, op := Op.fieldAddr 23 (Operand.tmp 2) 0, type := 0, pos := "law.go:50", after := #[], guard := none },
  { dst := some 20, op := Op.load 3 (Operand.tmp 19), type := 3, pos := "law.go:50", after := #[{ on := 11, ground := Ground.data }], guard := none },
  { dst := some 21, op := Op.makeSlice 37 (Operand.tmp 20) (Operand.tmp 20), type := 37, pos := "law.go:50", after := #[{ on := 12, ground := Ground.data }, { on := 12, ground := Ground.data }], guard := none },
  { dst := some 22, op := Op.fieldAddr 23 (Operand.tmp 2) 0, type := 0, pos := "law.go:50", after := #[], guard := none },
  { dst := some 23, op := Op.load 3 (Operand.tmp 22), type := 3, pos := "law.go:50", after := #[{ on := 14, ground := Ground.data }], guard := none },
  { dst := some 24, op := Op.makeSlice 37 (Operand.tmp 23) (Operand.tmp 23), type := 37, pos := "law.go:50", after := #[{ on := 15, ground := Ground.data }, { on := 15, ground := Ground.data }], guard := none },
  { dst := some 25, op := Op.build 39 #[(0, Operand.tmp 8), (1, Operand.tmp 9), (2, Operand.tmp 15), (3, Operand.tmp 18), (4, Operand.tmp 21), (5, Operand.tmp 24)], type := 39, pos := "law.go:50", after := #[{ on := 0, ground := Ground.data }, { on := 1, ground := Ground.data }, { on := 7, ground := Ground.data }, { on := 10, ground := Ground.data }, { on := 13, ground := Ground.data }, { on := 16, ground := Ground.data }], guard := none },
  { dst := some 5, op := Op.alloc 39, type := 0, pos := "law.go:50", after := #[], guard := none },
  { dst := none, op := Op.store 39 (Operand.tmp 5) (Operand.tmp 25), type := 0, pos := "law.go:50", after := #[{ on := 18, ground := Ground.data }, { on := 17, ground := Ground.data }, { on := 0, ground := Ground.phase }, { on := 1, ground := Ground.phase }, { on := 2, ground := Ground.phase }, { on := 3, ground := Ground.phase }, { on := 4, ground := Ground.phase }, { on := 5, ground := Ground.phase }, { on := 6, ground := Ground.phase }, { on := 7, ground := Ground.phase }, { on := 8, ground := Ground.phase }, { on := 9, ground := Ground.phase }, { on := 10, ground := Ground.phase }, { on := 11, ground := Ground.phase }, { on := 12, ground := Ground.phase }, { on := 13, ground := Ground.phase }, { on := 14, ground := Ground.phase }, { on := 15, ground := Ground.phase }, { on := 16, ground := Ground.phase }, { on := 17, ground := Ground.phase }, { on := 18, ground := Ground.phase }], guard := none }]
set_option maxRecDepth 100000 in
set_option maxHeartbeats 4000000 in
theorem bg_fin {Q : Exit → Act → World → Prop} (w : World) (N B P Z : Nat) (ca fa ba : Option Addr) (n1 n2 n3 cc fc bc BP : Nat) (hN : w.heap.size ≤ N) (hend : ∀ (g15 g18 g21 g24 g5 : Nat) (wx : World), BgE w N B P Z ca fa ba n1 n2 n3 cc fc bc BP g15 g18 g21 g24 g5 wx → Q .normal { tmps := List.toArray ((.agg #[.int .i64 B, .int .i64 P, .int .i64 Z]) :: (.agg #[.slice ca n1 cc, .slice fa n2 fc, .slice ba n3 bc]) :: (.pointer (some ⟨N, 0, none⟩)) :: (.pointer (some ⟨N + 1, 0, none⟩)) :: (.pointer (some ⟨N + 1 + 1, 0, none⟩)) :: (.pointer (some ⟨g5, 0, none⟩)) :: undef :: undef :: (.agg #[.int .i64 B, .int .i64 P, .int .i64 Z]) :: (.agg #[.slice ca n1 cc, .slice fa n2 fc, .slice ba n3 bc]) :: (.pointer (some ⟨N, 0, none⟩)) :: (.int .i64 B) :: (.pointer (some ⟨N, 1, none⟩)) :: (.int .i64 P) :: (.int .i64 BP) :: (.slice (some ⟨g15, 0, none⟩) BP BP) :: (.pointer (some ⟨N, 0, none⟩)) :: (.int .i64 B) :: (.slice (some ⟨g18, 0, none⟩) B B) :: (.pointer (some ⟨N, 0, none⟩)) :: (.int .i64 B) :: (.slice (some ⟨g21, 0, none⟩) B B) :: (.pointer (some ⟨N, 0, none⟩)) :: (.int .i64 B) :: (.slice (some ⟨g24, 0, none⟩) B B) :: (.agg #[.int .i64 B, .int .i64 P, .int .i64 Z, .slice ca n1 cc, .slice fa n2 fc, .slice ba n3 bc, .slice (some ⟨g15, 0, none⟩) BP BP, .slice (some ⟨g18, 0, none⟩) B B, .slice (some ⟨g21, 0, none⟩) B B, .slice (some ⟨g24, 0, none⟩) B B, .int .i64 0, .bool false]) :: undef :: undef :: undef :: undef :: undef :: undef :: undef :: undef :: undef :: undef :: undef :: undef :: undef :: undef :: undef :: undef :: undef :: undef :: undef :: undef :: undef :: undef :: undef :: undef :: undef :: undef :: undef :: undef :: undef :: []), defers := [] } wx) : ∀ (l : Array Bool) (g15 g18 g21 g24 g5 : Nat) (wx : World), l = #[true, true, true, true, true, true, true, true, true, true, true, true, true, true, true, true, true, true, true, false] → Bg w N B P Z ca fa ba n1 n2 n3 cc fc bc BP true true true true true g15 g18 g21 g24 g5 wx → wpAnyH Try.prog .any bgOps Q (BgS N B P Z ca fa ba n1 n2 n3 cc fc bc) 1 l { tmps := List.toArray ((.agg #[.int .i64 B, .int .i64 P, .int .i64 Z]) :: (.agg #[.slice ca n1 cc, .slice fa n2 fc, .slice ba n3 bc]) :: (.pointer (some ⟨N, 0, none⟩)) :: (.pointer (some ⟨N + 1, 0, none⟩)) :: (.pointer (some ⟨N + 1 + 1, 0, none⟩)) :: (.pointer (some ⟨g5, 0, none⟩)) :: undef :: undef :: (.agg #[.int .i64 B, .int .i64 P, .int .i64 Z]) :: (.agg #[.slice ca n1 cc, .slice fa n2 fc, .slice ba n3 bc]) :: (.pointer (some ⟨N, 0, none⟩)) :: (.int .i64 B) :: (.pointer (some ⟨N, 1, none⟩)) :: (.int .i64 P) :: (.int .i64 BP) :: (.slice (some ⟨g15, 0, none⟩) BP BP) :: (.pointer (some ⟨N, 0, none⟩)) :: (.int .i64 B) :: (.slice (some ⟨g18, 0, none⟩) B B) :: (.pointer (some ⟨N, 0, none⟩)) :: (.int .i64 B) :: (.slice (some ⟨g21, 0, none⟩) B B) :: (.pointer (some ⟨N, 0, none⟩)) :: (.int .i64 B) :: (.slice (some ⟨g24, 0, none⟩) B B) :: (.agg #[.int .i64 B, .int .i64 P, .int .i64 Z, .slice ca n1 cc, .slice fa n2 fc, .slice ba n3 bc, .slice (some ⟨g15, 0, none⟩) BP BP, .slice (some ⟨g18, 0, none⟩) B B, .slice (some ⟨g21, 0, none⟩) B B, .slice (some ⟨g24, 0, none⟩) B B, .int .i64 0, .bool false]) :: undef :: undef :: undef :: undef :: undef :: undef :: undef :: undef :: undef :: undef :: undef :: undef :: undef :: undef :: undef :: undef :: undef :: undef :: undef :: undef :: undef :: undef :: undef :: undef :: undef :: undef :: undef :: undef :: undef :: []), defers := [] } wx := by
  rintro l g15 g18 g21 g24 g5 wx rfl hB
  have hHeld := hB.s
  have P5 := fun a0 a1 a2 a3 a4 a5 a6 a7 a8 a9 a10 a11 => put12 (u0 := .int .i64 0) (u1 := .int .i64 0) (u2 := .int .i64 0) (u3 := .slice none 0 0) (u4 := .slice none 0 0) (u5 := .slice none 0 0) (u6 := .slice none 0 0) (u7 := .slice none 0 0) (u8 := .slice none 0 0) (u9 := .slice none 0 0) (u10 := .int .i64 0) (u11 := .bool false) (hB.r5 rfl).1 a0 a1 a2 a3 a4 a5 a6 a7 a8 a9 a10 a11
  have hD := hB.done hN (P5 (.int .i64 B) (.int .i64 P) (.int .i64 Z) (.slice ca n1 cc) (.slice fa n2 fc) (.slice ba n3 bc) (.slice (some ⟨g15, 0, none⟩) BP BP) (.slice (some ⟨g18, 0, none⟩) B B) (.slice (some ⟨g21, 0, none⟩) B B) (.slice (some ⟨g24, 0, none⟩) B B) (.int .i64 0) (.bool false))
  obtain ⟨q0, q1, q2, q3, q4, q5, q6, q7, q8, q9, q10, q11, qf⟩ := z39_cells (hB.r5 rfl).1
  have HDn := Hid.mk hD
  have HB := Hid.mk hB
  clear hD P5 hB
  refine wpAnyH_ready (rs := [19]) (by kernel_rfl) (by simp) ?_
  refine AllReadyH.cons (o := { dst := none, op := Op.store 39 (Operand.tmp 5) (Operand.tmp 25), type := 0, pos := "law.go:50", after := #[{ on := 18, ground := Ground.data }, { on := 17, ground := Ground.data }, { on := 0, ground := Ground.phase }, { on := 1, ground := Ground.phase }, { on := 2, ground := Ground.phase }, { on := 3, ground := Ground.phase }, { on := 4, ground := Ground.phase }, { on := 5, ground := Ground.phase }, { on := 6, ground := Ground.phase }, { on := 7, ground := Ground.phase }, { on := 8, ground := Ground.phase }, { on := 9, ground := Ground.phase }, { on := 10, ground := Ground.phase }, { on := 11, ground := Ground.phase }, { on := 12, ground := Ground.phase }, { on := 13, ground := Ground.phase }, { on := 14, ground := Ground.phase }, { on := 15, ground := Ground.phase }, { on := 16, ground := Ground.phase }, { on := 17, ground := Ground.phase }, { on := 18, ground := Ground.phase }], guard := none }) rfl (fun K hK => ?_) AllReadyH.nil
  go_simp
  refine hK.out _ _ (bgs_of HDn.out.g HDn.out.f) (fun hHeld => ?_)
  clear hK K
  refine wpAnyH_done (by kernel_rfl) ?_ _
  try simp only [Act.put, List.setIfInBounds_toArray, List.set_cons_zero, List.set_cons_succ]
  exact hend _ _ _ _ _ _ HDn.out
end Go.Proofs.Ytkfkepjegdaadaa
