/-
  The law's begun: its drawn region, whatever order. No condition.
-/
import Derived.Test.YtkfkepjegdaadaaBg
namespace Go.Proofs.Ytkfkepjegdaadaa
open Go Go.RowKit

set_option maxRecDepth 100000 in
set_option maxHeartbeats 8000000 in
theorem bg_mid {Q : Exit → Act → World → Prop} (w : World) (N B P Z : Nat) (ca fa ba : Option Addr) (n1 n2 n3 cc fc bc BP : Nat) (hN : w.heap.size ≤ N) (hQ : ∀ c (a : Act) (d : Nat) (v : Value) (w : World), Q (.panic c) (a.put (some d) v) w → Q (.panic c) a w) (m15 : ∀ w, (Instr.makeSlice 36 (.int .i64 BP) (.int .i64 BP)).run Try.prog w = .ok (.slice (some ⟨w.heap.size, 0, none⟩) BP BP) (w.alloc (.cells (madeCells #[.string ⟨#[]⟩] BP) 9))) (m18 : ∀ w, (Instr.makeSlice 25 (.int .i64 B) (.int .i64 B)).run Try.prog w = .ok (.slice (some ⟨w.heap.size, 0, none⟩) B B) (w.alloc (.cells (madeCells #[.int .i64 0] B) 3))) (m21 : ∀ w, (Instr.makeSlice 37 (.int .i64 B) (.int .i64 B)).run Try.prog w = .ok (.slice (some ⟨w.heap.size, 0, none⟩) B B) (w.alloc (.cells (madeCells #[.bool false] B) 4))) (hend : ∀ (g15 g18 g21 g24 g5 : Nat) (wx : World), BgE w N B P Z ca fa ba n1 n2 n3 cc fc bc BP g15 g18 g21 g24 g5 wx → Q .normal { tmps := List.toArray ((.agg #[.int .i64 B, .int .i64 P, .int .i64 Z]) :: (.agg #[.slice ca n1 cc, .slice fa n2 fc, .slice ba n3 bc]) :: (.pointer (some ⟨N, 0, none⟩)) :: (.pointer (some ⟨N + 1, 0, none⟩)) :: (.pointer (some ⟨N + 1 + 1, 0, none⟩)) :: (.pointer (some ⟨g5, 0, none⟩)) :: undef :: undef :: (.agg #[.int .i64 B, .int .i64 P, .int .i64 Z]) :: (.agg #[.slice ca n1 cc, .slice fa n2 fc, .slice ba n3 bc]) :: (.pointer (some ⟨N, 0, none⟩)) :: (.int .i64 B) :: (.pointer (some ⟨N, 1, none⟩)) :: (.int .i64 P) :: (.int .i64 BP) :: (.slice (some ⟨g15, 0, none⟩) BP BP) :: (.pointer (some ⟨N, 0, none⟩)) :: (.int .i64 B) :: (.slice (some ⟨g18, 0, none⟩) B B) :: (.pointer (some ⟨N, 0, none⟩)) :: (.int .i64 B) :: (.slice (some ⟨g21, 0, none⟩) B B) :: (.pointer (some ⟨N, 0, none⟩)) :: (.int .i64 B) :: (.slice (some ⟨g24, 0, none⟩) B B) :: (.agg #[.int .i64 B, .int .i64 P, .int .i64 Z, .slice ca n1 cc, .slice fa n2 fc, .slice ba n3 bc, .slice (some ⟨g15, 0, none⟩) BP BP, .slice (some ⟨g18, 0, none⟩) B B, .slice (some ⟨g21, 0, none⟩) B B, .slice (some ⟨g24, 0, none⟩) B B, .int .i64 0, .bool false]) :: undef :: undef :: undef :: undef :: undef :: undef :: undef :: undef :: undef :: undef :: undef :: undef :: undef :: undef :: undef :: undef :: undef :: undef :: undef :: undef :: undef :: undef :: undef :: undef :: undef :: undef :: undef :: undef :: undef :: []), defers := [] } wx) : ∀ (l : Array Bool) (g15 g18 g21 g24 g5 : Nat) (wx : World), l = #[true, true, true, true, true, true, true, false, true, true, false, true, true, false, true, true, false, false, false, false] → Bg w N B P Z ca fa ba n1 n2 n3 cc fc bc BP false false false false false g15 g18 g21 g24 g5 wx → wpAnyH Try.prog .any bgOps Q (BgS N B P Z ca fa ba n1 n2 n3 cc fc bc) 7 l { tmps := List.toArray ((.agg #[.int .i64 B, .int .i64 P, .int .i64 Z]) :: (.agg #[.slice ca n1 cc, .slice fa n2 fc, .slice ba n3 bc]) :: (.pointer (some ⟨N, 0, none⟩)) :: (.pointer (some ⟨N + 1, 0, none⟩)) :: (.pointer (some ⟨N + 1 + 1, 0, none⟩)) :: undef :: undef :: undef :: (.agg #[.int .i64 B, .int .i64 P, .int .i64 Z]) :: (.agg #[.slice ca n1 cc, .slice fa n2 fc, .slice ba n3 bc]) :: (.pointer (some ⟨N, 0, none⟩)) :: (.int .i64 B) :: (.pointer (some ⟨N, 1, none⟩)) :: (.int .i64 P) :: (.int .i64 BP) :: undef :: (.pointer (some ⟨N, 0, none⟩)) :: (.int .i64 B) :: undef :: (.pointer (some ⟨N, 0, none⟩)) :: (.int .i64 B) :: undef :: (.pointer (some ⟨N, 0, none⟩)) :: (.int .i64 B) :: undef :: undef :: undef :: undef :: undef :: undef :: undef :: undef :: undef :: undef :: undef :: undef :: undef :: undef :: undef :: undef :: undef :: undef :: undef :: undef :: undef :: undef :: undef :: undef :: undef :: undef :: undef :: undef :: undef :: undef :: undef :: []), defers := [] } wx := by
  have G11111 : ∀ (l : Array Bool) (g15 g18 g21 g24 g5 : Nat) (wx : World), l = #[true, true, true, true, true, true, true, true, true, true, true, true, true, true, true, true, true, false, true, false] → Bg w N B P Z ca fa ba n1 n2 n3 cc fc bc BP true true true true true g15 g18 g21 g24 g5 wx → wpAnyH Try.prog .any bgOps Q (BgS N B P Z ca fa ba n1 n2 n3 cc fc bc) 2 l { tmps := List.toArray ((.agg #[.int .i64 B, .int .i64 P, .int .i64 Z]) :: (.agg #[.slice ca n1 cc, .slice fa n2 fc, .slice ba n3 bc]) :: (.pointer (some ⟨N, 0, none⟩)) :: (.pointer (some ⟨N + 1, 0, none⟩)) :: (.pointer (some ⟨N + 1 + 1, 0, none⟩)) :: (.pointer (some ⟨g5, 0, none⟩)) :: undef :: undef :: (.agg #[.int .i64 B, .int .i64 P, .int .i64 Z]) :: (.agg #[.slice ca n1 cc, .slice fa n2 fc, .slice ba n3 bc]) :: (.pointer (some ⟨N, 0, none⟩)) :: (.int .i64 B) :: (.pointer (some ⟨N, 1, none⟩)) :: (.int .i64 P) :: (.int .i64 BP) :: (.slice (some ⟨g15, 0, none⟩) BP BP) :: (.pointer (some ⟨N, 0, none⟩)) :: (.int .i64 B) :: (.slice (some ⟨g18, 0, none⟩) B B) :: (.pointer (some ⟨N, 0, none⟩)) :: (.int .i64 B) :: (.slice (some ⟨g21, 0, none⟩) B B) :: (.pointer (some ⟨N, 0, none⟩)) :: (.int .i64 B) :: (.slice (some ⟨g24, 0, none⟩) B B) :: undef :: undef :: undef :: undef :: undef :: undef :: undef :: undef :: undef :: undef :: undef :: undef :: undef :: undef :: undef :: undef :: undef :: undef :: undef :: undef :: undef :: undef :: undef :: undef :: undef :: undef :: undef :: undef :: undef :: undef :: []), defers := [] } wx := by
    rintro l g15 g18 g21 g24 g5 wx rfl hB
    have hHeld := hB.s
    refine wpAnyH_take (i := 17) (oi := { dst := some 25, op := Op.build 39 #[(0, Operand.tmp 8), (1, Operand.tmp 9), (2, Operand.tmp 15), (3, Operand.tmp 18), (4, Operand.tmp 21), (5, Operand.tmp 24)], type := 39, pos := "law.go:50", after := #[{ on := 0, ground := Ground.data }, { on := 1, ground := Ground.data }, { on := 7, ground := Ground.data }, { on := 10, ground := Ground.data }, { on := 13, ground := Ground.data }, { on := 16, ground := Ground.data }], guard := none }) (v := .agg #[.int .i64 B, .int .i64 P, .int .i64 Z, .slice ca n1 cc, .slice fa n2 fc, .slice ba n3 bc, .slice (some ⟨g15, 0, none⟩) BP BP, .slice (some ⟨g18, 0, none⟩) B B, .slice (some ⟨g21, 0, none⟩) B B, .slice (some ⟨g24, 0, none⟩) B B, .int .i64 0, .bool false]) rfl (by kernel_rfl) (by kernel_rfl) (by kernel_rfl) (fun c a w h => hQ c a _ _ w h) (Or.inl ⟨by rfl, ?yy17n1⟩) hHeld ?rr17n1
    case yy17n1 => (intro w0 hSw; obtain ⟨s0, s1, s2, s3, s4, s5, _, _⟩ := hSw; go_simp; try with_reducible rfl)
    try simp only [Act.put, List.setIfInBounds_toArray, List.set_cons_zero, List.set_cons_succ]
    exact bg_fin w N B P Z ca fa ba n1 n2 n3 cc fc bc BP hN hend _ _ _ _ _ _ _ (by kernel_rfl) hB
  have G11110 : ∀ (l : Array Bool) (g15 g18 g21 g24 g5 : Nat) (wx : World), l = #[true, true, true, true, true, true, true, true, true, true, true, true, true, true, true, true, true, false, false, false] → Bg w N B P Z ca fa ba n1 n2 n3 cc fc bc BP true true true true false g15 g18 g21 g24 g5 wx → wpAnyH Try.prog .any bgOps Q (BgS N B P Z ca fa ba n1 n2 n3 cc fc bc) 3 l { tmps := List.toArray ((.agg #[.int .i64 B, .int .i64 P, .int .i64 Z]) :: (.agg #[.slice ca n1 cc, .slice fa n2 fc, .slice ba n3 bc]) :: (.pointer (some ⟨N, 0, none⟩)) :: (.pointer (some ⟨N + 1, 0, none⟩)) :: (.pointer (some ⟨N + 1 + 1, 0, none⟩)) :: undef :: undef :: undef :: (.agg #[.int .i64 B, .int .i64 P, .int .i64 Z]) :: (.agg #[.slice ca n1 cc, .slice fa n2 fc, .slice ba n3 bc]) :: (.pointer (some ⟨N, 0, none⟩)) :: (.int .i64 B) :: (.pointer (some ⟨N, 1, none⟩)) :: (.int .i64 P) :: (.int .i64 BP) :: (.slice (some ⟨g15, 0, none⟩) BP BP) :: (.pointer (some ⟨N, 0, none⟩)) :: (.int .i64 B) :: (.slice (some ⟨g18, 0, none⟩) B B) :: (.pointer (some ⟨N, 0, none⟩)) :: (.int .i64 B) :: (.slice (some ⟨g21, 0, none⟩) B B) :: (.pointer (some ⟨N, 0, none⟩)) :: (.int .i64 B) :: (.slice (some ⟨g24, 0, none⟩) B B) :: undef :: undef :: undef :: undef :: undef :: undef :: undef :: undef :: undef :: undef :: undef :: undef :: undef :: undef :: undef :: undef :: undef :: undef :: undef :: undef :: undef :: undef :: undef :: undef :: undef :: undef :: undef :: undef :: undef :: undef :: []), defers := [] } wx := by
    rintro l g15 g18 g21 g24 g5 wx rfl hB
    have hHeld := hB.s
    refine wpAnyH_take (i := 17) (oi := { dst := some 25, op := Op.build 39 #[(0, Operand.tmp 8), (1, Operand.tmp 9), (2, Operand.tmp 15), (3, Operand.tmp 18), (4, Operand.tmp 21), (5, Operand.tmp 24)], type := 39, pos := "law.go:50", after := #[{ on := 0, ground := Ground.data }, { on := 1, ground := Ground.data }, { on := 7, ground := Ground.data }, { on := 10, ground := Ground.data }, { on := 13, ground := Ground.data }, { on := 16, ground := Ground.data }], guard := none }) (v := .agg #[.int .i64 B, .int .i64 P, .int .i64 Z, .slice ca n1 cc, .slice fa n2 fc, .slice ba n3 bc, .slice (some ⟨g15, 0, none⟩) BP BP, .slice (some ⟨g18, 0, none⟩) B B, .slice (some ⟨g21, 0, none⟩) B B, .slice (some ⟨g24, 0, none⟩) B B, .int .i64 0, .bool false]) rfl (by kernel_rfl) (by kernel_rfl) (by kernel_rfl) (fun c a w h => hQ c a _ _ w h) (Or.inl ⟨by rfl, ?yy17n2⟩) hHeld ?rr17n2
    case yy17n2 => (intro w0 hSw; obtain ⟨s0, s1, s2, s3, s4, s5, _, _⟩ := hSw; go_simp; try with_reducible rfl)
    try simp only [Act.put, List.setIfInBounds_toArray, List.set_cons_zero, List.set_cons_succ]
    refine wpAnyH_ready (rs := [18]) (by kernel_rfl) (by simp) ?_
    refine AllReadyH.cons (o := { dst := some 5, op := Op.alloc 39, type := 0, pos := "law.go:50", after := #[], guard := none }) rfl (fun K hK => ?_) AllReadyH.nil
    go_simp
    refine hK.out _ _ (hB.m5).s (fun hHeld => ?_)
    clear hK K
    try simp only [List.setIfInBounds_toArray, List.set_cons_zero, List.set_cons_succ]
    exact bg_fin w N B P Z ca fa ba n1 n2 n3 cc fc bc BP hN hend _ _ _ _ _ _ _ (by kernel_rfl) hB.m5
  have G11101 : ∀ (l : Array Bool) (g15 g18 g21 g24 g5 : Nat) (wx : World), l = #[true, true, true, true, true, true, true, true, true, true, true, true, true, true, true, true, false, false, true, false] → Bg w N B P Z ca fa ba n1 n2 n3 cc fc bc BP true true true false true g15 g18 g21 g24 g5 wx → wpAnyH Try.prog .any bgOps Q (BgS N B P Z ca fa ba n1 n2 n3 cc fc bc) 3 l { tmps := List.toArray ((.agg #[.int .i64 B, .int .i64 P, .int .i64 Z]) :: (.agg #[.slice ca n1 cc, .slice fa n2 fc, .slice ba n3 bc]) :: (.pointer (some ⟨N, 0, none⟩)) :: (.pointer (some ⟨N + 1, 0, none⟩)) :: (.pointer (some ⟨N + 1 + 1, 0, none⟩)) :: (.pointer (some ⟨g5, 0, none⟩)) :: undef :: undef :: (.agg #[.int .i64 B, .int .i64 P, .int .i64 Z]) :: (.agg #[.slice ca n1 cc, .slice fa n2 fc, .slice ba n3 bc]) :: (.pointer (some ⟨N, 0, none⟩)) :: (.int .i64 B) :: (.pointer (some ⟨N, 1, none⟩)) :: (.int .i64 P) :: (.int .i64 BP) :: (.slice (some ⟨g15, 0, none⟩) BP BP) :: (.pointer (some ⟨N, 0, none⟩)) :: (.int .i64 B) :: (.slice (some ⟨g18, 0, none⟩) B B) :: (.pointer (some ⟨N, 0, none⟩)) :: (.int .i64 B) :: (.slice (some ⟨g21, 0, none⟩) B B) :: (.pointer (some ⟨N, 0, none⟩)) :: (.int .i64 B) :: undef :: undef :: undef :: undef :: undef :: undef :: undef :: undef :: undef :: undef :: undef :: undef :: undef :: undef :: undef :: undef :: undef :: undef :: undef :: undef :: undef :: undef :: undef :: undef :: undef :: undef :: undef :: undef :: undef :: undef :: undef :: []), defers := [] } wx := by
    rintro l g15 g18 g21 g24 g5 wx rfl hB
    have hHeld := hB.s
    refine wpAnyH_ready (rs := [16]) (by kernel_rfl) (by simp) ?_
    refine AllReadyH.cons (o := { dst := some 24, op := Op.makeSlice 37 (Operand.tmp 23) (Operand.tmp 23), type := 37, pos := "law.go:50", after := #[{ on := 15, ground := Ground.data }, { on := 15, ground := Ground.data }], guard := none }) rfl (fun K hK => ?_) AllReadyH.nil
    go_simp
    refine hK.out _ _ (hB.m24).s (fun hHeld => ?_)
    clear hK K
    try simp only [List.setIfInBounds_toArray, List.set_cons_zero, List.set_cons_succ]
    exact G11111 _ _ _ _ _ _ _ (by kernel_rfl) hB.m24
  have G11011 : ∀ (l : Array Bool) (g15 g18 g21 g24 g5 : Nat) (wx : World), l = #[true, true, true, true, true, true, true, true, true, true, true, true, true, false, true, true, true, false, true, false] → Bg w N B P Z ca fa ba n1 n2 n3 cc fc bc BP true true false true true g15 g18 g21 g24 g5 wx → wpAnyH Try.prog .any bgOps Q (BgS N B P Z ca fa ba n1 n2 n3 cc fc bc) 3 l { tmps := List.toArray ((.agg #[.int .i64 B, .int .i64 P, .int .i64 Z]) :: (.agg #[.slice ca n1 cc, .slice fa n2 fc, .slice ba n3 bc]) :: (.pointer (some ⟨N, 0, none⟩)) :: (.pointer (some ⟨N + 1, 0, none⟩)) :: (.pointer (some ⟨N + 1 + 1, 0, none⟩)) :: (.pointer (some ⟨g5, 0, none⟩)) :: undef :: undef :: (.agg #[.int .i64 B, .int .i64 P, .int .i64 Z]) :: (.agg #[.slice ca n1 cc, .slice fa n2 fc, .slice ba n3 bc]) :: (.pointer (some ⟨N, 0, none⟩)) :: (.int .i64 B) :: (.pointer (some ⟨N, 1, none⟩)) :: (.int .i64 P) :: (.int .i64 BP) :: (.slice (some ⟨g15, 0, none⟩) BP BP) :: (.pointer (some ⟨N, 0, none⟩)) :: (.int .i64 B) :: (.slice (some ⟨g18, 0, none⟩) B B) :: (.pointer (some ⟨N, 0, none⟩)) :: (.int .i64 B) :: undef :: (.pointer (some ⟨N, 0, none⟩)) :: (.int .i64 B) :: (.slice (some ⟨g24, 0, none⟩) B B) :: undef :: undef :: undef :: undef :: undef :: undef :: undef :: undef :: undef :: undef :: undef :: undef :: undef :: undef :: undef :: undef :: undef :: undef :: undef :: undef :: undef :: undef :: undef :: undef :: undef :: undef :: undef :: undef :: undef :: undef :: []), defers := [] } wx := by
    rintro l g15 g18 g21 g24 g5 wx rfl hB
    have hHeld := hB.s
    refine wpAnyH_ready (rs := [13]) (by kernel_rfl) (by simp) ?_
    refine AllReadyH.cons (o := { dst := some 21, op := Op.makeSlice 37 (Operand.tmp 20) (Operand.tmp 20), type := 37, pos := "law.go:50", after := #[{ on := 12, ground := Ground.data }, { on := 12, ground := Ground.data }], guard := none }) rfl (fun K hK => ?_) AllReadyH.nil
    go_simp
    refine hK.out _ _ (hB.m21).s (fun hHeld => ?_)
    clear hK K
    try simp only [List.setIfInBounds_toArray, List.set_cons_zero, List.set_cons_succ]
    exact G11111 _ _ _ _ _ _ _ (by kernel_rfl) hB.m21
  have G10111 : ∀ (l : Array Bool) (g15 g18 g21 g24 g5 : Nat) (wx : World), l = #[true, true, true, true, true, true, true, true, true, true, false, true, true, true, true, true, true, false, true, false] → Bg w N B P Z ca fa ba n1 n2 n3 cc fc bc BP true false true true true g15 g18 g21 g24 g5 wx → wpAnyH Try.prog .any bgOps Q (BgS N B P Z ca fa ba n1 n2 n3 cc fc bc) 3 l { tmps := List.toArray ((.agg #[.int .i64 B, .int .i64 P, .int .i64 Z]) :: (.agg #[.slice ca n1 cc, .slice fa n2 fc, .slice ba n3 bc]) :: (.pointer (some ⟨N, 0, none⟩)) :: (.pointer (some ⟨N + 1, 0, none⟩)) :: (.pointer (some ⟨N + 1 + 1, 0, none⟩)) :: (.pointer (some ⟨g5, 0, none⟩)) :: undef :: undef :: (.agg #[.int .i64 B, .int .i64 P, .int .i64 Z]) :: (.agg #[.slice ca n1 cc, .slice fa n2 fc, .slice ba n3 bc]) :: (.pointer (some ⟨N, 0, none⟩)) :: (.int .i64 B) :: (.pointer (some ⟨N, 1, none⟩)) :: (.int .i64 P) :: (.int .i64 BP) :: (.slice (some ⟨g15, 0, none⟩) BP BP) :: (.pointer (some ⟨N, 0, none⟩)) :: (.int .i64 B) :: undef :: (.pointer (some ⟨N, 0, none⟩)) :: (.int .i64 B) :: (.slice (some ⟨g21, 0, none⟩) B B) :: (.pointer (some ⟨N, 0, none⟩)) :: (.int .i64 B) :: (.slice (some ⟨g24, 0, none⟩) B B) :: undef :: undef :: undef :: undef :: undef :: undef :: undef :: undef :: undef :: undef :: undef :: undef :: undef :: undef :: undef :: undef :: undef :: undef :: undef :: undef :: undef :: undef :: undef :: undef :: undef :: undef :: undef :: undef :: undef :: undef :: []), defers := [] } wx := by
    rintro l g15 g18 g21 g24 g5 wx rfl hB
    have hHeld := hB.s
    refine wpAnyH_ready (rs := [10]) (by kernel_rfl) (by simp) ?_
    refine AllReadyH.cons (o := { dst := some 18, op := Op.makeSlice 25 (Operand.tmp 17) (Operand.tmp 17), type := 25, pos := "law.go:50", after := #[{ on := 9, ground := Ground.data }, { on := 9, ground := Ground.data }], guard := none }) rfl (fun K hK => ?_) AllReadyH.nil
    go_simp
    refine hK.out _ _ (hB.m18).s (fun hHeld => ?_)
    clear hK K
    try simp only [List.setIfInBounds_toArray, List.set_cons_zero, List.set_cons_succ]
    exact G11111 _ _ _ _ _ _ _ (by kernel_rfl) hB.m18
  have G01111 : ∀ (l : Array Bool) (g15 g18 g21 g24 g5 : Nat) (wx : World), l = #[true, true, true, true, true, true, true, false, true, true, true, true, true, true, true, true, true, false, true, false] → Bg w N B P Z ca fa ba n1 n2 n3 cc fc bc BP false true true true true g15 g18 g21 g24 g5 wx → wpAnyH Try.prog .any bgOps Q (BgS N B P Z ca fa ba n1 n2 n3 cc fc bc) 3 l { tmps := List.toArray ((.agg #[.int .i64 B, .int .i64 P, .int .i64 Z]) :: (.agg #[.slice ca n1 cc, .slice fa n2 fc, .slice ba n3 bc]) :: (.pointer (some ⟨N, 0, none⟩)) :: (.pointer (some ⟨N + 1, 0, none⟩)) :: (.pointer (some ⟨N + 1 + 1, 0, none⟩)) :: (.pointer (some ⟨g5, 0, none⟩)) :: undef :: undef :: (.agg #[.int .i64 B, .int .i64 P, .int .i64 Z]) :: (.agg #[.slice ca n1 cc, .slice fa n2 fc, .slice ba n3 bc]) :: (.pointer (some ⟨N, 0, none⟩)) :: (.int .i64 B) :: (.pointer (some ⟨N, 1, none⟩)) :: (.int .i64 P) :: (.int .i64 BP) :: undef :: (.pointer (some ⟨N, 0, none⟩)) :: (.int .i64 B) :: (.slice (some ⟨g18, 0, none⟩) B B) :: (.pointer (some ⟨N, 0, none⟩)) :: (.int .i64 B) :: (.slice (some ⟨g21, 0, none⟩) B B) :: (.pointer (some ⟨N, 0, none⟩)) :: (.int .i64 B) :: (.slice (some ⟨g24, 0, none⟩) B B) :: undef :: undef :: undef :: undef :: undef :: undef :: undef :: undef :: undef :: undef :: undef :: undef :: undef :: undef :: undef :: undef :: undef :: undef :: undef :: undef :: undef :: undef :: undef :: undef :: undef :: undef :: undef :: undef :: undef :: undef :: []), defers := [] } wx := by
    rintro l g15 g18 g21 g24 g5 wx rfl hB
    have hHeld := hB.s
    refine wpAnyH_ready (rs := [7]) (by kernel_rfl) (by simp) ?_
    refine AllReadyH.cons (o := { dst := some 15, op := Op.makeSlice 36 (Operand.tmp 14) (Operand.tmp 14), type := 36, pos := "law.go:50", after := #[{ on := 6, ground := Ground.data }, { on := 6, ground := Ground.data }], guard := none }) rfl (fun K hK => ?_) AllReadyH.nil
    go_simp
    refine hK.out _ _ (hB.m15).s (fun hHeld => ?_)
    clear hK K
    try simp only [List.setIfInBounds_toArray, List.set_cons_zero, List.set_cons_succ]
    exact G11111 _ _ _ _ _ _ _ (by kernel_rfl) hB.m15
  have G11100 : ∀ (l : Array Bool) (g15 g18 g21 g24 g5 : Nat) (wx : World), l = #[true, true, true, true, true, true, true, true, true, true, true, true, true, true, true, true, false, false, false, false] → Bg w N B P Z ca fa ba n1 n2 n3 cc fc bc BP true true true false false g15 g18 g21 g24 g5 wx → wpAnyH Try.prog .any bgOps Q (BgS N B P Z ca fa ba n1 n2 n3 cc fc bc) 4 l { tmps := List.toArray ((.agg #[.int .i64 B, .int .i64 P, .int .i64 Z]) :: (.agg #[.slice ca n1 cc, .slice fa n2 fc, .slice ba n3 bc]) :: (.pointer (some ⟨N, 0, none⟩)) :: (.pointer (some ⟨N + 1, 0, none⟩)) :: (.pointer (some ⟨N + 1 + 1, 0, none⟩)) :: undef :: undef :: undef :: (.agg #[.int .i64 B, .int .i64 P, .int .i64 Z]) :: (.agg #[.slice ca n1 cc, .slice fa n2 fc, .slice ba n3 bc]) :: (.pointer (some ⟨N, 0, none⟩)) :: (.int .i64 B) :: (.pointer (some ⟨N, 1, none⟩)) :: (.int .i64 P) :: (.int .i64 BP) :: (.slice (some ⟨g15, 0, none⟩) BP BP) :: (.pointer (some ⟨N, 0, none⟩)) :: (.int .i64 B) :: (.slice (some ⟨g18, 0, none⟩) B B) :: (.pointer (some ⟨N, 0, none⟩)) :: (.int .i64 B) :: (.slice (some ⟨g21, 0, none⟩) B B) :: (.pointer (some ⟨N, 0, none⟩)) :: (.int .i64 B) :: undef :: undef :: undef :: undef :: undef :: undef :: undef :: undef :: undef :: undef :: undef :: undef :: undef :: undef :: undef :: undef :: undef :: undef :: undef :: undef :: undef :: undef :: undef :: undef :: undef :: undef :: undef :: undef :: undef :: undef :: undef :: []), defers := [] } wx := by
    rintro l g15 g18 g21 g24 g5 wx rfl hB
    have hHeld := hB.s
    refine wpAnyH_ready (rs := [16, 18]) (by kernel_rfl) (by simp) ?_
    refine AllReadyH.cons (o := { dst := some 24, op := Op.makeSlice 37 (Operand.tmp 23) (Operand.tmp 23), type := 37, pos := "law.go:50", after := #[{ on := 15, ground := Ground.data }, { on := 15, ground := Ground.data }], guard := none }) rfl (fun K hK => ?_) ?_
    · go_simp
      refine hK.out _ _ (hB.m24).s (fun hHeld => ?_)
      clear hK K
      try simp only [List.setIfInBounds_toArray, List.set_cons_zero, List.set_cons_succ]
      exact G11110 _ _ _ _ _ _ _ (by kernel_rfl) hB.m24
    refine AllReadyH.cons (o := { dst := some 5, op := Op.alloc 39, type := 0, pos := "law.go:50", after := #[], guard := none }) rfl (fun K hK => ?_) AllReadyH.nil
    go_simp
    refine hK.out _ _ (hB.m5).s (fun hHeld => ?_)
    clear hK K
    try simp only [List.setIfInBounds_toArray, List.set_cons_zero, List.set_cons_succ]
    exact G11101 _ _ _ _ _ _ _ (by kernel_rfl) hB.m5
  have G11010 : ∀ (l : Array Bool) (g15 g18 g21 g24 g5 : Nat) (wx : World), l = #[true, true, true, true, true, true, true, true, true, true, true, true, true, false, true, true, true, false, false, false] → Bg w N B P Z ca fa ba n1 n2 n3 cc fc bc BP true true false true false g15 g18 g21 g24 g5 wx → wpAnyH Try.prog .any bgOps Q (BgS N B P Z ca fa ba n1 n2 n3 cc fc bc) 4 l { tmps := List.toArray ((.agg #[.int .i64 B, .int .i64 P, .int .i64 Z]) :: (.agg #[.slice ca n1 cc, .slice fa n2 fc, .slice ba n3 bc]) :: (.pointer (some ⟨N, 0, none⟩)) :: (.pointer (some ⟨N + 1, 0, none⟩)) :: (.pointer (some ⟨N + 1 + 1, 0, none⟩)) :: undef :: undef :: undef :: (.agg #[.int .i64 B, .int .i64 P, .int .i64 Z]) :: (.agg #[.slice ca n1 cc, .slice fa n2 fc, .slice ba n3 bc]) :: (.pointer (some ⟨N, 0, none⟩)) :: (.int .i64 B) :: (.pointer (some ⟨N, 1, none⟩)) :: (.int .i64 P) :: (.int .i64 BP) :: (.slice (some ⟨g15, 0, none⟩) BP BP) :: (.pointer (some ⟨N, 0, none⟩)) :: (.int .i64 B) :: (.slice (some ⟨g18, 0, none⟩) B B) :: (.pointer (some ⟨N, 0, none⟩)) :: (.int .i64 B) :: undef :: (.pointer (some ⟨N, 0, none⟩)) :: (.int .i64 B) :: (.slice (some ⟨g24, 0, none⟩) B B) :: undef :: undef :: undef :: undef :: undef :: undef :: undef :: undef :: undef :: undef :: undef :: undef :: undef :: undef :: undef :: undef :: undef :: undef :: undef :: undef :: undef :: undef :: undef :: undef :: undef :: undef :: undef :: undef :: undef :: undef :: []), defers := [] } wx := by
    rintro l g15 g18 g21 g24 g5 wx rfl hB
    have hHeld := hB.s
    refine wpAnyH_ready (rs := [13, 18]) (by kernel_rfl) (by simp) ?_
    refine AllReadyH.cons (o := { dst := some 21, op := Op.makeSlice 37 (Operand.tmp 20) (Operand.tmp 20), type := 37, pos := "law.go:50", after := #[{ on := 12, ground := Ground.data }, { on := 12, ground := Ground.data }], guard := none }) rfl (fun K hK => ?_) ?_
    · go_simp
      refine hK.out _ _ (hB.m21).s (fun hHeld => ?_)
      clear hK K
      try simp only [List.setIfInBounds_toArray, List.set_cons_zero, List.set_cons_succ]
      exact G11110 _ _ _ _ _ _ _ (by kernel_rfl) hB.m21
    refine AllReadyH.cons (o := { dst := some 5, op := Op.alloc 39, type := 0, pos := "law.go:50", after := #[], guard := none }) rfl (fun K hK => ?_) AllReadyH.nil
    go_simp
    refine hK.out _ _ (hB.m5).s (fun hHeld => ?_)
    clear hK K
    try simp only [List.setIfInBounds_toArray, List.set_cons_zero, List.set_cons_succ]
    exact G11011 _ _ _ _ _ _ _ (by kernel_rfl) hB.m5
  have G11001 : ∀ (l : Array Bool) (g15 g18 g21 g24 g5 : Nat) (wx : World), l = #[true, true, true, true, true, true, true, true, true, true, true, true, true, false, true, true, false, false, true, false] → Bg w N B P Z ca fa ba n1 n2 n3 cc fc bc BP true true false false true g15 g18 g21 g24 g5 wx → wpAnyH Try.prog .any bgOps Q (BgS N B P Z ca fa ba n1 n2 n3 cc fc bc) 4 l { tmps := List.toArray ((.agg #[.int .i64 B, .int .i64 P, .int .i64 Z]) :: (.agg #[.slice ca n1 cc, .slice fa n2 fc, .slice ba n3 bc]) :: (.pointer (some ⟨N, 0, none⟩)) :: (.pointer (some ⟨N + 1, 0, none⟩)) :: (.pointer (some ⟨N + 1 + 1, 0, none⟩)) :: (.pointer (some ⟨g5, 0, none⟩)) :: undef :: undef :: (.agg #[.int .i64 B, .int .i64 P, .int .i64 Z]) :: (.agg #[.slice ca n1 cc, .slice fa n2 fc, .slice ba n3 bc]) :: (.pointer (some ⟨N, 0, none⟩)) :: (.int .i64 B) :: (.pointer (some ⟨N, 1, none⟩)) :: (.int .i64 P) :: (.int .i64 BP) :: (.slice (some ⟨g15, 0, none⟩) BP BP) :: (.pointer (some ⟨N, 0, none⟩)) :: (.int .i64 B) :: (.slice (some ⟨g18, 0, none⟩) B B) :: (.pointer (some ⟨N, 0, none⟩)) :: (.int .i64 B) :: undef :: (.pointer (some ⟨N, 0, none⟩)) :: (.int .i64 B) :: undef :: undef :: undef :: undef :: undef :: undef :: undef :: undef :: undef :: undef :: undef :: undef :: undef :: undef :: undef :: undef :: undef :: undef :: undef :: undef :: undef :: undef :: undef :: undef :: undef :: undef :: undef :: undef :: undef :: undef :: undef :: []), defers := [] } wx := by
    rintro l g15 g18 g21 g24 g5 wx rfl hB
    have hHeld := hB.s
    refine wpAnyH_ready (rs := [13, 16]) (by kernel_rfl) (by simp) ?_
    refine AllReadyH.cons (o := { dst := some 21, op := Op.makeSlice 37 (Operand.tmp 20) (Operand.tmp 20), type := 37, pos := "law.go:50", after := #[{ on := 12, ground := Ground.data }, { on := 12, ground := Ground.data }], guard := none }) rfl (fun K hK => ?_) ?_
    · go_simp
      refine hK.out _ _ (hB.m21).s (fun hHeld => ?_)
      clear hK K
      try simp only [List.setIfInBounds_toArray, List.set_cons_zero, List.set_cons_succ]
      exact G11101 _ _ _ _ _ _ _ (by kernel_rfl) hB.m21
    refine AllReadyH.cons (o := { dst := some 24, op := Op.makeSlice 37 (Operand.tmp 23) (Operand.tmp 23), type := 37, pos := "law.go:50", after := #[{ on := 15, ground := Ground.data }, { on := 15, ground := Ground.data }], guard := none }) rfl (fun K hK => ?_) AllReadyH.nil
    go_simp
    refine hK.out _ _ (hB.m24).s (fun hHeld => ?_)
    clear hK K
    try simp only [List.setIfInBounds_toArray, List.set_cons_zero, List.set_cons_succ]
    exact G11011 _ _ _ _ _ _ _ (by kernel_rfl) hB.m24
  have G10110 : ∀ (l : Array Bool) (g15 g18 g21 g24 g5 : Nat) (wx : World), l = #[true, true, true, true, true, true, true, true, true, true, false, true, true, true, true, true, true, false, false, false] → Bg w N B P Z ca fa ba n1 n2 n3 cc fc bc BP true false true true false g15 g18 g21 g24 g5 wx → wpAnyH Try.prog .any bgOps Q (BgS N B P Z ca fa ba n1 n2 n3 cc fc bc) 4 l { tmps := List.toArray ((.agg #[.int .i64 B, .int .i64 P, .int .i64 Z]) :: (.agg #[.slice ca n1 cc, .slice fa n2 fc, .slice ba n3 bc]) :: (.pointer (some ⟨N, 0, none⟩)) :: (.pointer (some ⟨N + 1, 0, none⟩)) :: (.pointer (some ⟨N + 1 + 1, 0, none⟩)) :: undef :: undef :: undef :: (.agg #[.int .i64 B, .int .i64 P, .int .i64 Z]) :: (.agg #[.slice ca n1 cc, .slice fa n2 fc, .slice ba n3 bc]) :: (.pointer (some ⟨N, 0, none⟩)) :: (.int .i64 B) :: (.pointer (some ⟨N, 1, none⟩)) :: (.int .i64 P) :: (.int .i64 BP) :: (.slice (some ⟨g15, 0, none⟩) BP BP) :: (.pointer (some ⟨N, 0, none⟩)) :: (.int .i64 B) :: undef :: (.pointer (some ⟨N, 0, none⟩)) :: (.int .i64 B) :: (.slice (some ⟨g21, 0, none⟩) B B) :: (.pointer (some ⟨N, 0, none⟩)) :: (.int .i64 B) :: (.slice (some ⟨g24, 0, none⟩) B B) :: undef :: undef :: undef :: undef :: undef :: undef :: undef :: undef :: undef :: undef :: undef :: undef :: undef :: undef :: undef :: undef :: undef :: undef :: undef :: undef :: undef :: undef :: undef :: undef :: undef :: undef :: undef :: undef :: undef :: undef :: []), defers := [] } wx := by
    rintro l g15 g18 g21 g24 g5 wx rfl hB
    have hHeld := hB.s
    refine wpAnyH_ready (rs := [10, 18]) (by kernel_rfl) (by simp) ?_
    refine AllReadyH.cons (o := { dst := some 18, op := Op.makeSlice 25 (Operand.tmp 17) (Operand.tmp 17), type := 25, pos := "law.go:50", after := #[{ on := 9, ground := Ground.data }, { on := 9, ground := Ground.data }], guard := none }) rfl (fun K hK => ?_) ?_
    · go_simp
      refine hK.out _ _ (hB.m18).s (fun hHeld => ?_)
      clear hK K
      try simp only [List.setIfInBounds_toArray, List.set_cons_zero, List.set_cons_succ]
      exact G11110 _ _ _ _ _ _ _ (by kernel_rfl) hB.m18
    refine AllReadyH.cons (o := { dst := some 5, op := Op.alloc 39, type := 0, pos := "law.go:50", after := #[], guard := none }) rfl (fun K hK => ?_) AllReadyH.nil
    go_simp
    refine hK.out _ _ (hB.m5).s (fun hHeld => ?_)
    clear hK K
    try simp only [List.setIfInBounds_toArray, List.set_cons_zero, List.set_cons_succ]
    exact G10111 _ _ _ _ _ _ _ (by kernel_rfl) hB.m5
  have G10101 : ∀ (l : Array Bool) (g15 g18 g21 g24 g5 : Nat) (wx : World), l = #[true, true, true, true, true, true, true, true, true, true, false, true, true, true, true, true, false, false, true, false] → Bg w N B P Z ca fa ba n1 n2 n3 cc fc bc BP true false true false true g15 g18 g21 g24 g5 wx → wpAnyH Try.prog .any bgOps Q (BgS N B P Z ca fa ba n1 n2 n3 cc fc bc) 4 l { tmps := List.toArray ((.agg #[.int .i64 B, .int .i64 P, .int .i64 Z]) :: (.agg #[.slice ca n1 cc, .slice fa n2 fc, .slice ba n3 bc]) :: (.pointer (some ⟨N, 0, none⟩)) :: (.pointer (some ⟨N + 1, 0, none⟩)) :: (.pointer (some ⟨N + 1 + 1, 0, none⟩)) :: (.pointer (some ⟨g5, 0, none⟩)) :: undef :: undef :: (.agg #[.int .i64 B, .int .i64 P, .int .i64 Z]) :: (.agg #[.slice ca n1 cc, .slice fa n2 fc, .slice ba n3 bc]) :: (.pointer (some ⟨N, 0, none⟩)) :: (.int .i64 B) :: (.pointer (some ⟨N, 1, none⟩)) :: (.int .i64 P) :: (.int .i64 BP) :: (.slice (some ⟨g15, 0, none⟩) BP BP) :: (.pointer (some ⟨N, 0, none⟩)) :: (.int .i64 B) :: undef :: (.pointer (some ⟨N, 0, none⟩)) :: (.int .i64 B) :: (.slice (some ⟨g21, 0, none⟩) B B) :: (.pointer (some ⟨N, 0, none⟩)) :: (.int .i64 B) :: undef :: undef :: undef :: undef :: undef :: undef :: undef :: undef :: undef :: undef :: undef :: undef :: undef :: undef :: undef :: undef :: undef :: undef :: undef :: undef :: undef :: undef :: undef :: undef :: undef :: undef :: undef :: undef :: undef :: undef :: undef :: []), defers := [] } wx := by
    rintro l g15 g18 g21 g24 g5 wx rfl hB
    have hHeld := hB.s
    refine wpAnyH_ready (rs := [10, 16]) (by kernel_rfl) (by simp) ?_
    refine AllReadyH.cons (o := { dst := some 18, op := Op.makeSlice 25 (Operand.tmp 17) (Operand.tmp 17), type := 25, pos := "law.go:50", after := #[{ on := 9, ground := Ground.data }, { on := 9, ground := Ground.data }], guard := none }) rfl (fun K hK => ?_) ?_
    · go_simp
      refine hK.out _ _ (hB.m18).s (fun hHeld => ?_)
      clear hK K
      try simp only [List.setIfInBounds_toArray, List.set_cons_zero, List.set_cons_succ]
      exact G11101 _ _ _ _ _ _ _ (by kernel_rfl) hB.m18
    refine AllReadyH.cons (o := { dst := some 24, op := Op.makeSlice 37 (Operand.tmp 23) (Operand.tmp 23), type := 37, pos := "law.go:50", after := #[{ on := 15, ground := Ground.data }, { on := 15, ground := Ground.data }], guard := none }) rfl (fun K hK => ?_) AllReadyH.nil
    go_simp
    refine hK.out _ _ (hB.m24).s (fun hHeld => ?_)
    clear hK K
    try simp only [List.setIfInBounds_toArray, List.set_cons_zero, List.set_cons_succ]
    exact G10111 _ _ _ _ _ _ _ (by kernel_rfl) hB.m24
  have G10011 : ∀ (l : Array Bool) (g15 g18 g21 g24 g5 : Nat) (wx : World), l = #[true, true, true, true, true, true, true, true, true, true, false, true, true, false, true, true, true, false, true, false] → Bg w N B P Z ca fa ba n1 n2 n3 cc fc bc BP true false false true true g15 g18 g21 g24 g5 wx → wpAnyH Try.prog .any bgOps Q (BgS N B P Z ca fa ba n1 n2 n3 cc fc bc) 4 l { tmps := List.toArray ((.agg #[.int .i64 B, .int .i64 P, .int .i64 Z]) :: (.agg #[.slice ca n1 cc, .slice fa n2 fc, .slice ba n3 bc]) :: (.pointer (some ⟨N, 0, none⟩)) :: (.pointer (some ⟨N + 1, 0, none⟩)) :: (.pointer (some ⟨N + 1 + 1, 0, none⟩)) :: (.pointer (some ⟨g5, 0, none⟩)) :: undef :: undef :: (.agg #[.int .i64 B, .int .i64 P, .int .i64 Z]) :: (.agg #[.slice ca n1 cc, .slice fa n2 fc, .slice ba n3 bc]) :: (.pointer (some ⟨N, 0, none⟩)) :: (.int .i64 B) :: (.pointer (some ⟨N, 1, none⟩)) :: (.int .i64 P) :: (.int .i64 BP) :: (.slice (some ⟨g15, 0, none⟩) BP BP) :: (.pointer (some ⟨N, 0, none⟩)) :: (.int .i64 B) :: undef :: (.pointer (some ⟨N, 0, none⟩)) :: (.int .i64 B) :: undef :: (.pointer (some ⟨N, 0, none⟩)) :: (.int .i64 B) :: (.slice (some ⟨g24, 0, none⟩) B B) :: undef :: undef :: undef :: undef :: undef :: undef :: undef :: undef :: undef :: undef :: undef :: undef :: undef :: undef :: undef :: undef :: undef :: undef :: undef :: undef :: undef :: undef :: undef :: undef :: undef :: undef :: undef :: undef :: undef :: undef :: []), defers := [] } wx := by
    rintro l g15 g18 g21 g24 g5 wx rfl hB
    have hHeld := hB.s
    refine wpAnyH_ready (rs := [10, 13]) (by kernel_rfl) (by simp) ?_
    refine AllReadyH.cons (o := { dst := some 18, op := Op.makeSlice 25 (Operand.tmp 17) (Operand.tmp 17), type := 25, pos := "law.go:50", after := #[{ on := 9, ground := Ground.data }, { on := 9, ground := Ground.data }], guard := none }) rfl (fun K hK => ?_) ?_
    · go_simp
      refine hK.out _ _ (hB.m18).s (fun hHeld => ?_)
      clear hK K
      try simp only [List.setIfInBounds_toArray, List.set_cons_zero, List.set_cons_succ]
      exact G11011 _ _ _ _ _ _ _ (by kernel_rfl) hB.m18
    refine AllReadyH.cons (o := { dst := some 21, op := Op.makeSlice 37 (Operand.tmp 20) (Operand.tmp 20), type := 37, pos := "law.go:50", after := #[{ on := 12, ground := Ground.data }, { on := 12, ground := Ground.data }], guard := none }) rfl (fun K hK => ?_) AllReadyH.nil
    go_simp
    refine hK.out _ _ (hB.m21).s (fun hHeld => ?_)
    clear hK K
    try simp only [List.setIfInBounds_toArray, List.set_cons_zero, List.set_cons_succ]
    exact G10111 _ _ _ _ _ _ _ (by kernel_rfl) hB.m21
  have G01110 : ∀ (l : Array Bool) (g15 g18 g21 g24 g5 : Nat) (wx : World), l = #[true, true, true, true, true, true, true, false, true, true, true, true, true, true, true, true, true, false, false, false] → Bg w N B P Z ca fa ba n1 n2 n3 cc fc bc BP false true true true false g15 g18 g21 g24 g5 wx → wpAnyH Try.prog .any bgOps Q (BgS N B P Z ca fa ba n1 n2 n3 cc fc bc) 4 l { tmps := List.toArray ((.agg #[.int .i64 B, .int .i64 P, .int .i64 Z]) :: (.agg #[.slice ca n1 cc, .slice fa n2 fc, .slice ba n3 bc]) :: (.pointer (some ⟨N, 0, none⟩)) :: (.pointer (some ⟨N + 1, 0, none⟩)) :: (.pointer (some ⟨N + 1 + 1, 0, none⟩)) :: undef :: undef :: undef :: (.agg #[.int .i64 B, .int .i64 P, .int .i64 Z]) :: (.agg #[.slice ca n1 cc, .slice fa n2 fc, .slice ba n3 bc]) :: (.pointer (some ⟨N, 0, none⟩)) :: (.int .i64 B) :: (.pointer (some ⟨N, 1, none⟩)) :: (.int .i64 P) :: (.int .i64 BP) :: undef :: (.pointer (some ⟨N, 0, none⟩)) :: (.int .i64 B) :: (.slice (some ⟨g18, 0, none⟩) B B) :: (.pointer (some ⟨N, 0, none⟩)) :: (.int .i64 B) :: (.slice (some ⟨g21, 0, none⟩) B B) :: (.pointer (some ⟨N, 0, none⟩)) :: (.int .i64 B) :: (.slice (some ⟨g24, 0, none⟩) B B) :: undef :: undef :: undef :: undef :: undef :: undef :: undef :: undef :: undef :: undef :: undef :: undef :: undef :: undef :: undef :: undef :: undef :: undef :: undef :: undef :: undef :: undef :: undef :: undef :: undef :: undef :: undef :: undef :: undef :: undef :: []), defers := [] } wx := by
    rintro l g15 g18 g21 g24 g5 wx rfl hB
    have hHeld := hB.s
    refine wpAnyH_ready (rs := [7, 18]) (by kernel_rfl) (by simp) ?_
    refine AllReadyH.cons (o := { dst := some 15, op := Op.makeSlice 36 (Operand.tmp 14) (Operand.tmp 14), type := 36, pos := "law.go:50", after := #[{ on := 6, ground := Ground.data }, { on := 6, ground := Ground.data }], guard := none }) rfl (fun K hK => ?_) ?_
    · go_simp
      refine hK.out _ _ (hB.m15).s (fun hHeld => ?_)
      clear hK K
      try simp only [List.setIfInBounds_toArray, List.set_cons_zero, List.set_cons_succ]
      exact G11110 _ _ _ _ _ _ _ (by kernel_rfl) hB.m15
    refine AllReadyH.cons (o := { dst := some 5, op := Op.alloc 39, type := 0, pos := "law.go:50", after := #[], guard := none }) rfl (fun K hK => ?_) AllReadyH.nil
    go_simp
    refine hK.out _ _ (hB.m5).s (fun hHeld => ?_)
    clear hK K
    try simp only [List.setIfInBounds_toArray, List.set_cons_zero, List.set_cons_succ]
    exact G01111 _ _ _ _ _ _ _ (by kernel_rfl) hB.m5
  have G01101 : ∀ (l : Array Bool) (g15 g18 g21 g24 g5 : Nat) (wx : World), l = #[true, true, true, true, true, true, true, false, true, true, true, true, true, true, true, true, false, false, true, false] → Bg w N B P Z ca fa ba n1 n2 n3 cc fc bc BP false true true false true g15 g18 g21 g24 g5 wx → wpAnyH Try.prog .any bgOps Q (BgS N B P Z ca fa ba n1 n2 n3 cc fc bc) 4 l { tmps := List.toArray ((.agg #[.int .i64 B, .int .i64 P, .int .i64 Z]) :: (.agg #[.slice ca n1 cc, .slice fa n2 fc, .slice ba n3 bc]) :: (.pointer (some ⟨N, 0, none⟩)) :: (.pointer (some ⟨N + 1, 0, none⟩)) :: (.pointer (some ⟨N + 1 + 1, 0, none⟩)) :: (.pointer (some ⟨g5, 0, none⟩)) :: undef :: undef :: (.agg #[.int .i64 B, .int .i64 P, .int .i64 Z]) :: (.agg #[.slice ca n1 cc, .slice fa n2 fc, .slice ba n3 bc]) :: (.pointer (some ⟨N, 0, none⟩)) :: (.int .i64 B) :: (.pointer (some ⟨N, 1, none⟩)) :: (.int .i64 P) :: (.int .i64 BP) :: undef :: (.pointer (some ⟨N, 0, none⟩)) :: (.int .i64 B) :: (.slice (some ⟨g18, 0, none⟩) B B) :: (.pointer (some ⟨N, 0, none⟩)) :: (.int .i64 B) :: (.slice (some ⟨g21, 0, none⟩) B B) :: (.pointer (some ⟨N, 0, none⟩)) :: (.int .i64 B) :: undef :: undef :: undef :: undef :: undef :: undef :: undef :: undef :: undef :: undef :: undef :: undef :: undef :: undef :: undef :: undef :: undef :: undef :: undef :: undef :: undef :: undef :: undef :: undef :: undef :: undef :: undef :: undef :: undef :: undef :: undef :: []), defers := [] } wx := by
    rintro l g15 g18 g21 g24 g5 wx rfl hB
    have hHeld := hB.s
    refine wpAnyH_ready (rs := [7, 16]) (by kernel_rfl) (by simp) ?_
    refine AllReadyH.cons (o := { dst := some 15, op := Op.makeSlice 36 (Operand.tmp 14) (Operand.tmp 14), type := 36, pos := "law.go:50", after := #[{ on := 6, ground := Ground.data }, { on := 6, ground := Ground.data }], guard := none }) rfl (fun K hK => ?_) ?_
    · go_simp
      refine hK.out _ _ (hB.m15).s (fun hHeld => ?_)
      clear hK K
      try simp only [List.setIfInBounds_toArray, List.set_cons_zero, List.set_cons_succ]
      exact G11101 _ _ _ _ _ _ _ (by kernel_rfl) hB.m15
    refine AllReadyH.cons (o := { dst := some 24, op := Op.makeSlice 37 (Operand.tmp 23) (Operand.tmp 23), type := 37, pos := "law.go:50", after := #[{ on := 15, ground := Ground.data }, { on := 15, ground := Ground.data }], guard := none }) rfl (fun K hK => ?_) AllReadyH.nil
    go_simp
    refine hK.out _ _ (hB.m24).s (fun hHeld => ?_)
    clear hK K
    try simp only [List.setIfInBounds_toArray, List.set_cons_zero, List.set_cons_succ]
    exact G01111 _ _ _ _ _ _ _ (by kernel_rfl) hB.m24
  have G01011 : ∀ (l : Array Bool) (g15 g18 g21 g24 g5 : Nat) (wx : World), l = #[true, true, true, true, true, true, true, false, true, true, true, true, true, false, true, true, true, false, true, false] → Bg w N B P Z ca fa ba n1 n2 n3 cc fc bc BP false true false true true g15 g18 g21 g24 g5 wx → wpAnyH Try.prog .any bgOps Q (BgS N B P Z ca fa ba n1 n2 n3 cc fc bc) 4 l { tmps := List.toArray ((.agg #[.int .i64 B, .int .i64 P, .int .i64 Z]) :: (.agg #[.slice ca n1 cc, .slice fa n2 fc, .slice ba n3 bc]) :: (.pointer (some ⟨N, 0, none⟩)) :: (.pointer (some ⟨N + 1, 0, none⟩)) :: (.pointer (some ⟨N + 1 + 1, 0, none⟩)) :: (.pointer (some ⟨g5, 0, none⟩)) :: undef :: undef :: (.agg #[.int .i64 B, .int .i64 P, .int .i64 Z]) :: (.agg #[.slice ca n1 cc, .slice fa n2 fc, .slice ba n3 bc]) :: (.pointer (some ⟨N, 0, none⟩)) :: (.int .i64 B) :: (.pointer (some ⟨N, 1, none⟩)) :: (.int .i64 P) :: (.int .i64 BP) :: undef :: (.pointer (some ⟨N, 0, none⟩)) :: (.int .i64 B) :: (.slice (some ⟨g18, 0, none⟩) B B) :: (.pointer (some ⟨N, 0, none⟩)) :: (.int .i64 B) :: undef :: (.pointer (some ⟨N, 0, none⟩)) :: (.int .i64 B) :: (.slice (some ⟨g24, 0, none⟩) B B) :: undef :: undef :: undef :: undef :: undef :: undef :: undef :: undef :: undef :: undef :: undef :: undef :: undef :: undef :: undef :: undef :: undef :: undef :: undef :: undef :: undef :: undef :: undef :: undef :: undef :: undef :: undef :: undef :: undef :: undef :: []), defers := [] } wx := by
    rintro l g15 g18 g21 g24 g5 wx rfl hB
    have hHeld := hB.s
    refine wpAnyH_ready (rs := [7, 13]) (by kernel_rfl) (by simp) ?_
    refine AllReadyH.cons (o := { dst := some 15, op := Op.makeSlice 36 (Operand.tmp 14) (Operand.tmp 14), type := 36, pos := "law.go:50", after := #[{ on := 6, ground := Ground.data }, { on := 6, ground := Ground.data }], guard := none }) rfl (fun K hK => ?_) ?_
    · go_simp
      refine hK.out _ _ (hB.m15).s (fun hHeld => ?_)
      clear hK K
      try simp only [List.setIfInBounds_toArray, List.set_cons_zero, List.set_cons_succ]
      exact G11011 _ _ _ _ _ _ _ (by kernel_rfl) hB.m15
    refine AllReadyH.cons (o := { dst := some 21, op := Op.makeSlice 37 (Operand.tmp 20) (Operand.tmp 20), type := 37, pos := "law.go:50", after := #[{ on := 12, ground := Ground.data }, { on := 12, ground := Ground.data }], guard := none }) rfl (fun K hK => ?_) AllReadyH.nil
    go_simp
    refine hK.out _ _ (hB.m21).s (fun hHeld => ?_)
    clear hK K
    try simp only [List.setIfInBounds_toArray, List.set_cons_zero, List.set_cons_succ]
    exact G01111 _ _ _ _ _ _ _ (by kernel_rfl) hB.m21
  have G00111 : ∀ (l : Array Bool) (g15 g18 g21 g24 g5 : Nat) (wx : World), l = #[true, true, true, true, true, true, true, false, true, true, false, true, true, true, true, true, true, false, true, false] → Bg w N B P Z ca fa ba n1 n2 n3 cc fc bc BP false false true true true g15 g18 g21 g24 g5 wx → wpAnyH Try.prog .any bgOps Q (BgS N B P Z ca fa ba n1 n2 n3 cc fc bc) 4 l { tmps := List.toArray ((.agg #[.int .i64 B, .int .i64 P, .int .i64 Z]) :: (.agg #[.slice ca n1 cc, .slice fa n2 fc, .slice ba n3 bc]) :: (.pointer (some ⟨N, 0, none⟩)) :: (.pointer (some ⟨N + 1, 0, none⟩)) :: (.pointer (some ⟨N + 1 + 1, 0, none⟩)) :: (.pointer (some ⟨g5, 0, none⟩)) :: undef :: undef :: (.agg #[.int .i64 B, .int .i64 P, .int .i64 Z]) :: (.agg #[.slice ca n1 cc, .slice fa n2 fc, .slice ba n3 bc]) :: (.pointer (some ⟨N, 0, none⟩)) :: (.int .i64 B) :: (.pointer (some ⟨N, 1, none⟩)) :: (.int .i64 P) :: (.int .i64 BP) :: undef :: (.pointer (some ⟨N, 0, none⟩)) :: (.int .i64 B) :: undef :: (.pointer (some ⟨N, 0, none⟩)) :: (.int .i64 B) :: (.slice (some ⟨g21, 0, none⟩) B B) :: (.pointer (some ⟨N, 0, none⟩)) :: (.int .i64 B) :: (.slice (some ⟨g24, 0, none⟩) B B) :: undef :: undef :: undef :: undef :: undef :: undef :: undef :: undef :: undef :: undef :: undef :: undef :: undef :: undef :: undef :: undef :: undef :: undef :: undef :: undef :: undef :: undef :: undef :: undef :: undef :: undef :: undef :: undef :: undef :: undef :: []), defers := [] } wx := by
    rintro l g15 g18 g21 g24 g5 wx rfl hB
    have hHeld := hB.s
    refine wpAnyH_ready (rs := [7, 10]) (by kernel_rfl) (by simp) ?_
    refine AllReadyH.cons (o := { dst := some 15, op := Op.makeSlice 36 (Operand.tmp 14) (Operand.tmp 14), type := 36, pos := "law.go:50", after := #[{ on := 6, ground := Ground.data }, { on := 6, ground := Ground.data }], guard := none }) rfl (fun K hK => ?_) ?_
    · go_simp
      refine hK.out _ _ (hB.m15).s (fun hHeld => ?_)
      clear hK K
      try simp only [List.setIfInBounds_toArray, List.set_cons_zero, List.set_cons_succ]
      exact G10111 _ _ _ _ _ _ _ (by kernel_rfl) hB.m15
    refine AllReadyH.cons (o := { dst := some 18, op := Op.makeSlice 25 (Operand.tmp 17) (Operand.tmp 17), type := 25, pos := "law.go:50", after := #[{ on := 9, ground := Ground.data }, { on := 9, ground := Ground.data }], guard := none }) rfl (fun K hK => ?_) AllReadyH.nil
    go_simp
    refine hK.out _ _ (hB.m18).s (fun hHeld => ?_)
    clear hK K
    try simp only [List.setIfInBounds_toArray, List.set_cons_zero, List.set_cons_succ]
    exact G01111 _ _ _ _ _ _ _ (by kernel_rfl) hB.m18
  have G11000 : ∀ (l : Array Bool) (g15 g18 g21 g24 g5 : Nat) (wx : World), l = #[true, true, true, true, true, true, true, true, true, true, true, true, true, false, true, true, false, false, false, false] → Bg w N B P Z ca fa ba n1 n2 n3 cc fc bc BP true true false false false g15 g18 g21 g24 g5 wx → wpAnyH Try.prog .any bgOps Q (BgS N B P Z ca fa ba n1 n2 n3 cc fc bc) 5 l { tmps := List.toArray ((.agg #[.int .i64 B, .int .i64 P, .int .i64 Z]) :: (.agg #[.slice ca n1 cc, .slice fa n2 fc, .slice ba n3 bc]) :: (.pointer (some ⟨N, 0, none⟩)) :: (.pointer (some ⟨N + 1, 0, none⟩)) :: (.pointer (some ⟨N + 1 + 1, 0, none⟩)) :: undef :: undef :: undef :: (.agg #[.int .i64 B, .int .i64 P, .int .i64 Z]) :: (.agg #[.slice ca n1 cc, .slice fa n2 fc, .slice ba n3 bc]) :: (.pointer (some ⟨N, 0, none⟩)) :: (.int .i64 B) :: (.pointer (some ⟨N, 1, none⟩)) :: (.int .i64 P) :: (.int .i64 BP) :: (.slice (some ⟨g15, 0, none⟩) BP BP) :: (.pointer (some ⟨N, 0, none⟩)) :: (.int .i64 B) :: (.slice (some ⟨g18, 0, none⟩) B B) :: (.pointer (some ⟨N, 0, none⟩)) :: (.int .i64 B) :: undef :: (.pointer (some ⟨N, 0, none⟩)) :: (.int .i64 B) :: undef :: undef :: undef :: undef :: undef :: undef :: undef :: undef :: undef :: undef :: undef :: undef :: undef :: undef :: undef :: undef :: undef :: undef :: undef :: undef :: undef :: undef :: undef :: undef :: undef :: undef :: undef :: undef :: undef :: undef :: undef :: []), defers := [] } wx := by
    rintro l g15 g18 g21 g24 g5 wx rfl hB
    have hHeld := hB.s
    refine wpAnyH_ready (rs := [13, 16, 18]) (by kernel_rfl) (by simp) ?_
    refine AllReadyH.cons (o := { dst := some 21, op := Op.makeSlice 37 (Operand.tmp 20) (Operand.tmp 20), type := 37, pos := "law.go:50", after := #[{ on := 12, ground := Ground.data }, { on := 12, ground := Ground.data }], guard := none }) rfl (fun K hK => ?_) ?_
    · go_simp
      refine hK.out _ _ (hB.m21).s (fun hHeld => ?_)
      clear hK K
      try simp only [List.setIfInBounds_toArray, List.set_cons_zero, List.set_cons_succ]
      exact G11100 _ _ _ _ _ _ _ (by kernel_rfl) hB.m21
    refine AllReadyH.cons (o := { dst := some 24, op := Op.makeSlice 37 (Operand.tmp 23) (Operand.tmp 23), type := 37, pos := "law.go:50", after := #[{ on := 15, ground := Ground.data }, { on := 15, ground := Ground.data }], guard := none }) rfl (fun K hK => ?_) ?_
    · go_simp
      refine hK.out _ _ (hB.m24).s (fun hHeld => ?_)
      clear hK K
      try simp only [List.setIfInBounds_toArray, List.set_cons_zero, List.set_cons_succ]
      exact G11010 _ _ _ _ _ _ _ (by kernel_rfl) hB.m24
    refine AllReadyH.cons (o := { dst := some 5, op := Op.alloc 39, type := 0, pos := "law.go:50", after := #[], guard := none }) rfl (fun K hK => ?_) AllReadyH.nil
    go_simp
    refine hK.out _ _ (hB.m5).s (fun hHeld => ?_)
    clear hK K
    try simp only [List.setIfInBounds_toArray, List.set_cons_zero, List.set_cons_succ]
    exact G11001 _ _ _ _ _ _ _ (by kernel_rfl) hB.m5
  have G10100 : ∀ (l : Array Bool) (g15 g18 g21 g24 g5 : Nat) (wx : World), l = #[true, true, true, true, true, true, true, true, true, true, false, true, true, true, true, true, false, false, false, false] → Bg w N B P Z ca fa ba n1 n2 n3 cc fc bc BP true false true false false g15 g18 g21 g24 g5 wx → wpAnyH Try.prog .any bgOps Q (BgS N B P Z ca fa ba n1 n2 n3 cc fc bc) 5 l { tmps := List.toArray ((.agg #[.int .i64 B, .int .i64 P, .int .i64 Z]) :: (.agg #[.slice ca n1 cc, .slice fa n2 fc, .slice ba n3 bc]) :: (.pointer (some ⟨N, 0, none⟩)) :: (.pointer (some ⟨N + 1, 0, none⟩)) :: (.pointer (some ⟨N + 1 + 1, 0, none⟩)) :: undef :: undef :: undef :: (.agg #[.int .i64 B, .int .i64 P, .int .i64 Z]) :: (.agg #[.slice ca n1 cc, .slice fa n2 fc, .slice ba n3 bc]) :: (.pointer (some ⟨N, 0, none⟩)) :: (.int .i64 B) :: (.pointer (some ⟨N, 1, none⟩)) :: (.int .i64 P) :: (.int .i64 BP) :: (.slice (some ⟨g15, 0, none⟩) BP BP) :: (.pointer (some ⟨N, 0, none⟩)) :: (.int .i64 B) :: undef :: (.pointer (some ⟨N, 0, none⟩)) :: (.int .i64 B) :: (.slice (some ⟨g21, 0, none⟩) B B) :: (.pointer (some ⟨N, 0, none⟩)) :: (.int .i64 B) :: undef :: undef :: undef :: undef :: undef :: undef :: undef :: undef :: undef :: undef :: undef :: undef :: undef :: undef :: undef :: undef :: undef :: undef :: undef :: undef :: undef :: undef :: undef :: undef :: undef :: undef :: undef :: undef :: undef :: undef :: undef :: []), defers := [] } wx := by
    rintro l g15 g18 g21 g24 g5 wx rfl hB
    have hHeld := hB.s
    refine wpAnyH_ready (rs := [10, 16, 18]) (by kernel_rfl) (by simp) ?_
    refine AllReadyH.cons (o := { dst := some 18, op := Op.makeSlice 25 (Operand.tmp 17) (Operand.tmp 17), type := 25, pos := "law.go:50", after := #[{ on := 9, ground := Ground.data }, { on := 9, ground := Ground.data }], guard := none }) rfl (fun K hK => ?_) ?_
    · go_simp
      refine hK.out _ _ (hB.m18).s (fun hHeld => ?_)
      clear hK K
      try simp only [List.setIfInBounds_toArray, List.set_cons_zero, List.set_cons_succ]
      exact G11100 _ _ _ _ _ _ _ (by kernel_rfl) hB.m18
    refine AllReadyH.cons (o := { dst := some 24, op := Op.makeSlice 37 (Operand.tmp 23) (Operand.tmp 23), type := 37, pos := "law.go:50", after := #[{ on := 15, ground := Ground.data }, { on := 15, ground := Ground.data }], guard := none }) rfl (fun K hK => ?_) ?_
    · go_simp
      refine hK.out _ _ (hB.m24).s (fun hHeld => ?_)
      clear hK K
      try simp only [List.setIfInBounds_toArray, List.set_cons_zero, List.set_cons_succ]
      exact G10110 _ _ _ _ _ _ _ (by kernel_rfl) hB.m24
    refine AllReadyH.cons (o := { dst := some 5, op := Op.alloc 39, type := 0, pos := "law.go:50", after := #[], guard := none }) rfl (fun K hK => ?_) AllReadyH.nil
    go_simp
    refine hK.out _ _ (hB.m5).s (fun hHeld => ?_)
    clear hK K
    try simp only [List.setIfInBounds_toArray, List.set_cons_zero, List.set_cons_succ]
    exact G10101 _ _ _ _ _ _ _ (by kernel_rfl) hB.m5
  have G10010 : ∀ (l : Array Bool) (g15 g18 g21 g24 g5 : Nat) (wx : World), l = #[true, true, true, true, true, true, true, true, true, true, false, true, true, false, true, true, true, false, false, false] → Bg w N B P Z ca fa ba n1 n2 n3 cc fc bc BP true false false true false g15 g18 g21 g24 g5 wx → wpAnyH Try.prog .any bgOps Q (BgS N B P Z ca fa ba n1 n2 n3 cc fc bc) 5 l { tmps := List.toArray ((.agg #[.int .i64 B, .int .i64 P, .int .i64 Z]) :: (.agg #[.slice ca n1 cc, .slice fa n2 fc, .slice ba n3 bc]) :: (.pointer (some ⟨N, 0, none⟩)) :: (.pointer (some ⟨N + 1, 0, none⟩)) :: (.pointer (some ⟨N + 1 + 1, 0, none⟩)) :: undef :: undef :: undef :: (.agg #[.int .i64 B, .int .i64 P, .int .i64 Z]) :: (.agg #[.slice ca n1 cc, .slice fa n2 fc, .slice ba n3 bc]) :: (.pointer (some ⟨N, 0, none⟩)) :: (.int .i64 B) :: (.pointer (some ⟨N, 1, none⟩)) :: (.int .i64 P) :: (.int .i64 BP) :: (.slice (some ⟨g15, 0, none⟩) BP BP) :: (.pointer (some ⟨N, 0, none⟩)) :: (.int .i64 B) :: undef :: (.pointer (some ⟨N, 0, none⟩)) :: (.int .i64 B) :: undef :: (.pointer (some ⟨N, 0, none⟩)) :: (.int .i64 B) :: (.slice (some ⟨g24, 0, none⟩) B B) :: undef :: undef :: undef :: undef :: undef :: undef :: undef :: undef :: undef :: undef :: undef :: undef :: undef :: undef :: undef :: undef :: undef :: undef :: undef :: undef :: undef :: undef :: undef :: undef :: undef :: undef :: undef :: undef :: undef :: undef :: []), defers := [] } wx := by
    rintro l g15 g18 g21 g24 g5 wx rfl hB
    have hHeld := hB.s
    refine wpAnyH_ready (rs := [10, 13, 18]) (by kernel_rfl) (by simp) ?_
    refine AllReadyH.cons (o := { dst := some 18, op := Op.makeSlice 25 (Operand.tmp 17) (Operand.tmp 17), type := 25, pos := "law.go:50", after := #[{ on := 9, ground := Ground.data }, { on := 9, ground := Ground.data }], guard := none }) rfl (fun K hK => ?_) ?_
    · go_simp
      refine hK.out _ _ (hB.m18).s (fun hHeld => ?_)
      clear hK K
      try simp only [List.setIfInBounds_toArray, List.set_cons_zero, List.set_cons_succ]
      exact G11010 _ _ _ _ _ _ _ (by kernel_rfl) hB.m18
    refine AllReadyH.cons (o := { dst := some 21, op := Op.makeSlice 37 (Operand.tmp 20) (Operand.tmp 20), type := 37, pos := "law.go:50", after := #[{ on := 12, ground := Ground.data }, { on := 12, ground := Ground.data }], guard := none }) rfl (fun K hK => ?_) ?_
    · go_simp
      refine hK.out _ _ (hB.m21).s (fun hHeld => ?_)
      clear hK K
      try simp only [List.setIfInBounds_toArray, List.set_cons_zero, List.set_cons_succ]
      exact G10110 _ _ _ _ _ _ _ (by kernel_rfl) hB.m21
    refine AllReadyH.cons (o := { dst := some 5, op := Op.alloc 39, type := 0, pos := "law.go:50", after := #[], guard := none }) rfl (fun K hK => ?_) AllReadyH.nil
    go_simp
    refine hK.out _ _ (hB.m5).s (fun hHeld => ?_)
    clear hK K
    try simp only [List.setIfInBounds_toArray, List.set_cons_zero, List.set_cons_succ]
    exact G10011 _ _ _ _ _ _ _ (by kernel_rfl) hB.m5
  have G10001 : ∀ (l : Array Bool) (g15 g18 g21 g24 g5 : Nat) (wx : World), l = #[true, true, true, true, true, true, true, true, true, true, false, true, true, false, true, true, false, false, true, false] → Bg w N B P Z ca fa ba n1 n2 n3 cc fc bc BP true false false false true g15 g18 g21 g24 g5 wx → wpAnyH Try.prog .any bgOps Q (BgS N B P Z ca fa ba n1 n2 n3 cc fc bc) 5 l { tmps := List.toArray ((.agg #[.int .i64 B, .int .i64 P, .int .i64 Z]) :: (.agg #[.slice ca n1 cc, .slice fa n2 fc, .slice ba n3 bc]) :: (.pointer (some ⟨N, 0, none⟩)) :: (.pointer (some ⟨N + 1, 0, none⟩)) :: (.pointer (some ⟨N + 1 + 1, 0, none⟩)) :: (.pointer (some ⟨g5, 0, none⟩)) :: undef :: undef :: (.agg #[.int .i64 B, .int .i64 P, .int .i64 Z]) :: (.agg #[.slice ca n1 cc, .slice fa n2 fc, .slice ba n3 bc]) :: (.pointer (some ⟨N, 0, none⟩)) :: (.int .i64 B) :: (.pointer (some ⟨N, 1, none⟩)) :: (.int .i64 P) :: (.int .i64 BP) :: (.slice (some ⟨g15, 0, none⟩) BP BP) :: (.pointer (some ⟨N, 0, none⟩)) :: (.int .i64 B) :: undef :: (.pointer (some ⟨N, 0, none⟩)) :: (.int .i64 B) :: undef :: (.pointer (some ⟨N, 0, none⟩)) :: (.int .i64 B) :: undef :: undef :: undef :: undef :: undef :: undef :: undef :: undef :: undef :: undef :: undef :: undef :: undef :: undef :: undef :: undef :: undef :: undef :: undef :: undef :: undef :: undef :: undef :: undef :: undef :: undef :: undef :: undef :: undef :: undef :: undef :: []), defers := [] } wx := by
    rintro l g15 g18 g21 g24 g5 wx rfl hB
    have hHeld := hB.s
    refine wpAnyH_ready (rs := [10, 13, 16]) (by kernel_rfl) (by simp) ?_
    refine AllReadyH.cons (o := { dst := some 18, op := Op.makeSlice 25 (Operand.tmp 17) (Operand.tmp 17), type := 25, pos := "law.go:50", after := #[{ on := 9, ground := Ground.data }, { on := 9, ground := Ground.data }], guard := none }) rfl (fun K hK => ?_) ?_
    · go_simp
      refine hK.out _ _ (hB.m18).s (fun hHeld => ?_)
      clear hK K
      try simp only [List.setIfInBounds_toArray, List.set_cons_zero, List.set_cons_succ]
      exact G11001 _ _ _ _ _ _ _ (by kernel_rfl) hB.m18
    refine AllReadyH.cons (o := { dst := some 21, op := Op.makeSlice 37 (Operand.tmp 20) (Operand.tmp 20), type := 37, pos := "law.go:50", after := #[{ on := 12, ground := Ground.data }, { on := 12, ground := Ground.data }], guard := none }) rfl (fun K hK => ?_) ?_
    · go_simp
      refine hK.out _ _ (hB.m21).s (fun hHeld => ?_)
      clear hK K
      try simp only [List.setIfInBounds_toArray, List.set_cons_zero, List.set_cons_succ]
      exact G10101 _ _ _ _ _ _ _ (by kernel_rfl) hB.m21
    refine AllReadyH.cons (o := { dst := some 24, op := Op.makeSlice 37 (Operand.tmp 23) (Operand.tmp 23), type := 37, pos := "law.go:50", after := #[{ on := 15, ground := Ground.data }, { on := 15, ground := Ground.data }], guard := none }) rfl (fun K hK => ?_) AllReadyH.nil
    go_simp
    refine hK.out _ _ (hB.m24).s (fun hHeld => ?_)
    clear hK K
    try simp only [List.setIfInBounds_toArray, List.set_cons_zero, List.set_cons_succ]
    exact G10011 _ _ _ _ _ _ _ (by kernel_rfl) hB.m24
  have G01100 : ∀ (l : Array Bool) (g15 g18 g21 g24 g5 : Nat) (wx : World), l = #[true, true, true, true, true, true, true, false, true, true, true, true, true, true, true, true, false, false, false, false] → Bg w N B P Z ca fa ba n1 n2 n3 cc fc bc BP false true true false false g15 g18 g21 g24 g5 wx → wpAnyH Try.prog .any bgOps Q (BgS N B P Z ca fa ba n1 n2 n3 cc fc bc) 5 l { tmps := List.toArray ((.agg #[.int .i64 B, .int .i64 P, .int .i64 Z]) :: (.agg #[.slice ca n1 cc, .slice fa n2 fc, .slice ba n3 bc]) :: (.pointer (some ⟨N, 0, none⟩)) :: (.pointer (some ⟨N + 1, 0, none⟩)) :: (.pointer (some ⟨N + 1 + 1, 0, none⟩)) :: undef :: undef :: undef :: (.agg #[.int .i64 B, .int .i64 P, .int .i64 Z]) :: (.agg #[.slice ca n1 cc, .slice fa n2 fc, .slice ba n3 bc]) :: (.pointer (some ⟨N, 0, none⟩)) :: (.int .i64 B) :: (.pointer (some ⟨N, 1, none⟩)) :: (.int .i64 P) :: (.int .i64 BP) :: undef :: (.pointer (some ⟨N, 0, none⟩)) :: (.int .i64 B) :: (.slice (some ⟨g18, 0, none⟩) B B) :: (.pointer (some ⟨N, 0, none⟩)) :: (.int .i64 B) :: (.slice (some ⟨g21, 0, none⟩) B B) :: (.pointer (some ⟨N, 0, none⟩)) :: (.int .i64 B) :: undef :: undef :: undef :: undef :: undef :: undef :: undef :: undef :: undef :: undef :: undef :: undef :: undef :: undef :: undef :: undef :: undef :: undef :: undef :: undef :: undef :: undef :: undef :: undef :: undef :: undef :: undef :: undef :: undef :: undef :: undef :: []), defers := [] } wx := by
    rintro l g15 g18 g21 g24 g5 wx rfl hB
    have hHeld := hB.s
    refine wpAnyH_ready (rs := [7, 16, 18]) (by kernel_rfl) (by simp) ?_
    refine AllReadyH.cons (o := { dst := some 15, op := Op.makeSlice 36 (Operand.tmp 14) (Operand.tmp 14), type := 36, pos := "law.go:50", after := #[{ on := 6, ground := Ground.data }, { on := 6, ground := Ground.data }], guard := none }) rfl (fun K hK => ?_) ?_
    · go_simp
      refine hK.out _ _ (hB.m15).s (fun hHeld => ?_)
      clear hK K
      try simp only [List.setIfInBounds_toArray, List.set_cons_zero, List.set_cons_succ]
      exact G11100 _ _ _ _ _ _ _ (by kernel_rfl) hB.m15
    refine AllReadyH.cons (o := { dst := some 24, op := Op.makeSlice 37 (Operand.tmp 23) (Operand.tmp 23), type := 37, pos := "law.go:50", after := #[{ on := 15, ground := Ground.data }, { on := 15, ground := Ground.data }], guard := none }) rfl (fun K hK => ?_) ?_
    · go_simp
      refine hK.out _ _ (hB.m24).s (fun hHeld => ?_)
      clear hK K
      try simp only [List.setIfInBounds_toArray, List.set_cons_zero, List.set_cons_succ]
      exact G01110 _ _ _ _ _ _ _ (by kernel_rfl) hB.m24
    refine AllReadyH.cons (o := { dst := some 5, op := Op.alloc 39, type := 0, pos := "law.go:50", after := #[], guard := none }) rfl (fun K hK => ?_) AllReadyH.nil
    go_simp
    refine hK.out _ _ (hB.m5).s (fun hHeld => ?_)
    clear hK K
    try simp only [List.setIfInBounds_toArray, List.set_cons_zero, List.set_cons_succ]
    exact G01101 _ _ _ _ _ _ _ (by kernel_rfl) hB.m5
  have G01010 : ∀ (l : Array Bool) (g15 g18 g21 g24 g5 : Nat) (wx : World), l = #[true, true, true, true, true, true, true, false, true, true, true, true, true, false, true, true, true, false, false, false] → Bg w N B P Z ca fa ba n1 n2 n3 cc fc bc BP false true false true false g15 g18 g21 g24 g5 wx → wpAnyH Try.prog .any bgOps Q (BgS N B P Z ca fa ba n1 n2 n3 cc fc bc) 5 l { tmps := List.toArray ((.agg #[.int .i64 B, .int .i64 P, .int .i64 Z]) :: (.agg #[.slice ca n1 cc, .slice fa n2 fc, .slice ba n3 bc]) :: (.pointer (some ⟨N, 0, none⟩)) :: (.pointer (some ⟨N + 1, 0, none⟩)) :: (.pointer (some ⟨N + 1 + 1, 0, none⟩)) :: undef :: undef :: undef :: (.agg #[.int .i64 B, .int .i64 P, .int .i64 Z]) :: (.agg #[.slice ca n1 cc, .slice fa n2 fc, .slice ba n3 bc]) :: (.pointer (some ⟨N, 0, none⟩)) :: (.int .i64 B) :: (.pointer (some ⟨N, 1, none⟩)) :: (.int .i64 P) :: (.int .i64 BP) :: undef :: (.pointer (some ⟨N, 0, none⟩)) :: (.int .i64 B) :: (.slice (some ⟨g18, 0, none⟩) B B) :: (.pointer (some ⟨N, 0, none⟩)) :: (.int .i64 B) :: undef :: (.pointer (some ⟨N, 0, none⟩)) :: (.int .i64 B) :: (.slice (some ⟨g24, 0, none⟩) B B) :: undef :: undef :: undef :: undef :: undef :: undef :: undef :: undef :: undef :: undef :: undef :: undef :: undef :: undef :: undef :: undef :: undef :: undef :: undef :: undef :: undef :: undef :: undef :: undef :: undef :: undef :: undef :: undef :: undef :: undef :: []), defers := [] } wx := by
    rintro l g15 g18 g21 g24 g5 wx rfl hB
    have hHeld := hB.s
    refine wpAnyH_ready (rs := [7, 13, 18]) (by kernel_rfl) (by simp) ?_
    refine AllReadyH.cons (o := { dst := some 15, op := Op.makeSlice 36 (Operand.tmp 14) (Operand.tmp 14), type := 36, pos := "law.go:50", after := #[{ on := 6, ground := Ground.data }, { on := 6, ground := Ground.data }], guard := none }) rfl (fun K hK => ?_) ?_
    · go_simp
      refine hK.out _ _ (hB.m15).s (fun hHeld => ?_)
      clear hK K
      try simp only [List.setIfInBounds_toArray, List.set_cons_zero, List.set_cons_succ]
      exact G11010 _ _ _ _ _ _ _ (by kernel_rfl) hB.m15
    refine AllReadyH.cons (o := { dst := some 21, op := Op.makeSlice 37 (Operand.tmp 20) (Operand.tmp 20), type := 37, pos := "law.go:50", after := #[{ on := 12, ground := Ground.data }, { on := 12, ground := Ground.data }], guard := none }) rfl (fun K hK => ?_) ?_
    · go_simp
      refine hK.out _ _ (hB.m21).s (fun hHeld => ?_)
      clear hK K
      try simp only [List.setIfInBounds_toArray, List.set_cons_zero, List.set_cons_succ]
      exact G01110 _ _ _ _ _ _ _ (by kernel_rfl) hB.m21
    refine AllReadyH.cons (o := { dst := some 5, op := Op.alloc 39, type := 0, pos := "law.go:50", after := #[], guard := none }) rfl (fun K hK => ?_) AllReadyH.nil
    go_simp
    refine hK.out _ _ (hB.m5).s (fun hHeld => ?_)
    clear hK K
    try simp only [List.setIfInBounds_toArray, List.set_cons_zero, List.set_cons_succ]
    exact G01011 _ _ _ _ _ _ _ (by kernel_rfl) hB.m5
  have G01001 : ∀ (l : Array Bool) (g15 g18 g21 g24 g5 : Nat) (wx : World), l = #[true, true, true, true, true, true, true, false, true, true, true, true, true, false, true, true, false, false, true, false] → Bg w N B P Z ca fa ba n1 n2 n3 cc fc bc BP false true false false true g15 g18 g21 g24 g5 wx → wpAnyH Try.prog .any bgOps Q (BgS N B P Z ca fa ba n1 n2 n3 cc fc bc) 5 l { tmps := List.toArray ((.agg #[.int .i64 B, .int .i64 P, .int .i64 Z]) :: (.agg #[.slice ca n1 cc, .slice fa n2 fc, .slice ba n3 bc]) :: (.pointer (some ⟨N, 0, none⟩)) :: (.pointer (some ⟨N + 1, 0, none⟩)) :: (.pointer (some ⟨N + 1 + 1, 0, none⟩)) :: (.pointer (some ⟨g5, 0, none⟩)) :: undef :: undef :: (.agg #[.int .i64 B, .int .i64 P, .int .i64 Z]) :: (.agg #[.slice ca n1 cc, .slice fa n2 fc, .slice ba n3 bc]) :: (.pointer (some ⟨N, 0, none⟩)) :: (.int .i64 B) :: (.pointer (some ⟨N, 1, none⟩)) :: (.int .i64 P) :: (.int .i64 BP) :: undef :: (.pointer (some ⟨N, 0, none⟩)) :: (.int .i64 B) :: (.slice (some ⟨g18, 0, none⟩) B B) :: (.pointer (some ⟨N, 0, none⟩)) :: (.int .i64 B) :: undef :: (.pointer (some ⟨N, 0, none⟩)) :: (.int .i64 B) :: undef :: undef :: undef :: undef :: undef :: undef :: undef :: undef :: undef :: undef :: undef :: undef :: undef :: undef :: undef :: undef :: undef :: undef :: undef :: undef :: undef :: undef :: undef :: undef :: undef :: undef :: undef :: undef :: undef :: undef :: undef :: []), defers := [] } wx := by
    rintro l g15 g18 g21 g24 g5 wx rfl hB
    have hHeld := hB.s
    refine wpAnyH_ready (rs := [7, 13, 16]) (by kernel_rfl) (by simp) ?_
    refine AllReadyH.cons (o := { dst := some 15, op := Op.makeSlice 36 (Operand.tmp 14) (Operand.tmp 14), type := 36, pos := "law.go:50", after := #[{ on := 6, ground := Ground.data }, { on := 6, ground := Ground.data }], guard := none }) rfl (fun K hK => ?_) ?_
    · go_simp
      refine hK.out _ _ (hB.m15).s (fun hHeld => ?_)
      clear hK K
      try simp only [List.setIfInBounds_toArray, List.set_cons_zero, List.set_cons_succ]
      exact G11001 _ _ _ _ _ _ _ (by kernel_rfl) hB.m15
    refine AllReadyH.cons (o := { dst := some 21, op := Op.makeSlice 37 (Operand.tmp 20) (Operand.tmp 20), type := 37, pos := "law.go:50", after := #[{ on := 12, ground := Ground.data }, { on := 12, ground := Ground.data }], guard := none }) rfl (fun K hK => ?_) ?_
    · go_simp
      refine hK.out _ _ (hB.m21).s (fun hHeld => ?_)
      clear hK K
      try simp only [List.setIfInBounds_toArray, List.set_cons_zero, List.set_cons_succ]
      exact G01101 _ _ _ _ _ _ _ (by kernel_rfl) hB.m21
    refine AllReadyH.cons (o := { dst := some 24, op := Op.makeSlice 37 (Operand.tmp 23) (Operand.tmp 23), type := 37, pos := "law.go:50", after := #[{ on := 15, ground := Ground.data }, { on := 15, ground := Ground.data }], guard := none }) rfl (fun K hK => ?_) AllReadyH.nil
    go_simp
    refine hK.out _ _ (hB.m24).s (fun hHeld => ?_)
    clear hK K
    try simp only [List.setIfInBounds_toArray, List.set_cons_zero, List.set_cons_succ]
    exact G01011 _ _ _ _ _ _ _ (by kernel_rfl) hB.m24
  have G00110 : ∀ (l : Array Bool) (g15 g18 g21 g24 g5 : Nat) (wx : World), l = #[true, true, true, true, true, true, true, false, true, true, false, true, true, true, true, true, true, false, false, false] → Bg w N B P Z ca fa ba n1 n2 n3 cc fc bc BP false false true true false g15 g18 g21 g24 g5 wx → wpAnyH Try.prog .any bgOps Q (BgS N B P Z ca fa ba n1 n2 n3 cc fc bc) 5 l { tmps := List.toArray ((.agg #[.int .i64 B, .int .i64 P, .int .i64 Z]) :: (.agg #[.slice ca n1 cc, .slice fa n2 fc, .slice ba n3 bc]) :: (.pointer (some ⟨N, 0, none⟩)) :: (.pointer (some ⟨N + 1, 0, none⟩)) :: (.pointer (some ⟨N + 1 + 1, 0, none⟩)) :: undef :: undef :: undef :: (.agg #[.int .i64 B, .int .i64 P, .int .i64 Z]) :: (.agg #[.slice ca n1 cc, .slice fa n2 fc, .slice ba n3 bc]) :: (.pointer (some ⟨N, 0, none⟩)) :: (.int .i64 B) :: (.pointer (some ⟨N, 1, none⟩)) :: (.int .i64 P) :: (.int .i64 BP) :: undef :: (.pointer (some ⟨N, 0, none⟩)) :: (.int .i64 B) :: undef :: (.pointer (some ⟨N, 0, none⟩)) :: (.int .i64 B) :: (.slice (some ⟨g21, 0, none⟩) B B) :: (.pointer (some ⟨N, 0, none⟩)) :: (.int .i64 B) :: (.slice (some ⟨g24, 0, none⟩) B B) :: undef :: undef :: undef :: undef :: undef :: undef :: undef :: undef :: undef :: undef :: undef :: undef :: undef :: undef :: undef :: undef :: undef :: undef :: undef :: undef :: undef :: undef :: undef :: undef :: undef :: undef :: undef :: undef :: undef :: undef :: []), defers := [] } wx := by
    rintro l g15 g18 g21 g24 g5 wx rfl hB
    have hHeld := hB.s
    refine wpAnyH_ready (rs := [7, 10, 18]) (by kernel_rfl) (by simp) ?_
    refine AllReadyH.cons (o := { dst := some 15, op := Op.makeSlice 36 (Operand.tmp 14) (Operand.tmp 14), type := 36, pos := "law.go:50", after := #[{ on := 6, ground := Ground.data }, { on := 6, ground := Ground.data }], guard := none }) rfl (fun K hK => ?_) ?_
    · go_simp
      refine hK.out _ _ (hB.m15).s (fun hHeld => ?_)
      clear hK K
      try simp only [List.setIfInBounds_toArray, List.set_cons_zero, List.set_cons_succ]
      exact G10110 _ _ _ _ _ _ _ (by kernel_rfl) hB.m15
    refine AllReadyH.cons (o := { dst := some 18, op := Op.makeSlice 25 (Operand.tmp 17) (Operand.tmp 17), type := 25, pos := "law.go:50", after := #[{ on := 9, ground := Ground.data }, { on := 9, ground := Ground.data }], guard := none }) rfl (fun K hK => ?_) ?_
    · go_simp
      refine hK.out _ _ (hB.m18).s (fun hHeld => ?_)
      clear hK K
      try simp only [List.setIfInBounds_toArray, List.set_cons_zero, List.set_cons_succ]
      exact G01110 _ _ _ _ _ _ _ (by kernel_rfl) hB.m18
    refine AllReadyH.cons (o := { dst := some 5, op := Op.alloc 39, type := 0, pos := "law.go:50", after := #[], guard := none }) rfl (fun K hK => ?_) AllReadyH.nil
    go_simp
    refine hK.out _ _ (hB.m5).s (fun hHeld => ?_)
    clear hK K
    try simp only [List.setIfInBounds_toArray, List.set_cons_zero, List.set_cons_succ]
    exact G00111 _ _ _ _ _ _ _ (by kernel_rfl) hB.m5
  have G00101 : ∀ (l : Array Bool) (g15 g18 g21 g24 g5 : Nat) (wx : World), l = #[true, true, true, true, true, true, true, false, true, true, false, true, true, true, true, true, false, false, true, false] → Bg w N B P Z ca fa ba n1 n2 n3 cc fc bc BP false false true false true g15 g18 g21 g24 g5 wx → wpAnyH Try.prog .any bgOps Q (BgS N B P Z ca fa ba n1 n2 n3 cc fc bc) 5 l { tmps := List.toArray ((.agg #[.int .i64 B, .int .i64 P, .int .i64 Z]) :: (.agg #[.slice ca n1 cc, .slice fa n2 fc, .slice ba n3 bc]) :: (.pointer (some ⟨N, 0, none⟩)) :: (.pointer (some ⟨N + 1, 0, none⟩)) :: (.pointer (some ⟨N + 1 + 1, 0, none⟩)) :: (.pointer (some ⟨g5, 0, none⟩)) :: undef :: undef :: (.agg #[.int .i64 B, .int .i64 P, .int .i64 Z]) :: (.agg #[.slice ca n1 cc, .slice fa n2 fc, .slice ba n3 bc]) :: (.pointer (some ⟨N, 0, none⟩)) :: (.int .i64 B) :: (.pointer (some ⟨N, 1, none⟩)) :: (.int .i64 P) :: (.int .i64 BP) :: undef :: (.pointer (some ⟨N, 0, none⟩)) :: (.int .i64 B) :: undef :: (.pointer (some ⟨N, 0, none⟩)) :: (.int .i64 B) :: (.slice (some ⟨g21, 0, none⟩) B B) :: (.pointer (some ⟨N, 0, none⟩)) :: (.int .i64 B) :: undef :: undef :: undef :: undef :: undef :: undef :: undef :: undef :: undef :: undef :: undef :: undef :: undef :: undef :: undef :: undef :: undef :: undef :: undef :: undef :: undef :: undef :: undef :: undef :: undef :: undef :: undef :: undef :: undef :: undef :: undef :: []), defers := [] } wx := by
    rintro l g15 g18 g21 g24 g5 wx rfl hB
    have hHeld := hB.s
    refine wpAnyH_ready (rs := [7, 10, 16]) (by kernel_rfl) (by simp) ?_
    refine AllReadyH.cons (o := { dst := some 15, op := Op.makeSlice 36 (Operand.tmp 14) (Operand.tmp 14), type := 36, pos := "law.go:50", after := #[{ on := 6, ground := Ground.data }, { on := 6, ground := Ground.data }], guard := none }) rfl (fun K hK => ?_) ?_
    · go_simp
      refine hK.out _ _ (hB.m15).s (fun hHeld => ?_)
      clear hK K
      try simp only [List.setIfInBounds_toArray, List.set_cons_zero, List.set_cons_succ]
      exact G10101 _ _ _ _ _ _ _ (by kernel_rfl) hB.m15
    refine AllReadyH.cons (o := { dst := some 18, op := Op.makeSlice 25 (Operand.tmp 17) (Operand.tmp 17), type := 25, pos := "law.go:50", after := #[{ on := 9, ground := Ground.data }, { on := 9, ground := Ground.data }], guard := none }) rfl (fun K hK => ?_) ?_
    · go_simp
      refine hK.out _ _ (hB.m18).s (fun hHeld => ?_)
      clear hK K
      try simp only [List.setIfInBounds_toArray, List.set_cons_zero, List.set_cons_succ]
      exact G01101 _ _ _ _ _ _ _ (by kernel_rfl) hB.m18
    refine AllReadyH.cons (o := { dst := some 24, op := Op.makeSlice 37 (Operand.tmp 23) (Operand.tmp 23), type := 37, pos := "law.go:50", after := #[{ on := 15, ground := Ground.data }, { on := 15, ground := Ground.data }], guard := none }) rfl (fun K hK => ?_) AllReadyH.nil
    go_simp
    refine hK.out _ _ (hB.m24).s (fun hHeld => ?_)
    clear hK K
    try simp only [List.setIfInBounds_toArray, List.set_cons_zero, List.set_cons_succ]
    exact G00111 _ _ _ _ _ _ _ (by kernel_rfl) hB.m24
  have G00011 : ∀ (l : Array Bool) (g15 g18 g21 g24 g5 : Nat) (wx : World), l = #[true, true, true, true, true, true, true, false, true, true, false, true, true, false, true, true, true, false, true, false] → Bg w N B P Z ca fa ba n1 n2 n3 cc fc bc BP false false false true true g15 g18 g21 g24 g5 wx → wpAnyH Try.prog .any bgOps Q (BgS N B P Z ca fa ba n1 n2 n3 cc fc bc) 5 l { tmps := List.toArray ((.agg #[.int .i64 B, .int .i64 P, .int .i64 Z]) :: (.agg #[.slice ca n1 cc, .slice fa n2 fc, .slice ba n3 bc]) :: (.pointer (some ⟨N, 0, none⟩)) :: (.pointer (some ⟨N + 1, 0, none⟩)) :: (.pointer (some ⟨N + 1 + 1, 0, none⟩)) :: (.pointer (some ⟨g5, 0, none⟩)) :: undef :: undef :: (.agg #[.int .i64 B, .int .i64 P, .int .i64 Z]) :: (.agg #[.slice ca n1 cc, .slice fa n2 fc, .slice ba n3 bc]) :: (.pointer (some ⟨N, 0, none⟩)) :: (.int .i64 B) :: (.pointer (some ⟨N, 1, none⟩)) :: (.int .i64 P) :: (.int .i64 BP) :: undef :: (.pointer (some ⟨N, 0, none⟩)) :: (.int .i64 B) :: undef :: (.pointer (some ⟨N, 0, none⟩)) :: (.int .i64 B) :: undef :: (.pointer (some ⟨N, 0, none⟩)) :: (.int .i64 B) :: (.slice (some ⟨g24, 0, none⟩) B B) :: undef :: undef :: undef :: undef :: undef :: undef :: undef :: undef :: undef :: undef :: undef :: undef :: undef :: undef :: undef :: undef :: undef :: undef :: undef :: undef :: undef :: undef :: undef :: undef :: undef :: undef :: undef :: undef :: undef :: undef :: []), defers := [] } wx := by
    rintro l g15 g18 g21 g24 g5 wx rfl hB
    have hHeld := hB.s
    refine wpAnyH_ready (rs := [7, 10, 13]) (by kernel_rfl) (by simp) ?_
    refine AllReadyH.cons (o := { dst := some 15, op := Op.makeSlice 36 (Operand.tmp 14) (Operand.tmp 14), type := 36, pos := "law.go:50", after := #[{ on := 6, ground := Ground.data }, { on := 6, ground := Ground.data }], guard := none }) rfl (fun K hK => ?_) ?_
    · go_simp
      refine hK.out _ _ (hB.m15).s (fun hHeld => ?_)
      clear hK K
      try simp only [List.setIfInBounds_toArray, List.set_cons_zero, List.set_cons_succ]
      exact G10011 _ _ _ _ _ _ _ (by kernel_rfl) hB.m15
    refine AllReadyH.cons (o := { dst := some 18, op := Op.makeSlice 25 (Operand.tmp 17) (Operand.tmp 17), type := 25, pos := "law.go:50", after := #[{ on := 9, ground := Ground.data }, { on := 9, ground := Ground.data }], guard := none }) rfl (fun K hK => ?_) ?_
    · go_simp
      refine hK.out _ _ (hB.m18).s (fun hHeld => ?_)
      clear hK K
      try simp only [List.setIfInBounds_toArray, List.set_cons_zero, List.set_cons_succ]
      exact G01011 _ _ _ _ _ _ _ (by kernel_rfl) hB.m18
    refine AllReadyH.cons (o := { dst := some 21, op := Op.makeSlice 37 (Operand.tmp 20) (Operand.tmp 20), type := 37, pos := "law.go:50", after := #[{ on := 12, ground := Ground.data }, { on := 12, ground := Ground.data }], guard := none }) rfl (fun K hK => ?_) AllReadyH.nil
    go_simp
    refine hK.out _ _ (hB.m21).s (fun hHeld => ?_)
    clear hK K
    try simp only [List.setIfInBounds_toArray, List.set_cons_zero, List.set_cons_succ]
    exact G00111 _ _ _ _ _ _ _ (by kernel_rfl) hB.m21
  have G10000 : ∀ (l : Array Bool) (g15 g18 g21 g24 g5 : Nat) (wx : World), l = #[true, true, true, true, true, true, true, true, true, true, false, true, true, false, true, true, false, false, false, false] → Bg w N B P Z ca fa ba n1 n2 n3 cc fc bc BP true false false false false g15 g18 g21 g24 g5 wx → wpAnyH Try.prog .any bgOps Q (BgS N B P Z ca fa ba n1 n2 n3 cc fc bc) 6 l { tmps := List.toArray ((.agg #[.int .i64 B, .int .i64 P, .int .i64 Z]) :: (.agg #[.slice ca n1 cc, .slice fa n2 fc, .slice ba n3 bc]) :: (.pointer (some ⟨N, 0, none⟩)) :: (.pointer (some ⟨N + 1, 0, none⟩)) :: (.pointer (some ⟨N + 1 + 1, 0, none⟩)) :: undef :: undef :: undef :: (.agg #[.int .i64 B, .int .i64 P, .int .i64 Z]) :: (.agg #[.slice ca n1 cc, .slice fa n2 fc, .slice ba n3 bc]) :: (.pointer (some ⟨N, 0, none⟩)) :: (.int .i64 B) :: (.pointer (some ⟨N, 1, none⟩)) :: (.int .i64 P) :: (.int .i64 BP) :: (.slice (some ⟨g15, 0, none⟩) BP BP) :: (.pointer (some ⟨N, 0, none⟩)) :: (.int .i64 B) :: undef :: (.pointer (some ⟨N, 0, none⟩)) :: (.int .i64 B) :: undef :: (.pointer (some ⟨N, 0, none⟩)) :: (.int .i64 B) :: undef :: undef :: undef :: undef :: undef :: undef :: undef :: undef :: undef :: undef :: undef :: undef :: undef :: undef :: undef :: undef :: undef :: undef :: undef :: undef :: undef :: undef :: undef :: undef :: undef :: undef :: undef :: undef :: undef :: undef :: undef :: []), defers := [] } wx := by
    rintro l g15 g18 g21 g24 g5 wx rfl hB
    have hHeld := hB.s
    refine wpAnyH_ready (rs := [10, 13, 16, 18]) (by kernel_rfl) (by simp) ?_
    refine AllReadyH.cons (o := { dst := some 18, op := Op.makeSlice 25 (Operand.tmp 17) (Operand.tmp 17), type := 25, pos := "law.go:50", after := #[{ on := 9, ground := Ground.data }, { on := 9, ground := Ground.data }], guard := none }) rfl (fun K hK => ?_) ?_
    · go_simp
      refine hK.out _ _ (hB.m18).s (fun hHeld => ?_)
      clear hK K
      try simp only [List.setIfInBounds_toArray, List.set_cons_zero, List.set_cons_succ]
      exact G11000 _ _ _ _ _ _ _ (by kernel_rfl) hB.m18
    refine AllReadyH.cons (o := { dst := some 21, op := Op.makeSlice 37 (Operand.tmp 20) (Operand.tmp 20), type := 37, pos := "law.go:50", after := #[{ on := 12, ground := Ground.data }, { on := 12, ground := Ground.data }], guard := none }) rfl (fun K hK => ?_) ?_
    · go_simp
      refine hK.out _ _ (hB.m21).s (fun hHeld => ?_)
      clear hK K
      try simp only [List.setIfInBounds_toArray, List.set_cons_zero, List.set_cons_succ]
      exact G10100 _ _ _ _ _ _ _ (by kernel_rfl) hB.m21
    refine AllReadyH.cons (o := { dst := some 24, op := Op.makeSlice 37 (Operand.tmp 23) (Operand.tmp 23), type := 37, pos := "law.go:50", after := #[{ on := 15, ground := Ground.data }, { on := 15, ground := Ground.data }], guard := none }) rfl (fun K hK => ?_) ?_
    · go_simp
      refine hK.out _ _ (hB.m24).s (fun hHeld => ?_)
      clear hK K
      try simp only [List.setIfInBounds_toArray, List.set_cons_zero, List.set_cons_succ]
      exact G10010 _ _ _ _ _ _ _ (by kernel_rfl) hB.m24
    refine AllReadyH.cons (o := { dst := some 5, op := Op.alloc 39, type := 0, pos := "law.go:50", after := #[], guard := none }) rfl (fun K hK => ?_) AllReadyH.nil
    go_simp
    refine hK.out _ _ (hB.m5).s (fun hHeld => ?_)
    clear hK K
    try simp only [List.setIfInBounds_toArray, List.set_cons_zero, List.set_cons_succ]
    exact G10001 _ _ _ _ _ _ _ (by kernel_rfl) hB.m5
  have G01000 : ∀ (l : Array Bool) (g15 g18 g21 g24 g5 : Nat) (wx : World), l = #[true, true, true, true, true, true, true, false, true, true, true, true, true, false, true, true, false, false, false, false] → Bg w N B P Z ca fa ba n1 n2 n3 cc fc bc BP false true false false false g15 g18 g21 g24 g5 wx → wpAnyH Try.prog .any bgOps Q (BgS N B P Z ca fa ba n1 n2 n3 cc fc bc) 6 l { tmps := List.toArray ((.agg #[.int .i64 B, .int .i64 P, .int .i64 Z]) :: (.agg #[.slice ca n1 cc, .slice fa n2 fc, .slice ba n3 bc]) :: (.pointer (some ⟨N, 0, none⟩)) :: (.pointer (some ⟨N + 1, 0, none⟩)) :: (.pointer (some ⟨N + 1 + 1, 0, none⟩)) :: undef :: undef :: undef :: (.agg #[.int .i64 B, .int .i64 P, .int .i64 Z]) :: (.agg #[.slice ca n1 cc, .slice fa n2 fc, .slice ba n3 bc]) :: (.pointer (some ⟨N, 0, none⟩)) :: (.int .i64 B) :: (.pointer (some ⟨N, 1, none⟩)) :: (.int .i64 P) :: (.int .i64 BP) :: undef :: (.pointer (some ⟨N, 0, none⟩)) :: (.int .i64 B) :: (.slice (some ⟨g18, 0, none⟩) B B) :: (.pointer (some ⟨N, 0, none⟩)) :: (.int .i64 B) :: undef :: (.pointer (some ⟨N, 0, none⟩)) :: (.int .i64 B) :: undef :: undef :: undef :: undef :: undef :: undef :: undef :: undef :: undef :: undef :: undef :: undef :: undef :: undef :: undef :: undef :: undef :: undef :: undef :: undef :: undef :: undef :: undef :: undef :: undef :: undef :: undef :: undef :: undef :: undef :: undef :: []), defers := [] } wx := by
    rintro l g15 g18 g21 g24 g5 wx rfl hB
    have hHeld := hB.s
    refine wpAnyH_ready (rs := [7, 13, 16, 18]) (by kernel_rfl) (by simp) ?_
    refine AllReadyH.cons (o := { dst := some 15, op := Op.makeSlice 36 (Operand.tmp 14) (Operand.tmp 14), type := 36, pos := "law.go:50", after := #[{ on := 6, ground := Ground.data }, { on := 6, ground := Ground.data }], guard := none }) rfl (fun K hK => ?_) ?_
    · go_simp
      refine hK.out _ _ (hB.m15).s (fun hHeld => ?_)
      clear hK K
      try simp only [List.setIfInBounds_toArray, List.set_cons_zero, List.set_cons_succ]
      exact G11000 _ _ _ _ _ _ _ (by kernel_rfl) hB.m15
    refine AllReadyH.cons (o := { dst := some 21, op := Op.makeSlice 37 (Operand.tmp 20) (Operand.tmp 20), type := 37, pos := "law.go:50", after := #[{ on := 12, ground := Ground.data }, { on := 12, ground := Ground.data }], guard := none }) rfl (fun K hK => ?_) ?_
    · go_simp
      refine hK.out _ _ (hB.m21).s (fun hHeld => ?_)
      clear hK K
      try simp only [List.setIfInBounds_toArray, List.set_cons_zero, List.set_cons_succ]
      exact G01100 _ _ _ _ _ _ _ (by kernel_rfl) hB.m21
    refine AllReadyH.cons (o := { dst := some 24, op := Op.makeSlice 37 (Operand.tmp 23) (Operand.tmp 23), type := 37, pos := "law.go:50", after := #[{ on := 15, ground := Ground.data }, { on := 15, ground := Ground.data }], guard := none }) rfl (fun K hK => ?_) ?_
    · go_simp
      refine hK.out _ _ (hB.m24).s (fun hHeld => ?_)
      clear hK K
      try simp only [List.setIfInBounds_toArray, List.set_cons_zero, List.set_cons_succ]
      exact G01010 _ _ _ _ _ _ _ (by kernel_rfl) hB.m24
    refine AllReadyH.cons (o := { dst := some 5, op := Op.alloc 39, type := 0, pos := "law.go:50", after := #[], guard := none }) rfl (fun K hK => ?_) AllReadyH.nil
    go_simp
    refine hK.out _ _ (hB.m5).s (fun hHeld => ?_)
    clear hK K
    try simp only [List.setIfInBounds_toArray, List.set_cons_zero, List.set_cons_succ]
    exact G01001 _ _ _ _ _ _ _ (by kernel_rfl) hB.m5
  have G00100 : ∀ (l : Array Bool) (g15 g18 g21 g24 g5 : Nat) (wx : World), l = #[true, true, true, true, true, true, true, false, true, true, false, true, true, true, true, true, false, false, false, false] → Bg w N B P Z ca fa ba n1 n2 n3 cc fc bc BP false false true false false g15 g18 g21 g24 g5 wx → wpAnyH Try.prog .any bgOps Q (BgS N B P Z ca fa ba n1 n2 n3 cc fc bc) 6 l { tmps := List.toArray ((.agg #[.int .i64 B, .int .i64 P, .int .i64 Z]) :: (.agg #[.slice ca n1 cc, .slice fa n2 fc, .slice ba n3 bc]) :: (.pointer (some ⟨N, 0, none⟩)) :: (.pointer (some ⟨N + 1, 0, none⟩)) :: (.pointer (some ⟨N + 1 + 1, 0, none⟩)) :: undef :: undef :: undef :: (.agg #[.int .i64 B, .int .i64 P, .int .i64 Z]) :: (.agg #[.slice ca n1 cc, .slice fa n2 fc, .slice ba n3 bc]) :: (.pointer (some ⟨N, 0, none⟩)) :: (.int .i64 B) :: (.pointer (some ⟨N, 1, none⟩)) :: (.int .i64 P) :: (.int .i64 BP) :: undef :: (.pointer (some ⟨N, 0, none⟩)) :: (.int .i64 B) :: undef :: (.pointer (some ⟨N, 0, none⟩)) :: (.int .i64 B) :: (.slice (some ⟨g21, 0, none⟩) B B) :: (.pointer (some ⟨N, 0, none⟩)) :: (.int .i64 B) :: undef :: undef :: undef :: undef :: undef :: undef :: undef :: undef :: undef :: undef :: undef :: undef :: undef :: undef :: undef :: undef :: undef :: undef :: undef :: undef :: undef :: undef :: undef :: undef :: undef :: undef :: undef :: undef :: undef :: undef :: undef :: []), defers := [] } wx := by
    rintro l g15 g18 g21 g24 g5 wx rfl hB
    have hHeld := hB.s
    refine wpAnyH_ready (rs := [7, 10, 16, 18]) (by kernel_rfl) (by simp) ?_
    refine AllReadyH.cons (o := { dst := some 15, op := Op.makeSlice 36 (Operand.tmp 14) (Operand.tmp 14), type := 36, pos := "law.go:50", after := #[{ on := 6, ground := Ground.data }, { on := 6, ground := Ground.data }], guard := none }) rfl (fun K hK => ?_) ?_
    · go_simp
      refine hK.out _ _ (hB.m15).s (fun hHeld => ?_)
      clear hK K
      try simp only [List.setIfInBounds_toArray, List.set_cons_zero, List.set_cons_succ]
      exact G10100 _ _ _ _ _ _ _ (by kernel_rfl) hB.m15
    refine AllReadyH.cons (o := { dst := some 18, op := Op.makeSlice 25 (Operand.tmp 17) (Operand.tmp 17), type := 25, pos := "law.go:50", after := #[{ on := 9, ground := Ground.data }, { on := 9, ground := Ground.data }], guard := none }) rfl (fun K hK => ?_) ?_
    · go_simp
      refine hK.out _ _ (hB.m18).s (fun hHeld => ?_)
      clear hK K
      try simp only [List.setIfInBounds_toArray, List.set_cons_zero, List.set_cons_succ]
      exact G01100 _ _ _ _ _ _ _ (by kernel_rfl) hB.m18
    refine AllReadyH.cons (o := { dst := some 24, op := Op.makeSlice 37 (Operand.tmp 23) (Operand.tmp 23), type := 37, pos := "law.go:50", after := #[{ on := 15, ground := Ground.data }, { on := 15, ground := Ground.data }], guard := none }) rfl (fun K hK => ?_) ?_
    · go_simp
      refine hK.out _ _ (hB.m24).s (fun hHeld => ?_)
      clear hK K
      try simp only [List.setIfInBounds_toArray, List.set_cons_zero, List.set_cons_succ]
      exact G00110 _ _ _ _ _ _ _ (by kernel_rfl) hB.m24
    refine AllReadyH.cons (o := { dst := some 5, op := Op.alloc 39, type := 0, pos := "law.go:50", after := #[], guard := none }) rfl (fun K hK => ?_) AllReadyH.nil
    go_simp
    refine hK.out _ _ (hB.m5).s (fun hHeld => ?_)
    clear hK K
    try simp only [List.setIfInBounds_toArray, List.set_cons_zero, List.set_cons_succ]
    exact G00101 _ _ _ _ _ _ _ (by kernel_rfl) hB.m5
  have G00010 : ∀ (l : Array Bool) (g15 g18 g21 g24 g5 : Nat) (wx : World), l = #[true, true, true, true, true, true, true, false, true, true, false, true, true, false, true, true, true, false, false, false] → Bg w N B P Z ca fa ba n1 n2 n3 cc fc bc BP false false false true false g15 g18 g21 g24 g5 wx → wpAnyH Try.prog .any bgOps Q (BgS N B P Z ca fa ba n1 n2 n3 cc fc bc) 6 l { tmps := List.toArray ((.agg #[.int .i64 B, .int .i64 P, .int .i64 Z]) :: (.agg #[.slice ca n1 cc, .slice fa n2 fc, .slice ba n3 bc]) :: (.pointer (some ⟨N, 0, none⟩)) :: (.pointer (some ⟨N + 1, 0, none⟩)) :: (.pointer (some ⟨N + 1 + 1, 0, none⟩)) :: undef :: undef :: undef :: (.agg #[.int .i64 B, .int .i64 P, .int .i64 Z]) :: (.agg #[.slice ca n1 cc, .slice fa n2 fc, .slice ba n3 bc]) :: (.pointer (some ⟨N, 0, none⟩)) :: (.int .i64 B) :: (.pointer (some ⟨N, 1, none⟩)) :: (.int .i64 P) :: (.int .i64 BP) :: undef :: (.pointer (some ⟨N, 0, none⟩)) :: (.int .i64 B) :: undef :: (.pointer (some ⟨N, 0, none⟩)) :: (.int .i64 B) :: undef :: (.pointer (some ⟨N, 0, none⟩)) :: (.int .i64 B) :: (.slice (some ⟨g24, 0, none⟩) B B) :: undef :: undef :: undef :: undef :: undef :: undef :: undef :: undef :: undef :: undef :: undef :: undef :: undef :: undef :: undef :: undef :: undef :: undef :: undef :: undef :: undef :: undef :: undef :: undef :: undef :: undef :: undef :: undef :: undef :: undef :: []), defers := [] } wx := by
    rintro l g15 g18 g21 g24 g5 wx rfl hB
    have hHeld := hB.s
    refine wpAnyH_ready (rs := [7, 10, 13, 18]) (by kernel_rfl) (by simp) ?_
    refine AllReadyH.cons (o := { dst := some 15, op := Op.makeSlice 36 (Operand.tmp 14) (Operand.tmp 14), type := 36, pos := "law.go:50", after := #[{ on := 6, ground := Ground.data }, { on := 6, ground := Ground.data }], guard := none }) rfl (fun K hK => ?_) ?_
    · go_simp
      refine hK.out _ _ (hB.m15).s (fun hHeld => ?_)
      clear hK K
      try simp only [List.setIfInBounds_toArray, List.set_cons_zero, List.set_cons_succ]
      exact G10010 _ _ _ _ _ _ _ (by kernel_rfl) hB.m15
    refine AllReadyH.cons (o := { dst := some 18, op := Op.makeSlice 25 (Operand.tmp 17) (Operand.tmp 17), type := 25, pos := "law.go:50", after := #[{ on := 9, ground := Ground.data }, { on := 9, ground := Ground.data }], guard := none }) rfl (fun K hK => ?_) ?_
    · go_simp
      refine hK.out _ _ (hB.m18).s (fun hHeld => ?_)
      clear hK K
      try simp only [List.setIfInBounds_toArray, List.set_cons_zero, List.set_cons_succ]
      exact G01010 _ _ _ _ _ _ _ (by kernel_rfl) hB.m18
    refine AllReadyH.cons (o := { dst := some 21, op := Op.makeSlice 37 (Operand.tmp 20) (Operand.tmp 20), type := 37, pos := "law.go:50", after := #[{ on := 12, ground := Ground.data }, { on := 12, ground := Ground.data }], guard := none }) rfl (fun K hK => ?_) ?_
    · go_simp
      refine hK.out _ _ (hB.m21).s (fun hHeld => ?_)
      clear hK K
      try simp only [List.setIfInBounds_toArray, List.set_cons_zero, List.set_cons_succ]
      exact G00110 _ _ _ _ _ _ _ (by kernel_rfl) hB.m21
    refine AllReadyH.cons (o := { dst := some 5, op := Op.alloc 39, type := 0, pos := "law.go:50", after := #[], guard := none }) rfl (fun K hK => ?_) AllReadyH.nil
    go_simp
    refine hK.out _ _ (hB.m5).s (fun hHeld => ?_)
    clear hK K
    try simp only [List.setIfInBounds_toArray, List.set_cons_zero, List.set_cons_succ]
    exact G00011 _ _ _ _ _ _ _ (by kernel_rfl) hB.m5
  have G00001 : ∀ (l : Array Bool) (g15 g18 g21 g24 g5 : Nat) (wx : World), l = #[true, true, true, true, true, true, true, false, true, true, false, true, true, false, true, true, false, false, true, false] → Bg w N B P Z ca fa ba n1 n2 n3 cc fc bc BP false false false false true g15 g18 g21 g24 g5 wx → wpAnyH Try.prog .any bgOps Q (BgS N B P Z ca fa ba n1 n2 n3 cc fc bc) 6 l { tmps := List.toArray ((.agg #[.int .i64 B, .int .i64 P, .int .i64 Z]) :: (.agg #[.slice ca n1 cc, .slice fa n2 fc, .slice ba n3 bc]) :: (.pointer (some ⟨N, 0, none⟩)) :: (.pointer (some ⟨N + 1, 0, none⟩)) :: (.pointer (some ⟨N + 1 + 1, 0, none⟩)) :: (.pointer (some ⟨g5, 0, none⟩)) :: undef :: undef :: (.agg #[.int .i64 B, .int .i64 P, .int .i64 Z]) :: (.agg #[.slice ca n1 cc, .slice fa n2 fc, .slice ba n3 bc]) :: (.pointer (some ⟨N, 0, none⟩)) :: (.int .i64 B) :: (.pointer (some ⟨N, 1, none⟩)) :: (.int .i64 P) :: (.int .i64 BP) :: undef :: (.pointer (some ⟨N, 0, none⟩)) :: (.int .i64 B) :: undef :: (.pointer (some ⟨N, 0, none⟩)) :: (.int .i64 B) :: undef :: (.pointer (some ⟨N, 0, none⟩)) :: (.int .i64 B) :: undef :: undef :: undef :: undef :: undef :: undef :: undef :: undef :: undef :: undef :: undef :: undef :: undef :: undef :: undef :: undef :: undef :: undef :: undef :: undef :: undef :: undef :: undef :: undef :: undef :: undef :: undef :: undef :: undef :: undef :: undef :: []), defers := [] } wx := by
    rintro l g15 g18 g21 g24 g5 wx rfl hB
    have hHeld := hB.s
    refine wpAnyH_ready (rs := [7, 10, 13, 16]) (by kernel_rfl) (by simp) ?_
    refine AllReadyH.cons (o := { dst := some 15, op := Op.makeSlice 36 (Operand.tmp 14) (Operand.tmp 14), type := 36, pos := "law.go:50", after := #[{ on := 6, ground := Ground.data }, { on := 6, ground := Ground.data }], guard := none }) rfl (fun K hK => ?_) ?_
    · go_simp
      refine hK.out _ _ (hB.m15).s (fun hHeld => ?_)
      clear hK K
      try simp only [List.setIfInBounds_toArray, List.set_cons_zero, List.set_cons_succ]
      exact G10001 _ _ _ _ _ _ _ (by kernel_rfl) hB.m15
    refine AllReadyH.cons (o := { dst := some 18, op := Op.makeSlice 25 (Operand.tmp 17) (Operand.tmp 17), type := 25, pos := "law.go:50", after := #[{ on := 9, ground := Ground.data }, { on := 9, ground := Ground.data }], guard := none }) rfl (fun K hK => ?_) ?_
    · go_simp
      refine hK.out _ _ (hB.m18).s (fun hHeld => ?_)
      clear hK K
      try simp only [List.setIfInBounds_toArray, List.set_cons_zero, List.set_cons_succ]
      exact G01001 _ _ _ _ _ _ _ (by kernel_rfl) hB.m18
    refine AllReadyH.cons (o := { dst := some 21, op := Op.makeSlice 37 (Operand.tmp 20) (Operand.tmp 20), type := 37, pos := "law.go:50", after := #[{ on := 12, ground := Ground.data }, { on := 12, ground := Ground.data }], guard := none }) rfl (fun K hK => ?_) ?_
    · go_simp
      refine hK.out _ _ (hB.m21).s (fun hHeld => ?_)
      clear hK K
      try simp only [List.setIfInBounds_toArray, List.set_cons_zero, List.set_cons_succ]
      exact G00101 _ _ _ _ _ _ _ (by kernel_rfl) hB.m21
    refine AllReadyH.cons (o := { dst := some 24, op := Op.makeSlice 37 (Operand.tmp 23) (Operand.tmp 23), type := 37, pos := "law.go:50", after := #[{ on := 15, ground := Ground.data }, { on := 15, ground := Ground.data }], guard := none }) rfl (fun K hK => ?_) AllReadyH.nil
    go_simp
    refine hK.out _ _ (hB.m24).s (fun hHeld => ?_)
    clear hK K
    try simp only [List.setIfInBounds_toArray, List.set_cons_zero, List.set_cons_succ]
    exact G00011 _ _ _ _ _ _ _ (by kernel_rfl) hB.m24
  have G00000 : ∀ (l : Array Bool) (g15 g18 g21 g24 g5 : Nat) (wx : World), l = #[true, true, true, true, true, true, true, false, true, true, false, true, true, false, true, true, false, false, false, false] → Bg w N B P Z ca fa ba n1 n2 n3 cc fc bc BP false false false false false g15 g18 g21 g24 g5 wx → wpAnyH Try.prog .any bgOps Q (BgS N B P Z ca fa ba n1 n2 n3 cc fc bc) 7 l { tmps := List.toArray ((.agg #[.int .i64 B, .int .i64 P, .int .i64 Z]) :: (.agg #[.slice ca n1 cc, .slice fa n2 fc, .slice ba n3 bc]) :: (.pointer (some ⟨N, 0, none⟩)) :: (.pointer (some ⟨N + 1, 0, none⟩)) :: (.pointer (some ⟨N + 1 + 1, 0, none⟩)) :: undef :: undef :: undef :: (.agg #[.int .i64 B, .int .i64 P, .int .i64 Z]) :: (.agg #[.slice ca n1 cc, .slice fa n2 fc, .slice ba n3 bc]) :: (.pointer (some ⟨N, 0, none⟩)) :: (.int .i64 B) :: (.pointer (some ⟨N, 1, none⟩)) :: (.int .i64 P) :: (.int .i64 BP) :: undef :: (.pointer (some ⟨N, 0, none⟩)) :: (.int .i64 B) :: undef :: (.pointer (some ⟨N, 0, none⟩)) :: (.int .i64 B) :: undef :: (.pointer (some ⟨N, 0, none⟩)) :: (.int .i64 B) :: undef :: undef :: undef :: undef :: undef :: undef :: undef :: undef :: undef :: undef :: undef :: undef :: undef :: undef :: undef :: undef :: undef :: undef :: undef :: undef :: undef :: undef :: undef :: undef :: undef :: undef :: undef :: undef :: undef :: undef :: undef :: []), defers := [] } wx := by
    rintro l g15 g18 g21 g24 g5 wx rfl hB
    have hHeld := hB.s
    refine wpAnyH_ready (rs := [7, 10, 13, 16, 18]) (by kernel_rfl) (by simp) ?_
    refine AllReadyH.cons (o := { dst := some 15, op := Op.makeSlice 36 (Operand.tmp 14) (Operand.tmp 14), type := 36, pos := "law.go:50", after := #[{ on := 6, ground := Ground.data }, { on := 6, ground := Ground.data }], guard := none }) rfl (fun K hK => ?_) ?_
    · go_simp
      refine hK.out _ _ (hB.m15).s (fun hHeld => ?_)
      clear hK K
      try simp only [List.setIfInBounds_toArray, List.set_cons_zero, List.set_cons_succ]
      exact G10000 _ _ _ _ _ _ _ (by kernel_rfl) hB.m15
    refine AllReadyH.cons (o := { dst := some 18, op := Op.makeSlice 25 (Operand.tmp 17) (Operand.tmp 17), type := 25, pos := "law.go:50", after := #[{ on := 9, ground := Ground.data }, { on := 9, ground := Ground.data }], guard := none }) rfl (fun K hK => ?_) ?_
    · go_simp
      refine hK.out _ _ (hB.m18).s (fun hHeld => ?_)
      clear hK K
      try simp only [List.setIfInBounds_toArray, List.set_cons_zero, List.set_cons_succ]
      exact G01000 _ _ _ _ _ _ _ (by kernel_rfl) hB.m18
    refine AllReadyH.cons (o := { dst := some 21, op := Op.makeSlice 37 (Operand.tmp 20) (Operand.tmp 20), type := 37, pos := "law.go:50", after := #[{ on := 12, ground := Ground.data }, { on := 12, ground := Ground.data }], guard := none }) rfl (fun K hK => ?_) ?_
    · go_simp
      refine hK.out _ _ (hB.m21).s (fun hHeld => ?_)
      clear hK K
      try simp only [List.setIfInBounds_toArray, List.set_cons_zero, List.set_cons_succ]
      exact G00100 _ _ _ _ _ _ _ (by kernel_rfl) hB.m21
    refine AllReadyH.cons (o := { dst := some 24, op := Op.makeSlice 37 (Operand.tmp 23) (Operand.tmp 23), type := 37, pos := "law.go:50", after := #[{ on := 15, ground := Ground.data }, { on := 15, ground := Ground.data }], guard := none }) rfl (fun K hK => ?_) ?_
    · go_simp
      refine hK.out _ _ (hB.m24).s (fun hHeld => ?_)
      clear hK K
      try simp only [List.setIfInBounds_toArray, List.set_cons_zero, List.set_cons_succ]
      exact G00010 _ _ _ _ _ _ _ (by kernel_rfl) hB.m24
    refine AllReadyH.cons (o := { dst := some 5, op := Op.alloc 39, type := 0, pos := "law.go:50", after := #[], guard := none }) rfl (fun K hK => ?_) AllReadyH.nil
    go_simp
    refine hK.out _ _ (hB.m5).s (fun hHeld => ?_)
    clear hK K
    try simp only [List.setIfInBounds_toArray, List.set_cons_zero, List.set_cons_succ]
    exact G00001 _ _ _ _ _ _ _ (by kernel_rfl) hB.m5
  exact G00000
set_option maxRecDepth 100000 in
set_option maxHeartbeats 8000000 in
theorem bg_reg {Q : Exit → Act → World → Prop} (w : World) (N B P Z : Nat) (ca fa ba : Option Addr) (n1 n2 n3 cc fc bc BP : Nat) (hN : w.heap.size ≤ N) (hQ : ∀ c (a : Act) (d : Nat) (v : Value) (w : World), Q (.panic c) (a.put (some d) v) w → Q (.panic c) a w) (m15 : ∀ w, (Instr.makeSlice 36 (.int .i64 BP) (.int .i64 BP)).run Try.prog w = .ok (.slice (some ⟨w.heap.size, 0, none⟩) BP BP) (w.alloc (.cells (madeCells #[.string ⟨#[]⟩] BP) 9))) (m18 : ∀ w, (Instr.makeSlice 25 (.int .i64 B) (.int .i64 B)).run Try.prog w = .ok (.slice (some ⟨w.heap.size, 0, none⟩) B B) (w.alloc (.cells (madeCells #[.int .i64 0] B) 3))) (m21 : ∀ w, (Instr.makeSlice 37 (.int .i64 B) (.int .i64 B)).run Try.prog w = .ok (.slice (some ⟨w.heap.size, 0, none⟩) B B) (w.alloc (.cells (madeCells #[.bool false] B) 4))) (hBP : IntKind.i64.wrap ((B : Int) * P) = BP) (hend : ∀ (g15 g18 g21 g24 g5 : Nat) (wx : World), BgE w N B P Z ca fa ba n1 n2 n3 cc fc bc BP g15 g18 g21 g24 g5 wx → Q .normal { tmps := List.toArray ((.agg #[.int .i64 B, .int .i64 P, .int .i64 Z]) :: (.agg #[.slice ca n1 cc, .slice fa n2 fc, .slice ba n3 bc]) :: (.pointer (some ⟨N, 0, none⟩)) :: (.pointer (some ⟨N + 1, 0, none⟩)) :: (.pointer (some ⟨N + 1 + 1, 0, none⟩)) :: (.pointer (some ⟨g5, 0, none⟩)) :: undef :: undef :: (.agg #[.int .i64 B, .int .i64 P, .int .i64 Z]) :: (.agg #[.slice ca n1 cc, .slice fa n2 fc, .slice ba n3 bc]) :: (.pointer (some ⟨N, 0, none⟩)) :: (.int .i64 B) :: (.pointer (some ⟨N, 1, none⟩)) :: (.int .i64 P) :: (.int .i64 BP) :: (.slice (some ⟨g15, 0, none⟩) BP BP) :: (.pointer (some ⟨N, 0, none⟩)) :: (.int .i64 B) :: (.slice (some ⟨g18, 0, none⟩) B B) :: (.pointer (some ⟨N, 0, none⟩)) :: (.int .i64 B) :: (.slice (some ⟨g21, 0, none⟩) B B) :: (.pointer (some ⟨N, 0, none⟩)) :: (.int .i64 B) :: (.slice (some ⟨g24, 0, none⟩) B B) :: (.agg #[.int .i64 B, .int .i64 P, .int .i64 Z, .slice ca n1 cc, .slice fa n2 fc, .slice ba n3 bc, .slice (some ⟨g15, 0, none⟩) BP BP, .slice (some ⟨g18, 0, none⟩) B B, .slice (some ⟨g21, 0, none⟩) B B, .slice (some ⟨g24, 0, none⟩) B B, .int .i64 0, .bool false]) :: undef :: undef :: undef :: undef :: undef :: undef :: undef :: undef :: undef :: undef :: undef :: undef :: undef :: undef :: undef :: undef :: undef :: undef :: undef :: undef :: undef :: undef :: undef :: undef :: undef :: undef :: undef :: undef :: undef :: []), defers := [] } wx) {id : Nat} {wx : World} {g15 g18 g21 g24 g5 : Nat} (hB : Bg w N B P Z ca fa ba n1 n2 n3 cc fc bc BP false false false false false g15 g18 g21 g24 g5 wx) : (Code.region id bgOps true).wp Try.prog Q { tmps := List.toArray ((.agg #[.int .i64 B, .int .i64 P, .int .i64 Z]) :: (.agg #[.slice ca n1 cc, .slice fa n2 fc, .slice ba n3 bc]) :: (.pointer (some ⟨N, 0, none⟩)) :: (.pointer (some ⟨N + 1, 0, none⟩)) :: (.pointer (some ⟨N + 1 + 1, 0, none⟩)) :: undef :: undef :: undef :: undef :: undef :: undef :: undef :: undef :: undef :: undef :: undef :: undef :: undef :: undef :: undef :: undef :: undef :: undef :: undef :: undef :: undef :: undef :: undef :: undef :: undef :: undef :: undef :: undef :: undef :: undef :: undef :: undef :: undef :: undef :: undef :: undef :: undef :: undef :: undef :: undef :: undef :: undef :: undef :: undef :: undef :: undef :: undef :: undef :: undef :: undef :: []), defers := [] } wx := by
  refine wp_region_held_drew (S := (BgS N B P Z ca fa ba n1 n2 n3 cc fc bc)) (by kernel_rfl) hB.drew.s (fun hHeld => ?_)
  refine wpAnyH_take (i := 0) (oi := { dst := some 8, op := Op.load 23 (Operand.tmp 2), type := 23, pos := "law.go:50", after := #[], guard := none }) (v := ?vv0n3) rfl (by kernel_rfl) (by kernel_rfl) (by kernel_rfl) (fun c a w h => hQ c a _ _ w h) (Or.inl ⟨by rfl, ?yy0n3⟩) hHeld ?rr0n3
  case yy0n3 => (intro w0 hSw; obtain ⟨s0, s1, s2, s3, s4, s5, _, _⟩ := hSw; go_simp; try with_reducible rfl)
  try simp only [Act.put, List.setIfInBounds_toArray, List.set_cons_zero, List.set_cons_succ]
  refine wpAnyH_take (i := 1) (oi := { dst := some 9, op := Op.load 27 (Operand.tmp 3), type := 27, pos := "law.go:50", after := #[], guard := none }) (v := ?vv1n4) rfl (by kernel_rfl) (by kernel_rfl) (by kernel_rfl) (fun c a w h => hQ c a _ _ w h) (Or.inl ⟨by rfl, ?yy1n4⟩) hHeld ?rr1n4
  case yy1n4 => (intro w0 hSw; obtain ⟨s0, s1, s2, s3, s4, s5, _, _⟩ := hSw; go_simp; try with_reducible rfl)
  try simp only [Act.put, List.setIfInBounds_toArray, List.set_cons_zero, List.set_cons_succ]
  refine wpAnyH_take (i := 2) (oi := { dst := some 10, op := Op.fieldAddr 23 (Operand.tmp 2) 0, type := 0, pos := "law.go:50", after := #[], guard := none }) (v := ?vv2n5) rfl (by kernel_rfl) (by kernel_rfl) (by kernel_rfl) (fun c a w h => hQ c a _ _ w h) (Or.inl ⟨by rfl, ?yy2n5⟩) hHeld ?rr2n5
  case yy2n5 => (intro w0 hSw; obtain ⟨s0, s1, s2, s3, s4, s5, _, _⟩ := hSw; go_simp; try with_reducible rfl)
  try simp only [Act.put, List.setIfInBounds_toArray, List.set_cons_zero, List.set_cons_succ]
  refine wpAnyH_take (i := 3) (oi := { dst := some 11, op := Op.load 3 (Operand.tmp 10), type := 3, pos := "law.go:50", after := #[{ on := 2, ground := Ground.data }], guard := none }) (v := ?vv3n6) rfl (by kernel_rfl) (by kernel_rfl) (by kernel_rfl) (fun c a w h => hQ c a _ _ w h) (Or.inl ⟨by rfl, ?yy3n6⟩) hHeld ?rr3n6
  case yy3n6 => (intro w0 hSw; obtain ⟨s0, s1, s2, s3, s4, s5, _, _⟩ := hSw; go_simp; try with_reducible rfl)
  try simp only [Act.put, List.setIfInBounds_toArray, List.set_cons_zero, List.set_cons_succ]
  refine wpAnyH_take (i := 4) (oi := { dst := some 12, op := Op.fieldAddr 23 (Operand.tmp 2) 1, type := 0, pos := "law.go:50", after := #[], guard := none }) (v := ?vv4n7) rfl (by kernel_rfl) (by kernel_rfl) (by kernel_rfl) (fun c a w h => hQ c a _ _ w h) (Or.inl ⟨by rfl, ?yy4n7⟩) hHeld ?rr4n7
  case yy4n7 => (intro w0 hSw; obtain ⟨s0, s1, s2, s3, s4, s5, _, _⟩ := hSw; go_simp; try with_reducible rfl)
  try simp only [Act.put, List.setIfInBounds_toArray, List.set_cons_zero, List.set_cons_succ]
  refine wpAnyH_take (i := 5) (oi := { dst := some 13, op := Op.load 3 (Operand.tmp 12), type := 3, pos := "law.go:50", after := #[{ on := 4, ground := Ground.data }], guard := none }) (v := ?vv5n8) rfl (by kernel_rfl) (by kernel_rfl) (by kernel_rfl) (fun c a w h => hQ c a _ _ w h) (Or.inl ⟨by rfl, ?yy5n8⟩) hHeld ?rr5n8
  case yy5n8 => (intro w0 hSw; obtain ⟨s0, s1, s2, s3, s4, s5, _, _⟩ := hSw; go_simp; try with_reducible rfl)
  try simp only [Act.put, List.setIfInBounds_toArray, List.set_cons_zero, List.set_cons_succ]
  refine wpAnyH_take (i := 6) (oi := { dst := some 14, op := Op.binOp BinOp.mul 3 (Operand.tmp 11) (Operand.tmp 13) 3, type := 3, pos := "law.go:50", after := #[{ on := 3, ground := Ground.data }, { on := 5, ground := Ground.data }], guard := none }) (v := .int .i64 BP) rfl (by kernel_rfl) (by kernel_rfl) (by kernel_rfl) (fun c a w h => hQ c a _ _ w h) (Or.inl ⟨by rfl, ?yy6n9⟩) hHeld ?rr6n9
  case yy6n9 => (intro w0 hSw; obtain ⟨s0, s1, s2, s3, s4, s5, _, _⟩ := hSw; go_simp; try with_reducible rfl)
  try simp only [Act.put, List.setIfInBounds_toArray, List.set_cons_zero, List.set_cons_succ]
  refine wpAnyH_take (i := 8) (oi := { dst := some 16, op := Op.fieldAddr 23 (Operand.tmp 2) 0, type := 0, pos := "law.go:50", after := #[], guard := none }) (v := ?vv8n10) rfl (by kernel_rfl) (by kernel_rfl) (by kernel_rfl) (fun c a w h => hQ c a _ _ w h) (Or.inl ⟨by rfl, ?yy8n10⟩) hHeld ?rr8n10
  case yy8n10 => (intro w0 hSw; obtain ⟨s0, s1, s2, s3, s4, s5, _, _⟩ := hSw; go_simp; try with_reducible rfl)
  try simp only [Act.put, List.setIfInBounds_toArray, List.set_cons_zero, List.set_cons_succ]
  refine wpAnyH_take (i := 9) (oi := { dst := some 17, op := Op.load 3 (Operand.tmp 16), type := 3, pos := "law.go:50", after := #[{ on := 8, ground := Ground.data }], guard := none }) (v := ?vv9n11) rfl (by kernel_rfl) (by kernel_rfl) (by kernel_rfl) (fun c a w h => hQ c a _ _ w h) (Or.inl ⟨by rfl, ?yy9n11⟩) hHeld ?rr9n11
  case yy9n11 => (intro w0 hSw; obtain ⟨s0, s1, s2, s3, s4, s5, _, _⟩ := hSw; go_simp; try with_reducible rfl)
  try simp only [Act.put, List.setIfInBounds_toArray, List.set_cons_zero, List.set_cons_succ]
  refine wpAnyH_take (i := 11) (oi := { dst := some 19, op := Op.fieldAddr 23 (Operand.tmp 2) 0, type := 0, pos := "law.go:50", after := #[], guard := none }) (v := ?vv11n12) rfl (by kernel_rfl) (by kernel_rfl) (by kernel_rfl) (fun c a w h => hQ c a _ _ w h) (Or.inl ⟨by rfl, ?yy11n12⟩) hHeld ?rr11n12
  case yy11n12 => (intro w0 hSw; obtain ⟨s0, s1, s2, s3, s4, s5, _, _⟩ := hSw; go_simp; try with_reducible rfl)
  try simp only [Act.put, List.setIfInBounds_toArray, List.set_cons_zero, List.set_cons_succ]
  refine wpAnyH_take (i := 12) (oi := { dst := some 20, op := Op.load 3 (Operand.tmp 19), type := 3, pos := "law.go:50", after := #[{ on := 11, ground := Ground.data }], guard := none }) (v := ?vv12n13) rfl (by kernel_rfl) (by kernel_rfl) (by kernel_rfl) (fun c a w h => hQ c a _ _ w h) (Or.inl ⟨by rfl, ?yy12n13⟩) hHeld ?rr12n13
  case yy12n13 => (intro w0 hSw; obtain ⟨s0, s1, s2, s3, s4, s5, _, _⟩ := hSw; go_simp; try with_reducible rfl)
  try simp only [Act.put, List.setIfInBounds_toArray, List.set_cons_zero, List.set_cons_succ]
  refine wpAnyH_take (i := 14) (oi := { dst := some 22, op := Op.fieldAddr 23 (Operand.tmp 2) 0, type := 0, pos := "law.go:50", after := #[], guard := none }) (v := ?vv14n14) rfl (by kernel_rfl) (by kernel_rfl) (by kernel_rfl) (fun c a w h => hQ c a _ _ w h) (Or.inl ⟨by rfl, ?yy14n14⟩) hHeld ?rr14n14
  case yy14n14 => (intro w0 hSw; obtain ⟨s0, s1, s2, s3, s4, s5, _, _⟩ := hSw; go_simp; try with_reducible rfl)
  try simp only [Act.put, List.setIfInBounds_toArray, List.set_cons_zero, List.set_cons_succ]
  refine wpAnyH_take (i := 15) (oi := { dst := some 23, op := Op.load 3 (Operand.tmp 22), type := 3, pos := "law.go:50", after := #[{ on := 14, ground := Ground.data }], guard := none }) (v := ?vv15n15) rfl (by kernel_rfl) (by kernel_rfl) (by kernel_rfl) (fun c a w h => hQ c a _ _ w h) (Or.inl ⟨by rfl, ?yy15n15⟩) hHeld ?rr15n15
  case yy15n15 => (intro w0 hSw; obtain ⟨s0, s1, s2, s3, s4, s5, _, _⟩ := hSw; go_simp; try with_reducible rfl)
  try simp only [Act.put, List.setIfInBounds_toArray, List.set_cons_zero, List.set_cons_succ]
  exact bg_mid w N B P Z ca fa ba n1 n2 n3 cc fc bc BP hN hQ m15 m18 m21 hend _ _ _ _ _ _ _ (by kernel_rfl) hB.drew
end Go.Proofs.Ytkfkepjegdaadaa
