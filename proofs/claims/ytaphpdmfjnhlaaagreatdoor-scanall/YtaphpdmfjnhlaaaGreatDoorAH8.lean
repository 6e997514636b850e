/-
  The plain state as the answer's lists; a record makes the same of both. No condition. The answer's Live: at how many places pages stand. No condition. A space's dump: the records that make it of nothing. No condition. Dump: the records that make a state of nothing. No condition. The answer's Dump. No condition.
-/
import Derived.Test.YtaphpdmfjnhlaaaGreatDoorAH7
import Derived.Test.YtaphpdmfjnhlaaaGreatDoorAH4
import Derived.Test.YtaphpdmfjnhlaaaGreatDoorAH5
import Derived.Test.YtaphpdmfjnhlaaaGreatDoorAH6
import Derived.Deep.RegionHeld3
import Derived.Deep.AppendLies
namespace Go.Proofs.YtaphpdmfjnhlaaaGreatDoor.S8
open Go Go.RowKit Go.Maps
end Go.Proofs.YtaphpdmfjnhlaaaGreatDoor.S8
namespace Go.Proofs.YtaphpdmfjnhlaaaGreatDoor.S8
open Go Go.RowKit Go.Maps
end Go.Proofs.YtaphpdmfjnhlaaaGreatDoor.S8
namespace Go.Proofs.YtaphpdmfjnhlaaaGreatDoor.S8
open Go Go.RowKit Go.Maps
end Go.Proofs.YtaphpdmfjnhlaaaGreatDoor.S8
namespace Go.Proofs.YtaphpdmfjnhlaaaGreatDoor.S8
open Go Go.RowKit Go.Maps
section
variable {ops : Array Oper} {rest : List Oper} {o : Oper} {a : Act} {Q : Exit -> Act -> World -> Prop}
end
end Go.Proofs.YtaphpdmfjnhlaaaGreatDoor.S8
namespace Go.Proofs.YtaphpdmfjnhlaaaGreatDoor.S8
open Go Go.RowKit Go.Maps
section
variable {ops : Array Oper} {o : Oper} {a : Act} {K : Act -> World -> Prop} {Q : Exit -> Act -> World -> Prop} {E' : Prop}
theorem step_app {t e sz bytes : Nat} (E : EI t e sz bytes) {w : World} {B : Nat} {v : Value} {rows : Rws} (hgd : o.guard = none) (s x : Operand) (ho : o.op = .call { callee := .builtin .append, args := #[s, x], argTypes := #[t, t] })
  (h : Ow w B e sz v rows) (hB : B <= w.heap.size) (cs : Array Value) (hs : a.eval s = v) (hx : a.eval x = .slice (some ⟨w.heap.size, 0, none⟩) 1 1) (hc : cs.size = sz) (h1 : ∀ u ∈ cs.toList, u.oneCell' = true) (hn : rows.length < 1000000)
  (hK : ∀ v' w', Ow w' B e sz v' (rows ++ [cs.toList]) -> w.grownBy w' v.ownBlock -> (v'.ownBlock = v.ownBlock \/ ∃ g, v'.ownBlock = some g /\ w.heap.size <= g) -> K (a.put o.dst v') w') :
  if Region.wanted o (yielded ops a.tmps) = true then Oper.wp Tryz.prog o a (w.alloc (.cells cs e)) K Q else E' := by
 obtain ⟨i, z, q1, q2, q3, q4, q5⟩ := E.info
 have hl : cs.toList.length = 1 * sz := by rw [Array.length_toList, hc, Nat.one_mul]
 have hby : (rows.length + 1) * bytes <= 140737488355328 := by
  have := Nat.mul_le_mul_left (rows.length + 1) E.top
  omega
 refine step_append_lies _ hgd s x t ho B e i z sz bytes E.under q1 q2 q3 q4 q5 E.pos v rows.length rows.flatten hs (h.own.alloc _) ⟨w.heap.size, 0, none⟩ 1 1 cs.toList hx hl (lit_cells w cs e) h1 (by omega) (by simp [maxLen]; omega) hby (by rw [size_alloc]; omega) _ rfl (fun g cap w' p1 p2 p4 _ => ?_)
 have gr : w.grownBy w' v.ownBlock := by
  have g1 := World.grownBy_alloc w (.cells cs e) v.ownBlock
  exact ⟨p2.os.trans g1.os, p2.tape.trans g1.tape, p2.output.trans g1.output, Nat.le_trans g1.size p2.size, fun k hk hne => (p2.block k (Nat.lt_of_lt_of_le hk g1.size) hne).trans (g1.block k hk hne)⟩
 refine hK _ w' (h.more (by rw [hl, Nat.one_mul]) h1 p1) gr ?_
 rcases p4 with p4 | p4
 ·exact .inl p4.symm
 ·exact .inr ⟨g, rfl, by rw [p4, size_alloc]; omega⟩
end
end Go.Proofs.YtaphpdmfjnhlaaaGreatDoor.S8
