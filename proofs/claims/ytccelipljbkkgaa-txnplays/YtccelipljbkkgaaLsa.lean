/-
  Changes that were not refused, in their order: what holds round by round. No condition.
-/
import Derived.Test.YtccelipljbkkgaaTxr
import Derived.Test.YtccelipljbkkgaaOpnC
namespace Go.Proofs.Ytccelipljbkkgaa
open Go Go.RowKit Go.Maps

/-- a change, as it is told -/
def nrm (c : Cg) : Cg := if c.r.1 = 1 then ⟨(1, c.r.2.1, c.r.2.2.1, 0, 0, 0), c.s⟩ else ⟨c.r, ByteArray.empty⟩
/-- a change done in a transaction, and the error -/
def stepL (X : TX) (c : Cg) : TX × Int := if c.r.1 = 1 then putX X c.r.2.1 c.r.2.2.1 c.s else doX X c.r.1 c.r.2.1 c.r.2.2.1 c.r.2.2.2.1 c.r.2.2.2.2.1 c.r.2.2.2.2.2
def runL (X : TX) (f : Nat → Cg) : Nat → TX
  | 0 => X
  | k + 1 => (stepL (runL X f k) (f k)).1
/-- what is not turned by a change -/
structure SameT (X Y : TX) : Prop where
  pl : Y.pl = X.pl
  ks : Y.ks = X.ks
  sz : Y.sz = X.sz
  fi : Y.fi = X.fi
theorem tryA_spec (X : TX) (c : Cg) (R : Ab × Int) : SameT X (tryA X c R).1 ∧ (((tryA X c R).2 = 0 ∧ (tryA X c R).1.cs = X.cs ++ [c] ∧ (tryA X c R).1.a = R.1 ∧ X.cs.length < 8) ∨ ((tryA X c R).2 ≠ 0 ∧ (tryA X c R).1 = X)) := by
  unfold tryA
  by_cases h1 : 8 ≤ X.cs.length
  · rw [if_pos h1]; exact ⟨⟨rfl, rfl, rfl, rfl⟩, .inr ⟨(show (171 : Int) ≠ 0 by decide), rfl⟩⟩
  rw [if_neg h1]
  by_cases h2 : R.2 ≠ 0
  · rw [if_pos h2]; exact ⟨⟨rfl, rfl, rfl, rfl⟩, .inr ⟨h2, rfl⟩⟩
  rw [if_neg h2]
  by_cases h3 : X.pl < (liveA R.1 : Int) ∨ X.ks < (pagesN R.1.sp : Int)
  · rw [if_pos h3]; exact ⟨⟨rfl, rfl, rfl, rfl⟩, .inr ⟨(show (172 : Int) ≠ 0 by decide), rfl⟩⟩
  rw [if_neg h3]
  exact ⟨⟨rfl, rfl, rfl, rfl⟩, .inl ⟨rfl, rfl, rfl, by omega⟩⟩
theorem stepL_spec (X : TX) (c : Cg) : SameT X (stepL X c).1 ∧ (((stepL X c).2 = 0 ∧ (stepL X c).1.cs = X.cs ++ [nrm c] ∧ X.cs.length < 8) ∨ ((stepL X c).2 ≠ 0 ∧ (stepL X c).1 = X)) := by
  have same : ∀ e : Int, e ≠ 0 → SameT X X ∧ ((e = 0 ∧ X.cs = X.cs ++ [nrm c] ∧ X.cs.length < 8) ∨ (e ≠ 0 ∧ X = X)) := fun e he => ⟨⟨rfl, rfl, rfl, rfl⟩, .inr ⟨he, rfl⟩⟩
  unfold stepL
  by_cases h : c.r.1 = 1
  · rw [if_pos h]
    unfold putX
    split
    · exact same 173 (by decide)
    · split
      · rename_i q; exact same _ q
      · have q := tryA_spec X ⟨(1, c.r.2.1, c.r.2.2.1, 0, 0, 0), c.s⟩ (layA X.a c.r.2.1 c.r.2.2.1 (X.fi + X.cs.length))
        refine ⟨q.1, q.2.imp (fun z => ⟨z.1, ?_, z.2.2.2⟩) id⟩
        rw [z.2.1]; unfold nrm; rw [if_pos h]
  · rw [if_neg h]
    unfold doX
    split
    · exact same 1 (by decide)
    · split
      · rename_i q; exact same _ q.2
      · have q := tryA_spec X ⟨(c.r.1, c.r.2.1, c.r.2.2.1, c.r.2.2.2.1, c.r.2.2.2.2.1, c.r.2.2.2.2.2), ByteArray.empty⟩ (apA X.a c.r.1 c.r.2.1 c.r.2.2.1 c.r.2.2.2.1 c.r.2.2.2.2.1 c.r.2.2.2.2.2)
        refine ⟨q.1, q.2.imp (fun z => ⟨z.1, ?_, z.2.2.2⟩) id⟩
        rw [z.2.1]; unfold nrm; rw [if_neg h]
theorem not_mapO {w : World} {R : Rdr} {b : Nat} {m : Pl} (h : Mp R w b m) {B e sz v rows} (o : Ow w B e sz v rows) : v.ownBlock ≠ some b := by
  intro q
  rcases o.own.2 with ⟨p, _⟩ | ⟨g', cap, cur, rfl, q1, q2, q3⟩
  · rw [p] at q; cases q
  · cases q
    exact not_map h q2 rfl
theorem foot_ne {w s} (h : StAt w s) {B e sz v rows} (o : Ow w B e sz v rows) (h1 : (68 : Nat) ≠ e) (h2 : (99 : Nat) ≠ e) : ∀ i ∈ foot s, v.ownBlock ≠ some i := by
  intro i hi
  simp only [foot, maps, List.mem_cons, List.mem_append, List.mem_map] at hi
  rcases hi with rfl | ⟨x, hx, rfl⟩ | rfl | rfl | rfl | rfl | ⟨x, hx, rfl⟩
  · exact o.ne h.hp h1
  · exact o.ne (h.hsp x hx).1 h2
  · exact not_mapO h.hS o
  · exact not_mapO h.hR o
  · exact not_mapO h.hB o
  · exact not_mapO h.hW o
  · exact not_mapO (h.hsp x hx).2 o
theorem TxH.frame {B g v X s w w'} (h : TxH B g v X s w) (e1 : w'.heap[g]? = w.heap[g]?) (e2 : ∀ i ∈ foot s, w'.heap[i]? = w.heap[i]?) (e3 : ∀ i, v.ownBlock = some i → w'.heap[i]? = w.heap[i]?) : TxH B g v X s w' :=
  ⟨e1.trans h.box, h.st.frame e2, h.eq, h.hi, h.ow.same e3, h.hg⟩
/-- another list of changes grows -/
theorem TxH.grown {B g v X s w w' B' vw rows} (h : TxH B g v X s w) (o : Ow w B' 49 7 vw rows) (hd : ∀ b, vw.ownBlock = some b → v.ownBlock ≠ some b) (q : w.grownBy w' vw.ownBlock) : TxH B g v X s w' := by
  refine h.frame (q.block g h.lt (fun e => o.ne h.box (by decide) e.symm)) (fun i hi => q.block i (h.st.at'.foot_lt i hi) (fun e => foot_ne h.st.at' o (by decide) (by decide) i hi e.symm)) (fun i hi => q.block i (h.ow.lt i hi).2 (fun e => hd i e.symm hi))
/-- what the rounds hold -/
structure LsS (w : World) (g : Nat) (X : TX) (vw : Value) (wr : World) (v : Value) (s : St) : Prop where
  tx : TxH w.heap.size g v X s wr
  wa : Ow wr w.heap.size 49 7 vw (X.cs.map cgR)
  ap : ∀ b, vw.ownBlock = some b → v.ownBlock ≠ some b
  bel : Below w.heap.size w wr
  fi : X.fi = 512
  n8 : X.cs.length ≤ 8
theorem LsS.call {w g X vw wr v s wr'} (h : LsS w g X vw wr v s) (b : Below wr.heap.size wr wr') : LsS w g X vw wr' v s :=
  ⟨h.tx.call b, h.wa.call b, h.ap, below3 h.bel b, h.fi, h.n8⟩
/-- a change is done: X' is what it leaves; what was told is still as it was -/
theorem LsS.did {w g X vw wr v s w2 v2} (h : LsS w g X vw wr v s) (d : Tch wr w2 g v v2) : Ow w2 w.heap.size 49 7 vw (X.cs.map cgR) ∧ (∀ b, vw.ownBlock = some b → v2.ownBlock ≠ some b) ∧ Below w.heap.size w w2 := by
  refine ⟨h.wa.same (fun b hb => d.block b (h.wa.lt b hb).2 (fun e => h.wa.ne h.tx.box (by decide) (e ▸ hb)) (fun e => h.ap b hb e)), fun b hb e => ?_, h.bel.trans (d.below h.bel.size h.tx.hg h.tx.vlow)⟩
  rcases d.own with q | ⟨b', q, hq⟩
  · exact h.ap b hb (q ▸ e)
  · rw [q] at e
    cases e
    have := (h.wa.lt _ hb).2
    omega
theorem LsS.keep {w g X vw wr v s w2 v2 s2} (h : LsS w g X vw wr v s) (t : TxH w.heap.size g v2 X s2 w2) (d : Tch wr w2 g v v2) : LsS w g X vw w2 v2 s2 := by
  obtain ⟨q1, q2, q3⟩ := h.did d
  exact ⟨t, q1, q2, q3, h.fi, h.n8⟩
theorem LsS.more {w g X vw wr v s w2 v2 s2 w3 v3} {X' : TX} {c : Cg} (h : LsS w g X vw wr v s) (t : TxH w.heap.size g v2 X' s2 w2) (d : Tch wr w2 g v v2) (he : X'.cs = X.cs ++ [c]) (hf : X'.fi = X.fi) (h8 : X.cs.length < 8)
    (o3 : Ow w3 w.heap.size 49 7 v3 (X.cs.map cgR ++ [cgR c])) (g3 : w2.grownBy w3 vw.ownBlock) (p3 : v3.ownBlock = vw.ownBlock ∨ ∃ b, v3.ownBlock = some b ∧ w2.heap.size ≤ b) : LsS w g X' v3 w3 v2 s2 := by
  obtain ⟨q1, q2, q3⟩ := h.did d
  have t3 := t.grown q1 q2 g3
  refine ⟨t3, ?_, fun b hb e => ?_, q3.grown g3 q3.size (fun b hb => (q1.lt b hb).1), hf.trans h.fi, by rw [he, List.length_append]; simp; omega⟩
  · rw [he, List.map_append]; exact o3
  · rcases p3 with p | ⟨b', p, hp⟩
    · exact q2 b (p ▸ hb) e
    · rw [p] at hb
      cases hb
      have := (t.ow.lt _ e).2
      omega
end Go.Proofs.Ytccelipljbkkgaa
