/-
  The places of a block, one behind the other: the contract of the iterator. No condition. A region that draws its order, in a round of a range over a function: walked as elsewhere, where none of its operations defers a call or asks a row. No condition. What a block's pages tell: the walk of lookInto. No condition.
-/
import Derived.RangeFuncNested
import Derived.RangeFuncBound
import Derived.RangeFuncCalls
import Derived.RangeFuncLeaves
import Derived.Shelf.Abstract
import Derived.Shelf.RegionOpen
import Derived.WalkKit
import Derived.OwnWalkIn
import Derived.TacticsInMore
import Derived.LoopNIn
import Derived.LoopIn
import Derived.Test.YtcmmhfjnhlaepabGreatDoorRD
import Derived.Test.YtcmmhfjnhlaepabGreatDoorRErb
import Derived.Test.YtcmmhfjnhlaepabGreatDoorRN1
namespace Go.Proofs.YtcmmhfjnhlaepabGreatDoor
open Go Go.RowKit Go.Shelf
attribute [local go_sem] Oper.semAt_some

/-- what the iterator reads, and a round that goes on keeps -/
def KpP (g1 g2 f : Nat) (W W' : World) : Prop := W'.heap[g1]? = W.heap[g1]? ∧ W'.heap[g2]? = W.heap[g2]? ∧ W'.heap[f]? = W.heap[f]?
theorem KpP.t {g1 g2 f : Nat} {A B C : World} (h : KpP g1 g2 f A B) (k : KpP g1 g2 f B C) : KpP g1 g2 f A C := ⟨k.1.trans h.1, k.2.1.trans h.2.1, k.2.2.trans h.2.2⟩
theorem KpP.b {g1 g2 f n : Nat} (h1 : g1 < n) (h2 : g2 < n) (h3 : f < n) (W : World) (l : Nat) (o' : Obj) (hl : n ≤ l) : KpP g1 g2 f W (W.putObj l o') :=
  ⟨World.putObj_heap_other (by omega), World.putObj_heap_other (by omega), World.putObj_heap_other (by omega)⟩
/-- what the iterator reads -/
def RdP (g1 g2 f b P : Nat) (w : World) : Prop := w.cell? ⟨g1, 0, none⟩ = some (.pointer (some ⟨f, 0, none⟩)) ∧ w.cell? ⟨g2, 0, none⟩ = some (.int .i64 b) ∧ w.cell? ⟨f, 2, none⟩ = some (.int .i64 P)
theorem RdP.kp {g1 g2 f b P : Nat} {w w' : World} (h : RdP g1 g2 f b P w) (k : KpP g1 g2 f w w') : RdP g1 g2 f b P w' := by
  obtain ⟨c1, c2, c3⟩ := h
  unfold World.cell? at c1 c2 c3
  refine ⟨?_, ?_, ?_⟩ <;> unfold World.cell?
  · rw [k.1]; exact c1
  · rw [k.2.1]; exact c2
  · rw [k.2.2]; exact c3
set_option maxRecDepth 20000 in
theorem places1_in (n : Nat) (hn : 1 ≤ n) (l g1 g2 f b P : Nat) (hb : b ≤ 32) (hP : P ≤ 16) (J Jx : List { k : Nat // k < P } → World → Prop)
    (hY : ∀ pre x W, J pre W → pre.length < P → YieldAt Fence.wide (n - 1) Tryz.prog l #[.int .i64 (b * P + x.1 : Nat)] W fun e W' =>
      (e = .returned (.bool true) ∧ J (pre ++ [x]) W' ∧ KpP g1 g2 f W W') ∨ (e = .returned (.bool false) ∧ Jx (pre ++ [x]) W'))
    (hJd : ∀ pre W, J pre W → J pre W.drew) (W : World) (hR : RdP g1 g2 f b P W) (h0 : J [] W) :
    CallsIn Fence.wide n Tryz.prog 154 #[.func (.yield l) #[] #[], .pointer (some ⟨g1, 0, none⟩), .pointer (some ⟨g2, 0, none⟩)] W fun e W' => (∃ v, e = .returned v) ∧
      ((∃ ys : List { k : Nat // k < P }, ys.map (·.1) = List.range P ∧ J ys W') ∨ (∃ pre, True ∧ Jx pre W')) := by
  obtain ⟨c1, c2, c3⟩ := hR
  have hR0 := Hid.mk (And.intro c1 (And.intro c2 c3))
  refine callsIn_of_wp Tryz.func154 rfl trivial ?_ rfl
  simp only [Tryz.ntmps154, List.size_toArray, List.length_cons, List.length_nil, Nat.reduceAdd, Nat.reduceSub, Array.replicate_succ, Array.replicate_zero, List.push_toArray, List.append_toArray, List.nil_append, List.cons_append]
  gi_wp2
  clear c1 c2 c3
  gi_loopw [4, 10] (fun _ i wr => ∃ (k : Nat) (pre : List { k : Nat // k < P }), k ≤ P ∧ i = .int .i64 k ∧ pre.map (·.1) = List.range k ∧ J pre wr ∧ RdP g1 g2 f b P wr) (fun _ i _ => P - (intOf i).toNat)
  case atStart => exact ⟨0, [], Nat.zero_le _, rfl, rfl, h0, hR0.out⟩
  case round =>
    obtain ⟨k, pre, hk, rfl, hpre, hJ, hRd⟩ := hrel
    by_cases hlt : k < P
    · have hltI : (k : Int) < (P : Int) := by omega
      have hlen : pre.length = k := by have := congrArg List.length hpre; simpa using this
      obtain ⟨fn, tmps, assign, body, hy, hRo⟩ := hY pre ⟨k, hlt⟩ wr.drew (hJd _ _ hJ) (by omega)
      have HRd := Hid.mk hRd
      obtain ⟨c1, c2, c3⟩ := hRd
      have hbp : b * P ≤ 32 * 16 := Nat.mul_le_mul hb hP
      obtain ⟨bp, hbp2⟩ : ∃ bp, b * P = bp := ⟨_, rfl⟩
      dsimp only at hy
      rw [hbp2] at hy hbp
      obtain ⟨m, hm⟩ : ∃ m, bp + k = m := ⟨_, rfl⟩
      rw [hm] at hy
      have e2 : IntKind.i64.wrap ((bp : Int) + k) = (m : Int) := by rw [IntKind.wrap_i64]; omega
      have e1 : IntKind.i64.wrap ((b : Int) * P) = (bp : Int) := by
        rw [show (b : Int) * P = ((b * P : Nat) : Int) by simp, hbp2, IntKind.wrap_i64]; omega
      have e1' : wrap64 ((b : Int) * P) = (bp : Int) := by
        rw [show (b : Int) * P = ((b * P : Nat) : Int) by simp, hbp2]; unfold wrap64; omega
      have HR2 : Hid (RoundIn Fence.wide (n - 1) Tryz.prog l fn tmps assign body wr.drew fun e W' => ∃ v : Bool, e = .returned (.bool v) ∧ ((v = true ∧ J (pre ++ [⟨k, hlt⟩]) W' ∧ KpP g1 g2 f wr W') ∨ (v = false ∧ Jx (pre ++ [⟨k, hlt⟩]) W'))) := hRo.mono (fun e W' h => by
        rcases h with ⟨rfl, h1, h2⟩ | ⟨rfl, h1⟩
        · exact ⟨true, rfl, .inl ⟨rfl, h1, h2⟩⟩
        · exact ⟨false, rfl, .inr ⟨rfl, h1⟩⟩)
      have HX := Hid.mk (And.intro hpre hbp2)
      clear hRo hpre hJ hY hbp2 hm
      have hmx : Tryz.prog.follows .mixedOrders = true := by kernel_rfl
      gi_upto_region 3 with fail
      gi_region_with_o (with_reducible refine HR2.out.mono ?_; rintro e w3 ⟨v, rfl, h3⟩; replace h3 := Hid.mk h3)
      all_goals
        have H3 := h3
        clear h3
        cases v with
        | true =>
          have hJ3 : J (pre ++ [⟨k, hlt⟩]) w3 ∧ KpP g1 g2 f wr w3 := by
            rcases H3.out with ⟨_, h1, h2⟩ | ⟨h0, _⟩
            · exact ⟨h1, h2⟩
            · exact absurd h0 (by decide)
          have HJ3 := Hid.mk hJ3
          clear hJ3
          gi_wp2
          go_roundw
          case rel => exact ⟨k + 1, pre ++ [⟨k, hlt⟩], by omega, by go_num, by rw [List.map_append, HX.out.1, List.range_succ]; rfl, HJ3.out.1, HRd.out.kp HJ3.out.2⟩
          case measure => simp [intOf]; omega
        | false =>
          have hJ3 : Jx (pre ++ [⟨k, hlt⟩]) w3 := by
            rcases H3.out with ⟨h0, _, _⟩ | ⟨_, h1⟩
            · exact absurd h0 (by decide)
            · exact h1
          have HJ3 := Hid.mk hJ3
          clear hJ3
          gi_wp2
          refine bodyPost_ret (results_none rfl _ _ _) rfl ?_
          exact ⟨⟨_, rfl⟩, .inr (by first | exact ⟨_, trivial, HJ3.out⟩ | exact ⟨_, HJ3.out⟩)⟩
    · have hk2 : k = P := by omega
      subst hk2
      have HS := Hid.mk (And.intro hpre hJ)
      clear hpre hJ hRd hY
      gi_wp2
      go_end0
      exact ⟨⟨_, rfl⟩, .inl ⟨pre, HS.out.1, HS.out.2⟩⟩
end Go.Proofs.YtcmmhfjnhlaepabGreatDoor
namespace Go.Proofs.YtcmmhfjnhlaepabGreatDoor
open Go Go.RowKit

/-- the way out of a region of a round: forward alone -/
def Fwd (K : Act → World → Prop) : Exit → Act → World → Prop
  | .normal, a, w => K a w
  | _, _, _ => False
theorem not_letsOut_fwd (K : Act → World → Prop) : ¬ LetsOut (Fwd K) := by
  rintro ⟨a, w, h⟩
  exact h
theorem wpOp_round {P : Program} {ops : Array Oper} {K : Act → World → Prop} {l n i : Nat} (hd : ∀ (i : Nat) (o : Oper), ops[i]? = some o → ∀ c : Call, o.op ≠ Op.defer c) {J J' : Act → World → Prop} (hJ : ∀ a w, J a w → J' a w) {Q' : Exit → Act → World → Prop} {a : Act} {w : World}
    (h : wpOp P ops (Fwd K) i J a w) : wpOpIn (Fence.wide.inRound l) n P ops Q' i J' a w := by
  unfold wpOp at h
  unfold wpOpIn
  cases ho : ops[i]? with
  | none => simp only [ho] at h ⊢; exact hJ _ _ h
  | some o =>
    simp only [ho] at h ⊢
    split
    · rename_i hw
      rw [if_pos hw] at h
      have h := h.resolve_right (fun x => not_letsOut_fwd K x.2)
      unfold Oper.wp at h
      unfold Oper.wpIn
      refine ⟨fun _ _ => trivial, ?_⟩
      rw [Oper.semAt_eq _ _ _ (hd i o ho)]
      generalize (execOp a.eval o).run P w = r at *
      cases r with
      | ok x w' =>
        cases x <;> simp only [Oper.upon] at h <;> simp only [Oper.uponIn]
        case value u => exact hJ _ _ h
        case skip => exact hJ _ _ h
        case defer d => exact hJ _ _ h
        case enter f args =>
          refine ⟨(fun e => by simp [Fence.wide] at e), (callsIn_wide (n := n - 1)).2 (h.mono fun e w'' he => ?_)⟩
          cases e with
          | returned u => exact hJ _ _ he
          | panicked c => exact he.elim
          | outgrown => exact absurd he (not_letsOut_fwd K)
        case row row args => exact ⟨(fun e => by simp [Fence.wide] at e), fun c cs _ => let ⟨v, w'', r, s⟩ := h c cs; ⟨v, w'', hJ _ _ r, stepsIn_wide.2 s⟩⟩
      | halt x w' =>
        cases x <;> simp only [Oper.upon] at h
        case panic u => exact h.elim
    · rename_i hw
      rw [if_neg hw] at h
      exact ⟨fun _ _ => trivial, hJ _ _ h⟩
theorem wpAny_round {P : Program} {ops : Array Oper} {K : Act → World → Prop} {l n : Nat} (hd : ∀ (i : Nat) (o : Oper), ops[i]? = some o → ∀ c : Call, o.op ≠ Op.defer c) {Q' : Exit → Act → World → Prop} (hK : ∀ a w, K a w → Q' .normal a w) : ∀ (fuel : Nat) (listed : Array Bool) (a : Act) (w : World), wpAny P .any ops (Fwd K) fuel listed a w → wpAnyIn (Fence.wide.inRound l) n P .any ops Q' fuel listed a w
  | 0, _, _, _, h => ⟨h.1, hK _ _ h.2⟩
  | fuel + 1, listed, _, _, h => ⟨fun e => hK _ _ (h.1 e), fun i hi => wpOp_round hd (fun a w => wpAny_round hd hK fuel (listed.setIfInBounds i true) a w) (h.2 i hi)⟩
theorem region_round {P : Program} {ops : Array Oper} {l n id : Nat} {S : World → Prop} (hd : ∀ (i : Nat) (o : Oper), ops[i]? = some o → ∀ c : Call, o.op ≠ Op.defer c) {Q' : Exit → Act → World → Prop} {a : Act} {w : World} (hm : P.follows .mixedOrders = true)
    (h : wpAnyH P .any ops (Fwd (Q' .normal)) S ops.size (Array.replicate ops.size false) a w.drew) : (Code.region id ops true).wpIn (Fence.wide.inRound l) n P Q' a w :=
  wpIn_region_any hm (wpAny_round hd (fun _ _ h => h) _ _ _ _ (wpAny_of_held _ _ _ _ h))
/-- no operation defers a call -/
def noDefer (ops : Array Oper) : Bool := ops.toList.all fun o => match o.op with | .defer _ => false | _ => true
theorem noDefer_spec {ops : Array Oper} (h : noDefer ops = true) : ∀ (i : Nat) (o : Oper), ops[i]? = some o → ∀ c : Call, o.op ≠ Op.defer c := by
  intro i o ho c e
  have hm : o ∈ ops.toList := by
    obtain ⟨hi, rfl⟩ := Array.getElem?_eq_some_iff.1 ho
    exact Array.getElem_mem_toList hi
  have := List.all_eq_true.1 h o hm
  rw [e] at this
  cases this
theorem region_held_round {P : Program} {ops : Array Oper} {l n id : Nat} {S : World → Prop} {Q' : Exit → Act → World → Prop} {a : Act} {w : World} (hd : noDefer ops = true) (hm : P.follows .mixedOrders = true) (hS : S w.drew)
    (h : S w.drew → wpAnyH P .any ops (Fwd (Q' .normal)) S ops.size (Array.replicate ops.size false) a w.drew) : (Code.region id ops true).wpIn (Fence.wide.inRound l) n P Q' a w :=
  region_round (noDefer_spec hd) hm (h hS)
end Go.Proofs.YtcmmhfjnhlaepabGreatDoor
namespace Go.Proofs.YtcmmhfjnhlaepabGreatDoor
open Go Go.RowKit Go.Shelf
attribute [local go_sem] Oper.semAt_some

theorem places_any (f : Nat) (b : Int) (w : World) : Calls Tryz.prog 110 #[.pointer (some ⟨f, 0, none⟩), .int .i64 b] w fun e w' => e = .returned (.func (.func 154) #[] #[.pointer (some ⟨w.heap.size, 0, none⟩), .pointer (some ⟨w.heap.size + 1, 0, none⟩)]) ∧ w' = (w.alloc (.cells #[.pointer (some ⟨f, 0, none⟩)] 26)).alloc (.cells #[.int .i64 b] 3) := by
  go_enter Tryz.func110, Tryz.ntmps110
  go_wp2
  go_ret
  exact ⟨rfl, rfl⟩
theorem RdP.call {g1 g2 f b P : Nat} {w w' : World} (h : RdP g1 g2 f b P w) (h1 : g1 < w.heap.size) (h2 : g2 < w.heap.size) (h3 : f < w.heap.size) (k : Below w.heap.size w w') : RdP g1 g2 f b P w' :=
  h.kp ⟨k.block _ h1, k.block _ h2, k.block _ h3⟩
theorem places_stops (n : Nat) (hn : 1 ≤ n) (g1 g2 f b P : Nat) (hb : b ≤ 32) (hP : P ≤ 16) (w : World) (h1 : g1 < w.heap.size) (h2 : g2 < w.heap.size) (h3 : f < w.heap.size) (hR : RdP g1 g2 f b P w) :
    SeqStopsK Fence.wide n Tryz.prog 154 #[.pointer (some ⟨g1, 0, none⟩), .pointer (some ⟨g2, 0, none⟩)] (fun x : { k : Nat // k < P } => #[.int .i64 (b * P + x.1 : Nat)]) (KpP g1 g2 f) (fun ys => ys.map (·.1) = List.range P) (fun _ => True) P w := by
  intro l J Jx W hW hJ hJx hY h0
  exact places1_in n hn l g1 g2 f b P hb hP J Jx (fun pre x W1 h hl => hY pre x W1 h hl) (fun pre W1 h => hJ pre W1 W1.drew none h ⟨rfl, rfl, rfl, Nat.le_refl _, fun _ _ _ => rfl⟩ (fun r e => by cases e)) W (hR.call h1 h2 h3 hW) h0
/-- what a page tells of its block's count, of when it was written, of whether it is used -/
def stp1 (m : Int) (f : Fd) : Int := if f.c = 1 then max m (min f.W 1073741824) else m
def stp2 (m : Int) (f : Fd) : Int := if f.c = 1 then max m f.S else m
def stp3 (u : Bool) (f : Fd) : Bool := u || decide (f.c ≠ 0)
def lkW (l : List Fd) (n : Nat) (ks : List Nat) : Int := ks.foldl (fun m k => stp1 m (l.getD (n + k) fdZ)) 0
def lkS (l : List Fd) (n : Nat) (z : Int) (ks : List Nat) : Int := ks.foldl (fun m k => stp2 m (l.getD (n + k) fdZ)) z
def lkU (l : List Fd) (n : Nat) (ks : List Nat) : Bool := ks.foldl (fun m k => stp3 m (l.getD (n + k) fdZ)) false
theorem lkW_snoc (l n ks k) : lkW l n (ks ++ [k]) = stp1 (lkW l n ks) (l.getD (n + k) fdZ) := by unfold lkW; rw [List.foldl_append]; rfl
theorem lkS_snoc (l n z ks k) : lkS l n z (ks ++ [k]) = stp2 (lkS l n z ks) (l.getD (n + k) fdZ) := by unfold lkS; rw [List.foldl_append]; rfl
theorem lkU_snoc (l n ks k) : lkU l n (ks ++ [k]) = stp3 (lkU l n ks) (l.getD (n + k) fdZ) := by unfold lkU; rw [List.foldl_append]; rfl
/-- what the rounds hold -/
structure LkI (w1 : World) (gl bx la lg B P b : Nat) (lal xs : List Int) (l : List Fd) (pre : List { k : Nat // k < P }) (W : World) : Prop where
  kp : Kp (fun i => i = gl ∨ Lf.ownL la lg i ∨ i = bx) w1 W
  row : Row W gl 72 .u64 (lal.set b (lkS l (b * P) (lal.getD b 0) (pre.map (·.1))))
  lif : Lf.Lif W la lg B P (if lkU l (b * P) (pre.map (·.1)) = true then xs.set b 2 else xs) (-1) 0
  box : Row W bx 3 .i64 [lkW l (b * P) (pre.map (·.1))]
theorem LkI.own {w1 : World} {gl bx la lg B P b : Nat} {lal xs : List Int} {l : List Fd} (h1 : gl < w1.heap.size) (h2 : bx < w1.heap.size) (h3 : ∀ i, Lf.ownL la lg i → i < w1.heap.size) : OwnFrom w1.heap.size (LkI w1 gl bx la lg B P b lal xs l) := by
  intro s W W' row hs hg hr
  have hb : ∀ i, i < w1.heap.size → W'.heap[i]? = W.heap[i]? := fun i hi => hg.block i (Nat.lt_of_lt_of_le hi hs.kp.size) (fun e => by have := (hr i e.symm).1; omega)
  exact ⟨⟨hg.os.trans hs.kp.os, hg.tape.trans hs.kp.tape, hg.output.trans hs.kp.output, Nat.le_trans hs.kp.size hg.size, fun i hi hn => (hb i hi).trans (hs.kp.block i hi hn)⟩, (hb gl h1).trans hs.row, hs.lif.same (fun i hi => hb i (h3 i hi)), (hb bx h2).trans hs.box⟩
theorem LkI.skip {w1 : World} {gl bx la lg B P b : Nat} {lal xs : List Int} {l : List Fd} {pre : List { k : Nat // k < P }} {W : World} (h : LkI w1 gl bx la lg B P b lal xs l pre W) (x : { k : Nat // k < P }) (hc : (l.getD (b * P + x.1) fdZ).c = 0) : LkI w1 gl bx la lg B P b lal xs l (pre ++ [x]) W := by
  have e1 : lkW l (b * P) ((pre ++ [x]).map (·.1)) = lkW l (b * P) (pre.map (·.1)) := by rw [List.map_append]; show lkW l (b * P) (_ ++ [x.1]) = _; rw [lkW_snoc]; unfold stp1; rw [if_neg (by rw [hc]; decide)]
  have e2 : ∀ z, lkS l (b * P) z ((pre ++ [x]).map (·.1)) = lkS l (b * P) z (pre.map (·.1)) := fun z => by rw [List.map_append]; show lkS l (b * P) z (_ ++ [x.1]) = _; rw [lkS_snoc]; unfold stp2; rw [if_neg (by rw [hc]; decide)]
  have e3 : lkU l (b * P) ((pre ++ [x]).map (·.1)) = lkU l (b * P) (pre.map (·.1)) := by rw [List.map_append]; show lkU l (b * P) (_ ++ [x.1]) = _; rw [lkU_snoc]; unfold stp3; rw [hc]; simp
  exact ⟨h.kp, by rw [e2]; exact h.row, by rw [e3]; exact h.lif, by rw [e1]; exact h.box⟩
theorem Kp.keepsFrom {S : Nat → Prop} {B : Nat} {W W' : World} (k : Kp S W W') (hs : ∀ i, S i → i < B) : KeepsFrom B W W' :=
  ⟨k.size, fun i o hB hi _ => (k.block i (Array.getElem?_eq_some_iff.1 hi).1 (fun x => by have := hs i x; omega)).trans hi⟩
theorem Kp.kpP {S : Nat → Prop} {g1 g2 f : Nat} {W W' : World} (k : Kp S W W') (h1 : g1 < W.heap.size) (h2 : g2 < W.heap.size) (h3 : f < W.heap.size) (hs : ¬ S g1 ∧ ¬ S g2 ∧ ¬ S f) : KpP g1 g2 f W W' :=
  ⟨k.block _ h1 hs.1, k.block _ h2 hs.2.1, k.block _ h3 hs.2.2⟩
/-- what the body reads behind the call -/
def LkR (z la g o n na ac f gl b B : Nat) (fd : Fd) (w' : World) : Prop := (w'.cell? ⟨z, 0, none⟩ = some (.pointer (some ⟨f, 0, none⟩)) ∧ w'.cell? ⟨z + 1, 0, none⟩ = some (.int .i64 b) ∧ w'.cell? ⟨z + 1 + 1, 0, none⟩ = some (.slice (some ⟨g, o, none⟩) na ac) ∧ w'.cell? ⟨z + 1 + 1 + 1, 0, none⟩ = some (.pointer (some ⟨la, 0, none⟩))) ∧ w'.cell? ⟨f, 13, none⟩ = some (.slice (some ⟨gl, 0, none⟩) B B) ∧
  w'.cell? ⟨g, o + n * 8 + 1, none⟩ = some (.int .i64 fd.c) ∧ w'.cell? ⟨g, o + n * 8 + 3, none⟩ = some (.int .u64 fd.S) ∧ w'.cell? ⟨g, o + n * 8 + 6, none⟩ = some (.int .i64 fd.W)
theorem LkR.flat {z la g o n na ac f gl b B : Nat} {fd : Fd} {w' : World} (h : LkR z la g o n na ac f gl b B fd w') : w'.cell? ⟨z, 0, none⟩ = some (.pointer (some ⟨f, 0, none⟩)) ∧ w'.cell? ⟨z + 1, 0, none⟩ = some (.int .i64 b) ∧ w'.cell? ⟨z + 1 + 1, 0, none⟩ = some (.slice (some ⟨g, o, none⟩) na ac) ∧ w'.cell? ⟨z + 1 + 1 + 1, 0, none⟩ = some (.pointer (some ⟨la, 0, none⟩)) ∧ w'.cell? ⟨f, 13, none⟩ = some (.slice (some ⟨gl, 0, none⟩) B B) ∧
  w'.cell? ⟨g, o + n * 8 + 1, none⟩ = some (.int .i64 fd.c) ∧ w'.cell? ⟨g, o + n * 8 + 3, none⟩ = some (.int .u64 fd.S) ∧ w'.cell? ⟨g, o + n * 8 + 6, none⟩ = some (.int .i64 fd.W) := ⟨h.1.1, h.1.2.1, h.1.2.2.1, h.1.2.2.2, h.2⟩
theorem LkR.kp {z la g o n na ac f gl b B : Nat} {fd : Fd} {S : Nat → Prop} {w1 w2 : World} (h : LkR z la g o n na ac f gl b B fd w1) (k : Kp S w1 w2) (hz : z + 1 + 1 + 1 < w1.heap.size) (hf : f < w1.heap.size) (hg : g < w1.heap.size) (hs : ∀ i, S i → i ≠ z ∧ i ≠ z + 1 ∧ i ≠ z + 1 + 1 ∧ i ≠ z + 1 + 1 + 1 ∧ i ≠ f ∧ i ≠ g) : LkR z la g o n na ac f gl b B fd w2 := by
  have e : ∀ i, i < w1.heap.size → ¬ S i → ∀ j, w2.cell? ⟨i, j, none⟩ = w1.cell? ⟨i, j, none⟩ := fun i hi hn j => by unfold World.cell?; rw [k.block i hi hn]
  obtain ⟨c0, c1, c2, c3, c4, c5, c6, c7⟩ := h.flat
  refine ⟨⟨?_, ?_, ?_, ?_⟩, ?_, ?_, ?_, ?_⟩
  · rw [e _ (by omega) (fun x => (hs _ x).1 rfl)]; exact c0
  · rw [e _ (by omega) (fun x => (hs _ x).2.1 rfl)]; exact c1
  · rw [e _ (by omega) (fun x => (hs _ x).2.2.1 rfl)]; exact c2
  · rw [e _ (by omega) (fun x => (hs _ x).2.2.2.1 rfl)]; exact c3
  · rw [e _ hf (fun x => (hs _ x).2.2.2.2.1 rfl)]; exact c4
  · rw [e _ hg (fun x => (hs _ x).2.2.2.2.2 rfl)]; exact c5
  · rw [e _ hg (fun x => (hs _ x).2.2.2.2.2 rfl)]; exact c6
  · rw [e _ hg (fun x => (hs _ x).2.2.2.2.2 rfl)]; exact c7
/-- a page is used: its block is full; a page that says something tells more -/
theorem LkI.full {w1 : World} {gl bx la lg B P b : Nat} {lal xs : List Int} {l : List Fd} {pre : List { k : Nat // k < P }} {W W2 : World} (h : LkI w1 gl bx la lg B P b lal xs l pre W) (x : { k : Nat // k < P }) (hc : (l.getD (b * P + x.1) fdZ).c ≠ 0) (k : Kp (Lf.ownL la lg) W W2) (hl : Lf.Lif W2 la lg B P (xs.set b 2) (-1) 0) {v w : Int} (hv : stp1 (lkW l (b * P) (pre.map (·.1))) (l.getD (b * P + x.1) fdZ) = v) (hw : stp2 (lkS l (b * P) (lal.getD b 0) (pre.map (·.1))) (l.getD (b * P + x.1) fdZ) = w) {W3 : World} (k3 : Kp (fun i => i = gl ∨ i = bx) W2 W3) (hr : Row W3 gl 72 .u64 ((lal.set b (lkS l (b * P) (lal.getD b 0) (pre.map (·.1)))).set b w)) (hbx : Row W3 bx 3 .i64 [v]) (hgl : ¬ Lf.ownL la lg gl) (hbl : ¬ Lf.ownL la lg bx) : LkI w1 gl bx la lg B P b lal xs l (pre ++ [x]) W3 := by
  have e1 : lkW l (b * P) ((pre ++ [x]).map (·.1)) = v := by rw [List.map_append]; show lkW l (b * P) (_ ++ [x.1]) = _; rw [lkW_snoc]; exact hv
  have e2 : lkS l (b * P) (lal.getD b 0) ((pre ++ [x]).map (·.1)) = w := by rw [List.map_append]; show lkS l (b * P) _ (_ ++ [x.1]) = _; rw [lkS_snoc]; exact hw
  have e3 : lkU l (b * P) ((pre ++ [x]).map (·.1)) = true := by rw [List.map_append]; show lkU l (b * P) (_ ++ [x.1]) = _; rw [lkU_snoc]; unfold stp3; rw [decide_eq_true hc, Bool.or_true]
  refine ⟨⟨k3.os.trans (k.os.trans h.kp.os), k3.tape.trans (k.tape.trans h.kp.tape), k3.output.trans (k.output.trans h.kp.output), Nat.le_trans h.kp.size (Nat.le_trans k.size k3.size), fun i hi hn => ?_⟩, ?_, ?_, by rw [e1]; exact hbx⟩
  · have h1 := Nat.lt_of_lt_of_le hi h.kp.size
    exact (k3.block i (Nat.lt_of_lt_of_le h1 k.size) (fun x => hn (x.elim .inl (fun y => .inr (.inr y))))).trans ((k.block i h1 (fun x => hn (.inr (.inl x)))).trans (h.kp.block i hi hn))
  · rw [e2]
    rw [List.set_set] at hr
    exact hr
  · rw [e3, if_pos rfl]
    exact hl.same (fun i hi => k3.block i (hl.lt i hi) (fun x => by
      rcases x with x | x
      · exact hgl (x ▸ hi)
      · exact hbl (x ▸ hi)))
set_option maxRecDepth 20000 in
theorem lookInto_any {w : World} {f gl la lg B P : Nat} {fc : Array Value} {lal xs : List Int} {l : List Fd} {aa : Option Addr} {ac : Nat} (hB : B ≤ 32) (hP : P ≤ 16) (b : Nat) (hb : b < B)
    (hbox : w.heap[f]? = some (.cells fc 75 (0, 0))) (h2 : fc[2]? = some (.int .i64 P)) (h13 : fc[13]? = some (.slice (some ⟨gl, 0, none⟩) B B)) (hlr : Row w gl 72 .u64 lal) (hll : lal.length = B) (hlif : Lf.Lif w la lg B P xs (-1) 0) (hx3 : xs.getD b 0 ≠ 3)
    (hall : FdsF w aa l) (hlen : l.length = B * P) (hn1 : gl ≠ f) (hn2 : ¬ Lf.ownL la lg gl) (hn3 : ¬ Lf.ownL la lg f) (hn4 : ∀ g o, aa = some ⟨g, o, none⟩ → g ≠ gl ∧ ¬ Lf.ownL la lg g)
    (hfd : ∀ i, i < l.length → 0 ≤ (l.getD i fdZ).W ∧ 0 ≤ (l.getD i fdZ).S) :
    Calls Tryz.prog 64 #[.pointer (some ⟨f, 0, none⟩), .int .i64 b, .slice aa l.length ac, .pointer (some ⟨la, 0, none⟩)] w fun e w' => e = .returned (.int .i64 (lkW l (b * P) (List.range P))) ∧
      Row w' gl 72 .u64 (lal.set b (lkS l (b * P) (lal.getD b 0) (List.range P))) ∧ Lf.Lif w' la lg B P (if lkU l (b * P) (List.range P) = true then xs.set b 2 else xs) (-1) 0 ∧ Kp (fun i => i = gl ∨ Lf.ownL la lg i) w w' := by
  have H := Hid.mk (And.intro hbox (And.intro h2 (And.intro h13 (And.intro hlr (And.intro hll (And.intro hlif (And.intro hx3 (And.intro hall (And.intro hlen (And.intro hn1 (And.intro hn2 (And.intro hn3 (And.intro hn4 hfd)))))))))))))
  have HB := Hid.mk (And.intro hB (And.intro hP hb))
  clear hbox h2 h13 hlr hll hlif hx3 hall hlen hn1 hn2 hn3 hn4 hfd
  obtain ⟨XS, hXS⟩ : ∃ X, (if lkU l (b * P) (List.range P) = true then xs.set b 2 else xs) = X := ⟨_, rfl⟩
  obtain ⟨LS, hLS⟩ : ∃ X, lal.set b (lkS l (b * P) (lal.getD b 0) (List.range P)) = X := ⟨_, rfl⟩
  obtain ⟨MS, hMS⟩ : ∃ X, lkW l (b * P) (List.range P) = X := ⟨_, rfl⟩
  rw [hXS, hLS, hMS]
  have HXS := Hid.mk (And.intro hXS (And.intro hLS hMS))
  clear hXS hLS hMS
  generalize hna : l.length = na
  have HN := Hid.mk hna
  clear hna
  refine (callsIn_wide (n := 3)).1 ?_
  refine callsIn_of_wp_marks Tryz.func64 rfl trivial ?_ rfl
  simp only [Tryz.ntmps64, List.size_toArray, List.length_cons, List.length_nil, Nat.reduceAdd, Nat.reduceSub, Array.replicate_succ, Array.replicate_zero, List.push_toArray, List.append_toArray, List.nil_append, List.cons_append]
  gi_wp2_with (refine ⟨trivial, ?_⟩; gi_at_call 110; refine ((callsIn_wide (n := 2)).2 (places_any f b _)).mono ?_; rintro e w' ⟨rfl, rfl⟩)
  have al : ∀ (w : World) (o : Obj) (i : Nat), (w.alloc o).heap[i]? = if i = w.heap.size then some o else w.heap[i]? := fun w o i => by
    by_cases e : i = w.heap.size
    · rw [if_pos e, e]; exact World.alloc_heap_new w o
    · rw [if_neg e]
      by_cases e2 : i < w.heap.size
      · exact Below.heap_alloc w o i e2
      · rw [Array.getElem?_eq_none (by rw [size_alloc]; omega), Array.getElem?_eq_none (by omega)]
  obtain ⟨w1, hw1⟩ : ∃ w1, (((((((w.alloc (.cells #[.pointer (some ⟨f, 0, none⟩)] 26)).alloc (.cells #[.int .i64 b] 3)).alloc (.cells #[.slice aa na ac] 80)).alloc (.cells #[.pointer (some ⟨la, 0, none⟩)] 104)).alloc (.cells #[.int .i64 0] 3)).alloc (.cells #[.pointer (some ⟨f, 0, none⟩)] 26)).alloc (.cells #[.int .i64 b] 3)) = w1 := ⟨_, rfl⟩
  have hz : w1.heap.size = w.heap.size + 7 := by rw [← hw1]; simp only [size_alloc]
  have bw : ∀ i, i < w.heap.size → w1.heap[i]? = w.heap[i]? := fun i hi => by
    rw [← hw1]; simp only [al, size_alloc]
    rw [if_neg (by omega), if_neg (by omega), if_neg (by omega), if_neg (by omega), if_neg (by omega), if_neg (by omega), if_neg (by omega)]
  have r0 : w1.heap[w.heap.size]? = some (.cells #[.pointer (some ⟨f, 0, none⟩)] 26) := by
    rw [← hw1]
    rw [al, if_neg (by simp only [size_alloc]; omega)]
    rw [al, if_neg (by simp only [size_alloc]; omega)]
    rw [al, if_neg (by simp only [size_alloc]; omega)]
    rw [al, if_neg (by simp only [size_alloc]; omega)]
    rw [al, if_neg (by simp only [size_alloc]; omega)]
    rw [al, if_neg (by simp only [size_alloc]; omega)]
    rw [al, if_pos rfl]
  have r1 : w1.heap[w.heap.size + 1]? = some (.cells #[.int .i64 b] 3) := by
    rw [← hw1]
    rw [al, if_neg (by simp only [size_alloc]; omega)]
    rw [al, if_neg (by simp only [size_alloc]; omega)]
    rw [al, if_neg (by simp only [size_alloc]; omega)]
    rw [al, if_neg (by simp only [size_alloc]; omega)]
    rw [al, if_neg (by simp only [size_alloc]; omega)]
    rw [al, if_pos (by simp only [size_alloc])]
  have r2 : w1.heap[w.heap.size + 1 + 1]? = some (.cells #[.slice aa na ac] 80) := by
    rw [← hw1]
    rw [al, if_neg (by simp only [size_alloc]; omega)]
    rw [al, if_neg (by simp only [size_alloc]; omega)]
    rw [al, if_neg (by simp only [size_alloc]; omega)]
    rw [al, if_neg (by simp only [size_alloc]; omega)]
    rw [al, if_pos (by simp only [size_alloc])]
  have r3 : w1.heap[w.heap.size + 1 + 1 + 1]? = some (.cells #[.pointer (some ⟨la, 0, none⟩)] 104) := by
    rw [← hw1]
    rw [al, if_neg (by simp only [size_alloc]; omega)]
    rw [al, if_neg (by simp only [size_alloc]; omega)]
    rw [al, if_neg (by simp only [size_alloc]; omega)]
    rw [al, if_pos (by simp only [size_alloc])]
  have r4 : w1.heap[w.heap.size + 1 + 1 + 1 + 1]? = some (.cells #[.int .i64 0] 3) := by
    rw [← hw1]
    rw [al, if_neg (by simp only [size_alloc]; omega)]
    rw [al, if_neg (by simp only [size_alloc]; omega)]
    rw [al, if_pos (by simp only [size_alloc])]
  have r5 : w1.heap[w.heap.size + 1 + 1 + 1 + 1 + 1]? = some (.cells #[.pointer (some ⟨f, 0, none⟩)] 26) := by
    rw [← hw1]
    rw [al, if_neg (by simp only [size_alloc]; omega)]
    rw [al, if_pos (by simp only [size_alloc])]
  have r6 : w1.heap[w.heap.size + 1 + 1 + 1 + 1 + 1 + 1]? = some (.cells #[.int .i64 b] 3) := by
    rw [← hw1]
    rw [al, if_pos (by simp only [size_alloc])]
  obtain ⟨hbox, h2, h13, hlr, hll, hlif, hx3, hall, hlen, hn1, hn2, hn3, hn4, hfd⟩ := H.out
  have hf : f < w.heap.size := (Array.getElem?_eq_some_iff.1 hbox).1
  have hgl : gl < w.heap.size := hlr.lt
  have hlf : ∀ i, Lf.ownL la lg i → i < w.heap.size := hlif.lt
  have hRd : RdP (w.heap.size + 1 + 1 + 1 + 1 + 1) (w.heap.size + 1 + 1 + 1 + 1 + 1 + 1) f b P w1 := ⟨by rw [cell_of_row w1 _ 0 _ 26 _ r5]; rfl, by rw [cell_of_row w1 _ 0 _ 3 _ r6]; rfl, by rw [cell_of_row w1 f 2 _ 75 _ ((bw f hf).trans hbox)]; exact h2⟩
  have hset : lal.set b (lal.getD b 0) = lal := by
    apply List.ext_getElem (by rw [List.length_set])
    intro i h1 h2
    rw [List.getElem_set]
    split
    · rename_i e
      subst e
      rw [List.getD_eq_getElem?_getD, List.getElem?_eq_getElem h2]; rfl
    · rfl
  have I0 : LkI w1 gl (w.heap.size + 1 + 1 + 1 + 1) la lg B P b lal xs l [] w1 := ⟨Kp.refl _ _, by
    show Row w1 gl 72 .u64 (lal.set b (lal.getD b 0))
    rw [hset]
    exact (bw gl hgl).trans hlr, hlif.same (fun i hi => bw i (hlf i hi)), r4⟩
  have HX := Hid.mk (And.intro hz (And.intro bw (And.intro r0 (And.intro r1 (And.intro r2 (And.intro r3 (And.intro hf (And.intro hgl hlf))))))))
  rw [hw1]
  have hKb : ∀ (W : World) (l : Nat) (o o' : Obj), w1.heap.size ≤ l → W.heap[l]? = some o → o.isCells = false → o.isWalk = false → KpP (w.heap.size + 1 + 1 + 1 + 1 + 1) (w.heap.size + 1 + 1 + 1 + 1 + 1 + 1) f W (W.putObj l o') := fun W l o o' hl _ _ _ => KpP.b (n := w1.heap.size) (by omega) (by omega) (by omega) W l o' hl
  have hst := places_stops 2 (by omega) (w.heap.size + 1 + 1 + 1 + 1 + 1) (w.heap.size + 1 + 1 + 1 + 1 + 1 + 1) f b P (by omega) hP w1 (by omega) (by omega) (by omega) hRd
  have hOwn : OwnFrom w1.heap.size (LkI w1 gl (w.heap.size + 1 + 1 + 1 + 1) la lg B P b lal xs l) := LkI.own (by omega) (by omega) (fun i hi => by have := hlf i hi; omega)
  clear hbox h2 h13 hlr hll hlif hx3 hall hlen hn1 hn2 hn3 hn4 hfd hRd hset r0 r1 r2 r3 r4 r5 r6 bw hf hgl hlf al
  refine wpIn_rangeFunc_ownG rfl (by omega) (gf := 154) (lb := #[.pointer (some ⟨w.heap.size + 1 + 1 + 1 + 1 + 1, 0, none⟩), .pointer (some ⟨w.heap.size + 1 + 1 + 1 + 1 + 1 + 1, 0, none⟩)]) rfl trivial (enters_of Tryz.func154 (by kernel_rfl) rfl) hst (fun h k => h.t k) hKb (Below.refl _ _) (fun _ => rfl) (LkI w1 gl (w.heap.size + 1 + 1 + 1 + 1) la lg B P b lal xs l) (fun _ _ _ => False) hOwn (fun _ _ _ _ _ h _ _ => h.elim) I0
    (fun x => { tmps := #[.pointer (some ⟨f, 0, none⟩), .int .i64 b, .slice aa na ac, .pointer (some ⟨la, 0, none⟩), .pointer (some ⟨w.heap.size, 0, none⟩), .pointer (some ⟨w.heap.size + 1, 0, none⟩), .pointer (some ⟨w.heap.size + 1 + 1, 0, none⟩), .pointer (some ⟨w.heap.size + 1 + 1 + 1, 0, none⟩), .int .i64 0, .pointer (some ⟨w.heap.size + 1 + 1 + 1 + 1, 0, none⟩), .int .i64 ((b * P + x.1 : Nat) : Int), .pointer (some ⟨f, 0, none⟩), .int .i64 b, .func (.func 154) #[] #[.pointer (some ⟨w.heap.size + 1 + 1 + 1 + 1 + 1, 0, none⟩), .pointer (some ⟨w.heap.size + 1 + 1 + 1 + 1 + 1 + 1, 0, none⟩)], .int .i64 ((b * P + x.1 : Nat) : Int), undef, undef, undef, undef, undef, undef, undef, undef, undef, undef, undef, undef, undef, undef, undef, undef, undef, undef, undef, undef, undef, undef, undef, undef, undef, undef, undef, undef, undef, undef, undef, undef, undef, undef, undef, undef, undef, undef, undef, undef, undef, undef, undef, undef, undef], defers := [] }) ?assign ?body ?done ?stop
  case assign =>
    intro l x W K hK
    gi_wp2
    exact hK
  case body =>
    intro ln pre x W hI hlen2
    obtain ⟨hbox, h2, h13, hlr, hll, hlif, hx3, hall, hlen, hn1, hn2, hn3, hn4, hfd⟩ := H.out
    obtain ⟨hz1, bw, r0, r1, r2, r3, hf, hgl, hlf⟩ := HX.out
    have hxP : x.1 < P := x.2
    have hnlt : b * P + x.1 < l.length := by
      rw [hlen]
      have := Nat.mul_le_mul_right P (show b + 1 ≤ B by omega)
      rw [Nat.succ_mul] at this
      omega
    have keep : ∀ i, i < w.heap.size + 4 → i ≠ gl → ¬ Lf.ownL la lg i → W.heap[i]? = w1.heap[i]? := fun i hi h1 h2 => hI.kp.block i (by omega) (fun x => by
      rcases x with x | x | x
      · exact h1 x
      · exact h2 x
      · omega)
    have ol : ∀ i, w.heap.size ≤ i → i ≠ gl ∧ ¬ Lf.ownL la lg i := fun i hi => ⟨by omega, fun x => by have := hlf i x; omega⟩
    have s0 := (keep w.heap.size (by omega) (ol _ (by omega)).1 (ol _ (by omega)).2).trans r0
    have s1 := (keep (w.heap.size + 1) (by omega) (ol _ (by omega)).1 (ol _ (by omega)).2).trans r1
    have s2 := (keep (w.heap.size + 1 + 1) (by omega) (ol _ (by omega)).1 (ol _ (by omega)).2).trans r2
    have s3 := (keep (w.heap.size + 1 + 1 + 1) (by omega) (ol _ (by omega)).1 (ol _ (by omega)).2).trans r3
    have sf := ((keep f (by omega) hn1.symm hn3).trans (bw f hf)).trans hbox
    have hallW : FdsF W aa l := hall.same (Nat.le_trans (by omega) hI.kp.size) (fun g o e => by
      obtain ⟨g', o', e', hg', _⟩ := hall 0 (by omega)
      rw [e] at e'
      have : g = g' := by
        have := e'
        simp at this
        exact this.1
      subst this
      exact (keep g (by omega) (hn4 g o e).1 (hn4 g o e).2).trans (bw g hg'))
    obtain ⟨g, o, rfl, hgW, hfda⟩ := hallW (b * P + x.1) hnlt
    have hg0 : g < w.heap.size := by
      obtain ⟨g', o', e', hg', _⟩ := hall 0 (by omega)
      have : g = g' := by
        have := e'
        simp at this
        exact this.1
      omega
    have HG0 := Hid.mk hg0
    clear hg0
    have q0 : W.cell? ⟨w.heap.size, 0, none⟩ = some (.pointer (some ⟨f, 0, none⟩)) := by rw [cell_of_row W _ 0 _ 26 _ s0]; rfl
    have q1 : W.cell? ⟨w.heap.size + 1, 0, none⟩ = some (.int .i64 b) := by rw [cell_of_row W _ 0 _ 3 _ s1]; rfl
    have q2 : W.cell? ⟨w.heap.size + 1 + 1, 0, none⟩ = some (.slice (some ⟨g, o, none⟩) na ac) := by rw [cell_of_row W _ 0 _ 80 _ s2]; rfl
    have q3 : W.cell? ⟨w.heap.size + 1 + 1 + 1, 0, none⟩ = some (.pointer (some ⟨la, 0, none⟩)) := by rw [cell_of_row W _ 0 _ 104 _ s3]; rfl
    have q13 : W.cell? ⟨f, 13, none⟩ = some (.slice (some ⟨gl, 0, none⟩) B B) := by rw [cell_of_row W f 13 _ 75 _ sf]; exact h13
    have hnI : ((b * P + x.1 : Nat) : Int) < (na : Int) := by rw [← HN.out]; omega
    by_cases hc0 : (l.getD (b * P + x.1) fdZ).c = 0
    · have HI := Hid.mk (hI.skip x hc0)
      have HR := Hid.mk (KpP.t (g1 := w.heap.size + 1 + 1 + 1 + 1 + 1) (g2 := w.heap.size + 1 + 1 + 1 + 1 + 1 + 1) (f := f) (A := W) (B := W) (C := W) ⟨rfl, rfl, rfl⟩ ⟨rfl, rfl, rfl⟩)
      unfold FdAt at hfda
      rw [hc0] at hfda
      obtain ⟨d0, d1, d2, d3, d4, d5, d6, d7⟩ := hfda
      clear hbox h2 h13 hlr hll hlif hx3 hall hlen hn1 hn2 hn3 hn4 hfd hz1 bw r0 r1 r2 r3 hf hgl hlf keep ol s0 s1 s2 s3 sf hallW hI d0 d2 d3 d4 d5 d6 d7 hnlt hc0
      generalize b * P + x.1 = n at *
      gi_wp2
      exact ⟨KeepsFrom.refl _ _, HR.out, HI.out⟩
    · have hxb : (if lkU l (b * P) (pre.map (·.1)) = true then xs.set b 2 else xs).getD b 0 ≠ 3 := by
        split
        · have hlx : b < xs.length := by have := hlif.ok.len; omega
          rw [List.getD_eq_getElem?_getD, List.getElem?_set_self hlx]
          decide
        · exact hx3
      have hss : (if lkU l (b * P) (pre.map (·.1)) = true then xs.set b 2 else xs).set b 2 = xs.set b 2 := by
        split
        · rw [List.set_set]
        · rfl
      have hF0 := Lf.let_yes hI.lif b hb hxb 2 (by omega) (by omega)
      rw [hss, show (if (-1 : Int) = (b : Int) then (-1 : Int) else -1) = -1 by split <;> rfl] at hF0
      have HF : Hid (Calls Tryz.prog 111 #[.pointer (some ⟨la, 0, none⟩), .int .i64 b] W fun e w' => e = .returned (.bool true) ∧ (Lf.Lif w' la lg B P (xs.set b 2) (-1) 0 ∧ Kp (Lf.ownL la lg) W w')) := Lf.full_of hF0
      have hR0 : LkR w.heap.size la g o (b * P + x.1) na ac f gl b B (l.getD (b * P + x.1) fdZ) W := ⟨⟨q0, q1, q2, q3⟩, q13, hfda.2.1, hfda.2.2.2.1, hfda.2.2.2.2.2.2.1⟩
      have hgI : g < W.heap.size := hgW
      have hzW : w.heap.size + 1 + 1 + 1 + 1 < W.heap.size := by have := hI.kp.size; omega
      have hgb : g ≠ gl ∧ ¬ Lf.ownL la lg g := hn4 g o rfl
      have HW := Hid.mk (And.intro hI (And.intro hR0 (And.intro hgI (And.intro hzW (And.intro hgb (And.intro hc0 (hfd _ hnlt)))))))
      have hc1 := hfda.2.1
      have hBb : (b : Int) < B := by omega
      generalize hfdv : l.getD (b * P + x.1) fdZ = fd at *
      have HFD := Hid.mk hfdv
      clear hbox h2 h13 hlr hll hlif hx3 hall hlen hn1 hn2 hn3 hn4 hfd hz1 bw r0 r1 r2 r3 keep s0 s1 s2 s3 sf hallW hI hnlt hxb hss hF0 hR0 hgI hgb hfda hgW hfdv
      have hKl : ∀ i, Lf.ownL la lg i → i ≠ w.heap.size ∧ i ≠ w.heap.size + 1 ∧ i ≠ w.heap.size + 1 + 1 ∧ i ≠ w.heap.size + 1 + 1 + 1 ∧ i ≠ f ∧ i ≠ g := fun i hi => by
        have h1 := HX.out.2.2.2.2.2.2.2.2 i hi
        refine ⟨by omega, by omega, by omega, by omega, fun e => ?_, fun e => ?_⟩
        · exact H.out.2.2.2.2.2.2.2.2.2.2.2.1 (e ▸ hi)
        · exact HW.out.2.2.2.2.1.2 (e ▸ hi)
      have HK := Hid.mk (fun w2 (k2 : Kp (Lf.ownL la lg) W w2) => HW.out.2.1.kp k2 (by omega) (Nat.lt_of_lt_of_le (by have := HX.out.2.2.2.2.2.2.1; omega) (Nat.le_refl _)) HW.out.2.2.1 hKl)
      clear hKl
      generalize hnn : b * P + x.1 = n at *
      have HNn := Hid.mk hnn
      clear hnn
      by_cases hv1 : fd.c = 1
      · have hc1' := hc1
        rw [hv1] at hc1'
        clear hc1 hc0
        obtain ⟨mW, hmW⟩ : ∃ m, lkW l (b * P) (pre.map (·.1)) = m := ⟨_, rfl⟩
        obtain ⟨mS, hmS⟩ : ∃ m, lkS l (b * P) (lal.getD b 0) (pre.map (·.1)) = m := ⟨_, rfl⟩
        have HM := Hid.mk (And.intro hmW hmS)
        clear hmW hmS
        have cB : W.cell? ⟨w.heap.size + 1 + 1 + 1 + 1, 0, none⟩ = some (.int .i64 mW) := by rw [← HM.out.1, cell_of_row W _ 0 _ 3 _ HW.out.1.box]; rfl
        have hgo : ¬ Lf.ownL la lg gl := H.out.2.2.2.2.2.2.2.2.2.2.1
        have hbo : ¬ Lf.ownL la lg (w.heap.size + 1 + 1 + 1 + 1) := fun e => by have := HX.out.2.2.2.2.2.2.2.2 _ e; omega
        gi_upto_region 7 with (refine ⟨trivial, ?_⟩; gi_at_call 111; refine (CallsIn.inRound ln ((callsIn_wide (n := 0)).2 HF.out)).mono ?_; rintro e w2 ⟨rfl, l2, k2⟩; have R2 := (HK.out w2 k2).flat; rw [hv1] at R2; obtain ⟨t0, t1, t2, t3, t4, t5, t6, t7⟩ := R2)
        have RS := HK.out w2 k2
        have hbx2 : Row w2 (w.heap.size + 1 + 1 + 1 + 1) 3 .i64 [mW] := by rw [← HM.out.1]; exact (k2.block _ HW.out.1.box.lt hbo).trans HW.out.1.box
        have hrw2 : Row w2 gl 72 .u64 (lal.set b mS) := by rw [← HM.out.2]; exact (k2.block _ HW.out.1.row.lt hgo).trans HW.out.1.row
        have d0 : w2.cell? ⟨w.heap.size + 1 + 1 + 1 + 1, 0, none⟩ = some (.int .i64 mW) := by rw [cell_of_row w2 _ 0 _ 3 _ hbx2]; rfl
        have f0 : w2.frozen? ⟨w.heap.size + 1 + 1 + 1 + 1, 0, none⟩ = false := hbx2.frozen 0
        obtain ⟨v, hv⟩ : ∃ v, max mW (min fd.W 1073741824) = v := ⟨_, rfl⟩
        have HV := Hid.mk hv
        obtain ⟨w3, hw3⟩ : ∃ w3, (w2.setCell ⟨w.heap.size + 1 + 1 + 1 + 1, 0, none⟩ (.int .i64 v)).drew = w3 := ⟨_, rfl⟩
        have k3 : Kp (fun i => i = w.heap.size + 1 + 1 + 1 + 1) w2 w3 := by
          rw [← hw3]
          exact ((Kp.refl (fun i => i = w.heap.size + 1 + 1 + 1 + 1) w2).setCell (p := ⟨w.heap.size + 1 + 1 + 1 + 1, 0, none⟩) rfl _).drew
        have hbx3 : Row w3 (w.heap.size + 1 + 1 + 1 + 1) 3 .i64 [v] := by
          rw [← hw3]
          exact (Row.drew (hbx2.stored 0 v))
        have hsz2 := k2.size
        have hgW2 : g < W.heap.size := HW.out.2.2.1
        have hfW : f < w.heap.size := HX.out.2.2.2.2.2.2.1
        have hglW : gl < w.heap.size := HX.out.2.2.2.2.2.2.2.1
        have hgz : g ≠ w.heap.size + 1 + 1 + 1 + 1 := by have := HG0.out; omega
        have RS3 := RS.kp k3 (by omega) (by omega) (by omega) (fun i hi => by subst hi; exact ⟨by omega, by omega, by omega, by omega, by omega, fun e => hgz e.symm⟩)
        have hS : LkR w.heap.size la g o n na ac f gl b B fd w2.drew := RS
        refine region_held_round (S := LkR w.heap.size la g o n na ac f gl b B fd) (by kernel_rfl) (by kernel_rfl) hS (fun hHeld => ?_)
        refine tkF 1 (fun _ q => LkR.flat q) hHeld ?_
        refine tkF 2 (fun _ q => LkR.flat q) hHeld ?_
        refine tkF 3 (fun _ q => LkR.flat q) hHeld ?_
        refine tkF 4 (fun _ q => LkR.flat q) hHeld ?_
        refine tkF 5 (fun _ q => LkR.flat q) hHeld ?_
        refine tkF 6 (fun _ q => LkR.flat q) hHeld ?_
        refine tkF 7 (fun _ q => LkR.flat q) hHeld ?_
        refine wpAnyH_ready (rs := [0]) (by kernel_rfl) (by simp) ?_
        refine arH rfl (fun K hK => ?_) AllReadyH.nil
        go_simp
        refine hK.out _ _ hHeld (fun hHeld => ?_)
        clear hK K
        try simp only [Act.put, zA, zB, zC]
        refine tkF 8 (fun _ q => LkR.flat q) hHeld ?_
        refine wpAnyH_ready (rs := [9]) (by kernel_rfl) (by simp) ?_
        refine arH rfl (fun K hK => ?_) AllReadyH.nil
        go_simp
        try rw [hw3]
        refine hK.out _ _ RS3 (fun hHeld => ?_)
        clear hK K
        try simp only [Act.put, zA, zB, zC]
        refine wpAnyH_done (by kernel_rfl) ?_ _
        simp only [Fwd]
        obtain ⟨t0, t1, t2, t3, t4, t5, t6, t7⟩ := RS3.flat
        gi_upto_region 8 with fail
        have hrw3 : Row w3 gl 72 .u64 (lal.set b mS) := (k3.block _ hrw2.lt (by omega)).trans hrw2
        have hlb : b < lal.length := by have := H.out.2.2.2.2.1; omega
        have e3 : w3.cell? ⟨gl, b, none⟩ = some (.int .u64 mS) := by
          rw [hrw3.cell b (by rw [List.length_set]; exact hlb), List.getD_eq_getElem?_getD, List.getElem?_set_self hlb]; rfl
        have f3 : w3.frozen? ⟨gl, b, none⟩ = false := hrw3.frozen b
        obtain ⟨v2, hv2⟩ : ∃ v, max mS fd.S = v := ⟨_, rfl⟩
        have HV2 := Hid.mk hv2
        obtain ⟨w4, hw4⟩ : ∃ w4, (w3.setCell ⟨gl, b, none⟩ (.int .u64 v2)).drew = w4 := ⟨_, rfl⟩
        have k4 : Kp (fun i => i = gl) w3 w4 := by
          rw [← hw4]
          exact ((Kp.refl (fun i => i = gl) w3).setCell (p := ⟨gl, b, none⟩) rfl _).drew
        have hrw4 : Row w4 gl 72 .u64 ((lal.set b mS).set b v2) := by
          rw [← hw4]
          exact (Row.drew (hrw3.stored b v2))
        have hbx4 : Row w4 (w.heap.size + 1 + 1 + 1 + 1) 3 .i64 [v] := (k4.block _ hbx3.lt (by omega)).trans hbx3
        have hsz3 := k3.size
        have hS4 : LkR w.heap.size la g o n na ac f gl b B fd w3.drew := RS3
        refine region_held_round (S := LkR w.heap.size la g o n na ac f gl b B fd) (by kernel_rfl) (by kernel_rfl) hS4 (fun hHeld => ?_)
        refine tkF 0 (fun _ q => LkR.flat q) hHeld ?_
        refine tkF 1 (fun _ q => LkR.flat q) hHeld ?_
        refine tkF 2 (fun _ q => LkR.flat q) hHeld ?_
        refine tkF 3 (fun _ q => LkR.flat q) hHeld ?_
        refine tkF 4 (fun _ q => LkR.flat q) hHeld ?_
        refine tkF 5 (fun _ q => LkR.flat q) hHeld ?_
        refine tkF 6 (fun _ q => LkR.flat q) hHeld ?_
        refine tkF 7 (fun _ q => LkR.flat q) hHeld ?_
        refine tkF 8 (fun _ q => LkR.flat q) hHeld ?_
        refine tkF 9 (fun _ q => LkR.flat q) hHeld ?_
        refine tkF 10 (fun _ q => LkR.flat q) hHeld ?_
        refine tkF 12 (fun _ q => LkR.flat q) hHeld ?_
        refine tkF 13 (fun _ q => LkR.flat q) hHeld ?_
        refine tkF 14 (fun _ q => LkR.flat q) hHeld ?_
        refine tkF 15 (fun _ q => LkR.flat q) hHeld ?_
        refine tkF 16 (fun _ q => LkR.flat q) hHeld ?_
        refine tkF 17 (fun _ q => LkR.flat q) hHeld ?_
        refine wpAnyH_ready (rs := [11]) (by kernel_rfl) (by simp) ?_
        refine arH rfl (fun K hK => ?_) AllReadyH.nil
        go_simp
        refine hK.out _ _ hHeld (fun hHeld => ?_)
        clear hK K
        try simp only [Act.put, zA, zB, zC]
        refine tkF 18 (fun _ q => LkR.flat q) hHeld ?_
        refine tkF 19 (fun _ q => LkR.flat q) hHeld ?_
        refine wpAnyH_ready (rs := [20]) (by kernel_rfl) (by simp) ?_
        refine arH rfl (fun K hK => ?_) AllReadyH.nil
        go_simp
        try rw [hw4]
        refine hK.out _ _ (RS3.kp k4 (by omega) (by omega) (by omega) (fun i hi => by subst hi; exact ⟨by omega, by omega, by omega, by omega, H.out.2.2.2.2.2.2.2.2.2.1, fun e => HW.out.2.2.2.2.1.1 e.symm⟩)) (fun hHeld => ?_)
        clear hK K
        try simp only [Act.put, zA, zB, zC]
        refine wpAnyH_done (by kernel_rfl) ?_ _
        simp only [Fwd]
        have hlo := HX.out.2.2.2.2.2.2.2.2
        have hfo : ¬ Lf.ownL la lg f := H.out.2.2.2.2.2.2.2.2.2.2.2.1
        have hgf : gl ≠ f := H.out.2.2.2.2.2.2.2.2.2.1
        have hszW := HW.out.1.kp.size
        have kk : Kp (fun i => i = gl ∨ Lf.ownL la lg i ∨ i = w.heap.size + 1 + 1 + 1 + 1) W w4 := ((k2.mono (fun _ h => .inr (.inl h))).trans (k3.mono (fun _ h => .inr (.inr h)))).trans (k4.mono (fun _ h => .inl h))
        refine ⟨kk.keepsFrom (fun i hi => by
            rcases hi with hi | hi | hi
            · omega
            · have := hlo i hi; omega
            · omega), kk.kpP (by omega) (by omega) (by omega) ⟨fun e => by
            rcases e with e | e | e
            · omega
            · have := hlo _ e; omega
            · omega, fun e => by
            rcases e with e | e | e
            · omega
            · have := hlo _ e; omega
            · omega, fun e => by
            rcases e with e | e | e
            · exact hgf e.symm
            · exact hfo e
            · omega⟩, ?_⟩
        have hcn : (l.getD (b * P + x.1) fdZ).c ≠ 0 := by rw [HNn.out, HFD.out, hv1]; decide
        refine HW.out.1.full x hcn k2 l2 (v := v) (w := v2) (by unfold stp1; rw [HNn.out, HFD.out, if_pos hv1, HM.out.1]; exact HV.out) (by unfold stp2; rw [HNn.out, HFD.out, if_pos hv1, HM.out.2]; exact HV2.out) ((k3.mono (fun _ h => .inr h)).trans (k4.mono (fun _ h => .inl h))) (by rw [HM.out.2]; exact hrw4) hbx4 hgo hbo
      · have hne0 : (fd.c != 0) = true := by simp [hc0]
        have hne1 : (fd.c == 1) = false := by simp [hv1]
        clear hc0 hv1
        gi_wp2_with (refine ⟨trivial, ?_⟩; gi_at_call 111; refine (CallsIn.inRound ln ((callsIn_wide (n := 0)).2 HF.out)).mono ?_; rintro e w2 ⟨rfl, l2, k2⟩; have R2 := (HK.out w2 k2).flat; obtain ⟨t0, t1, t2, t3, t4, t5, t6, t7⟩ := R2)
        have hgo : ¬ Lf.ownL la lg gl := H.out.2.2.2.2.2.2.2.2.2.2.1
        have hbo : ¬ Lf.ownL la lg (w.heap.size + 1 + 1 + 1 + 1) := fun e => by have := HX.out.2.2.2.2.2.2.2.2 _ e; omega
        have hfo : ¬ Lf.ownL la lg f := H.out.2.2.2.2.2.2.2.2.2.2.2.1
        have hsz := HW.out.1.kp.size
        have hf0 := HX.out.2.2.2.2.2.2.1
        have hcn : (l.getD (b * P + x.1) fdZ).c ≠ 0 := by rw [HNn.out, HFD.out]; exact HW.out.2.2.2.2.2.1
        have hcn1 : ¬ (l.getD (b * P + x.1) fdZ).c = 1 := by rw [HNn.out, HFD.out]; simpa using hne1
        refine ⟨k2.keepsFrom (fun i hi => by have := HX.out.2.2.2.2.2.2.2.2 i hi; omega), k2.kpP (by omega) (by omega) (by omega) ⟨fun e => by have := HX.out.2.2.2.2.2.2.2.2 _ e; omega, fun e => by have := HX.out.2.2.2.2.2.2.2.2 _ e; omega, hfo⟩, ?_⟩
        refine HW.out.1.full x hcn k2 l2 (v := lkW l (b * P) (pre.map (·.1))) (w := lkS l (b * P) (lal.getD b 0) (pre.map (·.1))) (by unfold stp1; rw [if_neg hcn1]) (by unfold stp2; rw [if_neg hcn1]) (Kp.refl _ w2) ?_ ((k2.block _ HW.out.1.box.lt hbo).trans HW.out.1.box) hgo hbo
        rw [List.set_set]
        exact (k2.block _ HW.out.1.row.lt hgo).trans HW.out.1.row
  case done =>
    intro D ys W hD hS hI hK
    obtain ⟨eX, eL, eM⟩ := HXS.out
    have hI2 := hI
    obtain ⟨hIk, hIr, hIl, hIb⟩ := hI2
    rw [hS, eL] at hIr
    rw [hS, eX] at hIl
    rw [hS, eM] at hIb
    have cB : W.cell? ⟨w.heap.size + 1 + 1 + 1 + 1, 0, none⟩ = some (.int .i64 MS) := by rw [cell_of_row W _ 0 _ 3 _ hIb]; rfl
    have HI := Hid.mk (And.intro hIk (And.intro hIr hIl))
    clear hI hIk hIr hIl hIb hS hst hOwn I0 hKb eX eL eM
    gi_wp2
    refine ⟨by simp, .inl ⟨_, _, rfl, run_takeDeferred hK, ?_⟩⟩
    obtain ⟨hIk, hIr, hIl⟩ := HI.out
    obtain ⟨_, hbw, _, _, _, _, _, hglt, hlt⟩ := HX.out
    have hbl : ∀ i, i < w1.heap.size → (W.putObj D (.deferred none)).heap[i]? = W.heap[i]? := fun i hi => World.putObj_heap_other (by omega)
    refine ⟨_, results_tmp rfl _ _ _, ?_⟩
    refine ⟨rfl, (hbl gl (by omega)).trans hIr, hIl.same (fun i hi => hbl i (by have := hlt i hi; omega)), ?_⟩
    have k0 : Kp (fun i => i = gl ∨ Lf.ownL la lg i) w w1 := by
      rw [← hw1]
      exact ((((((((Kp.refl _ w).alloc _).alloc _).alloc _).alloc _).alloc _).alloc _).alloc _)
    refine ⟨hIk.os.trans k0.os, hIk.tape.trans k0.tape, hIk.output.trans k0.output, ?_, fun i hi hn => ?_⟩
    · have e1 := k0.size
      have e2 := hIk.size
      have e3 : (W.putObj D (.deferred none)).heap.size = W.heap.size := by simp
      omega
    · rw [hbl i (Nat.lt_of_lt_of_le hi k0.size), hIk.block i (Nat.lt_of_lt_of_le hi k0.size) (fun x => by
        rcases x with x | x | x
        · exact hn (.inl x)
        · exact hn (.inr x)
        · omega)]
      exact k0.block i hi hn
  case stop =>
    intro D c pre W _ _ h _
    exact h.elim
end Go.Proofs.YtcmmhfjnhlaepabGreatDoor
