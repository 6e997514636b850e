/-
  Maps whose keys are structs of numbers, said as functions of their keys: what a look-up answers, and what counting one up leaves. No condition.
-/
import Derived.Test.YtbhggcleijjofaaDoorSli
import Derived.Maps.Ext
import Derived.DeepKeys4
import Derived.WideKeyEntry
namespace Go.Proofs.YtbhggcleijjofaaDoor
open Go Go.RowKit Go.Maps
open Go.ChangeMaps (setBlock heap_setBlock_same heap_setBlock_other)
set_option maxRecDepth 100000

theorem law95 : WideMaps.KeyLaw Tryd.prog 95 := deep_law_laid (by kernel_rfl) (m := 2) (by omega) (of_decide_eq_true (by kernel_rfl)) (by kernel_rfl) (by kernel_rfl)
theorem law156 : WideMaps.KeyLaw Tryd.prog 156 := deep_law_laid (by kernel_rfl) (m := 3) (by omega) (of_decide_eq_true (by kernel_rfl)) (by kernel_rfl) (by kernel_rfl)
/-- a key: a number without a sign, then others -/
def kV : List Int → Value
  | [] => .agg #[]
  | S :: r => .agg (.int .u64 S :: r.map (Value.int .i64)).toArray
theorem kV_inj {l l' : List Int} (h : kV l = kV l') : l = l' := by
  cases l <;> cases l' <;> simp [kV] at h
  · rfl
  · obtain ⟨rfl, h⟩ := h
    have hi : ∀ a b : List Int, a.map (Value.int .i64) = b.map (Value.int .i64) → a = b := by
      intro a
      induction a with
      | nil => intro b h; cases b <;> simp at h ⊢
      | cons x a ih => intro b h; cases b <;> simp at h ⊢; exact ⟨h.1, ih _ h.2⟩
    rw [hi _ _ h]
def N64 (x : Int) : Prop := -9223372036854775808 ≤ x ∧ x ≤ 9223372036854775807
def U64 (x : Int) : Prop := 0 ≤ x ∧ x ≤ 18446744073709551615
theorem N64.wf {x : Int} (h : N64 x) : (Lit.int .i64 x).wf = true := WalkArith.wf_i64 (by unfold N64 at h; omega)
theorem U64.wf {x : Int} (h : U64 x) : (Lit.int .u64 x).wf = true := by
  unfold U64 at h
  have h1 : IntKind.u64.min = 0 := rfl
  have h2 : IntKind.u64.max = 18446744073709551615 := rfl
  simp [Lit.wf, h1, h2]
  omega
theorem lit_u (d : Nat) {x : Int} (h : U64 x) : Tryd.prog.keyLits (d + 1) 23 [.int .u64 x] = some [.int .u64 x] := by
  unfold Program.keyLits
  rw [Tryd.underlying23]
  simp [h.wf]
theorem lit_i (d : Nat) {x : Int} (h : N64 x) : Tryd.prog.keyLits (d + 1) 3 [.int .i64 x] = some [.int .i64 x] := by
  unfold Program.keyLits
  rw [Tryd.underlying3]
  simp [h.wf]
theorem cells95 : Tryd.prog.cellsOf 95 = 2 := by kernel_rfl
theorem cells156 : Tryd.prog.cellsOf 156 = 3 := by kernel_rfl
theorem cells23 : Tryd.prog.cellsOf 23 = 1 := by kernel_rfl
theorem cells3 : Tryd.prog.cellsOf 3 = 1 := by kernel_rfl
theorem lit_set (d : Nat) {S O : Int} (hS : U64 S) (hO : N64 O) : Tryd.prog.keyLits (d + 2) 95 [.int .u64 S, .int .i64 O] = some [.int .u64 S, .int .i64 O] := by
  unfold Program.keyLits
  rw [Tryd.underlying95]
  simp [cells95, cells23, cells3, lit_u d hS, lit_i d hO]
theorem lit_part (d : Nat) {S O I : Int} (hS : U64 S) (hO : N64 O) (hI : N64 I) : Tryd.prog.keyLits (d + 3) 156 [.int .u64 S, .int .i64 O, .int .i64 I] = some [.int .u64 S, .int .i64 O, .int .i64 I] := by
  unfold Program.keyLits
  rw [Tryd.underlying156]
  simp [cells156, cells95, cells3, lit_set d hS hO, lit_i (d + 1) hI]
theorem key95 {S O : Int} (hS : U64 S) (hO : N64 O) : ∃ l, keyOf Tryd.prog 95 (kV [S, O]) = some l := by
  have h1 : (Value.agg #[.int .u64 S, .int .i64 O]).formed Tryd.prog 95 = true := by simp [Value.formed, Tryd.underlying95, cells95]
  have h2 : Tryd.prog.keyType 95 = true := by kernel_rfl
  have h3 := lit_set 204 hS hO
  refine ⟨.string (keyBytes [.int .u64 S, .int .i64 O]), ?_⟩
  show keyOf Tryd.prog 95 (.agg #[.int .u64 S, .int .i64 O]) = _
  unfold keyOf
  rw [Tryd.underlying95]
  simp [h1, h2, Value.cells, h3]
theorem key156 {S O I : Int} (hS : U64 S) (hO : N64 O) (hI : N64 I) : ∃ l, keyOf Tryd.prog 156 (kV [S, O, I]) = some l := by
  have h1 : (Value.agg #[.int .u64 S, .int .i64 O, .int .i64 I]).formed Tryd.prog 156 = true := by simp [Value.formed, Tryd.underlying156, cells156]
  have h2 : Tryd.prog.keyType 156 = true := by kernel_rfl
  have h3 := lit_part 203 hS hO hI
  refine ⟨.string (keyBytes [.int .u64 S, .int .i64 O, .int .i64 I]), ?_⟩
  show keyOf Tryd.prog 156 (.agg #[.int .u64 S, .int .i64 O, .int .i64 I]) = _
  unfold keyOf
  rw [Tryd.underlying156]
  simp [h1, h2, Value.cells, h3]

def elN : Value → Option (DataW Unit × List MemPlace)
  | .int .i64 a => some (.lit (.int .i64 a), [])
  | _ => none
theorem elN_inv {v : Value} {z} (h : elN v = some z) : ∃ a, v = .int .i64 a ∧ z = (.lit (.int .i64 a), []) := by
  unfold elN at h
  split at h
  · cases h; exact ⟨_, rfl, rfl⟩
  · cases h
theorem zeroN (w : World) : (zeroValue 3).run Tryd.prog w = .ok (.int .i64 0) w := by kernel_rfl
/-- what a datum says at keys -/
def Tells (k : TypeId) (D : DataW Unit) (F : List Int → Int) : Prop := ∀ l kl, keyOf Tryd.prog k (kV l) = some kl → D.atKey kl (.lit (.int .i64 0)) = .lit (.int .i64 (F l))
/-- block b is a map of at most n entries, in which F says what stands at a key -/
def MapF (k : TypeId) (w : World) (b n : Nat) (F : List Int → Int) : Prop := ∃ D, w.ownsMap Tryd.prog k elN b n D ∧ Tells k D F
theorem MapF.lt {k w b n F} (h : MapF k w b n F) : b < w.heap.size := by
  obtain ⟨D, h, _⟩ := h
  exact World.ownsMap.lt h
theorem MapF.same {k} {w w' : World} {b n F} (h : MapF k w b n F) (e : w'.heap[b]? = w.heap[b]?) : MapF k w' b n F := by
  obtain ⟨D, ⟨es, c, hb, r⟩, h2⟩ := h
  exact ⟨D, ⟨es, c, e.trans hb, r⟩, h2⟩
theorem MapF.mono {k w b n n' F} (h : MapF k w b n F) (hn : n ≤ n') : MapF k w b n' F := by
  obtain ⟨D, h, h2⟩ := h
  exact ⟨D, World.ownsMap.mono h hn, h2⟩
theorem MapF.obj {k w b n F} (h : MapF k w b n F) : ∃ es c, w.heap[b]? = some (.map es c) := by
  obtain ⟨D, ⟨es, c, hb, r⟩, h2⟩ := h
  exact ⟨es, c, hb⟩
theorem MapF.call {k} {w w' : World} {b n F} (h : MapF k w b n F) (q : Below w.heap.size w w') : MapF k w' b n F := h.same (q.block b h.lt)
theorem MapF.drew {k w b n F} (h : MapF k w b n F) : MapF k w.drew b n F := h
theorem MapF.made (k : TypeId) (w : World) : MapF k (w.alloc (.map #[] 0)) w.heap.size 0 (fun _ => 0) :=
  ⟨_, World.ownsMap_made w Tryd.prog k elN, fun _ _ _ => rfl⟩
theorem MapF.look {k t : TypeId} (K : WideMaps.KeyLaw Tryd.prog k) (ht : Tryd.prog.underlying t = some (.map k 3)) {w b n F} (h : MapF k w b n F) {l : List Int} (hk : ∃ y, keyOf Tryd.prog k (kV l) = some y) :
    (Instr.lookup t (.map (some b)) (kV l) false).run Tryd.prog w = .ok (.int .i64 (F l)) w := by
  obtain ⟨D, h1, h2⟩ := h
  obtain ⟨kl, hk⟩ := hk
  obtain ⟨v, ps, hrun, hv⟩ := World.ownsMap.lookup h1 (Keyed.of_law K) ht (zeroN w) (zd := .lit (.int .i64 0)) (zp := []) rfl hk
  rw [h2 l kl hk] at hv
  obtain ⟨a, rfl, e⟩ := elN_inv hv
  obtain ⟨rfl, _⟩ : F l = a ∧ ps = [] := by simpa using e
  exact hrun
theorem kp_set {w : World} {b : Nat} {es c} (hb : w.heap[b]? = some (.map es c)) (o : Obj) : Kp (fun i => i = b) w (setBlock w b o) :=
  ⟨rfl, rfl, rfl, by simp [setBlock], fun i _ hi => heap_setBlock_other hb _ hi⟩
/-- what stands at a key is written -/
def updF (F : List Int → Int) (l : List Int) (x : Int) : List Int → Int := fun y => if y = l then x else F y
theorem updF_self (F : List Int → Int) (l : List Int) : updF F l (F l) = F := by
  funext y
  unfold updF
  split
  · rename_i h; rw [h]
  · rfl
theorem Tells.put {k : TypeId} (K : WideMaps.KeyLaw Tryd.prog k) {D : DataW Unit} (hD : IsMap D) {F : List Int → Int} (h2 : Tells k D F) {l : List Int} {kl : Lit} (hk : keyOf Tryd.prog k (kV l) = some kl) (x : Int) : Tells k (D.put kl (.lit (.int .i64 x))) (updF F l x) := by
  intro l' kl' hk'
  unfold updF
  by_cases e : l' = l
  · subst e
    obtain rfl : kl = kl' := Option.some.inj (hk.symm.trans hk')
    rw [if_pos rfl]
    exact atKey_put_same hD ((Keyed.of_law K).key hk) _ _
  · rw [if_neg e, atKey_put_other (fun e2 => e (kV_inj (K.inj hk' (by rw [e2]; exact hk)))), h2 l' kl' hk']
/-- an entry is found, or made; then it is written -/
theorem MapF.entry {k t : TypeId} (K : WideMaps.KeyLaw Tryd.prog k) (ht : Tryd.prog.underlying t = some (.map k 3)) {w : World} {b n F} (h : MapF k w b n F) (hn : n < 1000000) {l : List Int} (hk : ∃ y, keyOf Tryd.prog k (kV l) = some y) :
    ∃ (st : Nat) (w1 : World), (Instr.mapEntry t (.map (some b)) (kV l)).run Tryd.prog w = .ok (.tuple #[.int .i64 (F l), .int .i64 st]) w1 ∧ MapF k w1 b (n + 1) F ∧ Kp (fun i => i = b) w w1 ∧ w1.heap.size = w.heap.size ∧
      ∀ (w2 : World) (x : Int), w2.heap[b]? = w1.heap[b]? → ∃ w3, (Instr.entryStore t (.map (some b)) (.int .i64 st) (.int .i64 x)).run Tryd.prog w2 = .ok () w3 ∧ MapF k w3 b (n + 1) (updF F l x) ∧ Kp (fun i => i = b) w2 w3 ∧ w3.heap.size = w2.heap.size := by
  have hlook := h.look K ht hk
  have h0 := h
  obtain ⟨D, h1, h2⟩ := h
  obtain ⟨kl, hk⟩ := hk
  have hM := h1.isMap
  have hst := fun (x : Int) => World.ownsMap.store h1 (Keyed.of_law K) ht (Nat.lt_trans hn (by decide)) hk (d := .lit (.int .i64 x)) (ps := []) (val := .int .i64 x) rfl
  obtain ⟨es, clock, hb, F0, hs, hD⟩ := h1
  obtain ⟨v0, st, es1, clock1, hrun, hor, hnext⟩ := WideElems.entry_then_store K ht (fun u => zeroN u) hb F0 hk
  have hb1 : (setBlock w b (.map es1 clock1)).heap[b]? = some (.map es1 clock1) := heap_setBlock_same hb _
  have hmid : v0 = .int .i64 (F l) ∧ MapF k (setBlock w b (.map es1 clock1)) b (n + 1) F := by
    rcases K.find w hk es.toList F0.keys with ⟨g1, g2⟩ | ⟨j, e0, g1, g2, g3⟩
    · have hz : v0 = .int .i64 0 := by
        rcases hor with ⟨e0, q1, q2, _⟩ | ⟨_, q⟩
        · exact absurd q2 (g2 e0 q1)
        · exact q
      have hl2 : (Instr.lookup t (.map (some b)) (kV l) false).run Tryd.prog w = .ok (.int .i64 0) w := by
        simp [Instr.lookup, run_underlying ht, MapKept.run_getObj_map hb, K.check w _ hk, g1, Result.andThen, zeroN w]
      have hF0 : F l = 0 := by
        rw [hlook] at hl2
        simpa using hl2
      refine ⟨by rw [hz, hF0], ?_⟩
      obtain ⟨w', s1, s2, _⟩ := hst 0
      have e1 : (Instr.mapEntry t (.map (some b)) (kV l)).run Tryd.prog w = .ok (.tuple #[.int .i64 0, goInt clock]) (setBlock w b (.map (es.push ⟨kV l, .int .i64 0, clock⟩) (clock + 1))) := by
        simp [Instr.mapEntry, run_underlying ht, MapKept.run_getObj_map hb, K.check w false hk, g1, MapKept.run_setObj_map _ hb, Result.andThen, setBlock]
      have e2 : (Instr.mapUpdate t (.map (some b)) (kV l) (.int .i64 0)).run Tryd.prog w = .ok () (setBlock w b (.map (es.push ⟨kV l, .int .i64 0, clock⟩) (clock + 1))) := by
        simp [Instr.mapUpdate, run_underlying ht, MapKept.run_getObj_map hb, K.check w false hk, g1, MapKept.run_setObj_map _ hb, Result.andThen, setBlock]
      rw [e1] at hrun
      rw [s1] at e2
      simp only [Result.ok.injEq] at hrun e2
      rw [← hrun.2, ← e2.2]
      have h3 := Tells.put K hM h2 hk 0
      rw [← hF0, updF_self] at h3
      exact ⟨_, s2, by rw [← hF0]; exact h3⟩
    · have hj : es[j]? = some e0 := by simpa using g2
      have hsame : es.modify j (fun e => { e with key := kV l }) = es := by
        apply Array.ext_getElem?
        intro i
        rw [Array.getElem?_modify]
        split
        · rename_i h; subst h
          rw [hj]
          simp [← g3]
        · rfl
      have e1 : (Instr.mapEntry t (.map (some b)) (kV l)).run Tryd.prog w = .ok (.tuple #[e0.val, goInt e0.born]) (setBlock w b (.map es clock)) := by
        simp [Instr.mapEntry, run_underlying ht, MapKept.run_getObj_map hb, K.check w false hk, g1, hj, g3, K.stays w hk, hsame, MapKept.run_setObj_map _ hb, Result.andThen, setBlock]
      have hl2 : (Instr.lookup t (.map (some b)) (kV l) false).run Tryd.prog w = .ok e0.val w := by
        simp [Instr.lookup, run_underlying ht, MapKept.run_getObj_map hb, K.check w _ hk, g1, Result.andThen]
      rw [hlook] at hl2
      have hev : e0.val = .int .i64 (F l) := by simpa using hl2.symm
      rw [e1] at hrun
      simp only [Result.ok.injEq] at hrun
      refine ⟨?_, ?_⟩
      · have := hrun.1
        rw [hev] at this
        simp at this
        exact this.1.symm
      · rw [← hrun.2]
        exact (h0.same ((heap_setBlock_same hb _).trans hb.symm)).mono (Nat.le_succ _)
  obtain ⟨rfl, hmid⟩ := hmid
  refine ⟨st, _, hrun, hmid, kp_set hb _, by simp [setBlock], fun w2 x hw2 => ?_⟩
  rw [hb1] at hw2
  obtain ⟨es', clock', r1, r2⟩ := hnext w2 (.int .i64 x) hw2
  obtain ⟨w', s1, s2, _⟩ := hst x
  rw [s1] at r2
  obtain rfl : w' = _ := by simpa using r2
  refine ⟨_, r1, ?_, kp_set hw2 _, by simp [setBlock]⟩
  obtain ⟨es'', c'', q1, q2⟩ := s2
  rw [heap_setBlock_same hb] at q1
  exact ⟨_, ⟨es'', c'', (heap_setBlock_same hw2 _).trans q1, q2⟩, h2.put K hM hk x⟩
end Go.Proofs.YtbhggcleijjofaaDoor
