/-
  Slices of numbers: where one stands, whether one is there, another slice of the same. No condition.
-/
import Derived.Test.YtbhggcleijjofaaDoorSli
import Derived.Test.YtbhggcleijjofaaDoorChip
import Derived.Lib.SliceRun
namespace Go.Proofs.YtbhggcleijjofaaDoor
open Go Go.RowKit Go.Maps
set_option maxRecDepth 100000

/-- from this address on lie these numbers -/
def Rds (w : World) (a : Option Addr) (l : List Int) : Prop := ∀ i, i < l.length → ∃ g o, a = some ⟨g, o, none⟩ ∧ g < w.heap.size ∧ w.cell? ⟨g, o + i, none⟩ = some (.int .i64 (l.getD i 0))
/-- the first place of a number, from k on in the counting; below 0: none -/
def idx (l : List Int) (x : Int) : Int := if x ∈ l then ((l.findIdx (fun y => decide (x = y)) : Nat) : Int) else -1
theorem contains_any {w : World} {a : Option Addr} {l : List Int} (h : Rds w a l) (hl : l.length ≤ 1000000) (cap : Nat) (x : Int) : Calls Tryd.prog 76 #[.slice a l.length cap, .int .i64 x] w fun e w' => e = .returned (.bool (decide (x ∈ l))) ∧ w' = w := by
  have key : Calls Tryd.prog 75 #[.slice a l.length cap, .int .i64 x] w fun e w' => ∃ q : Int, e = .returned (.int .i64 q) ∧ w' = w ∧ -1 ≤ q ∧ (x ∈ l ↔ 0 ≤ q) := by
    have H := Hid.mk h
    obtain ⟨n, hn⟩ : ∃ n, n = l.length := ⟨_, rfl⟩
    rw [← hn] at hl ⊢
    have HN := Hid.mk hn
    clear h hn
    go_enter Tryd.func75, Tryd.ntmps75
    go_wp2
    go_loop [8] (fun i => ∃ j : Nat, j ≤ n ∧ i = .int .i64 j ∧ ∀ k, k < j → l.getD k 0 ≠ x) (fun i => n - (intOf i).toNat)
    case atStart => exact ⟨0, Nat.zero_le _, rfl, fun k hk => by omega⟩
    case round =>
      obtain ⟨j, hj, rfl, hjo⟩ := hrel
      by_cases hlt : j < n
      · obtain ⟨g, o, rfl, hg, cj⟩ := H.out j (by rw [← HN.out]; exact hlt)
        have hmem : l.getD j 0 ∈ l := by
          have hjl : j < l.length := by rw [← HN.out]; exact hlt
          simp [List.getD_eq_getElem?_getD, hjl]
        have HY := Hid.mk (And.intro hmem hjo)
        generalize hy : l.getD j 0 = y at *
        have HYY := Hid.mk hy
        clear hmem hjo hy
        have hlt1 : (j : Int) < n := by omega
        by_cases hx : x = y
        · subst hx
          go_wp2
          go_ret
          exact ⟨j, rfl, rfl, by omega, iff_of_true HY.out.1 (by omega)⟩
        · go_wp2
          refine ⟨⟨j + 1, by omega, by go_num, fun k hk => ?_⟩, by simp [intOf]; omega⟩
          by_cases e : k = j
          · subst e; rw [HYY.out]; exact fun e => hx e.symm
          · exact HY.out.2 k (by omega)
      · have hlt1 : ¬ (j : Int) < n := by omega
        have HY := Hid.mk hjo
        clear hjo
        go_wp2
        go_ret
        refine ⟨-1, rfl, rfl, by omega, iff_of_false ?_ (by omega)⟩
        intro hm
        obtain ⟨k, hk, hke⟩ := List.mem_iff_getElem.1 hm
        refine HY.out k (by rw [← HN.out] at hk; omega) ?_
        simp [List.getD_eq_getElem?_getD, hk, hke]
  generalize l.length = n at *
  by_cases hm : x ∈ l
  · rw [decide_eq_true hm]
    have HK : Hid (Calls Tryd.prog 75 #[.slice a n cap, .int .i64 x] w fun e w' => ∃ q : Int, e = .returned (.int .i64 q) ∧ w' = w ∧ -1 ≤ q ∧ 0 ≤ q) := key.mono (fun e w' ⟨q, h1, h2, h3, h4⟩ => ⟨q, h1, h2, h3, h4.1 hm⟩)
    clear key h hl hm
    go_enter Tryd.func76, Tryd.ntmps76
    go_wp2_with (go_at_call 75; refine HK.out.mono ?_; rintro e w' ⟨q, rfl, rfl, h1, h2⟩)
    go_ret
    exact ⟨rfl, rfl⟩
  · rw [decide_eq_false hm]
    have HK : Hid (Calls Tryd.prog 75 #[.slice a n cap, .int .i64 x] w fun e w' => ∃ q : Int, e = .returned (.int .i64 q) ∧ w' = w ∧ q = -1) := key.mono (fun e w' ⟨q, h1, h2, h3, h4⟩ => ⟨q, h1, h2, by have : ¬ 0 ≤ q := fun x => hm (h4.2 x); omega⟩)
    clear key h hl hm
    go_enter Tryd.func76, Tryd.ntmps76
    go_wp2_with (go_at_call 75; refine HK.out.mono ?_; rintro e w' ⟨q, rfl, rfl, rfl⟩)
    go_ret
    exact ⟨rfl, rfl⟩
/-- a slice of numbers that lies in a block of its own, from B on -/
def rowsI (l : List Int) : We.Rws := l.map fun x => [.int .i64 x]
theorem rowsI_len (l : List Int) : (rowsI l).length = l.length := by unfold rowsI; rw [List.length_map]
theorem rowsI_getD (l : List Int) (j : Nat) (hj : j < l.length) : (rowsI l).getD j [] = [.int .i64 (l.getD j 0)] := by
  unfold rowsI; simp [List.getD_eq_getElem?_getD, hj]
theorem rowsI_app (l : List Int) (x : Int) : rowsI l ++ [[.int .i64 x]] = rowsI (l ++ [x]) := by unfold rowsI; simp
theorem rowsI_flat (l : List Int) : (rowsI l).flatten = l.map (fun x => .int .i64 x) := by
  unfold rowsI
  induction l with
  | nil => rfl
  | cons x r ih => simp only [List.map_cons, List.flatten_cons, ih, List.singleton_append]
def Ints (w : World) (B : Nat) (v : Value) (l : List Int) : Prop := We.Ow w B 3 1 v (rowsI l)
theorem Ints.form {w : World} {B v l} (h : Ints w B v l) : ∃ a cap, v = .slice a l.length cap := by
  have := We.Ow.form h
  rw [rowsI_len] at this
  exact this
theorem Ints.rds {w : World} {B a n cap l} (h : Ints w B (.slice a n cap) l) : Rds w a l := by
  intro i hi
  obtain ⟨g, ha, _, hg, hc⟩ := We.Ow.at h (j := i) (by rw [rowsI_len]; exact hi)
  refine ⟨g, 0, ha, hg, ?_⟩
  have := hc 0 (by omega)
  rw [rowsI_getD l i hi, Nat.mul_one] at this
  simpa using this
theorem Ints.cell {w : World} {B a n cap l} (h : Ints w B (.slice a n cap) l) {j : Nat} (hj : j < l.length) : ∃ g, a = some ⟨g, 0, none⟩ ∧ g < w.heap.size ∧ n = l.length ∧ w.cell? ⟨g, j, none⟩ = some (.int .i64 (l.getD j 0)) ∧ w.frozen? ⟨g, j, none⟩ = false := by
  obtain ⟨g, ha, _, hg, hc⟩ := We.Ow.at h (j := j) (by rw [rowsI_len]; exact hj)
  subst ha
  obtain ⟨a', c', hv⟩ := h.form
  simp only [Value.slice.injEq] at hv
  obtain ⟨_, rfl, _⟩ := hv
  refine ⟨g, rfl, hg, rfl, ?_, ?_⟩
  · have := hc 0 (by omega)
    rw [rowsI_getD l j hj, Nat.mul_one] at this
    simpa using this
  · have := h.own
    rw [rowsI_len] at this
    exact this.frozenAt j
theorem Ints.set {w : World} {B g n cap l} (h : Ints w B (.slice (some ⟨g, 0, none⟩) n cap) l) (j : Nat) (x : Int) : Ints (w.setCell ⟨g, j, none⟩ (.int .i64 x)) B (.slice (some ⟨g, 0, none⟩) n cap) (l.set j x) := by
  obtain ⟨a', c', hv⟩ := h.form
  simp only [Value.slice.injEq] at hv
  obtain ⟨_, rfl, _⟩ := hv
  have ho := h.own
  rw [rowsI_len] at ho
  have hs := (ho.stored j (.int .i64 x)).1
  refine ⟨?_, fun r hr => ?_, fun r hr u hu => ?_⟩
  · rw [rowsI_len, List.length_set, rowsI_flat, List.map_set, ← rowsI_flat]
    exact hs
  · unfold rowsI at hr
    obtain ⟨y, _, rfl⟩ := List.mem_map.1 hr
    rfl
  · unfold rowsI at hr
    obtain ⟨y, _, rfl⟩ := List.mem_map.1 hr
    simp only [List.mem_singleton] at hu
    subst hu
    rfl
theorem Ints.nil (w : World) (B : Nat) : Ints w B (.slice none 0 0) [] := We.Ow.nil w B 3 1
theorem ei31 : We.EI 31 3 1 8 := ⟨Tryd.underlying31, ⟨_, _, rfl, rfl, rfl, rfl, rfl⟩, by decide, by decide⟩
theorem ei144 : We.EI 144 148 2 16 := ⟨Tryd.underlying144, ⟨_, _, rfl, rfl, rfl, rfl, rfl⟩, by decide, by decide⟩
section
variable {ops : Array Oper} {rest : List Oper} {o : Oper} {a : Act} {Q : Exit → Act → World → Prop}
/-- numbers that lie anywhere, appended to none -/
theorem wp_appI {w : World} {ad : Addr} {l : List Int} {cap : Nat} (hgd : o.guard = none) (s x : Operand) (ho : o.op = .call { callee := .builtin .append, args := #[s, x], argTypes := #[31, 31] })
    (h : Rds w (some ad) l) (hs : a.eval s = .slice (some ⟨w.heap.size, 0, none⟩) 0 0) (hx : a.eval x = .slice (some ad) l.length cap) (hn : l.length ≤ 100000)
    (hK : ∀ v' w', Ints w' w.heap.size v' l → Below w.heap.size w w' → wpList Tryd.prog ops Q rest (a.put o.dst v') w') :
    wpList Tryd.prog ops Q (o :: rest) a (w.alloc (.cells #[] 3)) := by
  obtain ⟨i, z, q1, q2, q3, q4, q5⟩ := ei31.info
  have hm := We.Ow.made w (Nat.le_refl _) 3 1
  refine wpList_append_own_at _ hgd s x 31 ho w.heap.size 3 i z 1 8 ei31.under q1 q2 q3 q4 q5 ei31.pos _ 0 [] hs hm.own ad l.length cap (l.map fun x => .int .i64 x) hx (by rw [List.length_map, Nat.mul_one]) (fun j u hj => ?_) (fun u hu => by obtain ⟨y, _, rfl⟩ := List.mem_map.1 hu; rfl) (by simp [maxLen]; omega) (by omega) (by rw [size_alloc]; omega) (fun v' w' p1 p2 _ p4 => hK v' w' ⟨?_, fun r hr => ?_, fun r hr u hu => ?_⟩ ?_)
  · have hjl : j < l.length := by
      have := (List.getElem?_eq_some_iff.1 hj).1
      simpa using this
    obtain ⟨g, o, e, hg, hc⟩ := h j hjl
    cases e
    have e1 : (⟨g, o, none⟩ : Addr).add j = ⟨g, o + j, none⟩ := by unfold Addr.add; split <;> simp_all
    rw [e1, World.cell?_of_block (a := ⟨g, o + j, none⟩) (Below.heap_alloc w _ g hg), hc, ← hj]
    simp [List.getD_eq_getElem?_getD, hjl]
  · rw [rowsI_len, rowsI_flat]
    simpa using p1
  · unfold rowsI at hr
    obtain ⟨y, _, rfl⟩ := List.mem_map.1 hr
    rfl
  · unfold rowsI at hr
    obtain ⟨y, _, rfl⟩ := List.mem_map.1 hr
    simp only [List.mem_singleton] at hu
    subst hu
    rfl
  · have g1 := World.grownBy_alloc w (.cells #[] 3) (some w.heap.size)
    exact ⟨p2.os.trans g1.os, p2.tape.trans g1.tape, p2.output.trans g1.output, Nat.le_trans g1.size p2.size, fun k hk => (p2.block k (Nat.lt_of_lt_of_le hk g1.size) (fun e => by simp [Value.ownBlock] at e; omega)).trans (g1.block k hk (fun e => by simp at e; omega))⟩
end
theorem clone_any {w : World} {a : Addr} {l : List Int} (h : Rds w (some a) l) (hl : l.length ≤ 100000) (cap : Nat) : Calls Tryd.prog 38 #[.slice (some a) l.length cap] w fun e w' => ∃ v, e = .returned v ∧ Ints w' w.heap.size v l ∧ Below w.heap.size w w' := by
  have H := Hid.mk h
  have hq := fun w => Lib.run_eql_slice_nil (P := Tryd.prog) w 31 3 (some a) l.length cap 0 0 Tryd.underlying31
  clear h
  go_enter Tryd.func38, Tryd.ntmps38
  go_wp2_with (at_builtin; refine wp_appI rfl _ _ rfl H.out rfl rfl hl ?_; intro v' w' h1 b1)
  go_ret
  exact ⟨_, rfl, h1, b1⟩
theorem clone_nil (w : World) : Calls Tryd.prog 38 #[.slice none 0 0] w fun e w' => e = .returned (.slice none 0 0) ∧ w' = w := by
  have hq := fun w => Lib.run_eql_slice_nil (P := Tryd.prog) w 31 3 none 0 0 0 0 Tryd.underlying31
  go_enter Tryd.func38, Tryd.ntmps38
  go_wp2
  go_ret
  exact ⟨rfl, rfl⟩
end Go.Proofs.YtbhggcleijjofaaDoor
