/-
  What a call may turn of the world: a state's own blocks, and new ones; the walks of New, leave and fill. No condition.
-/
import Derived.Test.YtccelipljbkkgaaSt
namespace Go.Proofs.Ytccelipljbkkgaa
open Go Go.RowKit Go.Maps

/-- from w to w' only blocks of the state s have turned; s' has no others but new ones -/
structure Ch (w w' : World) (s s' : St) : Prop where
  os : w'.os = w.os
  tape : w'.tape = w.tape
  output : w'.output = w.output
  size : w.heap.size ≤ w'.heap.size
  block : ∀ i, i < w.heap.size → i ∉ foot s → w'.heap[i]? = w.heap[i]?
  own : ∀ i ∈ foot s', i ∈ foot s ∨ w.heap.size ≤ i
  home : s'.p = s.p
theorem Ch.refl (w : World) (s : St) : Ch w w s s := ⟨rfl, rfl, rfl, Nat.le_refl _, fun _ _ _ => rfl, fun _ h => .inl h, rfl⟩
theorem Ch.trans {a b c : World} {s t u : St} (h : Ch a b s t) (k : Ch b c t u) : Ch a c s u := by
  refine ⟨k.os.trans h.os, k.tape.trans h.tape, k.output.trans h.output, Nat.le_trans h.size k.size, fun i hi hn => ?_, fun i hi => ?_, k.home.trans h.home⟩
  · refine (k.block i (Nat.lt_of_lt_of_le hi h.size) (fun hm => ?_)).trans (h.block i hi hn)
    rcases h.own i hm with h1 | h1
    · exact hn h1
    · omega
  · rcases k.own i hi with h1 | h1
    · exact h.own i h1
    · exact .inr (Nat.le_trans h.size h1)
theorem Ch.turned {w w' : World} {s s' : St} {b : Nat} (q : w.mapTurned w' b) (hb : b ∈ foot s) (hf : foot s' = foot s) (hp : s'.p = s.p) : Ch w w' s s' := by
  have g := q.grown
  refine ⟨g.os, g.tape, g.output, g.size, fun i hi hn => g.block i hi (fun e => hn ?_), fun i hi => .inl (hf ▸ hi), hp⟩
  cases e; exact hb
theorem Ch.call {w w' : World} {s : St} (q : Below w.heap.size w w') : Ch w w' s s := ⟨q.os, q.tape, q.output, q.size, fun i hi _ => q.block i hi, fun _ h => .inl h, rfl⟩
theorem Ch.below {B : Nat} {a w w' : World} {s s' : St} (c : Ch w w' s s') (h : Below B a w) (hB : B ≤ w.heap.size) (hf : ∀ i ∈ foot s, B ≤ i) : Below B a w' :=
  ⟨c.os.trans h.os, c.tape.trans h.tape, c.output.trans h.output, Nat.le_trans h.size c.size, fun i hi => (c.block i (by omega) (fun hm => by have := hf i hm; omega)).trans (h.block i hi)⟩
theorem Ch.high {B : Nat} {w w' : World} {s s' : St} (c : Ch w w' s s') (hB : B ≤ w.heap.size) (hf : ∀ i ∈ foot s, B ≤ i) : ∀ i ∈ foot s', B ≤ i := fun i hi => by
  rcases c.own i hi with h | h
  · exact hf i h
  · omega

/-- one page less at a place -/
def lvm (m : Pl) (at' : Int) : Pl :=
  if (mget m at').getD 0 - 1 = 0 then mdel (mput m at' ((mget m at').getD 0 - 1)) at' else mput m at' ((mget m at').getD 0 - 1)
theorem mget_mins {m : Pl} {k v : Int} (h : ∀ p ∈ m, p.1 ≠ k) : mget (mins (k, v) m) k = some v := by
  induction m with
  | nil => simp [mins, mget]
  | cons y r ih =>
    unfold mins
    have hy := h y (by simp)
    by_cases hl : k < y.1
    · simp [hl, mget]
    · simp only [hl, if_false]
      have := ih (fun p hp => h p (by simp [hp]))
      unfold mget at this ⊢
      rw [List.find?_cons]
      simp [hy]
      simpa using this
theorem mdel_ne (m : Pl) (k : Int) : ∀ p ∈ mdel m k, p.1 ≠ k := by
  intro p hp
  simpa using (List.mem_filter.1 hp).2
theorem mget_put (m : Pl) (k v : Int) : mget (mput m k v) k = some v := mget_mins (mdel_ne m k)
theorem wrap_id {x : Int} (h1 : -9223372036854775808 ≤ x) (h2 : x ≤ 9223372036854775807) : IntKind.i64.wrap x = x := by
  simp only [IntKind.wrap, IntKind.signed, IntKind.bits]
  simp
  omega

set_option maxRecDepth 20000 in
theorem leave_any {w : World} {s : St} (h : StAt w s) {A : Int} (hk : K64 A) (h1 : 0 ≤ (mget s.refs A).getD 0) (h2 : (mget s.refs A).getD 0 ≤ 1000000) (hn : s.refs.length < 1000000) :
    Calls Try.prog 51 #[.pointer (some ⟨s.p, 0, none⟩), .int .i64 A] w fun e w' => e = .returned (.tuple #[]) ∧ Mp elI w' s.bR (lvm s.refs A) ∧ w.mapTurned w' s.bR := by
  have c1 := h.c1
  have hl := h.hR.look hk
  have hpl := h.lt
  have H := Hid.mk h
  clear h
  unfold lvm
  generalize hx : (mget s.refs A).getD 0 = x at *
  generalize hy : x - 1 = y
  have hw : IntKind.i64.wrap (x - 1) = y := by rw [← hy]; exact wrap_id (by omega) (by omega)
  clear hy hx h1 h2
  go_enter Try.func51, Try.ntmps51
  go_upto_region 1 with (first | (at_mapUpdate; refine wp_put _ rfl _ _ _ 65 3 rfl Try.underlying65 H.out.hR hn A _ _ rfl rfl rfl hk rfl ?_; intro w1 m1 t1))
  have g1 := H.out.refsT m1 t1
  have d1 : w1.cell? ⟨s.p, 1, none⟩ = some (.map (some s.bR)) := g1.c1
  have l1 := m1.look hk
  rw [mget_put, Option.getD_some] at l1
  have hp1 : s.p < w1.heap.size := g1.lt
  have M1 := Hid.mk m1
  have T1 := Hid.mk t1
  clear g1 m1 t1 c1 hl hpl
  go_frame
  clear hw
  by_cases h0 : y = 0
  · go_wp2_with (first | (at_delete; refine wp_del _ rfl _ _ 65 3 rfl Try.underlying65 M1.out A rfl rfl hk ?_; intro w2 m2 t2))
    go_end0
    exact ⟨rfl, by rw [h0] at m2; exact m2, T1.out.trans t2⟩
  · go_wp2
    go_end0
    exact ⟨rfl, M1.out, T1.out⟩

/-- a new state -/
def newSt (g : Nat) : St := ⟨g + 4, g, g + 1, g + 2, g + 3, [], [], [], []⟩
theorem new_any (w : World) : Calls Try.prog 6 #[] w fun e w' => e = .returned (.pointer (some ⟨w.heap.size + 4, 0, none⟩)) ∧ StAt w' (newSt w.heap.size) ∧ Below w.heap.size w w' := by
  have hmm := @run_makeMap Try.prog
  go_enter Try.func6, Try.ntmps6
  go_wp2_with fail
  go_ret
  refine ⟨rfl, ?_, ?_⟩
  · have e : ∀ (o1 o2 o3 o4 o5 : Obj), (((((w.alloc o1).alloc o2).alloc o3).alloc o4).alloc o5).heap = ((((w.heap.push o1).push o2).push o3).push o4).push o5 := fun _ _ _ _ _ => rfl
    have m0 : ∀ R : Rdr, Mp R (((((w.alloc (.map #[] 0)).alloc (.map #[] 0)).alloc (.map #[] 0)).alloc (.map #[] 0)).alloc (.cells #[.map (some w.heap.size), .map (some (w.heap.size + 1)), .map (some (w.heap.size + 2)), .map (some (w.heap.size + 3))] 68)) w.heap.size [] :=
      fun R => ((((Mp.made w R).alloc _).alloc _).alloc _).alloc _
    have m1 : ∀ R : Rdr, Mp R (((((w.alloc (.map #[] 0)).alloc (.map #[] 0)).alloc (.map #[] 0)).alloc (.map #[] 0)).alloc (.cells #[.map (some w.heap.size), .map (some (w.heap.size + 1)), .map (some (w.heap.size + 2)), .map (some (w.heap.size + 3))] 68)) (w.heap.size + 1) [] :=
      fun R => by
        have := ((((Mp.made (w.alloc (.map #[] 0)) R).alloc (.map #[] 0)).alloc (.map #[] 0)).alloc (.cells #[.map (some w.heap.size), .map (some (w.heap.size + 1)), .map (some (w.heap.size + 2)), .map (some (w.heap.size + 3))] 68))
        rw [size_alloc] at this
        exact this
    have m2 : ∀ R : Rdr, Mp R (((((w.alloc (.map #[] 0)).alloc (.map #[] 0)).alloc (.map #[] 0)).alloc (.map #[] 0)).alloc (.cells #[.map (some w.heap.size), .map (some (w.heap.size + 1)), .map (some (w.heap.size + 2)), .map (some (w.heap.size + 3))] 68)) (w.heap.size + 2) [] :=
      fun R => by
        have := (((Mp.made ((w.alloc (.map #[] 0)).alloc (.map #[] 0)) R).alloc (.map #[] 0)).alloc (.cells #[.map (some w.heap.size), .map (some (w.heap.size + 1)), .map (some (w.heap.size + 2)), .map (some (w.heap.size + 3))] 68))
        rw [size_alloc, size_alloc] at this
        exact this
    have m3 : ∀ R : Rdr, Mp R (((((w.alloc (.map #[] 0)).alloc (.map #[] 0)).alloc (.map #[] 0)).alloc (.map #[] 0)).alloc (.cells #[.map (some w.heap.size), .map (some (w.heap.size + 1)), .map (some (w.heap.size + 2)), .map (some (w.heap.size + 3))] 68)) (w.heap.size + 3) [] :=
      fun R => by
        have := ((Mp.made (((w.alloc (.map #[] 0)).alloc (.map #[] 0)).alloc (.map #[] 0)) R).alloc (.cells #[.map (some w.heap.size), .map (some (w.heap.size + 1)), .map (some (w.heap.size + 2)), .map (some (w.heap.size + 3))] 68))
        rw [size_alloc, size_alloc, size_alloc] at this
        exact this
    refine ⟨?_, m0 _, m1 _, m2 _, m3 _, fun x hx => (by cases hx), ?_, ?_⟩
    · have := heap_alloc_new ((((w.alloc (.map #[] 0)).alloc (.map #[] 0)).alloc (.map #[] 0)).alloc (.map #[] 0)) (.cells #[.map (some w.heap.size), .map (some (w.heap.size + 1)), .map (some (w.heap.size + 2)), .map (some (w.heap.size + 3))] 68)
      rw [size_alloc, size_alloc, size_alloc, size_alloc] at this
      exact this
    · simp [maps, newSt]
    · simp [newSt]
  · refine (((((Below.refl _ w).alloc ?_ _).alloc ?_ _).alloc ?_ _).alloc ?_ _).alloc ?_ _
    all_goals (try simp only [size_alloc])
    all_goals omega
theorem eq_map58 (b : Nat) (w : World) : (binOp BinOp.eql 64 (.map (some b)) (.map none)).run Try.prog w = .ok (.bool false) w := by kernel_rfl
theorem fill_any {w : World} {s : St} (h : StAt w s) : Calls Try.prog 21 #[.pointer (some ⟨s.p, 0, none⟩)] w fun e w' => e = .returned (.tuple #[]) ∧ w = w' := by
  have c0 := h.c0
  have e0 := eq_map58 s.bS w
  clear h
  go_enter Try.func21, Try.ntmps21
  go_wp2
  go_end0
  exact ⟨rfl, rfl⟩
end Go.Proofs.Ytccelipljbkkgaa
