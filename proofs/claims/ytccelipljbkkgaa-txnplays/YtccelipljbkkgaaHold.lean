/-
  A state that the call itself has made, by what it has alone; a page that two spaces have. No condition.
-/
import Derived.Test.YtccelipljbkkgaaSps
namespace Go.Proofs.Ytccelipljbkkgaa
open Go Go.RowKit Go.Maps

/-- at P stands a state that has t; nothing below B has turned since w0 -/
def Hold (B : Nat) (w0 : World) (P : Nat) (t : Ab) (w : World) : Prop := ∃ s, s.p = P ∧ Whole w s ∧ ab s = t ∧ Below B w0 w ∧ B ≤ w0.heap.size ∧ ∀ i ∈ foot s, B ≤ i
def noAb : Ab := ⟨[], [], []⟩
theorem whole_new {w : World} {g : Nat} (h : StAt w (newSt g)) : Whole w (newSt g) := by
  refine ⟨h, ⟨?_, ?_, ?_, ?_, ?_, ?_, ?_, ?_, ?_⟩, ⟨fun a => ?_, fun a => ?_, fun a => ?_⟩⟩
  all_goals try (intro x hx; cases hx)
  · exact List.Pairwise.nil
  · exact List.Pairwise.nil
  · exact List.Pairwise.nil
  · simp [newSt, ab, cntA, mget]
  · simp [newSt, ab, cntA]
  · simp [newSt, ab, cntA]
theorem newW_any (w : World) : Calls Try.prog 6 #[] w fun e w' => e = .returned (.pointer (some ⟨w.heap.size + 4, 0, none⟩)) ∧ Whole w' (newSt w.heap.size) ∧ Below w.heap.size w w' :=
  (new_any w).mono fun _ _ h => ⟨h.1, whole_new h.2.1, h.2.2⟩
theorem foot_new (g : Nat) : ∀ i ∈ foot (newSt g), g ≤ i := by
  intro i hi
  simp [foot, maps, newSt] at hi
  omega
theorem hold_new {B : Nat} {w0 w : World} (b : Below B w0 w) (hB : B ≤ w0.heap.size) : Calls Try.prog 6 #[] w fun e w' => e = .returned (.pointer (some ⟨w.heap.size + 4, 0, none⟩)) ∧ Hold B w0 (w.heap.size + 4) noAb w' := by
  refine (newW_any w).mono ?_
  rintro e w' ⟨rfl, h1, h2⟩
  exact ⟨rfl, newSt w.heap.size, rfl, h1, rfl, b.trans (h2.mono (Nat.le_trans hB b.size)), hB, fun i hi => Nat.le_trans (Nat.le_trans hB b.size) (foot_new _ i hi)⟩
theorem Hold.call {B : Nat} {w0 w w' : World} {P t} (h : Hold B w0 P t w) (q : Below w.heap.size w w') : Hold B w0 P t w' := by
  obtain ⟨s, h1, h2, h3, h4, h5, h6⟩ := h
  exact ⟨s, h1, h2.call q, h3, h4.trans (q.mono (Nat.le_trans h5 h4.size)), h5, h6⟩
theorem Hold.below {B : Nat} {w0 w : World} {P t} (h : Hold B w0 P t w) : Below B w0 w := by
  obtain ⟨s, h1, h2, h3, h4, h5, h6⟩ := h
  exact h4
theorem hold_apply {B : Nat} {w0 w : World} {P t} (h : Hold B w0 P t w) (K S Pg A T N : Int) : Calls Try.prog 7 #[.pointer (some ⟨P, 0, none⟩), rv K S Pg A T N] w fun e w' => e = .returned (.int .i64 (apA t K S Pg A T N).2) ∧ Hold B w0 P (apA t K S Pg A T N).1 w' := by
  obtain ⟨s, rfl, h2, rfl, h4, h5, h6⟩ := h
  refine (apply_any h2 K S Pg A T N).mono ?_
  rintro e w' ⟨rfl, s', g1, g2, g3⟩
  exact ⟨rfl, s', g3.home, g1, g2, g3.below h4 (Nat.le_trans h5 h4.size) h6, h5, g3.high (Nat.le_trans h5 h4.size) h6⟩
theorem hold_get {B : Nat} {w0 w : World} {P t} (h : Hold B w0 P t w) {id page : Int} (hi : K64 id) (hp : K64 page) : Calls Try.prog 48 #[.pointer (some ⟨P, 0, none⟩), .int .i64 id, .int .i64 page] w fun e w' => e = .returned (.tuple #[.int .i64 ((getA t id page).getD 0), .bool (getA t id page).isSome]) ∧ w = w' := by
  obtain ⟨s, rfl, h2, rfl, h4, h5, h6⟩ := h
  exact get_any h2.at' hi hp
theorem hold_refs {B : Nat} {w0 w : World} {P t} (h : Hold B w0 P t w) {a : Int} (ha : K64 a) : Calls Try.prog 65 #[.pointer (some ⟨P, 0, none⟩), .int .i64 a] w fun e w' => e = .returned (.int .i64 (cntA t.sp a : Int)) ∧ w = w' := by
  obtain ⟨s, rfl, h2, rfl, h4, h5, h6⟩ := h
  have := refs_any h2.at' ha
  rw [h2.refs.val] at this
  exact this
theorem hold_live {B : Nat} {w0 w : World} {P t} (h : Hold B w0 P t w) : ∃ m, RefsIs m (cntA t.sp) ∧ Up m ∧ Calls Try.prog 67 #[.pointer (some ⟨P, 0, none⟩)] w fun e w' => e = .returned (.int .i64 (m.length : Int)) ∧ w = w' := by
  obtain ⟨s, rfl, h2, rfl, h4, h5, h6⟩ := h
  exact ⟨s.refs, h2.refs, h2.at'.hR.up, live_any h2.at'⟩
theorem hold_keys {B : Nat} {w0 w : World} {P t} (h : Hold B w0 P t w) : Calls Try.prog 17 #[.pointer (some ⟨P, 0, none⟩)] w fun e w' => e = .returned (.int .i64 (pagesN t.sp : Int)) ∧ Below w.heap.size w w' := by
  obtain ⟨s, rfl, h2, rfl, h4, h5, h6⟩ := h
  exact keys_any h2
theorem hold_spaces {B : Nat} {w0 w : World} {P t} (h : Hold B w0 P t w) : Calls Try.prog 49 #[.pointer (some ⟨P, 0, none⟩)] w fun e w' => ∃ a cap, e = .returned (.slice a t.sp.length cap) ∧ Ow w' w.heap.size 83 4 (.slice a t.sp.length cap) (t.sp.map svR) ∧ Below w.heap.size w w' := by
  obtain ⟨s, rfl, h2, rfl, h4, h5, h6⟩ := h
  refine (spaces_any h2).mono ?_
  rintro e w' ⟨v, rfl, o, b⟩
  obtain ⟨a, c, rfl⟩ := o.form
  rw [List.length_map] at o ⊢
  exact ⟨a, c, rfl, o, b⟩
theorem Hold.inv {B : Nat} {w0 w : World} {P t} (h : Hold B w0 P t w) : InvA t := by
  obtain ⟨s, rfl, h2, rfl, h4, h5, h6⟩ := h
  exact h2.inv
/-! a page that two spaces have -/
def t1 : Ab := ⟨[⟨1, 4, false, []⟩], [], []⟩
def t2 : Ab := ⟨[⟨1, 4, false, [(0, 5)]⟩], [], []⟩
def t3 : Ab := ⟨[⟨1, 4, false, [(0, 5)]⟩, ⟨2, 4, false, [(0, 5)]⟩], [], []⟩
theorem may1 : mayB 4 1 0 0 0 4 = true := by decide
theorem may2 : mayB 1 1 0 5 0 0 = true := by decide
theorem may3 : mayB 6 1 0 0 2 0 = true := by decide
theorem ap1 : apA noAb 4 1 0 0 0 4 = (t1, 0) := by
  unfold apA; rw [may1]; rfl
theorem ap2 : apA t1 1 1 0 5 0 0 = (t2, 0) := by
  unfold apA; rw [may2]; rfl
theorem ap3 : apA t2 6 1 0 0 2 0 = (t3, 0) := by
  unfold apA; rw [may3]; rfl
theorem live3 {m : Pl} (h : RefsIs m (cntA t3.sp)) (hu : Up m) : m.length = 1 := by
  have : m = [(5, 2)] := up_ext hu (by simp [Up]) (fun a => by
    rw [h.get, mget_cons]
    show (if cntA t3.sp a = 0 then none else some (cntA t3.sp a : Int)) = if (5 : Int) = a then some 2 else none
    by_cases e : (5 : Int) = a
    · subst e; rfl
    · have : cntA t3.sp a = 0 := by simp [t3, cntA, cntP, e]
      rw [this, if_neg e]; rfl)
  rw [this]; rfl
end Go.Proofs.Ytccelipljbkkgaa
