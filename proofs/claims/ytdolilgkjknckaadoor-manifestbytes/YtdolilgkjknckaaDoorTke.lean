/-
  A manifest off a reader (manifest.Take 22, the answer's Take 23). No condition.
-/
import Derived.Test.YtdolilgkjknckaaDoorByt
namespace Go.Proofs.YtdolilgkjknckaaDoor
open Go Go.RowKit
set_option maxRecDepth 100000
abbrev tk1 (s : ByteArray) (e : Int) := rN s e 1073741824
abbrev tk2 (s : ByteArray) (e : Int) := rN (tk1 s e).1 (tk1 s e).2.1 1048576
/-- what is left behind a manifest, the error, the last text -/
def tkR (s : ByteArray) (e : Int) : ByteArray × Int × ByteArray := rB (tk2 s e).1 (tk2 s e).2.1 32
def tkV (s : ByteArray) (e : Int) : Value := if (tkR s e).2.1 = 0 then mv (tk1 s e).2.2 (tk2 s e).2.2 (tkR s e).2.2 else mv 0 0 ⟨#[]⟩
theorem grown_new {a b : World} {g : Option Nat} (h : a.grownBy b g) (p : Addr) (hp : a.heap.size ≤ p.block) (u : Value) : a.grownBy (b.setCell p u) g :=
  ⟨h.os, h.tape, h.output, by simpa [World.setCell] using h.size, fun i hi hne => (Below.heap_setCell b p u i (by omega)).trans (h.block i hi hne)⟩
theorem Rd.other {w : World} {g s e} (h : Rd w g s e) (p : Addr) (hp : g ≠ p.block) (u : Value) : Rd (w.setCell p u) g s e := (Below.heap_setCell w p u g hp).trans h
/-- what is held between the calls -/
def KS (w : World) (g : Nat) (s : ByteArray) (e : Int) (w' : World) : Prop := Rd w' g s e ∧ Mf w' w.heap.size 0 0 ⟨#[]⟩ ∧ w.grownBy w' (some g)
theorem KS.step {w w1 w2 : World} {g s e s2 e2} (h : KS w g s e w1) (hg : g < w.heap.size) (r : Rd w2 g s2 e2) (b : w1.grownBy w2 (some g)) : KS w g s2 e2 w2 :=
  ⟨r, h.2.1.kept b (by omega), grown_trans h.2.2 b⟩
theorem take_any {w : World} {g s e} (h : Rd w g s e) : Calls Tryd.prog 22 #[.pointer (some ⟨g, 0, none⟩)] w fun x w' =>
    x = .returned (tkV s e) ∧ Rd w' g (tkR s e).1 (tkR s e).2.1 ∧ w.grownBy w' (some g) := by
  have hg := h.lt
  have h0 := (h.alloc (.cells #[.int .i64 0, .int .i64 0, .string ⟨#[]⟩] 23))
  have g0 := grown_alloc (grown_refl w (some g)) (.cells #[.int .i64 0, .int .i64 0, .string ⟨#[]⟩] 23)
  have m0 := Mf.fresh w 0 0 ⟨#[]⟩
  clear h
  unfold tkV
  generalize hr : tkR s e = r at *
  unfold tkR at hr
  generalize hq2 : tk2 s e = q2 at *
  unfold tk2 at hq2
  generalize hq1 : tk1 s e = q1 at *
  obtain ⟨s1, e1, n1⟩ := q1
  obtain ⟨s2, e2, n2⟩ := q2
  obtain ⟨s3, e3, d⟩ := r
  simp only at *
  have c1 := fun (w : World) (h : Rd w g s e) => num_any h 1073741824
  have c2 := fun (w : World) (h : Rd w g s1 e1) => num_any h 1048576
  have c3 := fun (w : World) (h : Rd w g s2 e2) => bytes_any h 32
  simp only [hq1] at c1
  simp only [hq2] at c2
  simp only [hr] at c3
  have l1 : (n1 : Int) ≤ 1073741824 := by have h := rN_le s e 1073741824 (by omega); rw [show rN s e 1073741824 = (s1, e1, n1) from hq1] at h; exact h
  have l2 : (n2 : Int) ≤ 1048576 := by have h := rN_le s1 e1 1048576 (by omega); rw [hq2] at h; exact h
  clear hq1 hq2 hr
  have hk : Hid (KS w g s e (w.alloc (.cells #[.int .i64 0, .int .i64 0, .string ⟨#[]⟩] 23))) := ⟨h0, m0, g0⟩
  clear h0 g0 m0
  go_enter Tryd.func22, Tryd.ntmps22
  by_cases h3 : e3 = 0
  · rw [if_pos h3]
    go_wp2_with (first
      | (go_at_call_of 47 (1073741824 : Int); refine (c1 _ hk.out.1).mono ?_; rintro x w1 ⟨rfl, r1, b1⟩; replace hk := Hid.mk (hk.out.step hg r1 b1); clear r1 b1)
      | (go_at_call_of 47 (1048576 : Int); refine (c2 _ hk.out.1).mono ?_; rintro x w2 ⟨rfl, r1, b1⟩; replace hk := Hid.mk (hk.out.step hg r1 b1); clear r1 b1)
      | (go_at_call 48; refine (c3 _ hk.out.1).mono ?_; rintro x w3 ⟨rfl, r1, b1⟩; replace hk := Hid.mk (hk.out.step hg r1 b1); clear r1 b1)
      | (go_at_call 26; refine (err_any hk.out.1).mono ?_; rintro x w4 ⟨rfl, rfl⟩; have f0 := hk.out.2.1.frozen; have c0 := hk.out.2.1.c0; have c1 := hk.out.2.1.c1; have c2 := hk.out.2.1.c2))
    exact bodyPost_ret (mf_result1 rfl rfl (((hk.out.2.1.set0 n1).set1 n2).set2 d)) rfl
      ⟨rfl, ((hk.out.1.other _ (Nat.ne_of_lt hg) _).other _ (Nat.ne_of_lt hg) _).other _ (Nat.ne_of_lt hg) _, grown_new (grown_new (grown_new hk.out.2.2 _ (Nat.le_refl _) _) _ (Nat.le_refl _) _) _ (Nat.le_refl _) _⟩
  · rw [if_neg h3]
    go_wp2_with (first
      | (go_at_call_of 47 (1073741824 : Int); refine (c1 _ hk.out.1).mono ?_; rintro x w1 ⟨rfl, r1, b1⟩; replace hk := Hid.mk (hk.out.step hg r1 b1); clear r1 b1)
      | (go_at_call_of 47 (1048576 : Int); refine (c2 _ hk.out.1).mono ?_; rintro x w2 ⟨rfl, r1, b1⟩; replace hk := Hid.mk (hk.out.step hg r1 b1); clear r1 b1)
      | (go_at_call 48; refine (c3 _ hk.out.1).mono ?_; rintro x w3 ⟨rfl, r1, b1⟩; replace hk := Hid.mk (hk.out.step hg r1 b1); clear r1 b1)
      | (go_at_call 26; refine (err_any hk.out.1).mono ?_; rintro x w4 ⟨rfl, rfl⟩; have f0 := hk.out.2.1.frozen; have c0 := hk.out.2.1.c0; have c1 := hk.out.2.1.c1; have c2 := hk.out.2.1.c2))
    exact bodyPost_ret (mf_result1 rfl rfl (((hk.out.2.1.set0 0).set1 0).set2 ⟨#[]⟩)) rfl
      ⟨rfl, ((hk.out.1.other _ (Nat.ne_of_lt hg) _).other _ (Nat.ne_of_lt hg) _).other _ (Nat.ne_of_lt hg) _, grown_new (grown_new (grown_new hk.out.2.2 _ (Nat.le_refl _) _) _ (Nat.le_refl _) _) _ (Nat.le_refl _) _⟩
end Go.Proofs.YtdolilgkjknckaaDoor
