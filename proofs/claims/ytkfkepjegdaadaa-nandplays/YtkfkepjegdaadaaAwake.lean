/-
  The law's awake answers true; what a page of two kinds of bytes is. No condition.
-/
import Derived.Test.YtkfkepjegdaadaaRest
namespace Go.Proofs.Ytkfkepjegdaadaa
open Go Go.RowKit

theorem extract_left (a b : ByteArray) : (a ++ b).extract 0 a.size = a := by
  apply ByteArray.ext
  simp
theorem extract_right (a b : ByteArray) (n : Nat) (h : n = a.size + b.size) : (a ++ b).extract a.size n = b := by
  subst h
  apply ByteArray.ext
  have h1 : a.data.extract a.size (a.size + b.size) = #[] := Array.extract_empty_of_size_le_start (Nat.le_refl _)
  have h2 : b.data.extract 0 b.size = b.data := Array.extract_size
  simp [h1, h2]
/-- a page of two kinds of bytes is not erased, if the second kind is not 255 -/
theorem kp_two (Z : Nat) (x y : UInt8) (hy : y ≠ 255) : kp Z (rep Z x ++ rep 32 y) = rep Z x ++ rep 32 y := by
  unfold kp
  rw [if_neg]
  intro h
  have h1 := congrArg (fun t : ByteArray => t.data.toList[Z]?) h
  simp [rep] at h1
  exact hy h1
theorem two_ne (Z : Nat) (x y : UInt8) : ¬ rep Z x ++ rep 32 y = ⟨#[]⟩ := by
  intro h
  have h1 := congrArg ByteArray.size h
  rw [ByteArray.size_append, rep_size, rep_size] at h1
  exact absurd h1 (by show ¬ Z + 32 = 0; omega)
/-- what a law holds of its chip -/
structure Hd (w0 : World) (L : Ly) (C : Ch) (w : World) : Prop where
  chip : Chip w L C
  below : Below w0.heap.size w0 w
  new : ∀ i, L.own C.B i → w0.heap.size < i
theorem Hd.call {w0 : World} {L C} {w w' : World} (h : Hd w0 L C w) (b : Below w.heap.size w w') : Hd w0 L C w' := ⟨h.chip.call b, below3 h.below b, h.new⟩
theorem Hd.alloc {w0 : World} {L C} {w : World} (h : Hd w0 L C w) (o : Obj) : Hd w0 L C (w.alloc o) := h.call ((Below.refl _ w).alloc (Nat.le_refl _) o)
theorem Hd.drew {w0 : World} {L C} {w : World} (h : Hd w0 L C w) : Hd w0 L C w.drew := h.call (Below.refl _ w).drew
theorem Hd.drewN {w0 : World} {L C} {w : World} (h : Hd w0 L C w) (n : Nat) : Hd w0 L C (w.drewN n) := h.call (below_drewN (Below.refl _ w))
theorem Hd.act {w0 : World} {L C C'} {w w' : World} (h : Hd w0 L C w) (hc : Chip w' L C') (hk : Kp (L.own C.B) w w') (e : C'.B = C.B) : Hd w0 L C' w' :=
  ⟨hc, hk.below h.below h.below.size (fun i hi => Nat.le_of_lt (h.new i hi)), by rw [e]; exact h.new⟩
theorem progC_geo (C : Ch) (b p : Int) (x y : ByteArray) : (progC C b p x y).1.B = C.B ∧ (progC C b p x y).1.P = C.P ∧ (progC C b p x y).1.Z = C.Z := by
  unfold progC
  repeat' split
  all_goals exact ⟨rfl, rfl, rfl⟩
theorem eraseC_geo (C : Ch) (b : Int) : (eraseC C b).1.B = C.B ∧ (eraseC C b).1.P = C.P ∧ (eraseC C b).1.Z = C.Z := by
  unfold eraseC
  repeat' split
  all_goals exact ⟨rfl, rfl, rfl⟩
theorem markC_geo (C : Ch) (b : Int) : (markC C b).1.B = C.B ∧ (markC C b).1.P = C.P ∧ (markC C b).1.Z = C.Z := by
  unfold markC
  repeat' split
  all_goals exact ⟨rfl, rfl, rfl⟩
theorem Hd.prog {w0 : World} {L C} {w : World} (h : Hd w0 L C w) (b p : Int) (x y : ByteArray) (hd : C.did < 999999) : Calls Try.prog 17 #[.pointer (some ⟨L.a, 0, none⟩), .int .i64 b, .int .i64 p, .string x, .string y] w fun e w' =>
    e = .returned (.int .i64 (progC C b p x y).2) ∧ Hd w0 L (progC C b p x y).1 w' ∧ Kp (L.own C.B) w w' :=
  (prog_any h.chip b p x y hd).mono (fun _ _ ⟨h1, h2, h3⟩ => ⟨h1, h.act h2 h3 (progC_geo C b p x y).1, h3⟩)
theorem Hd.erase {w0 : World} {L C} {w : World} (h : Hd w0 L C w) (b : Int) (hd : C.did < 999999) (hw : ∀ n, 0 ≤ C.worn n ∧ C.worn n < 999999) : Calls Try.prog 19 #[.pointer (some ⟨L.a, 0, none⟩), .int .i64 b] w fun e w' =>
    e = .returned (.int .i64 (eraseC C b).2) ∧ Hd w0 L (eraseC C b).1 w' ∧ Kp (L.own C.B) w w' :=
  (erase_any h.chip b hd hw).mono (fun _ _ ⟨h1, h2, h3⟩ => ⟨h1, h.act h2 h3 (eraseC_geo C b).1, h3⟩)
theorem Hd.mark {w0 : World} {L C} {w : World} (h : Hd w0 L C w) (b : Int) (hd : C.did < 999999) : Calls Try.prog 25 #[.pointer (some ⟨L.a, 0, none⟩), .int .i64 b] w fun e w' =>
    e = .returned (.int .i64 (markC C b).2) ∧ Hd w0 L (markC C b).1 w' ∧ Kp (L.own C.B) w w' :=
  (mark_any h.chip b hd).mono (fun _ _ ⟨h1, h2, h3⟩ => ⟨h1, h.act h2 h3 (markC_geo C b).1, h3⟩)
theorem no_cuts (w : World) (S : Nat → Prop) (a : Option Addr) : CutsAt w S a [] := fun i hi => absurd hi (by simp)
theorem no_ints (w : World) (S : Nat → Prop) (a : Option Addr) : IntsAt w S a [] := fun i hi => absurd hi (by simp)
theorem new0_any (B P Z : Nat) (hg : 8 ≤ B ∧ B ≤ 32 ∧ 4 ≤ P ∧ P ≤ 16 ∧ 64 ≤ Z ∧ Z ≤ 256) (w : World) :
    Calls Try.prog 9 #[.agg #[.int .i64 B, .int .i64 P, .int .i64 Z], .agg #[.slice none 0 0, .slice none 0 0, .slice none 0 0]] w fun e w' =>
      ∃ L : Ly, e = .returned (.tuple #[.pointer (some ⟨L.a, 0, none⟩), .int .i64 0]) ∧ Chip w' L (begC B P Z [] [] []) ∧ Below w.heap.size w w' ∧ ∀ i, L.own B i → w.heap.size < i :=
  new_any B P Z hg none none none [] [] [] 0 0 0 w (no_cuts _ _ _) (no_ints _ _ _) (no_ints _ _ _) (by simp) (by simp) (by simp) (fun x hx => by cases hx) (fun x hx => by cases hx)
theorem new_awake (w : World) :
    Calls Try.prog 9 #[.agg #[.int .i64 8, .int .i64 4, .int .i64 64], .agg #[.slice none 0 0, .slice none 0 0, .slice none 0 0]] w fun e w' =>
      ∃ L : Ly, e = .returned (.tuple #[.pointer (some ⟨L.a, 0, none⟩), .int .i64 0]) ∧ Chip w' L (begC 8 4 64 [] [] []) ∧ Below w.heap.size w w' ∧ ∀ i, L.own 8 i → w.heap.size < i := new0_any 8 4 64 (by decide) w
theorem text64 (w : World) : Calls Try.prog 18 #[.int .i64 64, .int .u8 7] w fun e w' => e = .returned (.string (rep 64 7)) ∧ Below w.heap.size w w' := text_any 64 (by decide) 7 (by decide) w
theorem text32 (c : Int) (hc : 0 ≤ c ∧ c < 256) (w : World) : Calls Try.prog 18 #[.int .i64 32, .int .u8 c] w fun e w' => e = .returned (.string (rep 32 (u8 c))) ∧ Below w.heap.size w w' := text_any 32 (by decide) c hc w
theorem text32' (w : World) : Calls Try.prog 18 #[.int .i64 32, .int .u8 8] w fun e w' => e = .returned (.string (rep 32 8)) ∧ Below w.heap.size w w' := text_any 32 (by decide) 8 (by decide) w
/-- a page is written, and nothing happens to it -/
theorem prog_plain {C : Ch} {b p : Nat} {data spare : ByteArray} (h0 : refP C b p = 0) (h1 : data.size = C.Z) (h2 : spare.size = 32) (hu : usedB C b p = false) (hc : C.cuts (C.did + 1) = none) (hd : C.dead b = false) (hf : C.fails (C.did + 1) = false) :
    progC C b p data spare = (putPg { C with did := C.did + 1 } b p (kp C.Z (data ++ spare)), 0) := by
  unfold progC
  rw [if_pos h0, if_pos ⟨h1, h2⟩, Int.toNat_natCast, Int.toNat_natCast, hu, if_neg (by decide), hc]
  simp only
  rw [hd, hf, if_neg (by decide)]
def awC : Ch := putPg { begC 8 4 64 [] [] [] with did := 1 } 1 0 (rep 64 7 ++ rep 32 8)
theorem aw1 : progC (begC 8 4 64 [] [] []) 1 0 (rep 64 7) (rep 32 8) = (awC, 0) := by
  have h := prog_plain (C := begC 8 4 64 [] [] []) (b := 1) (p := 0) (data := rep 64 7) (spare := rep 32 8) (by decide) (rep_size _ _) (rep_size _ _) (by decide) (by decide) (by decide) (by decide)
  rw [show (begC 8 4 64 [] [] []).Z = 64 from rfl, kp_two 64 7 8 (by decide)] at h
  exact h
theorem aw_pg : awC.pg 1 0 = rep 64 7 ++ rep 32 8 := by
  unfold awC putPg
  simp only [upd_same]
theorem aw2 : rdV awC 1 0 = .tuple #[.string (rep 64 7), .string (rep 32 8), .int .i64 0] := by
  unfold rdV
  rw [if_pos (by decide)]
  have e : seen awC (1 : Int).toNat (0 : Int).toNat = rep 64 7 ++ rep 32 8 := by
    show seen awC 1 0 = _
    unfold seen
    rw [aw_pg, if_neg (two_ne 64 7 8)]
  rw [e, show awC.Z = 64 from rfl]
  have e1 := extract_left (rep 64 7) (rep 32 8)
  have e2 := extract_right (rep 64 7) (rep 32 8) 96 (by rw [rep_size, rep_size])
  rw [rep_size] at e1 e2
  rw [e1, e2]
theorem aw3 : progC awC 1 0 (rep 64 7) (rep 32 8) = (awC, 52) := by
  unfold progC
  rw [if_pos (by decide), if_pos ⟨rep_size _ _, rep_size _ _⟩]
  have hu : usedB awC (1 : Int).toNat (0 : Int).toNat = true := by
    show usedB awC 1 0 = true
    unfold usedB
    rw [List.any_eq_true]
    refine ⟨0, by decide, ?_⟩
    rw [decide_eq_true_eq, aw_pg]
    exact ⟨Nat.le_refl _, two_ne 64 7 8⟩
  rw [hu, if_pos rfl]
set_option maxHeartbeats 2000000 in
theorem awake_any (w : World) : Calls Try.prog 11 #[] w fun e w' => e = .returned (.bool true) ∧ Below w.heap.size w w' := by
  have e1 := aw1
  have e2 := aw2
  have e3 := aw3
  have e4 : awC.did = 1 := rfl
  have hx : (begC 8 4 64 [] [] []).did < 999999 := by decide
  have hy : awC.did < 999999 := by decide
  have hn := new_awake
  have t64 := text64
  have t32 := text32'
  have eB : (begC 8 4 64 [] [] []).B = 8 := rfl
  generalize begC 8 4 64 [] [] [] = C0 at *
  generalize rep 64 7 = X at *
  generalize rep 32 8 = Y at *
  generalize awC = C1 at *
  have HE := Hid.mk (And.intro e1 (And.intro e2 (And.intro e3 (And.intro e4 (And.intro hx (And.intro hy (And.intro hn (And.intro t64 (And.intro t32 eB)))))))))
  clear e1 e2 e3 e4 hx hy hn t64 t32 eB
  go_enter Try.func11, Try.ntmps11
  go_wp2_with (first
    | (go_at_call 9; refine (HE.out.2.2.2.2.2.2.1 _).mono ?_; rintro e w1 ⟨L, rfl, h1, b1, o1⟩; have HS : Hid (Hd w L C0 w1) := ⟨h1, b1, by rw [HE.out.2.2.2.2.2.2.2.2.2]; exact o1⟩; clear h1 b1 o1)
    | (go_at_call_of 18 (Value.int .i64 64); refine (HE.out.2.2.2.2.2.2.2.1 _).mono ?_; rintro e w2 ⟨rfl, b2⟩; replace HS := Hid.mk (HS.out.call b2); clear b2)
    | (go_at_call_of 18 (Value.int .i64 32); refine (HE.out.2.2.2.2.2.2.2.2.1 _).mono ?_; rintro e w2 ⟨rfl, b2⟩; replace HS := Hid.mk (HS.out.call b2); clear b2)
    | (go_at_call 20; refine (read_any HS.out.chip _ _).mono ?_; rintro e w2 ⟨rfl, b2⟩; rw [HE.out.2.1]; replace HS := Hid.mk (HS.out.call b2); clear b2)
    | (go_at_call 17; refine (HS.out.prog _ _ _ _ (by first | exact HE.out.2.2.2.2.1 | exact HE.out.2.2.2.2.2.1)).mono ?_; rintro e w2 ⟨rfl, h2, _⟩; (first | (rw [HE.out.1] at h2; rw [HE.out.1]) | (rw [HE.out.2.2.1] at h2; rw [HE.out.2.2.1])); replace HS : Hid (Hd w L C1 w2) := h2; clear h2; simp only)
    | (go_at_call 15; refine (did_any HS.out.chip).mono ?_; rintro e w2 ⟨rfl, rfl⟩; rw [HE.out.2.2.2.1]))
  go_ret
  exact ⟨rfl, HS.out.below⟩
end Go.Proofs.Ytkfkepjegdaadaa
