/-
  The walk of Erase. No condition.
-/
import Derived.Test.YtcmmhfjnhlaepabGreatDoorRErb
namespace Go.Proofs.YtcmmhfjnhlaepabGreatDoor
open Go Go.RowKit
set_option maxRecDepth 100000

theorem eraseC_geo (C : Ch) (b : Int) : (eraseC C b).1.B = C.B ∧ (eraseC C b).1.P = C.P ∧ (eraseC C b).1.Z = C.Z ∧ (eraseC C b).1.did ≤ C.did + 1 := by
  unfold eraseC
  split
  · split
    · exact ⟨rfl, rfl, rfl, Int.le_refl _⟩
    · split <;> exact ⟨rfl, rfl, rfl, Int.le_refl _⟩
  · exact ⟨rfl, rfl, rfl, by show C.did ≤ C.did + 1; omega⟩
/-- the chip erased a block, or not -/
def Wx.erC (X : Wx) (b : Nat) : Wx := { X with C := (eraseC X.C b).1 }
def Wx.erX (X : Wx) (b : Nat) : Wx := if (eraseC X.C b).2 = 0 then ({ X.erC b with wn := X.wn.set b (X.wn.getD b 0 + 1) } : Wx).letB b 0 else if (eraseC X.C b).2 = 54 then (X.erC b).retire b else X.erC b
def Wx.erE (X : Wx) (b : Nat) : Int := if (eraseC X.C b).2 = 0 then 0 else if (eraseC X.C b).2 = 54 then (markC (eraseC X.C b).1 b).2 else (eraseC X.C b).2
theorem era_ne {w : World} {A X} (h : Wtr w A X) {g n c : Nat} (e : A.wv = .slice (some ⟨g, 0, none⟩) n c) : A.a ≠ g := fun x => h.dW.1 (by rw [e, x]; rfl)
theorem werase_any {w : World} {A X} (h : Wtr w A X) (b : Nat) (hb : b < X.C.B) (hd : X.C.did < 900000) (hw : ∀ n, 0 ≤ X.C.worn n ∧ X.C.worn n < 900000) (hn : 0 ≤ X.wn.getD b 0 ∧ X.wn.getD b 0 < 900000) (hl : X.bd.length ≤ 90000) :
    Calls Tryz.prog 68 #[.pointer (some ⟨A.a, 0, none⟩), .int .i64 b] w fun e w' => e = .returned (.int .i64 (X.erE b)) ∧ ∃ A', Wtr w' A' (X.erX b) ∧ Nxt A A' X.C.B w w' := by
  obtain ⟨c0, c1, c2, c3, -⟩ := h.cells
  have hhas := hasB_any h (b : Int)
  rw [decide_eq_true (show 0 ≤ (b : Int) ∧ (b : Int) < X.C.B by omega)] at hhas
  obtain ⟨q1, q2, q3, q4⟩ := eraseC_geo X.C b
  have her : Hid (Calls Tryz.prog 117 #[.pointer (some ⟨A.L.a, 0, none⟩), .int .i64 b] w fun e w' => e = .returned (.int .i64 (eraseC X.C b).2) ∧ Wtr w' A (X.erC b) ∧ Kp (A.own X.C.B) w w') := (erase_any h.chip b (by omega) (fun n => ⟨(hw n).1, by have := (hw n).2; omega⟩)).mono (fun e w' ⟨he, h1, k1⟩ => ⟨he, h.chipTo h1 k1 q1 q2, h.kC k1⟩)
  obtain ⟨wa, wc, hwv⟩ := h.wrn.form
  rw [h.wlen] at hwv
  have hq := Hid.mk (fun (w1 : World) (h1 : Wtr w1 A (X.erC b)) => retire_any h1 b (by show b < (eraseC X.C b).1.B; rw [q1]; exact hb) (by show (eraseC X.C b).1.did < 999999; omega) (by show X.bd.length ≤ 100000; omega))
  have hl0 := Hid.mk (fun (w1 : World) (h1 : Wtr w1 A { X.erC b with wn := X.wn.set b (X.wn.getD b 0 + 1) }) => Lf.free_of (let_any h1 b (by show b < (eraseC X.C b).1.B; rw [q1]; exact hb) 0 (by omega) (by omega)))
  have HH := Hid.mk hhas
  have HV := Hid.mk (And.intro hwv (And.intro h.wlen hb))
  have HQ1 := Hid.mk q1
  have hb1 : (b : Int) < X.C.B := by omega
  have ebB : ((X.erC b).C.B) = X.C.B := q1
  have HBB := Hid.mk ebB
  rw [hwv] at c2
  unfold Wx.erX Wx.erE
  have hq2 : (markC (X.erC b).C b).2 = (markC (eraseC X.C b).1 b).2 := rfl
  generalize (eraseC X.C b).2 = er at *
  clear h hhas hd hw hl hwv q1 q2 q3 q4 ebB
  obtain ⟨y, hy⟩ : ∃ y, y = X.wn.getD b 0 := ⟨_, rfl⟩
  rw [← hy] at hn hl0 ⊢
  have HY := Hid.mk hy
  clear hy
  by_cases e0 : er = 0
  · subst e0
    rw [if_pos rfl, if_pos rfl]
    go_enter Tryz.func68, Tryz.ntmps68
    go_wp2_with (first
      | (go_at_call 116; refine HH.out.mono ?_; rintro e w0 ⟨rfl, rfl⟩)
      | (go_at_call 117; refine her.out.mono ?_; rintro e w1 ⟨rfl, h1, k1⟩; obtain ⟨d0, d1, d2, d3, -⟩ := h1.cells; rw [HV.out.1] at d2; have hwr := h1.wrn; rw [HV.out.1] at hwr; obtain ⟨g, rfl, hgl, -, cj, cf⟩ := hwr.cell (j := b) (by show b < X.wn.length; rw [HV.out.2.1]; exact HV.out.2.2); have cj2 : w1.cell? ⟨g, b, none⟩ = some (.int .i64 y) := (by rw [HY.out]; exact cj); clear cj; have hAg := era_ne h1 HV.out.1; have H1 := Hid.mk (And.intro h1 k1); have H2 := Hid.mk (h1.wornTo g _ _ HV.out.1 b (y + 1)); clear h1 k1 hwr)
      | (go_at_call 118; refine (hl0.out _ H2.out).mono ?_; rintro e w2 ⟨rfl, h2, k2⟩))
    go_ret
    have k3 : Kp (A.own X.C.B) w1 (w1.setCell ⟨g, b, none⟩ (.int .i64 (y + 1))) := (Kp.refl _ w1).setCell (p := ⟨g, b, none⟩) (.inr (.inr (.inr (.inl (by rw [HV.out.1]; rfl))))) _
    exact ⟨rfl, A, h2, Nxt.of ((H1.out.2.trans k3).trans (HBB.out ▸ k2))⟩
  · rw [if_neg e0, if_neg e0]
    by_cases e1 : er = 54
    · subst e1
      rw [if_pos rfl, if_pos rfl]
      go_enter Tryz.func68, Tryz.ntmps68
      go_wp2_with (first
        | (go_at_call 116; refine HH.out.mono ?_; rintro e w0 ⟨rfl, rfl⟩)
        | (go_at_call 117; refine her.out.mono ?_; rintro e w1 ⟨rfl, h1, k1⟩; have H1 := Hid.mk (And.intro h1 k1); clear h1 k1)
        | (go_at_call 119; refine (hq.out _ H1.out.1).mono ?_; rintro e w2 ⟨rfl, A2, h2, n2⟩))
      go_ret
      exact ⟨rfl, A2, h2, (Nxt.of H1.out.2).trans (HBB.out ▸ n2)⟩
    · rw [if_neg e1, if_neg e1]
      go_enter Tryz.func68, Tryz.ntmps68
      go_wp2_with (first
        | (go_at_call 116; refine HH.out.mono ?_; rintro e w0 ⟨rfl, rfl⟩)
        | (go_at_call 117; refine her.out.mono ?_; rintro e w1 ⟨rfl, h1, k1⟩; have H1 := Hid.mk (And.intro h1 k1); clear h1 k1))
      go_ret
      exact ⟨rfl, A, H1.out.1, Nxt.of H1.out.2⟩
end Go.Proofs.YtcmmhfjnhlaepabGreatDoor
