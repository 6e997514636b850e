/-
  The walk of the law FtlRoom, but for the laws' own 'awake', whose contract is a premise here. Condition: that premise.
-/
import Derived.Test.YtcmmhfjnhlaepaaGreatDoorRRom
namespace Go.Proofs.YtcmmhfjnhlaepaaGreatDoor.Rm
open Go Go.RowKit

set_option maxRecDepth 20000 in
theorem ftlRoom_walk (T : World → Prop) (hk : ∀ w w', T w → Below w.heap.size w w' → T w') (hA : ∀ w, T w → Calls Tryz.prog 7 #[] w fun e w' => e = .returned (.bool true) ∧ Below w.heap.size w w') (B P S : Int) (w : World) (hT : T w) :
    Calls Tryz.prog 3 #[.agg #[.int .i64 B, .int .i64 P, .int .i64 S]] w fun e w' => e = .returned (.bool true) ∧ Below w.heap.size w w' := by
  have HA := Hid.mk (And.intro hk hA)
  have hb := below_box w B P S
  have h0 : Bx3 (w.alloc (.cells #[.int .i64 B, .int .i64 P, .int .i64 S] 23)) w.heap.size B P S := heap_alloc_new w _
  have HS : Hid (∀ w', Below w.heap.size w w' ∧ Bx3 w' w.heap.size B P S → ∀ w2, Below w'.heap.size w' w2 → Below w.heap.size w w2 ∧ Bx3 w2 w.heap.size B P S) := Hid.mk fun w' h w2 b => ⟨below3 h.1 b, h.2.call b⟩
  have HB := Hid.mk (And.intro hb h0)
  have HT := Hid.mk hT
  clear hk hA hb h0 hT
  by_cases hg : okG B P S
  · have h1 := fun w => ncheck_any B P S true (by simp [hg]) w
    have h2 := fun w => rroom_ok B P S hg w
    have h3 := fun w => roomof_ok B P S hg w
    have h4 := fun w => rcheck_ok B P S hg w
    unfold roomV at h2 h3
    obtain ⟨k, hk⟩ : ∃ k, roomN B P S = k := ⟨_, rfl⟩
    rw [hk] at h2 h3 h4
    generalize resv B P S (k : Int) = r at *
    generalize B.tdiv 8 = s at *
    have HC := Hid.mk (And.intro h1 (And.intro h2 (And.intro h3 h4)))
    clear h1 h2 h3 h4 hk hg
    go_enter Tryz.func3, Tryz.ntmps3
    go_upto_region 4 with (first
      | (go_at_call 6; refine (HC.out.1 _).mono ?_; rintro e w1 ⟨rfl, b1⟩; have X1 := Hid.mk (HS.out _ HB.out _ b1); obtain ⟨g0, g1, g2⟩ := X1.out.2.cells; clear b1)
      | (go_at_call 10; refine (HC.out.2.1 _).mono ?_; rintro e w2 ⟨rfl, b2⟩; have X2 := Hid.mk (HS.out _ X1.out _ b2); clear b2))
    have hb3 := X2.out.1.alloc X2.out.1.size (.cells #[.int .i64 k, .int .i64 (2 * (k : Int)), .int .i64 r, .int .i64 s] 27)
    have hx3 : Bx4 (w2.alloc (.cells #[.int .i64 k, .int .i64 (2 * (k : Int)), .int .i64 r, .int .i64 s] 27)) w2.heap.size (.int .i64 k) (.int .i64 (2 * (k : Int))) (.int .i64 r) (.int .i64 s) := heap_alloc_new w2 _
    have hg3 : Bx3 (w2.alloc (.cells #[.int .i64 k, .int .i64 (2 * (k : Int)), .int .i64 r, .int .i64 s] 27)) w.heap.size B P S := (Below.heap_alloc _ _ _ X2.out.2.lt).trans X2.out.2
    generalize (w2.alloc (.cells #[.int .i64 k, .int .i64 (2 * (k : Int)), .int .i64 r, .int .i64 s] 27)) = W at *
    generalize w2.heap.size = gr at *
    have kS : Hid (∀ w', Below W.heap.size W w' → Below W.heap.size W w' ∧ (w'.cell? ⟨w.heap.size, 0, none⟩ = some (.int .i64 B) ∧ w'.cell? ⟨w.heap.size, 1, none⟩ = some (.int .i64 P) ∧ w'.cell? ⟨w.heap.size, 2, none⟩ = some (.int .i64 S)) ∧ w'.cell? ⟨gr, 0, none⟩ = some (.int .i64 k) ∧ w'.cell? ⟨gr, 1, none⟩ = some (.int .i64 (2 * (k : Int))) ∧ w'.cell? ⟨gr, 2, none⟩ = some (.int .i64 r) ∧ w'.cell? ⟨gr, 3, none⟩ = some (.int .i64 s)) := Hid.mk fun w' b => ⟨b, (hg3.call b).cells, (hx3.call b).cells⟩
    have HTW := Hid.mk (HA.out.1 _ _ HT.out hb3)
    have HBW := Hid.mk hb3
    have HQ : Hid (∀ w', Below W.heap.size W w' → T w') := Hid.mk fun w' b => HA.out.1 _ _ HTW.out b
    clear hb3 hx3 hg3 X1 X2 g0 g1 g2
    have hk4 : decide ((4 : Int) ≤ k) = decide (4 ≤ k) := by by_cases h : 4 ≤ k <;> simp [h] <;> omega
    go_region_held3 (fun w' => Below W.heap.size W w' ∧ (w'.cell? ⟨w.heap.size, 0, none⟩ = some (.int .i64 B) ∧ w'.cell? ⟨w.heap.size, 1, none⟩ = some (.int .i64 P) ∧ w'.cell? ⟨w.heap.size, 2, none⟩ = some (.int .i64 S)) ∧ w'.cell? ⟨gr, 0, none⟩ = some (.int .i64 k) ∧ w'.cell? ⟨gr, 1, none⟩ = some (.int .i64 (2 * (k : Int))) ∧ w'.cell? ⟨gr, 2, none⟩ = some (.int .i64 r) ∧ w'.cell? ⟨gr, 3, none⟩ = some (.int .i64 s))
      (first | assumption | exact kS.out _ (Below.refl _ W) | exact kS.out _ (Below.refl _ W).drew | exact kS.out _ (below3 (And.left (by assumption)) (by assumption)) | fail)
      (first
        | (go_at_call 7; refine (HA.out.2 _ (by first | exact HTW.out | exact HQ.out _ (Below.refl _ W).drew | exact HQ.out _ (And.left (by assumption)))).mono ?_; rintro e w5 ⟨rfl, b5⟩)
        | (go_at_call 8; refine (HC.out.2.2.1 _).mono ?_; rintro e w6 ⟨rfl, b6⟩)
        | (go_at_call 9; refine (HC.out.2.2.2 _).mono ?_; rintro e w7 ⟨rfl, b7⟩))
    all_goals
      go_wp2_with fail
      go_ret
      exact ⟨rfl, below3 HBW.out (And.left (by assumption))⟩
  · have h1 := fun w => ncheck_any B P S false (by simp [hg]) w
    have h3 := fun w => roomof_none B P S hg w
    have h4 := fun w => rcheck_none B P S hg w
    unfold noRoom at h3
    have HC := Hid.mk (And.intro h1 (And.intro h3 h4))
    clear h1 h3 h4 hg
    go_enter Tryz.func3, Tryz.ntmps3
    go_wp2_with (first
      | (go_at_call 6; refine (HC.out.1 _).mono ?_; rintro e w1 ⟨rfl, b1⟩; have X1 := Hid.mk (HS.out _ HB.out _ b1); obtain ⟨g0, g1, g2⟩ := X1.out.2.cells; clear b1)
      | (go_at_call 7; refine (HA.out.2 _ (HA.out.1 _ _ HT.out X1.out.1)).mono ?_; rintro e w2 ⟨rfl, b2⟩; have X2 := Hid.mk (HS.out _ X1.out _ b2); obtain ⟨g0', g1', g2'⟩ := X2.out.2.cells; clear b2)
      | (go_at_call 8; refine (HC.out.2.1 _).mono ?_; rintro e w3 ⟨rfl, b3⟩; have X3 := Hid.mk (HS.out _ X2.out _ b3); obtain ⟨g3, g4, g5⟩ := X3.out.2.cells; clear b3)
      | (go_at_call 9; refine (HC.out.2.2 _).mono ?_; rintro e w4 ⟨rfl, b4⟩; have X4 := Hid.mk (HS.out _ X3.out _ b4); clear b4))
    go_ret
    exact ⟨rfl, X4.out.1⟩
end Go.Proofs.YtcmmhfjnhlaepaaGreatDoor.Rm
