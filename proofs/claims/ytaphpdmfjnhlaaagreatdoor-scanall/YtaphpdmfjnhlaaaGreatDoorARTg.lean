/-
  Tags: which may be; the walks of both sides' Check. No condition.
-/
import Derived.Test.YtaphpdmfjnhlaaaGreatDoorAK2
namespace Go.Proofs.YtaphpdmfjnhlaaaGreatDoor.Pg
open Go Go.RowKit
set_option maxRecDepth 100000
theorem refCheck_any (K S I O W : Int) (hW : W <= 9223372036854775807) (w : World) : Calls Tryz.prog 68 #[tagV K S I O W] w fun e w' => e = .returned (.bool (chk K I O W)) /\ Below w.heap.size w w' := by
 unfold tagV chk
 by_cases h0 : 1 <= K
 case neg =>
  rw [decide_eq_false (by omega)]
  go_enter Tryz.func68, Tryz.ntmps68
  go_wp2_with fail
  go_ret
  exact ⟨rfl, below_one w _⟩
 by_cases h1 : K <= 3
 case neg =>
  rw [decide_eq_false (by omega)]
  go_enter Tryz.func68, Tryz.ntmps68
  go_wp2_with fail
  go_ret
  exact ⟨rfl, below_one w _⟩
 by_cases h2 : 1 <= O
 case neg =>
  rw [decide_eq_false (by omega)]
  go_enter Tryz.func68, Tryz.ntmps68
  go_wp2_with fail
  go_ret
  exact ⟨rfl, below_one w _⟩
 by_cases h3 : O <= 65535
 case neg =>
  rw [decide_eq_false (by omega)]
  go_enter Tryz.func68, Tryz.ntmps68
  go_wp2_with fail
  go_ret
  exact ⟨rfl, below_one w _⟩
 by_cases h4 : 0 <= I
 case neg =>
  rw [decide_eq_false (by omega)]
  go_enter Tryz.func68, Tryz.ntmps68
  go_wp2_with fail
  go_ret
  exact ⟨rfl, below_one w _⟩
 by_cases h5 : I < O
 case neg =>
  rw [decide_eq_false (by omega)]
  go_enter Tryz.func68, Tryz.ntmps68
  go_wp2_with fail
  go_ret
  exact ⟨rfl, below_one w _⟩
 by_cases h6 : 0 <= W
 case neg =>
  rw [decide_eq_false (by omega)]
  go_enter Tryz.func68, Tryz.ntmps68
  go_wp2_with fail
  go_ret
  exact ⟨rfl, below_one w _⟩
 by_cases h7 : W <= 4294967295
 case neg =>
  rw [decide_eq_false (by omega)]
  have d7 : decide (W <= 4294967295) = false := decide_eq_false h7
  clear h7
  go_enter Tryz.func68, Tryz.ntmps68
  go_wp2_with fail
  go_ret
  exact ⟨rfl, below_one w _⟩
 rw [decide_eq_true ⟨h0, h1, h2, h3, h4, h5, h6, h7⟩]
 have d7 : decide (W <= 4294967295) = true := decide_eq_true h7
 clear h7
 go_enter Tryz.func68, Tryz.ntmps68
 go_wp2_with fail
 go_ret
 exact ⟨rfl, below_one w _⟩
end Go.Proofs.YtaphpdmfjnhlaaaGreatDoor.Pg
