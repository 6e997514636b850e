/-
  How a cut that is handed in is opened. No condition.
-/
import Derived.Test.YtaphpdmfjnhlaaaGreatDoorAOpnG
namespace Go.Proofs.YtaphpdmfjnhlaaaGreatDoor
open Go.ChangeShapes Go.WideShapes Go.ChangeAt Go.RowKit
theorem wf_u8 {n : Int} (h : (Lit.int .u8 n).wf = true) : 0 <= n /\ n < 256 := by
 have e0 : IntKind.u8.min = 0 := by decide
 have e1 : IntKind.u8.max = 255 := by decide
 unfold Lit.wf at h
 rw [Bool.and_eq_true, decide_eq_true_eq, decide_eq_true_eq, e0, e1] at h
 omega
end Go.Proofs.YtaphpdmfjnhlaaaGreatDoor
