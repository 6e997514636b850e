/-
  How groups that are handed in are opened. No condition.
-/
import Derived.Test.YtaphpdmfjnhlaaaGreatDoorAOpnR
import Derived.Test.YtaphpdmfjnhlaaaGreatDoorAGrp
namespace Go.Proofs.YtaphpdmfjnhlaaaGreatDoor
open Go.ChangeShapes Go.WideShapes Go.ChangeAt Go.RowKit
end Go.Proofs.YtaphpdmfjnhlaaaGreatDoor
