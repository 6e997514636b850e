/-
  Those of records that can be done behind a state, and the state behind them: the walk of the laws' own good. No condition.
-/
import Derived.Test.YtaphpdmfjnhlaaaGreatDoorAN2
import Derived.Test.YtaphpdmfjnhlaaaGreatDoorAH9
import Derived.Laws.MakeOwn
import Derived.Deep.CutRange
namespace Go.Proofs.YtaphpdmfjnhlaaaGreatDoor
open Go Go.RowKit
end Go.Proofs.YtaphpdmfjnhlaaaGreatDoor
