/-
  Groups of records as they are handed in; records in a slice of the call's own; a journal on which no checkpoint stands. No condition.
-/
import Derived.Test.YtaphpdmfjnhlaaaGreatDoorAGud
import Derived.Test.YtaphpdmfjnhlaaaGreatDoorAAwl
namespace Go.Proofs.YtaphpdmfjnhlaaaGreatDoor
open Go Go.RowKit
set_option maxRecDepth 100000
end Go.Proofs.YtaphpdmfjnhlaaaGreatDoor
