/-
  The answer's state: four lists in slices; what it tells of them (find, Get, Refs, Pages). No condition. The answer's state with a page, and without: the walks of with and without. No condition. The answer's state with one space, bad block or count more, and without a page: the walks of made, bad, worn and without. No condition. The answer's made, bad, worn, dropped. No condition.
-/
import Derived.Test.YtaphpdmfjnhlaaaGreatDoorAH5
import Derived.Laws.ResultCell
namespace Go.Proofs.YtaphpdmfjnhlaaaGreatDoor.S8
open Go Go.RowKit Go.Maps
/-! counts -/
end Go.Proofs.YtaphpdmfjnhlaaaGreatDoor.S8
namespace Go.Proofs.YtaphpdmfjnhlaaaGreatDoor.S8
open Go Go.RowKit Go.Maps
end Go.Proofs.YtaphpdmfjnhlaaaGreatDoor.S8
namespace Go.Proofs.YtaphpdmfjnhlaaaGreatDoor.S8
open Go Go.RowKit Go.Maps
end Go.Proofs.YtaphpdmfjnhlaaaGreatDoor.S8
namespace Go.Proofs.YtaphpdmfjnhlaaaGreatDoor.S8
open Go Go.RowKit Go.Maps
end Go.Proofs.YtaphpdmfjnhlaaaGreatDoor.S8
