/-
  What the answer's Do makes of its state, said plainly; how its answers are stored. No condition. The walks of the answer's Do, way by way (DoA). No condition. The walks of the answer's Do, way by way (DoB). No condition. The walks of the answer's Do, way by way (DoC). No condition. The walks of the answer's Do, way by way (DoD). No condition. The walks of the answer's Do, way by way (DoE). No condition. The walks of the answer's Do, way by way (DoF). No condition. The walks of the answer's Do, way by way (DoG). No condition. The answer's Do and Apply, whole. No condition.
-/
import Derived.Test.YtaphpdmfjnhlaaaGreatDoorAH6
import Derived.Test.YtaphpdmfjnhlaaaGreatDoorAH1
namespace Go.Proofs.YtaphpdmfjnhlaaaGreatDoor.S8
open Go Go.RowKit Go.Maps
end Go.Proofs.YtaphpdmfjnhlaaaGreatDoor.S8
namespace Go.Proofs.YtaphpdmfjnhlaaaGreatDoor.S8
open Go Go.RowKit Go.Maps
end Go.Proofs.YtaphpdmfjnhlaaaGreatDoor.S8
namespace Go.Proofs.YtaphpdmfjnhlaaaGreatDoor.S8
open Go Go.RowKit Go.Maps
end Go.Proofs.YtaphpdmfjnhlaaaGreatDoor.S8
namespace Go.Proofs.YtaphpdmfjnhlaaaGreatDoor.S8
open Go Go.RowKit Go.Maps
end Go.Proofs.YtaphpdmfjnhlaaaGreatDoor.S8
