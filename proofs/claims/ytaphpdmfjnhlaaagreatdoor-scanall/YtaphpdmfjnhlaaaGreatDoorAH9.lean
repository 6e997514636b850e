/-
  The program's answers and the answer's own, alike: how many pages, places, the dump. No condition. Same: a state has just what the answer's has. No condition. What a state tells makes the same state of nothing: said plainly. No condition.
-/
import Derived.Test.YtaphpdmfjnhlaaaGreatDoorAH8
import Derived.Test.YtaphpdmfjnhlaaaGreatDoorAH5
namespace Go.Proofs.YtaphpdmfjnhlaaaGreatDoor.S8
open Go Go.RowKit Go.Maps
end Go.Proofs.YtaphpdmfjnhlaaaGreatDoor.S8
namespace Go.Proofs.YtaphpdmfjnhlaaaGreatDoor.S8
open Go Go.RowKit Go.Maps
end Go.Proofs.YtaphpdmfjnhlaaaGreatDoor.S8
namespace Go.Proofs.YtaphpdmfjnhlaaaGreatDoor.S8
open Go Go.RowKit Go.Maps
def plays : Ab -> List R6 -> Ab -> Prop
 | t, [], t' => t = t'
 | t, r :: l, t' => (apR t r).2 = 0 /\ plays (apR t r).1 l t'
end Go.Proofs.YtaphpdmfjnhlaaaGreatDoor.S8
