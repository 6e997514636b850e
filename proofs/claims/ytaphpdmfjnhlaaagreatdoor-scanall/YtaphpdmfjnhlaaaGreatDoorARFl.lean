/-
  A tag and a length as bytes: the walk of fields. No condition.
-/
import Derived.Test.YtaphpdmfjnhlaaaGreatDoorARPd
import Derived.Test.YtaphpdmfjnhlaaaGreatDoorARRef
import Derived.Test.YtaphpdmfjnhlaaaGreatDoorAK2
namespace Go.Proofs.YtaphpdmfjnhlaaaGreatDoor.Pg
open Go Go.RowKit
set_option maxRecDepth 100000
theorem renc_w (n : Nat) (hn : n < 18446744073709551616) (b : Int) (w : World) : Calls Tryz.prog 59 #[.int .u64 n, .int .i64 b] w fun e w' => e = .returned (.string (fxW n b)) /\ Below w.heap.size w w' := refFixed_any n hn b w
end Go.Proofs.YtaphpdmfjnhlaaaGreatDoor.Pg
