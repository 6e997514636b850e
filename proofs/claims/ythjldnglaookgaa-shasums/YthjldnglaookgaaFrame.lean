/-
  What the proofs of this seat share. No condition.
-/
import Derived.Test.YthjldnglaookgaaRows
import Derived.ProofKit
import Derived.OpenShut
import Derived.Stop.Joined
import Derived.ShutString
import Derived.ChangeOld
import Derived.Below
namespace Go.Proofs.Ythjldnglaookgaa
theorem own : ownKnob Try.prog.godebug = none := by kernel_rfl
end Go.Proofs.Ythjldnglaookgaa
