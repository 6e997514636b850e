/-
  The answer's roots are the program's, at the first primes.
-/
import Derived.Test.YtdolilgkjknckaaDoorRefRoot
namespace Go.Proofs.YtdolilgkjknckaaDoor.Sh
set_option maxRecDepth 100000
open Go Go.RowKit
theorem squares_same : (primes64.take 8).map (fun p => rootL p 2) = H0 := by decide +kernel
theorem cubes_same : primes64.map (fun p => rootL p 3) = K0 := by decide +kernel
end Go.Proofs.YtdolilgkjknckaaDoor.Sh
