/-
  World: the fixed examples by the evaluator.
-/
import Derived.Test.YtmoglfooadcemaaAwake
namespace Go.Ev
open Go.Proofs Go.RowKit
theorem numbers : Knows Try.prog 0 3 [] (.bool true) := knows (fuel := 3000) (d := 60) kAwake_ok rfl (by kernel_rfl)
#print axioms numbers
end Go.Ev
