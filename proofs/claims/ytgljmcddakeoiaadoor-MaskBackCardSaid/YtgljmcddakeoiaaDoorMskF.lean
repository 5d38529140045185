/-
  Check, changes, Range, With, Without.
-/
import Derived.Test.YtgljmcddakeoiaaDoorMskEq
namespace Go.Proofs.YtgljmcddakeoiaaDoor
open Go.RowKit Go.Shelf
set_option linter.unusedVariables false
set_option linter.unusedSimpArgs false
set_option maxRecDepth 100000

/-- A mask that may be. -/
def rightM (m : Mk) : Bool := decide (m = mk (has m))
def chkM (m : Mk) : Int := if rightM m then 0 else 200

end Go.Proofs.YtgljmcddakeoiaaDoor
