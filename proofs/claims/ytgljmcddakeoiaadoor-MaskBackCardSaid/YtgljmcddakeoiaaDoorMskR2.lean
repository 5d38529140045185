/-
  The document's masks: Has, Slots.
-/
import Derived.Test.YtgljmcddakeoiaaDoorMskR
import Derived.Test.YtgljmcddakeoiaaDoorMskG
namespace Go.Proofs.YtgljmcddakeoiaaDoor
open Go.RowKit Go.Shelf
set_option linter.unusedVariables false
set_option linter.unusedSimpArgs false
set_option maxRecDepth 100000

def hasI (m : Mk) (n : Int) : Bool := slotB n && has m n.toNat
theorem bit_and (a r : Nat) : (a / 2 ^ r &&& 1 = 1) = (a.testBit r = true) := by
  rw [nat_mask1]
  have : a.testBit r = decide (a / 2 ^ r % 2 = 1) := by rw [Nat.testBit_eq_decide_div_mod_eq]
  rw [this]
  simp

end Go.Proofs.YtgljmcddakeoiaaDoor
