/-
  The document's Slots.
-/
import Derived.Test.YtgljmcddakeoiaaDoorMskR2
import Derived.Test.YtgljmcddakeoiaaDoorMskApp
namespace Go.Proofs.YtgljmcddakeoiaaDoor
open Go.RowKit Go.Shelf
set_option linter.unusedVariables false
set_option linter.unusedSimpArgs false
set_option maxRecDepth 100000

def slotsTo (m : Mk) (k : Nat) : List Nat := (List.range k).filter (has m)
theorem slotsTo_succ (m : Mk) (k : Nat) : slotsTo m (k + 1) = slotsTo m k ++ (if has m k then [k] else []) := by
  unfold slotsTo
  rw [List.range_succ, List.filter_append]
  cases h : has m k <;> simp [h]
theorem slotsTo_len (m : Mk) (k : Nat) : (slotsTo m k).length ≤ k := by
  unfold slotsTo
  exact Nat.le_trans (List.length_filter_le _ _) (by simp)
theorem hasI_nat (m : Mk) {k : Nat} (h : k < 96) : hasI m k = has m k := by
  unfold hasI slotB
  have h1 : (0 : Int) ≤ k := by omega
  have h2 : (k : Int) < 96 := by omega
  simp [h1, h2]

end Go.Proofs.YtgljmcddakeoiaaDoor
