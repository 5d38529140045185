/-
  Which vectors may be: mayBe, every, refuse, Check, Of.
-/
import Derived.Test.YtgljmcddakeoiaaDoorRows
import Derived.Test.YtgljmcddakeoiaaDoorVecBase
import Derived.Shelf.Abstract
namespace Go.Proofs.YtgljmcddakeoiaaDoor
open Go.RowKit Go.Shelf
set_option linter.unusedVariables false
set_option maxRecDepth 100000

/-- A component that may be. -/
def comp (x : Int) : Bool := decide (-1073741823 ≤ x) && decide (x ≤ 1073741823)
def right (xs : List Int) : Bool := decide (1 ≤ xs.length) && decide (xs.length ≤ 4) && xs.all comp

theorem all_take_snoc {α : Type} (p : α → Bool) (l : List α) {k : Nat} {x : α} (h : l[k]? = some x) : (l.take (k + 1)).all p = ((l.take k).all p && p x) := by
  rw [List.take_add_one, h]; simp
theorem all_no {α : Type} (p : α → Bool) (l : List α) {k : Nat} {x : α} (h : l[k]? = some x) (hx : p x = false) : l.all p = false := by
  rw [List.all_eq_false]
  exact ⟨x, List.mem_of_getElem? h, by simp [hx]⟩

/-- Why rows are not all vectors of one dimension; 0 if they are. -/
def refuseM (dim : Int) (l : List (List Int)) : Int := if l.all right then (if l.all (fun x => decide ((x.length : Int) = dim)) then 0 else 151) else 150

end Go.Proofs.YtgljmcddakeoiaaDoor
