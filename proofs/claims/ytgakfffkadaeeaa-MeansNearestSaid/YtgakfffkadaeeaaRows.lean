/-
  No cell of these rows narrows 'for every input' (looked for: loops, veiled, ifaces, maps, wideKeys, modest, calm, conditions, laid).
  DERIVED. THE GIVEN ROWS OF THIS SEAT. 9 by the template 'for every input the law returns true; each argument reads behind the call as it read before'; 0 by the template 'total and deterministic' (their statements: YtgakfffkadaeeaaTotals.lean).
  GIVEN WITH THE SEED: the statements are not yours to turn. If you find one false, say at which input.
  Laid BY PROGRAM, IN A SANDBOX (cutbox-rows.mjs): the forced cells as the released guide's own fill.sh prints them over the translation 0bbed7bc58a0f67c… (all of the seat's roots in one cut). By AI agents, Wed Nov 11 2026. No macro, syntax, notation, axiom, sorry.
-/
import Derived.Test.YtgakfffkadaeeaaChecked
import GoSem.Claim
import GoSem.ClaimJoined
import GoSem.ClaimMapViews
import Derived.JoinedTies
import Derived.KernelRfl
namespace Go.Proofs.Ytgakfffkadaeeaa
/- THE CELL 'sum', in the pinned program and in every row, IS THE sha256 OF THE DUMP (.gsa) THAT YtgakfffkadaeeaaProg.lean LOADS. Nothing in Lean hashes anything: it is a label: what it is worth is what the hold of that sum in a sandbox is worth. -/
noncomputable def Try.pinned : Pinned := { name := "ytgakfffkadaeeaa", sum := "0bbed7bc58a0f67c5be784995f239592195c14f228aa50bbf22cbbfb3592e25c", checked := Try.checked }
namespace Rows
def none {H : Type} : Left H := { results := [], args := [] }

/-- 'quiverlaw12.MeansStarts': WHATEVER THE INPUT: true; the input reads as it did. -/
def meansStartsSpec : ChangeSpec := { name := "meansStarts", fn := fun _ => fun
  | [d1, d2] => { results := [.lit (.bool true)], args := [d1, d2] }
  | _ => none }
def meansStartsRow : OpenClaim := { program := "ytgakfffkadaeeaa", sum := "0bbed7bc58a0f67c5be784995f239592195c14f228aa50bbf22cbbfb3592e25c", func := "quiver/quiverlaw12.MeansStarts", spec := "meansStarts", unfollowed := true, recurses := true, apart := false }
def MeansStartsSaid : Prop := meansStartsRow.holds Try.pinned (OpenSpec.ofChange meansStartsSpec)

/-- ITS FALSE NEIGHBOUR: 'it returns false'. Refute it at one input. -/
def meansStartsWrong : ChangeSpec := { name := "meansStarts", fn := fun _ => fun
  | [d1, d2] => { results := [.lit (.bool false)], args := [d1, d2] }
  | _ => none }
def MeansStartsWrongFalsely : Prop := meansStartsRow.holds Try.pinned (OpenSpec.ofChange meansStartsWrong)

/-- 'quiverlaw12.MeansRounds': WHATEVER THE INPUT: true; the input reads as it did. -/
def meansRoundsSpec : ChangeSpec := { name := "meansRounds", fn := fun _ => fun
  | [d1, d2] => { results := [.lit (.bool true)], args := [d1, d2] }
  | _ => none }
def meansRoundsRow : OpenClaim := { program := "ytgakfffkadaeeaa", sum := "0bbed7bc58a0f67c5be784995f239592195c14f228aa50bbf22cbbfb3592e25c", func := "quiver/quiverlaw12.MeansRounds", spec := "meansRounds", unfollowed := true, recurses := true, apart := false }
def MeansRoundsSaid : Prop := meansRoundsRow.holds Try.pinned (OpenSpec.ofChange meansRoundsSpec)

/-- ITS FALSE NEIGHBOUR: 'it returns false'. Refute it at one input. -/
def meansRoundsWrong : ChangeSpec := { name := "meansRounds", fn := fun _ => fun
  | [d1, d2] => { results := [.lit (.bool false)], args := [d1, d2] }
  | _ => none }
def MeansRoundsWrongFalsely : Prop := meansRoundsRow.holds Try.pinned (OpenSpec.ofChange meansRoundsWrong)

/-- 'quiverlaw12.MeansAssigns': WHATEVER THE INPUT: true; the input reads as it did. -/
def meansAssignsSpec : ChangeSpec := { name := "meansAssigns", fn := fun _ => fun
  | [d1, d2] => { results := [.lit (.bool true)], args := [d1, d2] }
  | _ => none }
def meansAssignsRow : OpenClaim := { program := "ytgakfffkadaeeaa", sum := "0bbed7bc58a0f67c5be784995f239592195c14f228aa50bbf22cbbfb3592e25c", func := "quiver/quiverlaw12.MeansAssigns", spec := "meansAssigns", unfollowed := true, recurses := true, apart := false }
def MeansAssignsSaid : Prop := meansAssignsRow.holds Try.pinned (OpenSpec.ofChange meansAssignsSpec)

/-- ITS FALSE NEIGHBOUR: 'it returns false'. Refute it at one input. -/
def meansAssignsWrong : ChangeSpec := { name := "meansAssigns", fn := fun _ => fun
  | [d1, d2] => { results := [.lit (.bool false)], args := [d1, d2] }
  | _ => none }
def MeansAssignsWrongFalsely : Prop := meansAssignsRow.holds Try.pinned (OpenSpec.ofChange meansAssignsWrong)

/-- 'quiverlaw12.MeansSames': WHATEVER THE INPUT: true; the input reads as it did. -/
def meansSamesSpec : ChangeSpec := { name := "meansSames", fn := fun _ => fun
  | [d] => { results := [.lit (.bool true)], args := [d] }
  | _ => none }
def meansSamesRow : OpenClaim := { program := "ytgakfffkadaeeaa", sum := "0bbed7bc58a0f67c5be784995f239592195c14f228aa50bbf22cbbfb3592e25c", func := "quiver/quiverlaw12.MeansSames", spec := "meansSames", unfollowed := true, recurses := true, apart := false }
def MeansSamesSaid : Prop := meansSamesRow.holds Try.pinned (OpenSpec.ofChange meansSamesSpec)

/-- ITS FALSE NEIGHBOUR: 'it returns false'. Refute it at one input. -/
def meansSamesWrong : ChangeSpec := { name := "meansSames", fn := fun _ => fun
  | [d] => { results := [.lit (.bool false)], args := [d] }
  | _ => none }
def MeansSamesWrongFalsely : Prop := meansSamesRow.holds Try.pinned (OpenSpec.ofChange meansSamesWrong)

/-- 'quiverlaw12.MeansNearest': WHATEVER THE INPUT: true; the input reads as it did. -/
def meansNearestSpec : ChangeSpec := { name := "meansNearest", fn := fun _ => fun
  | [d1, d2] => { results := [.lit (.bool true)], args := [d1, d2] }
  | _ => none }
def meansNearestRow : OpenClaim := { program := "ytgakfffkadaeeaa", sum := "0bbed7bc58a0f67c5be784995f239592195c14f228aa50bbf22cbbfb3592e25c", func := "quiver/quiverlaw12.MeansNearest", spec := "meansNearest", unfollowed := true, recurses := true, apart := false }
def MeansNearestSaid : Prop := meansNearestRow.holds Try.pinned (OpenSpec.ofChange meansNearestSpec)

/-- ITS FALSE NEIGHBOUR: 'it returns false'. Refute it at one input. -/
def meansNearestWrong : ChangeSpec := { name := "meansNearest", fn := fun _ => fun
  | [d1, d2] => { results := [.lit (.bool false)], args := [d1, d2] }
  | _ => none }
def MeansNearestWrongFalsely : Prop := meansNearestRow.holds Try.pinned (OpenSpec.ofChange meansNearestWrong)

/-- 'quiverlaw12.MeansWithin': WHATEVER THE INPUT: true; the input reads as it did. -/
def meansWithinSpec : ChangeSpec := { name := "meansWithin", fn := fun _ => fun
  | [d1, d2] => { results := [.lit (.bool true)], args := [d1, d2] }
  | _ => none }
def meansWithinRow : OpenClaim := { program := "ytgakfffkadaeeaa", sum := "0bbed7bc58a0f67c5be784995f239592195c14f228aa50bbf22cbbfb3592e25c", func := "quiver/quiverlaw12.MeansWithin", spec := "meansWithin", unfollowed := true, recurses := true, apart := false }
def MeansWithinSaid : Prop := meansWithinRow.holds Try.pinned (OpenSpec.ofChange meansWithinSpec)

/-- ITS FALSE NEIGHBOUR: 'it returns false'. Refute it at one input. -/
def meansWithinWrong : ChangeSpec := { name := "meansWithin", fn := fun _ => fun
  | [d1, d2] => { results := [.lit (.bool false)], args := [d1, d2] }
  | _ => none }
def MeansWithinWrongFalsely : Prop := meansWithinRow.holds Try.pinned (OpenSpec.ofChange meansWithinWrong)

/-- 'quiverlaw12.MeansStay': WHATEVER THE INPUT: true; the input reads as it did. -/
def meansStaySpec : ChangeSpec := { name := "meansStay", fn := fun _ => fun
  | [d1, d2] => { results := [.lit (.bool true)], args := [d1, d2] }
  | _ => none }
def meansStayRow : OpenClaim := { program := "ytgakfffkadaeeaa", sum := "0bbed7bc58a0f67c5be784995f239592195c14f228aa50bbf22cbbfb3592e25c", func := "quiver/quiverlaw12.MeansStay", spec := "meansStay", unfollowed := true, recurses := true, apart := false }
def MeansStaySaid : Prop := meansStayRow.holds Try.pinned (OpenSpec.ofChange meansStaySpec)

/-- ITS FALSE NEIGHBOUR: 'it returns false'. Refute it at one input. -/
def meansStayWrong : ChangeSpec := { name := "meansStay", fn := fun _ => fun
  | [d1, d2] => { results := [.lit (.bool false)], args := [d1, d2] }
  | _ => none }
def MeansStayWrongFalsely : Prop := meansStayRow.holds Try.pinned (OpenSpec.ofChange meansStayWrong)

/-- 'quiverlaw12.MeansMoved': WHATEVER THE INPUT: true; the input reads as it did. -/
def meansMovedSpec : ChangeSpec := { name := "meansMoved", fn := fun _ => fun
  | [d1, d2, d3] => { results := [.lit (.bool true)], args := [d1, d2, d3] }
  | _ => none }
def meansMovedRow : OpenClaim := { program := "ytgakfffkadaeeaa", sum := "0bbed7bc58a0f67c5be784995f239592195c14f228aa50bbf22cbbfb3592e25c", func := "quiver/quiverlaw12.MeansMoved", spec := "meansMoved", unfollowed := true, recurses := true, apart := false }
def MeansMovedSaid : Prop := meansMovedRow.holds Try.pinned (OpenSpec.ofChange meansMovedSpec)

/-- ITS FALSE NEIGHBOUR: 'it returns false'. Refute it at one input. -/
def meansMovedWrong : ChangeSpec := { name := "meansMoved", fn := fun _ => fun
  | [d1, d2, d3] => { results := [.lit (.bool false)], args := [d1, d2, d3] }
  | _ => none }
def MeansMovedWrongFalsely : Prop := meansMovedRow.holds Try.pinned (OpenSpec.ofChange meansMovedWrong)

/-- 'quiverlaw12.MeansTurned': WHATEVER THE INPUT: true; the input reads as it did. -/
def meansTurnedSpec : ChangeSpec := { name := "meansTurned", fn := fun _ => fun
  | [d1, d2, d3] => { results := [.lit (.bool true)], args := [d1, d2, d3] }
  | _ => none }
def meansTurnedRow : OpenClaim := { program := "ytgakfffkadaeeaa", sum := "0bbed7bc58a0f67c5be784995f239592195c14f228aa50bbf22cbbfb3592e25c", func := "quiver/quiverlaw12.MeansTurned", spec := "meansTurned", unfollowed := true, recurses := true, apart := false }
def MeansTurnedSaid : Prop := meansTurnedRow.holds Try.pinned (OpenSpec.ofChange meansTurnedSpec)

/-- ITS FALSE NEIGHBOUR: 'it returns false'. Refute it at one input. -/
def meansTurnedWrong : ChangeSpec := { name := "meansTurned", fn := fun _ => fun
  | [d1, d2, d3] => { results := [.lit (.bool false)], args := [d1, d2, d3] }
  | _ => none }
def MeansTurnedWrongFalsely : Prop := meansTurnedRow.holds Try.pinned (OpenSpec.ofChange meansTurnedWrong)

/- THE SECOND FORM. 'bulk': how many values and letters a reading holds, each counted each time it is reached (what is shared counts as often as it is met; a slice's spare places count too). A statement '..UptoSaid' is the law's where the arguments, and the package variables that the reading takes, are together of bulk at most 1048576: NARROWER than '..Said'. Prove '..Said' where nothing that the law and all that it calls make is longer than what came in: it says more and counts as full. Else prove '..UptoSaid'. A law counts once. -/
mutual
def uptoBulk {H : Type} : DataW H → Nat
  | .lit (.string bytes) => bytes.length + 1
  | .lit _ => 1
  | .nil => 1
  | .ptr d => uptoBulk d + 1
  | .slice elems spare => uptoBulkAll elems + uptoBulkAll spare + 1
  | .agg parts => uptoBulkAll parts + 1
  | .iface _ d => uptoBulk d + 1
  | .map entries => uptoBulkEntries entries + 1
  | .held _ => 1
def uptoBulkAll {H : Type} : List (DataW H) → Nat
  | [] => 0
  | d :: r => uptoBulk d + uptoBulkAll r
def uptoBulkEntries {H : Type} : List (Lit × DataW H) → Nat
  | [] => 0
  | x :: r => uptoBulkEntry x + uptoBulkEntries r
def uptoBulkEntry {H : Type} : Lit × DataW H → Nat
  | (.string bytes, d) => bytes.length + uptoBulk d + 1
  | (_, d) => uptoBulk d + 1
 end
def uptoSmall : (H : Type) → List (DataW H) → Bool := fun _ ds => decide (uptoBulkAll ds ≤ 1048576)
def OpenSpec.upto (s : _root_.Go.ChangeSpec) : _root_.Go.OpenSpec := { _root_.Go.OpenSpec.ofChange s with cond := some uptoSmall }

/-- 'quiverlaw12.MeansStarts', WHERE WHAT IT READS IS OF BULK AT MOST 1048576: true; the input reads as it did. -/
def meansStartsUptoRow : OpenClaim := { program := "ytgakfffkadaeeaa", sum := "0bbed7bc58a0f67c5be784995f239592195c14f228aa50bbf22cbbfb3592e25c", func := "quiver/quiverlaw12.MeansStarts", spec := "meansStarts", unfollowed := true, recurses := true, apart := false, narrowed := true }
def MeansStartsUptoSaid : Prop := meansStartsUptoRow.holds Try.pinned (OpenSpec.upto meansStartsSpec)

/-- 'quiverlaw12.MeansRounds', WHERE WHAT IT READS IS OF BULK AT MOST 1048576: true; the input reads as it did. -/
def meansRoundsUptoRow : OpenClaim := { program := "ytgakfffkadaeeaa", sum := "0bbed7bc58a0f67c5be784995f239592195c14f228aa50bbf22cbbfb3592e25c", func := "quiver/quiverlaw12.MeansRounds", spec := "meansRounds", unfollowed := true, recurses := true, apart := false, narrowed := true }
def MeansRoundsUptoSaid : Prop := meansRoundsUptoRow.holds Try.pinned (OpenSpec.upto meansRoundsSpec)

/-- 'quiverlaw12.MeansAssigns', WHERE WHAT IT READS IS OF BULK AT MOST 1048576: true; the input reads as it did. -/
def meansAssignsUptoRow : OpenClaim := { program := "ytgakfffkadaeeaa", sum := "0bbed7bc58a0f67c5be784995f239592195c14f228aa50bbf22cbbfb3592e25c", func := "quiver/quiverlaw12.MeansAssigns", spec := "meansAssigns", unfollowed := true, recurses := true, apart := false, narrowed := true }
def MeansAssignsUptoSaid : Prop := meansAssignsUptoRow.holds Try.pinned (OpenSpec.upto meansAssignsSpec)

/-- 'quiverlaw12.MeansSames', WHERE WHAT IT READS IS OF BULK AT MOST 1048576: true; the input reads as it did. -/
def meansSamesUptoRow : OpenClaim := { program := "ytgakfffkadaeeaa", sum := "0bbed7bc58a0f67c5be784995f239592195c14f228aa50bbf22cbbfb3592e25c", func := "quiver/quiverlaw12.MeansSames", spec := "meansSames", unfollowed := true, recurses := true, apart := false, narrowed := true }
def MeansSamesUptoSaid : Prop := meansSamesUptoRow.holds Try.pinned (OpenSpec.upto meansSamesSpec)

/-- 'quiverlaw12.MeansNearest', WHERE WHAT IT READS IS OF BULK AT MOST 1048576: true; the input reads as it did. -/
def meansNearestUptoRow : OpenClaim := { program := "ytgakfffkadaeeaa", sum := "0bbed7bc58a0f67c5be784995f239592195c14f228aa50bbf22cbbfb3592e25c", func := "quiver/quiverlaw12.MeansNearest", spec := "meansNearest", unfollowed := true, recurses := true, apart := false, narrowed := true }
def MeansNearestUptoSaid : Prop := meansNearestUptoRow.holds Try.pinned (OpenSpec.upto meansNearestSpec)

/-- 'quiverlaw12.MeansWithin', WHERE WHAT IT READS IS OF BULK AT MOST 1048576: true; the input reads as it did. -/
def meansWithinUptoRow : OpenClaim := { program := "ytgakfffkadaeeaa", sum := "0bbed7bc58a0f67c5be784995f239592195c14f228aa50bbf22cbbfb3592e25c", func := "quiver/quiverlaw12.MeansWithin", spec := "meansWithin", unfollowed := true, recurses := true, apart := false, narrowed := true }
def MeansWithinUptoSaid : Prop := meansWithinUptoRow.holds Try.pinned (OpenSpec.upto meansWithinSpec)

/-- 'quiverlaw12.MeansStay', WHERE WHAT IT READS IS OF BULK AT MOST 1048576: true; the input reads as it did. -/
def meansStayUptoRow : OpenClaim := { program := "ytgakfffkadaeeaa", sum := "0bbed7bc58a0f67c5be784995f239592195c14f228aa50bbf22cbbfb3592e25c", func := "quiver/quiverlaw12.MeansStay", spec := "meansStay", unfollowed := true, recurses := true, apart := false, narrowed := true }
def MeansStayUptoSaid : Prop := meansStayUptoRow.holds Try.pinned (OpenSpec.upto meansStaySpec)

/-- 'quiverlaw12.MeansMoved', WHERE WHAT IT READS IS OF BULK AT MOST 1048576: true; the input reads as it did. -/
def meansMovedUptoRow : OpenClaim := { program := "ytgakfffkadaeeaa", sum := "0bbed7bc58a0f67c5be784995f239592195c14f228aa50bbf22cbbfb3592e25c", func := "quiver/quiverlaw12.MeansMoved", spec := "meansMoved", unfollowed := true, recurses := true, apart := false, narrowed := true }
def MeansMovedUptoSaid : Prop := meansMovedUptoRow.holds Try.pinned (OpenSpec.upto meansMovedSpec)

/-- 'quiverlaw12.MeansTurned', WHERE WHAT IT READS IS OF BULK AT MOST 1048576: true; the input reads as it did. -/
def meansTurnedUptoRow : OpenClaim := { program := "ytgakfffkadaeeaa", sum := "0bbed7bc58a0f67c5be784995f239592195c14f228aa50bbf22cbbfb3592e25c", func := "quiver/quiverlaw12.MeansTurned", spec := "meansTurned", unfollowed := true, recurses := true, apart := false, narrowed := true }
def MeansTurnedUptoSaid : Prop := meansTurnedUptoRow.holds Try.pinned (OpenSpec.upto meansTurnedSpec)

end Rows
end Go.Proofs.Ytgakfffkadaeeaa
