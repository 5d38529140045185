/-
  No cell of these rows narrows 'for every input' (looked for: loops, veiled, ifaces, maps, wideKeys, modest, calm, conditions, laid).
  DERIVED. THE GIVEN ROWS OF THIS SEAT. 8 by the template 'for every input the law returns true; each argument reads behind the call as it read before'; 0 by the template 'total and deterministic' (their statements: YthobkakmjgmpcaaTotals.lean).
  GIVEN WITH THE SEED: the statements are not yours to turn. If you find one false, say at which input.
  Laid BY PROGRAM, IN A SANDBOX (cutbox-rows.mjs): the forced cells as the released guide's own fill.sh prints them over the translation ffd87ebdacaa3e19… (all of the seat's roots in one cut). By AI agents, Wed Nov 11 2026. No macro, syntax, notation, axiom, sorry.
-/
import Derived.Test.YthobkakmjgmpcaaChecked
import GoSem.Claim
import GoSem.ClaimJoined
import GoSem.ClaimMapViews
import Derived.JoinedTies
import Derived.KernelRfl
namespace Go.Proofs.Ythobkakmjgmpcaa
/- THE CELL 'sum', in the pinned program and in every row, IS THE sha256 OF THE DUMP (.gsa) THAT YthobkakmjgmpcaaProg.lean LOADS. Nothing in Lean hashes anything: it is a label: what it is worth is what the hold of that sum in a sandbox is worth. -/
noncomputable def Try.pinned : Pinned := { name := "ythobkakmjgmpcaa", sum := "ffd87ebdacaa3e1953bbda4917a1475544e11d863178504ab7d0c05b7ec9c919", checked := Try.checked }
namespace Rows
def none {H : Type} : Left H := { results := [], args := [] }

/-- 'quiverlaw06.TopkFirsts': WHATEVER THE INPUT: true; the input reads as it did. -/
def topkFirstsSpec : ChangeSpec := { name := "topkFirsts", fn := fun _ => fun
  | [d1, d2] => { results := [.lit (.bool true)], args := [d1, d2] }
  | _ => none }
def topkFirstsRow : OpenClaim := { program := "ythobkakmjgmpcaa", sum := "ffd87ebdacaa3e1953bbda4917a1475544e11d863178504ab7d0c05b7ec9c919", func := "quiver/quiverlaw06.TopkFirsts", spec := "topkFirsts", unfollowed := true, recurses := true, plainKeys := false, apart := false }
def TopkFirstsSaid : Prop := topkFirstsRow.holds Try.pinned (OpenSpec.ofChange topkFirstsSpec)

/-- ITS FALSE NEIGHBOUR: 'it returns false'. Refute it at one input. -/
def topkFirstsWrong : ChangeSpec := { name := "topkFirsts", fn := fun _ => fun
  | [d1, d2] => { results := [.lit (.bool false)], args := [d1, d2] }
  | _ => none }
def TopkFirstsWrongFalsely : Prop := topkFirstsRow.holds Try.pinned (OpenSpec.ofChange topkFirstsWrong)

/-- 'quiverlaw06.TopkMerges': WHATEVER THE INPUT: true; the input reads as it did. -/
def topkMergesSpec : ChangeSpec := { name := "topkMerges", fn := fun _ => fun
  | [d1, d2] => { results := [.lit (.bool true)], args := [d1, d2] }
  | _ => none }
def topkMergesRow : OpenClaim := { program := "ythobkakmjgmpcaa", sum := "ffd87ebdacaa3e1953bbda4917a1475544e11d863178504ab7d0c05b7ec9c919", func := "quiver/quiverlaw06.TopkMerges", spec := "topkMerges", unfollowed := true, recurses := true, plainKeys := false, apart := false }
def TopkMergesSaid : Prop := topkMergesRow.holds Try.pinned (OpenSpec.ofChange topkMergesSpec)

/-- ITS FALSE NEIGHBOUR: 'it returns false'. Refute it at one input. -/
def topkMergesWrong : ChangeSpec := { name := "topkMerges", fn := fun _ => fun
  | [d1, d2] => { results := [.lit (.bool false)], args := [d1, d2] }
  | _ => none }
def TopkMergesWrongFalsely : Prop := topkMergesRow.holds Try.pinned (OpenSpec.ofChange topkMergesWrong)

/-- 'quiverlaw06.TopkOffers': WHATEVER THE INPUT: true; the input reads as it did. -/
def topkOffersSpec : ChangeSpec := { name := "topkOffers", fn := fun _ => fun
  | [d1, d2] => { results := [.lit (.bool true)], args := [d1, d2] }
  | _ => none }
def topkOffersRow : OpenClaim := { program := "ythobkakmjgmpcaa", sum := "ffd87ebdacaa3e1953bbda4917a1475544e11d863178504ab7d0c05b7ec9c919", func := "quiver/quiverlaw06.TopkOffers", spec := "topkOffers", unfollowed := true, recurses := true, plainKeys := false, apart := false }
def TopkOffersSaid : Prop := topkOffersRow.holds Try.pinned (OpenSpec.ofChange topkOffersSpec)

/-- ITS FALSE NEIGHBOUR: 'it returns false'. Refute it at one input. -/
def topkOffersWrong : ChangeSpec := { name := "topkOffers", fn := fun _ => fun
  | [d1, d2] => { results := [.lit (.bool false)], args := [d1, d2] }
  | _ => none }
def TopkOffersWrongFalsely : Prop := topkOffersRow.holds Try.pinned (OpenSpec.ofChange topkOffersWrong)

/-- 'quiverlaw06.TopkSames': WHATEVER THE INPUT: true; the input reads as it did. -/
def topkSamesSpec : ChangeSpec := { name := "topkSames", fn := fun _ => fun
  | [d1, d2] => { results := [.lit (.bool true)], args := [d1, d2] }
  | _ => none }
def topkSamesRow : OpenClaim := { program := "ythobkakmjgmpcaa", sum := "ffd87ebdacaa3e1953bbda4917a1475544e11d863178504ab7d0c05b7ec9c919", func := "quiver/quiverlaw06.TopkSames", spec := "topkSames", unfollowed := true, recurses := true, plainKeys := false, apart := false }
def TopkSamesSaid : Prop := topkSamesRow.holds Try.pinned (OpenSpec.ofChange topkSamesSpec)

/-- ITS FALSE NEIGHBOUR: 'it returns false'. Refute it at one input. -/
def topkSamesWrong : ChangeSpec := { name := "topkSames", fn := fun _ => fun
  | [d1, d2] => { results := [.lit (.bool false)], args := [d1, d2] }
  | _ => none }
def TopkSamesWrongFalsely : Prop := topkSamesRow.holds Try.pinned (OpenSpec.ofChange topkSamesWrong)

/-- 'quiverlaw06.TopkMost': WHATEVER THE INPUT: true; the input reads as it did. -/
def topkMostSpec : ChangeSpec := { name := "topkMost", fn := fun _ => fun
  | [d1, d2] => { results := [.lit (.bool true)], args := [d1, d2] }
  | _ => none }
def topkMostRow : OpenClaim := { program := "ythobkakmjgmpcaa", sum := "ffd87ebdacaa3e1953bbda4917a1475544e11d863178504ab7d0c05b7ec9c919", func := "quiver/quiverlaw06.TopkMost", spec := "topkMost", unfollowed := true, recurses := true, plainKeys := false, apart := false }
def TopkMostSaid : Prop := topkMostRow.holds Try.pinned (OpenSpec.ofChange topkMostSpec)

/-- ITS FALSE NEIGHBOUR: 'it returns false'. Refute it at one input. -/
def topkMostWrong : ChangeSpec := { name := "topkMost", fn := fun _ => fun
  | [d1, d2] => { results := [.lit (.bool false)], args := [d1, d2] }
  | _ => none }
def TopkMostWrongFalsely : Prop := topkMostRow.holds Try.pinned (OpenSpec.ofChange topkMostWrong)

/-- 'quiverlaw06.TopkParts': WHATEVER THE INPUT: true; the input reads as it did. -/
def topkPartsSpec : ChangeSpec := { name := "topkParts", fn := fun _ => fun
  | [d1, d2, d3] => { results := [.lit (.bool true)], args := [d1, d2, d3] }
  | _ => none }
def topkPartsRow : OpenClaim := { program := "ythobkakmjgmpcaa", sum := "ffd87ebdacaa3e1953bbda4917a1475544e11d863178504ab7d0c05b7ec9c919", func := "quiver/quiverlaw06.TopkParts", spec := "topkParts", unfollowed := true, recurses := true, plainKeys := false, apart := false }
def TopkPartsSaid : Prop := topkPartsRow.holds Try.pinned (OpenSpec.ofChange topkPartsSpec)

/-- ITS FALSE NEIGHBOUR: 'it returns false'. Refute it at one input. -/
def topkPartsWrong : ChangeSpec := { name := "topkParts", fn := fun _ => fun
  | [d1, d2, d3] => { results := [.lit (.bool false)], args := [d1, d2, d3] }
  | _ => none }
def TopkPartsWrongFalsely : Prop := topkPartsRow.holds Try.pinned (OpenSpec.ofChange topkPartsWrong)

/-- 'quiverlaw06.TopkLeft': WHATEVER THE INPUT: true; the input reads as it did. -/
def topkLeftSpec : ChangeSpec := { name := "topkLeft", fn := fun _ => fun
  | [d1, d2] => { results := [.lit (.bool true)], args := [d1, d2] }
  | _ => none }
def topkLeftRow : OpenClaim := { program := "ythobkakmjgmpcaa", sum := "ffd87ebdacaa3e1953bbda4917a1475544e11d863178504ab7d0c05b7ec9c919", func := "quiver/quiverlaw06.TopkLeft", spec := "topkLeft", unfollowed := true, recurses := true, plainKeys := false, apart := false }
def TopkLeftSaid : Prop := topkLeftRow.holds Try.pinned (OpenSpec.ofChange topkLeftSpec)

/-- ITS FALSE NEIGHBOUR: 'it returns false'. Refute it at one input. -/
def topkLeftWrong : ChangeSpec := { name := "topkLeft", fn := fun _ => fun
  | [d1, d2] => { results := [.lit (.bool false)], args := [d1, d2] }
  | _ => none }
def TopkLeftWrongFalsely : Prop := topkLeftRow.holds Try.pinned (OpenSpec.ofChange topkLeftWrong)

/-- 'quiverlaw06.TopkTurned': WHATEVER THE INPUT: true; the input reads as it did. -/
def topkTurnedSpec : ChangeSpec := { name := "topkTurned", fn := fun _ => fun
  | [d1, d2, d3] => { results := [.lit (.bool true)], args := [d1, d2, d3] }
  | _ => none }
def topkTurnedRow : OpenClaim := { program := "ythobkakmjgmpcaa", sum := "ffd87ebdacaa3e1953bbda4917a1475544e11d863178504ab7d0c05b7ec9c919", func := "quiver/quiverlaw06.TopkTurned", spec := "topkTurned", unfollowed := true, recurses := true, plainKeys := false, apart := false }
def TopkTurnedSaid : Prop := topkTurnedRow.holds Try.pinned (OpenSpec.ofChange topkTurnedSpec)

/-- ITS FALSE NEIGHBOUR: 'it returns false'. Refute it at one input. -/
def topkTurnedWrong : ChangeSpec := { name := "topkTurned", fn := fun _ => fun
  | [d1, d2, d3] => { results := [.lit (.bool false)], args := [d1, d2, d3] }
  | _ => none }
def TopkTurnedWrongFalsely : Prop := topkTurnedRow.holds Try.pinned (OpenSpec.ofChange topkTurnedWrong)

/- THE SECOND FORM. 'bulk': how many values and letters a reading holds, each counted each time it is reached (what is shared counts as often as it is met; a slice's spare places count too). A statement '..UptoSaid' is the law's where the arguments, and the package variables that the reading takes, are together of bulk at most 1048576: NARROWER than '..Said'. Prove '..Said' where nothing that the law and all that it calls make is longer than what came in: it says more and counts as full. Else prove '..UptoSaid'. A law counts once. -/
mutual
def uptoBulk {H : Type} : DataW H → Nat
  | .lit (.string bytes) => bytes.length + 1
  | .lit _ => 1
  | .nil => 1
  | .ptr d => uptoBulk d + 1
  | .slice elems spare => uptoBulkAll elems + uptoBulkAll spare + 1
  | .agg parts => uptoBulkAll parts + 1
  | .iface _ d => uptoBulk d + 1
  | .map entries => uptoBulkEntries entries + 1
  | .held _ => 1
def uptoBulkAll {H : Type} : List (DataW H) → Nat
  | [] => 0
  | d :: r => uptoBulk d + uptoBulkAll r
def uptoBulkEntries {H : Type} : List (Lit × DataW H) → Nat
  | [] => 0
  | x :: r => uptoBulkEntry x + uptoBulkEntries r
def uptoBulkEntry {H : Type} : Lit × DataW H → Nat
  | (.string bytes, d) => bytes.length + uptoBulk d + 1
  | (_, d) => uptoBulk d + 1
 end
def uptoSmall : (H : Type) → List (DataW H) → Bool := fun _ ds => decide (uptoBulkAll ds ≤ 1048576)
def OpenSpec.upto (s : _root_.Go.ChangeSpec) : _root_.Go.OpenSpec := { _root_.Go.OpenSpec.ofChange s with cond := some uptoSmall }

/-- 'quiverlaw06.TopkFirsts', WHERE WHAT IT READS IS OF BULK AT MOST 1048576: true; the input reads as it did. -/
def topkFirstsUptoRow : OpenClaim := { program := "ythobkakmjgmpcaa", sum := "ffd87ebdacaa3e1953bbda4917a1475544e11d863178504ab7d0c05b7ec9c919", func := "quiver/quiverlaw06.TopkFirsts", spec := "topkFirsts", unfollowed := true, recurses := true, plainKeys := false, apart := false, narrowed := true }
def TopkFirstsUptoSaid : Prop := topkFirstsUptoRow.holds Try.pinned (OpenSpec.upto topkFirstsSpec)

/-- 'quiverlaw06.TopkMerges', WHERE WHAT IT READS IS OF BULK AT MOST 1048576: true; the input reads as it did. -/
def topkMergesUptoRow : OpenClaim := { program := "ythobkakmjgmpcaa", sum := "ffd87ebdacaa3e1953bbda4917a1475544e11d863178504ab7d0c05b7ec9c919", func := "quiver/quiverlaw06.TopkMerges", spec := "topkMerges", unfollowed := true, recurses := true, plainKeys := false, apart := false, narrowed := true }
def TopkMergesUptoSaid : Prop := topkMergesUptoRow.holds Try.pinned (OpenSpec.upto topkMergesSpec)

/-- 'quiverlaw06.TopkOffers', WHERE WHAT IT READS IS OF BULK AT MOST 1048576: true; the input reads as it did. -/
def topkOffersUptoRow : OpenClaim := { program := "ythobkakmjgmpcaa", sum := "ffd87ebdacaa3e1953bbda4917a1475544e11d863178504ab7d0c05b7ec9c919", func := "quiver/quiverlaw06.TopkOffers", spec := "topkOffers", unfollowed := true, recurses := true, plainKeys := false, apart := false, narrowed := true }
def TopkOffersUptoSaid : Prop := topkOffersUptoRow.holds Try.pinned (OpenSpec.upto topkOffersSpec)

/-- 'quiverlaw06.TopkSames', WHERE WHAT IT READS IS OF BULK AT MOST 1048576: true; the input reads as it did. -/
def topkSamesUptoRow : OpenClaim := { program := "ythobkakmjgmpcaa", sum := "ffd87ebdacaa3e1953bbda4917a1475544e11d863178504ab7d0c05b7ec9c919", func := "quiver/quiverlaw06.TopkSames", spec := "topkSames", unfollowed := true, recurses := true, plainKeys := false, apart := false, narrowed := true }
def TopkSamesUptoSaid : Prop := topkSamesUptoRow.holds Try.pinned (OpenSpec.upto topkSamesSpec)

/-- 'quiverlaw06.TopkMost', WHERE WHAT IT READS IS OF BULK AT MOST 1048576: true; the input reads as it did. -/
def topkMostUptoRow : OpenClaim := { program := "ythobkakmjgmpcaa", sum := "ffd87ebdacaa3e1953bbda4917a1475544e11d863178504ab7d0c05b7ec9c919", func := "quiver/quiverlaw06.TopkMost", spec := "topkMost", unfollowed := true, recurses := true, plainKeys := false, apart := false, narrowed := true }
def TopkMostUptoSaid : Prop := topkMostUptoRow.holds Try.pinned (OpenSpec.upto topkMostSpec)

/-- 'quiverlaw06.TopkParts', WHERE WHAT IT READS IS OF BULK AT MOST 1048576: true; the input reads as it did. -/
def topkPartsUptoRow : OpenClaim := { program := "ythobkakmjgmpcaa", sum := "ffd87ebdacaa3e1953bbda4917a1475544e11d863178504ab7d0c05b7ec9c919", func := "quiver/quiverlaw06.TopkParts", spec := "topkParts", unfollowed := true, recurses := true, plainKeys := false, apart := false, narrowed := true }
def TopkPartsUptoSaid : Prop := topkPartsUptoRow.holds Try.pinned (OpenSpec.upto topkPartsSpec)

/-- 'quiverlaw06.TopkLeft', WHERE WHAT IT READS IS OF BULK AT MOST 1048576: true; the input reads as it did. -/
def topkLeftUptoRow : OpenClaim := { program := "ythobkakmjgmpcaa", sum := "ffd87ebdacaa3e1953bbda4917a1475544e11d863178504ab7d0c05b7ec9c919", func := "quiver/quiverlaw06.TopkLeft", spec := "topkLeft", unfollowed := true, recurses := true, plainKeys := false, apart := false, narrowed := true }
def TopkLeftUptoSaid : Prop := topkLeftUptoRow.holds Try.pinned (OpenSpec.upto topkLeftSpec)

/-- 'quiverlaw06.TopkTurned', WHERE WHAT IT READS IS OF BULK AT MOST 1048576: true; the input reads as it did. -/
def topkTurnedUptoRow : OpenClaim := { program := "ythobkakmjgmpcaa", sum := "ffd87ebdacaa3e1953bbda4917a1475544e11d863178504ab7d0c05b7ec9c919", func := "quiver/quiverlaw06.TopkTurned", spec := "topkTurned", unfollowed := true, recurses := true, plainKeys := false, apart := false, narrowed := true }
def TopkTurnedUptoSaid : Prop := topkTurnedUptoRow.holds Try.pinned (OpenSpec.upto topkTurnedSpec)

end Rows
end Go.Proofs.Ythobkakmjgmpcaa
