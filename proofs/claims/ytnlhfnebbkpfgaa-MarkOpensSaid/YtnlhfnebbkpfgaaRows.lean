/-
  No cell of these rows narrows 'for every input' (looked for: loops, veiled, ifaces, maps, wideKeys, modest, calm, conditions, laid).
  DERIVED. THE GIVEN ROWS OF THIS SEAT. 7 by the template 'for every input the law returns true; each argument reads behind the call as it read before'; 0 by the template 'total and deterministic' (their statements: YtnlhfnebbkpfgaaTotals.lean).
  GIVEN WITH THE SEED: the statements are not yours to turn. If you find one false, say at which input.
  Laid BY PROGRAM, IN A SANDBOX (cutbox-rows.mjs): the forced cells as the released guide's own fill.sh prints them over the translation 9b129df202773e09… (all of the seat's roots in one cut). By AI agents, Wed Nov 11 2026. No macro, syntax, notation, axiom, sorry.
-/
import Derived.Test.YtnlhfnebbkpfgaaChecked
import GoSem.Claim
import GoSem.ClaimJoined
import GoSem.ClaimMapViews
import Derived.JoinedTies
import Derived.KernelRfl
namespace Go.Proofs.Ytnlhfnebbkpfgaa
/- THE CELL 'sum', in the pinned program and in every row, IS THE sha256 OF THE DUMP (.gsa) THAT YtnlhfnebbkpfgaaProg.lean LOADS. Nothing in Lean hashes anything: it is a label: what it is worth is what the hold of that sum in a sandbox is worth. -/
noncomputable def Try.pinned : Pinned := { name := "ytnlhfnebbkpfgaa", sum := "9b129df202773e090776bbb376855440a2cb08ad6a4571076a5a2be1c154cd41", checked := Try.checked }
namespace Rows
def none {H : Type} : Left H := { results := [], args := [] }

/-- 'quiverlaw03.MarkTells': WHATEVER THE INPUT: true; the input reads as it did. -/
def markTellsSpec : ChangeSpec := { name := "markTells", fn := fun _ => fun
  | [d1, d2] => { results := [.lit (.bool true)], args := [d1, d2] }
  | _ => none }
def markTellsRow : OpenClaim := { program := "ytnlhfnebbkpfgaa", sum := "9b129df202773e090776bbb376855440a2cb08ad6a4571076a5a2be1c154cd41", func := "quiver/quiverlaw03.MarkTells", spec := "markTells", unfollowed := true, recurses := true, apart := false }
def MarkTellsSaid : Prop := markTellsRow.holds Try.pinned (OpenSpec.ofChange markTellsSpec)

/-- ITS FALSE NEIGHBOUR: 'it returns false'. Refute it at one input. -/
def markTellsWrong : ChangeSpec := { name := "markTells", fn := fun _ => fun
  | [d1, d2] => { results := [.lit (.bool false)], args := [d1, d2] }
  | _ => none }
def MarkTellsWrongFalsely : Prop := markTellsRow.holds Try.pinned (OpenSpec.ofChange markTellsWrong)

/-- 'quiverlaw03.MarkOpens': WHATEVER THE INPUT: true; the input reads as it did. -/
def markOpensSpec : ChangeSpec := { name := "markOpens", fn := fun _ => fun
  | [d] => { results := [.lit (.bool true)], args := [d] }
  | _ => none }
def markOpensRow : OpenClaim := { program := "ytnlhfnebbkpfgaa", sum := "9b129df202773e090776bbb376855440a2cb08ad6a4571076a5a2be1c154cd41", func := "quiver/quiverlaw03.MarkOpens", spec := "markOpens", unfollowed := true, recurses := true, apart := false }
def MarkOpensSaid : Prop := markOpensRow.holds Try.pinned (OpenSpec.ofChange markOpensSpec)

/-- ITS FALSE NEIGHBOUR: 'it returns false'. Refute it at one input. -/
def markOpensWrong : ChangeSpec := { name := "markOpens", fn := fun _ => fun
  | [d] => { results := [.lit (.bool false)], args := [d] }
  | _ => none }
def MarkOpensWrongFalsely : Prop := markOpensRow.holds Try.pinned (OpenSpec.ofChange markOpensWrong)

/-- 'quiverlaw03.MarkPlaces': WHATEVER THE INPUT: true; the input reads as it did. -/
def markPlacesSpec : ChangeSpec := { name := "markPlaces", fn := fun _ => fun
  | [d1, d2] => { results := [.lit (.bool true)], args := [d1, d2] }
  | _ => none }
def markPlacesRow : OpenClaim := { program := "ytnlhfnebbkpfgaa", sum := "9b129df202773e090776bbb376855440a2cb08ad6a4571076a5a2be1c154cd41", func := "quiver/quiverlaw03.MarkPlaces", spec := "markPlaces", unfollowed := true, recurses := true, apart := false }
def MarkPlacesSaid : Prop := markPlacesRow.holds Try.pinned (OpenSpec.ofChange markPlacesSpec)

/-- ITS FALSE NEIGHBOUR: 'it returns false'. Refute it at one input. -/
def markPlacesWrong : ChangeSpec := { name := "markPlaces", fn := fun _ => fun
  | [d1, d2] => { results := [.lit (.bool false)], args := [d1, d2] }
  | _ => none }
def MarkPlacesWrongFalsely : Prop := markPlacesRow.holds Try.pinned (OpenSpec.ofChange markPlacesWrong)

/-- 'quiverlaw03.MarkGoes': WHATEVER THE INPUT: true; the input reads as it did. -/
def markGoesSpec : ChangeSpec := { name := "markGoes", fn := fun _ => fun
  | [d1, d2, d3] => { results := [.lit (.bool true)], args := [d1, d2, d3] }
  | _ => none }
def markGoesRow : OpenClaim := { program := "ytnlhfnebbkpfgaa", sum := "9b129df202773e090776bbb376855440a2cb08ad6a4571076a5a2be1c154cd41", func := "quiver/quiverlaw03.MarkGoes", spec := "markGoes", unfollowed := true, recurses := true, apart := false }
def MarkGoesSaid : Prop := markGoesRow.holds Try.pinned (OpenSpec.ofChange markGoesSpec)

/-- ITS FALSE NEIGHBOUR: 'it returns false'. Refute it at one input. -/
def markGoesWrong : ChangeSpec := { name := "markGoes", fn := fun _ => fun
  | [d1, d2, d3] => { results := [.lit (.bool false)], args := [d1, d2, d3] }
  | _ => none }
def MarkGoesWrongFalsely : Prop := markGoesRow.holds Try.pinned (OpenSpec.ofChange markGoesWrong)

/-- 'quiverlaw03.MarkOne': WHATEVER THE INPUT: true; the input reads as it did. -/
def markOneSpec : ChangeSpec := { name := "markOne", fn := fun _ => fun
  | [d1, d2, d3] => { results := [.lit (.bool true)], args := [d1, d2, d3] }
  | _ => none }
def markOneRow : OpenClaim := { program := "ytnlhfnebbkpfgaa", sum := "9b129df202773e090776bbb376855440a2cb08ad6a4571076a5a2be1c154cd41", func := "quiver/quiverlaw03.MarkOne", spec := "markOne", unfollowed := true, recurses := true, apart := false }
def MarkOneSaid : Prop := markOneRow.holds Try.pinned (OpenSpec.ofChange markOneSpec)

/-- ITS FALSE NEIGHBOUR: 'it returns false'. Refute it at one input. -/
def markOneWrong : ChangeSpec := { name := "markOne", fn := fun _ => fun
  | [d1, d2, d3] => { results := [.lit (.bool false)], args := [d1, d2, d3] }
  | _ => none }
def MarkOneWrongFalsely : Prop := markOneRow.holds Try.pinned (OpenSpec.ofChange markOneWrong)

/-- 'quiverlaw03.MarkSealed': WHATEVER THE INPUT: true; the input reads as it did. -/
def markSealedSpec : ChangeSpec := { name := "markSealed", fn := fun _ => fun
  | [d1, d2, d3] => { results := [.lit (.bool true)], args := [d1, d2, d3] }
  | _ => none }
def markSealedRow : OpenClaim := { program := "ytnlhfnebbkpfgaa", sum := "9b129df202773e090776bbb376855440a2cb08ad6a4571076a5a2be1c154cd41", func := "quiver/quiverlaw03.MarkSealed", spec := "markSealed", unfollowed := true, recurses := true, apart := false }
def MarkSealedSaid : Prop := markSealedRow.holds Try.pinned (OpenSpec.ofChange markSealedSpec)

/-- ITS FALSE NEIGHBOUR: 'it returns false'. Refute it at one input. -/
def markSealedWrong : ChangeSpec := { name := "markSealed", fn := fun _ => fun
  | [d1, d2, d3] => { results := [.lit (.bool false)], args := [d1, d2, d3] }
  | _ => none }
def MarkSealedWrongFalsely : Prop := markSealedRow.holds Try.pinned (OpenSpec.ofChange markSealedWrong)

/-- 'quiverlaw03.MarkFirst': WHATEVER THE INPUT: true; the input reads as it did. -/
def markFirstSpec : ChangeSpec := { name := "markFirst", fn := fun _ => fun
  | [d1, d2] => { results := [.lit (.bool true)], args := [d1, d2] }
  | _ => none }
def markFirstRow : OpenClaim := { program := "ytnlhfnebbkpfgaa", sum := "9b129df202773e090776bbb376855440a2cb08ad6a4571076a5a2be1c154cd41", func := "quiver/quiverlaw03.MarkFirst", spec := "markFirst", unfollowed := true, recurses := true, apart := false }
def MarkFirstSaid : Prop := markFirstRow.holds Try.pinned (OpenSpec.ofChange markFirstSpec)

/-- ITS FALSE NEIGHBOUR: 'it returns false'. Refute it at one input. -/
def markFirstWrong : ChangeSpec := { name := "markFirst", fn := fun _ => fun
  | [d1, d2] => { results := [.lit (.bool false)], args := [d1, d2] }
  | _ => none }
def MarkFirstWrongFalsely : Prop := markFirstRow.holds Try.pinned (OpenSpec.ofChange markFirstWrong)

/- THE SECOND FORM. 'bulk': how many values and letters a reading holds, each counted each time it is reached (what is shared counts as often as it is met; a slice's spare places count too). A statement '..UptoSaid' is the law's where the arguments, and the package variables that the reading takes, are together of bulk at most 1048576: NARROWER than '..Said'. Prove '..Said' where nothing that the law and all that it calls make is longer than what came in: it says more and counts as full. Else prove '..UptoSaid'. A law counts once. -/
mutual
def uptoBulk {H : Type} : DataW H → Nat
  | .lit (.string bytes) => bytes.length + 1
  | .lit _ => 1
  | .nil => 1
  | .ptr d => uptoBulk d + 1
  | .slice elems spare => uptoBulkAll elems + uptoBulkAll spare + 1
  | .agg parts => uptoBulkAll parts + 1
  | .iface _ d => uptoBulk d + 1
  | .map entries => uptoBulkEntries entries + 1
  | .held _ => 1
def uptoBulkAll {H : Type} : List (DataW H) → Nat
  | [] => 0
  | d :: r => uptoBulk d + uptoBulkAll r
def uptoBulkEntries {H : Type} : List (Lit × DataW H) → Nat
  | [] => 0
  | x :: r => uptoBulkEntry x + uptoBulkEntries r
def uptoBulkEntry {H : Type} : Lit × DataW H → Nat
  | (.string bytes, d) => bytes.length + uptoBulk d + 1
  | (_, d) => uptoBulk d + 1
 end
def uptoSmall : (H : Type) → List (DataW H) → Bool := fun _ ds => decide (uptoBulkAll ds ≤ 1048576)
def OpenSpec.upto (s : _root_.Go.ChangeSpec) : _root_.Go.OpenSpec := { _root_.Go.OpenSpec.ofChange s with cond := some uptoSmall }

/-- 'quiverlaw03.MarkTells', WHERE WHAT IT READS IS OF BULK AT MOST 1048576: true; the input reads as it did. -/
def markTellsUptoRow : OpenClaim := { program := "ytnlhfnebbkpfgaa", sum := "9b129df202773e090776bbb376855440a2cb08ad6a4571076a5a2be1c154cd41", func := "quiver/quiverlaw03.MarkTells", spec := "markTells", unfollowed := true, recurses := true, apart := false, narrowed := true }
def MarkTellsUptoSaid : Prop := markTellsUptoRow.holds Try.pinned (OpenSpec.upto markTellsSpec)

/-- 'quiverlaw03.MarkOpens', WHERE WHAT IT READS IS OF BULK AT MOST 1048576: true; the input reads as it did. -/
def markOpensUptoRow : OpenClaim := { program := "ytnlhfnebbkpfgaa", sum := "9b129df202773e090776bbb376855440a2cb08ad6a4571076a5a2be1c154cd41", func := "quiver/quiverlaw03.MarkOpens", spec := "markOpens", unfollowed := true, recurses := true, apart := false, narrowed := true }
def MarkOpensUptoSaid : Prop := markOpensUptoRow.holds Try.pinned (OpenSpec.upto markOpensSpec)

/-- 'quiverlaw03.MarkPlaces', WHERE WHAT IT READS IS OF BULK AT MOST 1048576: true; the input reads as it did. -/
def markPlacesUptoRow : OpenClaim := { program := "ytnlhfnebbkpfgaa", sum := "9b129df202773e090776bbb376855440a2cb08ad6a4571076a5a2be1c154cd41", func := "quiver/quiverlaw03.MarkPlaces", spec := "markPlaces", unfollowed := true, recurses := true, apart := false, narrowed := true }
def MarkPlacesUptoSaid : Prop := markPlacesUptoRow.holds Try.pinned (OpenSpec.upto markPlacesSpec)

/-- 'quiverlaw03.MarkGoes', WHERE WHAT IT READS IS OF BULK AT MOST 1048576: true; the input reads as it did. -/
def markGoesUptoRow : OpenClaim := { program := "ytnlhfnebbkpfgaa", sum := "9b129df202773e090776bbb376855440a2cb08ad6a4571076a5a2be1c154cd41", func := "quiver/quiverlaw03.MarkGoes", spec := "markGoes", unfollowed := true, recurses := true, apart := false, narrowed := true }
def MarkGoesUptoSaid : Prop := markGoesUptoRow.holds Try.pinned (OpenSpec.upto markGoesSpec)

/-- 'quiverlaw03.MarkOne', WHERE WHAT IT READS IS OF BULK AT MOST 1048576: true; the input reads as it did. -/
def markOneUptoRow : OpenClaim := { program := "ytnlhfnebbkpfgaa", sum := "9b129df202773e090776bbb376855440a2cb08ad6a4571076a5a2be1c154cd41", func := "quiver/quiverlaw03.MarkOne", spec := "markOne", unfollowed := true, recurses := true, apart := false, narrowed := true }
def MarkOneUptoSaid : Prop := markOneUptoRow.holds Try.pinned (OpenSpec.upto markOneSpec)

/-- 'quiverlaw03.MarkSealed', WHERE WHAT IT READS IS OF BULK AT MOST 1048576: true; the input reads as it did. -/
def markSealedUptoRow : OpenClaim := { program := "ytnlhfnebbkpfgaa", sum := "9b129df202773e090776bbb376855440a2cb08ad6a4571076a5a2be1c154cd41", func := "quiver/quiverlaw03.MarkSealed", spec := "markSealed", unfollowed := true, recurses := true, apart := false, narrowed := true }
def MarkSealedUptoSaid : Prop := markSealedUptoRow.holds Try.pinned (OpenSpec.upto markSealedSpec)

/-- 'quiverlaw03.MarkFirst', WHERE WHAT IT READS IS OF BULK AT MOST 1048576: true; the input reads as it did. -/
def markFirstUptoRow : OpenClaim := { program := "ytnlhfnebbkpfgaa", sum := "9b129df202773e090776bbb376855440a2cb08ad6a4571076a5a2be1c154cd41", func := "quiver/quiverlaw03.MarkFirst", spec := "markFirst", unfollowed := true, recurses := true, apart := false, narrowed := true }
def MarkFirstUptoSaid : Prop := markFirstUptoRow.holds Try.pinned (OpenSpec.upto markFirstSpec)

end Rows
end Go.Proofs.Ytnlhfnebbkpfgaa
