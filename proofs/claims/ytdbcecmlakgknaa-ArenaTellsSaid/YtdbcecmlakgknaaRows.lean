/-
  No cell of these rows narrows 'for every input' (looked for: loops, veiled, ifaces, maps, wideKeys, modest, calm, conditions, laid).
  DERIVED. THE GIVEN ROWS OF THIS SEAT. 7 by the template 'for every input the law returns true; each argument reads behind the call as it read before'; 0 by the template 'total and deterministic' (their statements: YtdbcecmlakgknaaTotals.lean).
  GIVEN WITH THE SEED: the statements are not yours to turn. If you find one false, say at which input.
  Laid BY PROGRAM, IN A SANDBOX (cutbox-rows.mjs): the forced cells as the released guide's own fill.sh prints them over the translation 41e7a2019f7cd180… (all of the seat's roots in one cut). By AI agents, Wed Nov 11 2026. No macro, syntax, notation, axiom, sorry.
-/
import Derived.Test.YtdbcecmlakgknaaChecked
import GoSem.Claim
import GoSem.ClaimJoined
import GoSem.ClaimMapViews
import Derived.JoinedTies
import Derived.KernelRfl
namespace Go.Proofs.Ytdbcecmlakgknaa
/- THE CELL 'sum', in the pinned program and in every row, IS THE sha256 OF THE DUMP (.gsa) THAT YtdbcecmlakgknaaProg.lean LOADS. Nothing in Lean hashes anything: it is a label: what it is worth is what the hold of that sum in a sandbox is worth. -/
noncomputable def Try.pinned : Pinned := { name := "ytdbcecmlakgknaa", sum := "41e7a2019f7cd180522df470e67cbc3144ece383fd6493303ab7c04995b4c658", checked := Try.checked }
namespace Rows
def none {H : Type} : Left H := { results := [], args := [] }

/-- 'quiverlaw09.ArenaTells': WHATEVER THE INPUT: true; the input reads as it did. -/
def arenaTellsSpec : ChangeSpec := { name := "arenaTells", fn := fun _ => fun
  | [d1, d2, d3] => { results := [.lit (.bool true)], args := [d1, d2, d3] }
  | _ => none }
def arenaTellsRow : OpenClaim := { program := "ytdbcecmlakgknaa", sum := "41e7a2019f7cd180522df470e67cbc3144ece383fd6493303ab7c04995b4c658", func := "quiver/quiverlaw09.ArenaTells", spec := "arenaTells", unfollowed := true, recurses := true, plainKeys := false, apart := false }
def ArenaTellsSaid : Prop := arenaTellsRow.holds Try.pinned (OpenSpec.ofChange arenaTellsSpec)

/-- ITS FALSE NEIGHBOUR: 'it returns false'. Refute it at one input. -/
def arenaTellsWrong : ChangeSpec := { name := "arenaTells", fn := fun _ => fun
  | [d1, d2, d3] => { results := [.lit (.bool false)], args := [d1, d2, d3] }
  | _ => none }
def ArenaTellsWrongFalsely : Prop := arenaTellsRow.holds Try.pinned (OpenSpec.ofChange arenaTellsWrong)

/-- 'quiverlaw11.FlatScans': WHATEVER THE INPUT: true; the input reads as it did. -/
def flatScansSpec : ChangeSpec := { name := "flatScans", fn := fun _ => fun
  | [d1, d2, d3] => { results := [.lit (.bool true)], args := [d1, d2, d3] }
  | _ => none }
def flatScansRow : OpenClaim := { program := "ytdbcecmlakgknaa", sum := "41e7a2019f7cd180522df470e67cbc3144ece383fd6493303ab7c04995b4c658", func := "quiver/quiverlaw11.FlatScans", spec := "flatScans", unfollowed := true, recurses := true, plainKeys := false, apart := false }
def FlatScansSaid : Prop := flatScansRow.holds Try.pinned (OpenSpec.ofChange flatScansSpec)

/-- ITS FALSE NEIGHBOUR: 'it returns false'. Refute it at one input. -/
def flatScansWrong : ChangeSpec := { name := "flatScans", fn := fun _ => fun
  | [d1, d2, d3] => { results := [.lit (.bool false)], args := [d1, d2, d3] }
  | _ => none }
def FlatScansWrongFalsely : Prop := flatScansRow.holds Try.pinned (OpenSpec.ofChange flatScansWrong)

/-- 'quiverlaw11.FlatRows': WHATEVER THE INPUT: true; the input reads as it did. -/
def flatRowsSpec : ChangeSpec := { name := "flatRows", fn := fun _ => fun
  | [d1, d2] => { results := [.lit (.bool true)], args := [d1, d2] }
  | _ => none }
def flatRowsRow : OpenClaim := { program := "ytdbcecmlakgknaa", sum := "41e7a2019f7cd180522df470e67cbc3144ece383fd6493303ab7c04995b4c658", func := "quiver/quiverlaw11.FlatRows", spec := "flatRows", unfollowed := true, recurses := true, plainKeys := false, apart := false }
def FlatRowsSaid : Prop := flatRowsRow.holds Try.pinned (OpenSpec.ofChange flatRowsSpec)

/-- ITS FALSE NEIGHBOUR: 'it returns false'. Refute it at one input. -/
def flatRowsWrong : ChangeSpec := { name := "flatRows", fn := fun _ => fun
  | [d1, d2] => { results := [.lit (.bool false)], args := [d1, d2] }
  | _ => none }
def FlatRowsWrongFalsely : Prop := flatRowsRow.holds Try.pinned (OpenSpec.ofChange flatRowsWrong)

/-- 'quiverlaw11.FlatSees': WHATEVER THE INPUT: true; the input reads as it did. -/
def flatSeesSpec : ChangeSpec := { name := "flatSees", fn := fun _ => fun
  | [d1, d2] => { results := [.lit (.bool true)], args := [d1, d2] }
  | _ => none }
def flatSeesRow : OpenClaim := { program := "ytdbcecmlakgknaa", sum := "41e7a2019f7cd180522df470e67cbc3144ece383fd6493303ab7c04995b4c658", func := "quiver/quiverlaw11.FlatSees", spec := "flatSees", unfollowed := true, recurses := true, plainKeys := false, apart := false }
def FlatSeesSaid : Prop := flatSeesRow.holds Try.pinned (OpenSpec.ofChange flatSeesSpec)

/-- ITS FALSE NEIGHBOUR: 'it returns false'. Refute it at one input. -/
def flatSeesWrong : ChangeSpec := { name := "flatSees", fn := fun _ => fun
  | [d1, d2] => { results := [.lit (.bool false)], args := [d1, d2] }
  | _ => none }
def FlatSeesWrongFalsely : Prop := flatSeesRow.holds Try.pinned (OpenSpec.ofChange flatSeesWrong)

/-- 'quiverlaw11.FlatRowsAlike': WHATEVER THE INPUT: true; the input reads as it did. -/
def flatRowsAlikeSpec : ChangeSpec := { name := "flatRowsAlike", fn := fun _ => fun
  | [d1, d2, d3] => { results := [.lit (.bool true)], args := [d1, d2, d3] }
  | _ => none }
def flatRowsAlikeRow : OpenClaim := { program := "ytdbcecmlakgknaa", sum := "41e7a2019f7cd180522df470e67cbc3144ece383fd6493303ab7c04995b4c658", func := "quiver/quiverlaw11.FlatRowsAlike", spec := "flatRowsAlike", unfollowed := true, recurses := true, plainKeys := false, apart := false }
def FlatRowsAlikeSaid : Prop := flatRowsAlikeRow.holds Try.pinned (OpenSpec.ofChange flatRowsAlikeSpec)

/-- ITS FALSE NEIGHBOUR: 'it returns false'. Refute it at one input. -/
def flatRowsAlikeWrong : ChangeSpec := { name := "flatRowsAlike", fn := fun _ => fun
  | [d1, d2, d3] => { results := [.lit (.bool false)], args := [d1, d2, d3] }
  | _ => none }
def FlatRowsAlikeWrongFalsely : Prop := flatRowsAlikeRow.holds Try.pinned (OpenSpec.ofChange flatRowsAlikeWrong)

/-- 'quiverlaw11.FlatParts': WHATEVER THE INPUT: true; the input reads as it did. -/
def flatPartsSpec : ChangeSpec := { name := "flatParts", fn := fun _ => fun
  | [d1, d2, d3] => { results := [.lit (.bool true)], args := [d1, d2, d3] }
  | _ => none }
def flatPartsRow : OpenClaim := { program := "ytdbcecmlakgknaa", sum := "41e7a2019f7cd180522df470e67cbc3144ece383fd6493303ab7c04995b4c658", func := "quiver/quiverlaw11.FlatParts", spec := "flatParts", unfollowed := true, recurses := true, plainKeys := false, apart := false }
def FlatPartsSaid : Prop := flatPartsRow.holds Try.pinned (OpenSpec.ofChange flatPartsSpec)

/-- ITS FALSE NEIGHBOUR: 'it returns false'. Refute it at one input. -/
def flatPartsWrong : ChangeSpec := { name := "flatParts", fn := fun _ => fun
  | [d1, d2, d3] => { results := [.lit (.bool false)], args := [d1, d2, d3] }
  | _ => none }
def FlatPartsWrongFalsely : Prop := flatPartsRow.holds Try.pinned (OpenSpec.ofChange flatPartsWrong)

/-- 'quiverlaw11.FlatNear': WHATEVER THE INPUT: true; the input reads as it did. -/
def flatNearSpec : ChangeSpec := { name := "flatNear", fn := fun _ => fun
  | [d1, d2] => { results := [.lit (.bool true)], args := [d1, d2] }
  | _ => none }
def flatNearRow : OpenClaim := { program := "ytdbcecmlakgknaa", sum := "41e7a2019f7cd180522df470e67cbc3144ece383fd6493303ab7c04995b4c658", func := "quiver/quiverlaw11.FlatNear", spec := "flatNear", unfollowed := true, recurses := true, plainKeys := false, apart := false }
def FlatNearSaid : Prop := flatNearRow.holds Try.pinned (OpenSpec.ofChange flatNearSpec)

/-- ITS FALSE NEIGHBOUR: 'it returns false'. Refute it at one input. -/
def flatNearWrong : ChangeSpec := { name := "flatNear", fn := fun _ => fun
  | [d1, d2] => { results := [.lit (.bool false)], args := [d1, d2] }
  | _ => none }
def FlatNearWrongFalsely : Prop := flatNearRow.holds Try.pinned (OpenSpec.ofChange flatNearWrong)

/- THE SECOND FORM. 'bulk': how many values and letters a reading holds, each counted each time it is reached (what is shared counts as often as it is met; a slice's spare places count too). A statement '..UptoSaid' is the law's where the arguments, and the package variables that the reading takes, are together of bulk at most 1048576: NARROWER than '..Said'. Prove '..Said' where nothing that the law and all that it calls make is longer than what came in: it says more and counts as full. Else prove '..UptoSaid'. A law counts once. -/
mutual
def uptoBulk {H : Type} : DataW H → Nat
  | .lit (.string bytes) => bytes.length + 1
  | .lit _ => 1
  | .nil => 1
  | .ptr d => uptoBulk d + 1
  | .slice elems spare => uptoBulkAll elems + uptoBulkAll spare + 1
  | .agg parts => uptoBulkAll parts + 1
  | .iface _ d => uptoBulk d + 1
  | .map entries => uptoBulkEntries entries + 1
  | .held _ => 1
def uptoBulkAll {H : Type} : List (DataW H) → Nat
  | [] => 0
  | d :: r => uptoBulk d + uptoBulkAll r
def uptoBulkEntries {H : Type} : List (Lit × DataW H) → Nat
  | [] => 0
  | x :: r => uptoBulkEntry x + uptoBulkEntries r
def uptoBulkEntry {H : Type} : Lit × DataW H → Nat
  | (.string bytes, d) => bytes.length + uptoBulk d + 1
  | (_, d) => uptoBulk d + 1
 end
def uptoSmall : (H : Type) → List (DataW H) → Bool := fun _ ds => decide (uptoBulkAll ds ≤ 1048576)
def OpenSpec.upto (s : _root_.Go.ChangeSpec) : _root_.Go.OpenSpec := { _root_.Go.OpenSpec.ofChange s with cond := some uptoSmall }

/-- 'quiverlaw09.ArenaTells', WHERE WHAT IT READS IS OF BULK AT MOST 1048576: true; the input reads as it did. -/
def arenaTellsUptoRow : OpenClaim := { program := "ytdbcecmlakgknaa", sum := "41e7a2019f7cd180522df470e67cbc3144ece383fd6493303ab7c04995b4c658", func := "quiver/quiverlaw09.ArenaTells", spec := "arenaTells", unfollowed := true, recurses := true, plainKeys := false, apart := false, narrowed := true }
def ArenaTellsUptoSaid : Prop := arenaTellsUptoRow.holds Try.pinned (OpenSpec.upto arenaTellsSpec)

/-- 'quiverlaw11.FlatScans', WHERE WHAT IT READS IS OF BULK AT MOST 1048576: true; the input reads as it did. -/
def flatScansUptoRow : OpenClaim := { program := "ytdbcecmlakgknaa", sum := "41e7a2019f7cd180522df470e67cbc3144ece383fd6493303ab7c04995b4c658", func := "quiver/quiverlaw11.FlatScans", spec := "flatScans", unfollowed := true, recurses := true, plainKeys := false, apart := false, narrowed := true }
def FlatScansUptoSaid : Prop := flatScansUptoRow.holds Try.pinned (OpenSpec.upto flatScansSpec)

/-- 'quiverlaw11.FlatRows', WHERE WHAT IT READS IS OF BULK AT MOST 1048576: true; the input reads as it did. -/
def flatRowsUptoRow : OpenClaim := { program := "ytdbcecmlakgknaa", sum := "41e7a2019f7cd180522df470e67cbc3144ece383fd6493303ab7c04995b4c658", func := "quiver/quiverlaw11.FlatRows", spec := "flatRows", unfollowed := true, recurses := true, plainKeys := false, apart := false, narrowed := true }
def FlatRowsUptoSaid : Prop := flatRowsUptoRow.holds Try.pinned (OpenSpec.upto flatRowsSpec)

/-- 'quiverlaw11.FlatSees', WHERE WHAT IT READS IS OF BULK AT MOST 1048576: true; the input reads as it did. -/
def flatSeesUptoRow : OpenClaim := { program := "ytdbcecmlakgknaa", sum := "41e7a2019f7cd180522df470e67cbc3144ece383fd6493303ab7c04995b4c658", func := "quiver/quiverlaw11.FlatSees", spec := "flatSees", unfollowed := true, recurses := true, plainKeys := false, apart := false, narrowed := true }
def FlatSeesUptoSaid : Prop := flatSeesUptoRow.holds Try.pinned (OpenSpec.upto flatSeesSpec)

/-- 'quiverlaw11.FlatRowsAlike', WHERE WHAT IT READS IS OF BULK AT MOST 1048576: true; the input reads as it did. -/
def flatRowsAlikeUptoRow : OpenClaim := { program := "ytdbcecmlakgknaa", sum := "41e7a2019f7cd180522df470e67cbc3144ece383fd6493303ab7c04995b4c658", func := "quiver/quiverlaw11.FlatRowsAlike", spec := "flatRowsAlike", unfollowed := true, recurses := true, plainKeys := false, apart := false, narrowed := true }
def FlatRowsAlikeUptoSaid : Prop := flatRowsAlikeUptoRow.holds Try.pinned (OpenSpec.upto flatRowsAlikeSpec)

/-- 'quiverlaw11.FlatParts', WHERE WHAT IT READS IS OF BULK AT MOST 1048576: true; the input reads as it did. -/
def flatPartsUptoRow : OpenClaim := { program := "ytdbcecmlakgknaa", sum := "41e7a2019f7cd180522df470e67cbc3144ece383fd6493303ab7c04995b4c658", func := "quiver/quiverlaw11.FlatParts", spec := "flatParts", unfollowed := true, recurses := true, plainKeys := false, apart := false, narrowed := true }
def FlatPartsUptoSaid : Prop := flatPartsUptoRow.holds Try.pinned (OpenSpec.upto flatPartsSpec)

/-- 'quiverlaw11.FlatNear', WHERE WHAT IT READS IS OF BULK AT MOST 1048576: true; the input reads as it did. -/
def flatNearUptoRow : OpenClaim := { program := "ytdbcecmlakgknaa", sum := "41e7a2019f7cd180522df470e67cbc3144ece383fd6493303ab7c04995b4c658", func := "quiver/quiverlaw11.FlatNear", spec := "flatNear", unfollowed := true, recurses := true, plainKeys := false, apart := false, narrowed := true }
def FlatNearUptoSaid : Prop := flatNearUptoRow.holds Try.pinned (OpenSpec.upto flatNearSpec)

end Rows
end Go.Proofs.Ytdbcecmlakgknaa
