/-
  No cell of these rows narrows 'for every input' (looked for: loops, veiled, ifaces, maps, wideKeys, modest, calm, conditions, laid).
  DERIVED. THE GIVEN ROWS OF THIS SEAT. 5 by the template 'for every input the law returns true; each argument reads behind the call as it read before'; 0 by the template 'total and deterministic' (their statements: YtkfgiedpnmpfgaaTotals.lean).
  GIVEN WITH THE SEED: the statements are not yours to turn. If you find one false, say at which input.
  Laid BY PROGRAM, IN A SANDBOX (cutbox-rows.mjs): the forced cells as the released guide's own fill.sh prints them over the translation d90fea859511fdc8… (all of the seat's roots in one cut). By AI agents, Wed Nov 11 2026. No macro, syntax, notation, axiom, sorry.
-/
import Derived.Test.YtkfgiedpnmpfgaaChecked
import GoSem.Claim
import GoSem.ClaimJoined
import GoSem.ClaimMapViews
import Derived.JoinedTies
import Derived.KernelRfl
namespace Go.Proofs.Ytkfgiedpnmpfgaa
/- THE CELL 'sum', in the pinned program and in every row, IS THE sha256 OF THE DUMP (.gsa) THAT YtkfgiedpnmpfgaaProg.lean LOADS. Nothing in Lean hashes anything: it is a label: what it is worth is what the hold of that sum in a sandbox is worth. -/
noncomputable def Try.pinned : Pinned := { name := "ytkfgiedpnmpfgaa", sum := "d90fea859511fdc8cd87de714b72c8a56797940306fcfab91039fd5595d75118", checked := Try.checked }
namespace Rows
def none {H : Type} : Left H := { results := [], args := [] }

/-- 'quiverlaw10.MaskMakes': WHATEVER THE INPUT: true; the input reads as it did. -/
def maskMakesSpec : ChangeSpec := { name := "maskMakes", fn := fun _ => fun
  | [d1, d2] => { results := [.lit (.bool true)], args := [d1, d2] }
  | _ => none }
def maskMakesRow : OpenClaim := { program := "ytkfgiedpnmpfgaa", sum := "d90fea859511fdc8cd87de714b72c8a56797940306fcfab91039fd5595d75118", func := "quiver/quiverlaw10.MaskMakes", spec := "maskMakes", unfollowed := true, recurses := true, apart := false }
def MaskMakesSaid : Prop := maskMakesRow.holds Try.pinned (OpenSpec.ofChange maskMakesSpec)

/-- ITS FALSE NEIGHBOUR: 'it returns false'. Refute it at one input. -/
def maskMakesWrong : ChangeSpec := { name := "maskMakes", fn := fun _ => fun
  | [d1, d2] => { results := [.lit (.bool false)], args := [d1, d2] }
  | _ => none }
def MaskMakesWrongFalsely : Prop := maskMakesRow.holds Try.pinned (OpenSpec.ofChange maskMakesWrong)

/-- 'quiverlaw10.MaskRanges': WHATEVER THE INPUT: true; the input reads as it did. -/
def maskRangesSpec : ChangeSpec := { name := "maskRanges", fn := fun _ => fun
  | [d] => { results := [.lit (.bool true)], args := [d] }
  | _ => none }
def maskRangesRow : OpenClaim := { program := "ytkfgiedpnmpfgaa", sum := "d90fea859511fdc8cd87de714b72c8a56797940306fcfab91039fd5595d75118", func := "quiver/quiverlaw10.MaskRanges", spec := "maskRanges", unfollowed := true, recurses := true, apart := false }
def MaskRangesSaid : Prop := maskRangesRow.holds Try.pinned (OpenSpec.ofChange maskRangesSpec)

/-- ITS FALSE NEIGHBOUR: 'it returns false'. Refute it at one input. -/
def maskRangesWrong : ChangeSpec := { name := "maskRanges", fn := fun _ => fun
  | [d] => { results := [.lit (.bool false)], args := [d] }
  | _ => none }
def MaskRangesWrongFalsely : Prop := maskRangesRow.holds Try.pinned (OpenSpec.ofChange maskRangesWrong)

/-- 'quiverlaw10.MaskSets': WHATEVER THE INPUT: true; the input reads as it did. -/
def maskSetsSpec : ChangeSpec := { name := "maskSets", fn := fun _ => fun
  | [d] => { results := [.lit (.bool true)], args := [d] }
  | _ => none }
def maskSetsRow : OpenClaim := { program := "ytkfgiedpnmpfgaa", sum := "d90fea859511fdc8cd87de714b72c8a56797940306fcfab91039fd5595d75118", func := "quiver/quiverlaw10.MaskSets", spec := "maskSets", unfollowed := true, recurses := true, apart := false }
def MaskSetsSaid : Prop := maskSetsRow.holds Try.pinned (OpenSpec.ofChange maskSetsSpec)

/-- ITS FALSE NEIGHBOUR: 'it returns false'. Refute it at one input. -/
def maskSetsWrong : ChangeSpec := { name := "maskSets", fn := fun _ => fun
  | [d] => { results := [.lit (.bool false)], args := [d] }
  | _ => none }
def MaskSetsWrongFalsely : Prop := maskSetsRow.holds Try.pinned (OpenSpec.ofChange maskSetsWrong)

/-- 'quiverlaw10.MaskAlgebra': WHATEVER THE INPUT: true; the input reads as it did. -/
def maskAlgebraSpec : ChangeSpec := { name := "maskAlgebra", fn := fun _ => fun
  | [d1, d2, d3] => { results := [.lit (.bool true)], args := [d1, d2, d3] }
  | _ => none }
def maskAlgebraRow : OpenClaim := { program := "ytkfgiedpnmpfgaa", sum := "d90fea859511fdc8cd87de714b72c8a56797940306fcfab91039fd5595d75118", func := "quiver/quiverlaw10.MaskAlgebra", spec := "maskAlgebra", unfollowed := true, recurses := true, apart := false }
def MaskAlgebraSaid : Prop := maskAlgebraRow.holds Try.pinned (OpenSpec.ofChange maskAlgebraSpec)

/-- ITS FALSE NEIGHBOUR: 'it returns false'. Refute it at one input. -/
def maskAlgebraWrong : ChangeSpec := { name := "maskAlgebra", fn := fun _ => fun
  | [d1, d2, d3] => { results := [.lit (.bool false)], args := [d1, d2, d3] }
  | _ => none }
def MaskAlgebraWrongFalsely : Prop := maskAlgebraRow.holds Try.pinned (OpenSpec.ofChange maskAlgebraWrong)

/-- 'quiverlaw10.MaskSplit': WHATEVER THE INPUT: true; the input reads as it did. -/
def maskSplitSpec : ChangeSpec := { name := "maskSplit", fn := fun _ => fun
  | [d1, d2] => { results := [.lit (.bool true)], args := [d1, d2] }
  | _ => none }
def maskSplitRow : OpenClaim := { program := "ytkfgiedpnmpfgaa", sum := "d90fea859511fdc8cd87de714b72c8a56797940306fcfab91039fd5595d75118", func := "quiver/quiverlaw10.MaskSplit", spec := "maskSplit", unfollowed := true, recurses := true, apart := false }
def MaskSplitSaid : Prop := maskSplitRow.holds Try.pinned (OpenSpec.ofChange maskSplitSpec)

/-- ITS FALSE NEIGHBOUR: 'it returns false'. Refute it at one input. -/
def maskSplitWrong : ChangeSpec := { name := "maskSplit", fn := fun _ => fun
  | [d1, d2] => { results := [.lit (.bool false)], args := [d1, d2] }
  | _ => none }
def MaskSplitWrongFalsely : Prop := maskSplitRow.holds Try.pinned (OpenSpec.ofChange maskSplitWrong)

/- THE SECOND FORM. 'bulk': how many values and letters a reading holds, each counted each time it is reached (what is shared counts as often as it is met; a slice's spare places count too). A statement '..UptoSaid' is the law's where the arguments, and the package variables that the reading takes, are together of bulk at most 1048576: NARROWER than '..Said'. Prove '..Said' where nothing that the law and all that it calls make is longer than what came in: it says more and counts as full. Else prove '..UptoSaid'. A law counts once. -/
mutual
def uptoBulk {H : Type} : DataW H → Nat
  | .lit (.string bytes) => bytes.length + 1
  | .lit _ => 1
  | .nil => 1
  | .ptr d => uptoBulk d + 1
  | .slice elems spare => uptoBulkAll elems + uptoBulkAll spare + 1
  | .agg parts => uptoBulkAll parts + 1
  | .iface _ d => uptoBulk d + 1
  | .map entries => uptoBulkEntries entries + 1
  | .held _ => 1
def uptoBulkAll {H : Type} : List (DataW H) → Nat
  | [] => 0
  | d :: r => uptoBulk d + uptoBulkAll r
def uptoBulkEntries {H : Type} : List (Lit × DataW H) → Nat
  | [] => 0
  | x :: r => uptoBulkEntry x + uptoBulkEntries r
def uptoBulkEntry {H : Type} : Lit × DataW H → Nat
  | (.string bytes, d) => bytes.length + uptoBulk d + 1
  | (_, d) => uptoBulk d + 1
 end
def uptoSmall : (H : Type) → List (DataW H) → Bool := fun _ ds => decide (uptoBulkAll ds ≤ 1048576)
def OpenSpec.upto (s : _root_.Go.ChangeSpec) : _root_.Go.OpenSpec := { _root_.Go.OpenSpec.ofChange s with cond := some uptoSmall }

/-- 'quiverlaw10.MaskMakes', WHERE WHAT IT READS IS OF BULK AT MOST 1048576: true; the input reads as it did. -/
def maskMakesUptoRow : OpenClaim := { program := "ytkfgiedpnmpfgaa", sum := "d90fea859511fdc8cd87de714b72c8a56797940306fcfab91039fd5595d75118", func := "quiver/quiverlaw10.MaskMakes", spec := "maskMakes", unfollowed := true, recurses := true, apart := false, narrowed := true }
def MaskMakesUptoSaid : Prop := maskMakesUptoRow.holds Try.pinned (OpenSpec.upto maskMakesSpec)

/-- 'quiverlaw10.MaskRanges', WHERE WHAT IT READS IS OF BULK AT MOST 1048576: true; the input reads as it did. -/
def maskRangesUptoRow : OpenClaim := { program := "ytkfgiedpnmpfgaa", sum := "d90fea859511fdc8cd87de714b72c8a56797940306fcfab91039fd5595d75118", func := "quiver/quiverlaw10.MaskRanges", spec := "maskRanges", unfollowed := true, recurses := true, apart := false, narrowed := true }
def MaskRangesUptoSaid : Prop := maskRangesUptoRow.holds Try.pinned (OpenSpec.upto maskRangesSpec)

/-- 'quiverlaw10.MaskSets', WHERE WHAT IT READS IS OF BULK AT MOST 1048576: true; the input reads as it did. -/
def maskSetsUptoRow : OpenClaim := { program := "ytkfgiedpnmpfgaa", sum := "d90fea859511fdc8cd87de714b72c8a56797940306fcfab91039fd5595d75118", func := "quiver/quiverlaw10.MaskSets", spec := "maskSets", unfollowed := true, recurses := true, apart := false, narrowed := true }
def MaskSetsUptoSaid : Prop := maskSetsUptoRow.holds Try.pinned (OpenSpec.upto maskSetsSpec)

/-- 'quiverlaw10.MaskAlgebra', WHERE WHAT IT READS IS OF BULK AT MOST 1048576: true; the input reads as it did. -/
def maskAlgebraUptoRow : OpenClaim := { program := "ytkfgiedpnmpfgaa", sum := "d90fea859511fdc8cd87de714b72c8a56797940306fcfab91039fd5595d75118", func := "quiver/quiverlaw10.MaskAlgebra", spec := "maskAlgebra", unfollowed := true, recurses := true, apart := false, narrowed := true }
def MaskAlgebraUptoSaid : Prop := maskAlgebraUptoRow.holds Try.pinned (OpenSpec.upto maskAlgebraSpec)

/-- 'quiverlaw10.MaskSplit', WHERE WHAT IT READS IS OF BULK AT MOST 1048576: true; the input reads as it did. -/
def maskSplitUptoRow : OpenClaim := { program := "ytkfgiedpnmpfgaa", sum := "d90fea859511fdc8cd87de714b72c8a56797940306fcfab91039fd5595d75118", func := "quiver/quiverlaw10.MaskSplit", spec := "maskSplit", unfollowed := true, recurses := true, apart := false, narrowed := true }
def MaskSplitUptoSaid : Prop := maskSplitUptoRow.holds Try.pinned (OpenSpec.upto maskSplitSpec)

end Rows
end Go.Proofs.Ytkfgiedpnmpfgaa
