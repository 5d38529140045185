/-
  No cell of these rows narrows 'for every input' (looked for: loops, veiled, ifaces, maps, wideKeys, modest, calm, conditions, laid).
  DERIVED. THE GIVEN ROWS OF THIS SEAT. 6 by the template 'for every input the law returns true; each argument reads behind the call as it read before'; 0 by the template 'total and deterministic' (their statements: YtdfpiipnpaknaaaTotals.lean).
  GIVEN WITH THE SEED: the statements are not yours to turn. If you find one false, say at which input.
  Laid BY PROGRAM, IN A SANDBOX (cutbox-rows.mjs): the forced cells as the released guide's own fill.sh prints them over the translation 35b07e1dc882a366… (all of the seat's roots in one cut). By AI agents, Wed Nov 11 2026. No macro, syntax, notation, axiom, sorry.
-/
import Derived.Test.YtdfpiipnpaknaaaChecked
import GoSem.Claim
import GoSem.ClaimJoined
import GoSem.ClaimMapViews
import Derived.JoinedTies
import Derived.KernelRfl
namespace Go.Proofs.Ytdfpiipnpaknaaa
/- THE CELL 'sum', in the pinned program and in every row, IS THE sha256 OF THE DUMP (.gsa) THAT YtdfpiipnpaknaaaProg.lean LOADS. Nothing in Lean hashes anything: it is a label: what it is worth is what the hold of that sum in a sandbox is worth. -/
noncomputable def Try.pinned : Pinned := { name := "ytdfpiipnpaknaaa", sum := "35b07e1dc882a366113a9122450563e8822c6efbb8f5707811f18e4de6e75653", checked := Try.checked }
namespace Rows
def none {H : Type} : Left H := { results := [], args := [] }

/-- 'quiverlaw05.VecDists': WHATEVER THE INPUT: true; the input reads as it did. -/
def vecDistsSpec : ChangeSpec := { name := "vecDists", fn := fun _ => fun
  | [d1, d2, d3] => { results := [.lit (.bool true)], args := [d1, d2, d3] }
  | _ => none }
def vecDistsRow : OpenClaim := { program := "ytdfpiipnpaknaaa", sum := "35b07e1dc882a366113a9122450563e8822c6efbb8f5707811f18e4de6e75653", func := "quiver/quiverlaw05.VecDists", spec := "vecDists", unfollowed := true, recurses := true, apart := false }
def VecDistsSaid : Prop := vecDistsRow.holds Try.pinned (OpenSpec.ofChange vecDistsSpec)

/-- ITS FALSE NEIGHBOUR: 'it returns false'. Refute it at one input. -/
def vecDistsWrong : ChangeSpec := { name := "vecDists", fn := fun _ => fun
  | [d1, d2, d3] => { results := [.lit (.bool false)], args := [d1, d2, d3] }
  | _ => none }
def VecDistsWrongFalsely : Prop := vecDistsRow.holds Try.pinned (OpenSpec.ofChange vecDistsWrong)

/-- 'quiverlaw05.VecNears': WHATEVER THE INPUT: true; the input reads as it did. -/
def vecNearsSpec : ChangeSpec := { name := "vecNears", fn := fun _ => fun
  | [d1, d2] => { results := [.lit (.bool true)], args := [d1, d2] }
  | _ => none }
def vecNearsRow : OpenClaim := { program := "ytdfpiipnpaknaaa", sum := "35b07e1dc882a366113a9122450563e8822c6efbb8f5707811f18e4de6e75653", func := "quiver/quiverlaw05.VecNears", spec := "vecNears", unfollowed := true, recurses := true, apart := false }
def VecNearsSaid : Prop := vecNearsRow.holds Try.pinned (OpenSpec.ofChange vecNearsSpec)

/-- ITS FALSE NEIGHBOUR: 'it returns false'. Refute it at one input. -/
def vecNearsWrong : ChangeSpec := { name := "vecNears", fn := fun _ => fun
  | [d1, d2] => { results := [.lit (.bool false)], args := [d1, d2] }
  | _ => none }
def VecNearsWrongFalsely : Prop := vecNearsRow.holds Try.pinned (OpenSpec.ofChange vecNearsWrong)

/-- 'quiverlaw05.VecOrder': WHATEVER THE INPUT: true; the input reads as it did. -/
def vecOrderSpec : ChangeSpec := { name := "vecOrder", fn := fun _ => fun
  | [d] => { results := [.lit (.bool true)], args := [d] }
  | _ => none }
def vecOrderRow : OpenClaim := { program := "ytdfpiipnpaknaaa", sum := "35b07e1dc882a366113a9122450563e8822c6efbb8f5707811f18e4de6e75653", func := "quiver/quiverlaw05.VecOrder", spec := "vecOrder", unfollowed := true, recurses := true, apart := false }
def VecOrderSaid : Prop := vecOrderRow.holds Try.pinned (OpenSpec.ofChange vecOrderSpec)

/-- ITS FALSE NEIGHBOUR: 'it returns false'. Refute it at one input. -/
def vecOrderWrong : ChangeSpec := { name := "vecOrder", fn := fun _ => fun
  | [d] => { results := [.lit (.bool false)], args := [d] }
  | _ => none }
def VecOrderWrongFalsely : Prop := vecOrderRow.holds Try.pinned (OpenSpec.ofChange vecOrderWrong)

/-- 'quiverlaw05.VecMoves': WHATEVER THE INPUT: true; the input reads as it did. -/
def vecMovesSpec : ChangeSpec := { name := "vecMoves", fn := fun _ => fun
  | [d1, d2, d3] => { results := [.lit (.bool true)], args := [d1, d2, d3] }
  | _ => none }
def vecMovesRow : OpenClaim := { program := "ytdfpiipnpaknaaa", sum := "35b07e1dc882a366113a9122450563e8822c6efbb8f5707811f18e4de6e75653", func := "quiver/quiverlaw05.VecMoves", spec := "vecMoves", unfollowed := true, recurses := true, apart := false }
def VecMovesSaid : Prop := vecMovesRow.holds Try.pinned (OpenSpec.ofChange vecMovesSpec)

/-- ITS FALSE NEIGHBOUR: 'it returns false'. Refute it at one input. -/
def vecMovesWrong : ChangeSpec := { name := "vecMoves", fn := fun _ => fun
  | [d1, d2, d3] => { results := [.lit (.bool false)], args := [d1, d2, d3] }
  | _ => none }
def VecMovesWrongFalsely : Prop := vecMovesRow.holds Try.pinned (OpenSpec.ofChange vecMovesWrong)

/-- 'quiverlaw05.VecNearer': WHATEVER THE INPUT: true; the input reads as it did. -/
def vecNearerSpec : ChangeSpec := { name := "vecNearer", fn := fun _ => fun
  | [d1, d2] => { results := [.lit (.bool true)], args := [d1, d2] }
  | _ => none }
def vecNearerRow : OpenClaim := { program := "ytdfpiipnpaknaaa", sum := "35b07e1dc882a366113a9122450563e8822c6efbb8f5707811f18e4de6e75653", func := "quiver/quiverlaw05.VecNearer", spec := "vecNearer", unfollowed := true, recurses := true, apart := false }
def VecNearerSaid : Prop := vecNearerRow.holds Try.pinned (OpenSpec.ofChange vecNearerSpec)

/-- ITS FALSE NEIGHBOUR: 'it returns false'. Refute it at one input. -/
def vecNearerWrong : ChangeSpec := { name := "vecNearer", fn := fun _ => fun
  | [d1, d2] => { results := [.lit (.bool false)], args := [d1, d2] }
  | _ => none }
def VecNearerWrongFalsely : Prop := vecNearerRow.holds Try.pinned (OpenSpec.ofChange vecNearerWrong)

/-- 'quiverlaw05.VecMeans': WHATEVER THE INPUT: true; the input reads as it did. -/
def vecMeansSpec : ChangeSpec := { name := "vecMeans", fn := fun _ => fun
  | [d] => { results := [.lit (.bool true)], args := [d] }
  | _ => none }
def vecMeansRow : OpenClaim := { program := "ytdfpiipnpaknaaa", sum := "35b07e1dc882a366113a9122450563e8822c6efbb8f5707811f18e4de6e75653", func := "quiver/quiverlaw05.VecMeans", spec := "vecMeans", unfollowed := true, recurses := true, apart := false }
def VecMeansSaid : Prop := vecMeansRow.holds Try.pinned (OpenSpec.ofChange vecMeansSpec)

/-- ITS FALSE NEIGHBOUR: 'it returns false'. Refute it at one input. -/
def vecMeansWrong : ChangeSpec := { name := "vecMeans", fn := fun _ => fun
  | [d] => { results := [.lit (.bool false)], args := [d] }
  | _ => none }
def VecMeansWrongFalsely : Prop := vecMeansRow.holds Try.pinned (OpenSpec.ofChange vecMeansWrong)

/- THE SECOND FORM. 'bulk': how many values and letters a reading holds, each counted each time it is reached (what is shared counts as often as it is met; a slice's spare places count too). A statement '..UptoSaid' is the law's where the arguments, and the package variables that the reading takes, are together of bulk at most 1048576: NARROWER than '..Said'. Prove '..Said' where nothing that the law and all that it calls make is longer than what came in: it says more and counts as full. Else prove '..UptoSaid'. A law counts once. -/
mutual
def uptoBulk {H : Type} : DataW H → Nat
  | .lit (.string bytes) => bytes.length + 1
  | .lit _ => 1
  | .nil => 1
  | .ptr d => uptoBulk d + 1
  | .slice elems spare => uptoBulkAll elems + uptoBulkAll spare + 1
  | .agg parts => uptoBulkAll parts + 1
  | .iface _ d => uptoBulk d + 1
  | .map entries => uptoBulkEntries entries + 1
  | .held _ => 1
def uptoBulkAll {H : Type} : List (DataW H) → Nat
  | [] => 0
  | d :: r => uptoBulk d + uptoBulkAll r
def uptoBulkEntries {H : Type} : List (Lit × DataW H) → Nat
  | [] => 0
  | x :: r => uptoBulkEntry x + uptoBulkEntries r
def uptoBulkEntry {H : Type} : Lit × DataW H → Nat
  | (.string bytes, d) => bytes.length + uptoBulk d + 1
  | (_, d) => uptoBulk d + 1
 end
def uptoSmall : (H : Type) → List (DataW H) → Bool := fun _ ds => decide (uptoBulkAll ds ≤ 1048576)
def OpenSpec.upto (s : _root_.Go.ChangeSpec) : _root_.Go.OpenSpec := { _root_.Go.OpenSpec.ofChange s with cond := some uptoSmall }

/-- 'quiverlaw05.VecDists', WHERE WHAT IT READS IS OF BULK AT MOST 1048576: true; the input reads as it did. -/
def vecDistsUptoRow : OpenClaim := { program := "ytdfpiipnpaknaaa", sum := "35b07e1dc882a366113a9122450563e8822c6efbb8f5707811f18e4de6e75653", func := "quiver/quiverlaw05.VecDists", spec := "vecDists", unfollowed := true, recurses := true, apart := false, narrowed := true }
def VecDistsUptoSaid : Prop := vecDistsUptoRow.holds Try.pinned (OpenSpec.upto vecDistsSpec)

/-- 'quiverlaw05.VecNears', WHERE WHAT IT READS IS OF BULK AT MOST 1048576: true; the input reads as it did. -/
def vecNearsUptoRow : OpenClaim := { program := "ytdfpiipnpaknaaa", sum := "35b07e1dc882a366113a9122450563e8822c6efbb8f5707811f18e4de6e75653", func := "quiver/quiverlaw05.VecNears", spec := "vecNears", unfollowed := true, recurses := true, apart := false, narrowed := true }
def VecNearsUptoSaid : Prop := vecNearsUptoRow.holds Try.pinned (OpenSpec.upto vecNearsSpec)

/-- 'quiverlaw05.VecOrder', WHERE WHAT IT READS IS OF BULK AT MOST 1048576: true; the input reads as it did. -/
def vecOrderUptoRow : OpenClaim := { program := "ytdfpiipnpaknaaa", sum := "35b07e1dc882a366113a9122450563e8822c6efbb8f5707811f18e4de6e75653", func := "quiver/quiverlaw05.VecOrder", spec := "vecOrder", unfollowed := true, recurses := true, apart := false, narrowed := true }
def VecOrderUptoSaid : Prop := vecOrderUptoRow.holds Try.pinned (OpenSpec.upto vecOrderSpec)

/-- 'quiverlaw05.VecMoves', WHERE WHAT IT READS IS OF BULK AT MOST 1048576: true; the input reads as it did. -/
def vecMovesUptoRow : OpenClaim := { program := "ytdfpiipnpaknaaa", sum := "35b07e1dc882a366113a9122450563e8822c6efbb8f5707811f18e4de6e75653", func := "quiver/quiverlaw05.VecMoves", spec := "vecMoves", unfollowed := true, recurses := true, apart := false, narrowed := true }
def VecMovesUptoSaid : Prop := vecMovesUptoRow.holds Try.pinned (OpenSpec.upto vecMovesSpec)

/-- 'quiverlaw05.VecNearer', WHERE WHAT IT READS IS OF BULK AT MOST 1048576: true; the input reads as it did. -/
def vecNearerUptoRow : OpenClaim := { program := "ytdfpiipnpaknaaa", sum := "35b07e1dc882a366113a9122450563e8822c6efbb8f5707811f18e4de6e75653", func := "quiver/quiverlaw05.VecNearer", spec := "vecNearer", unfollowed := true, recurses := true, apart := false, narrowed := true }
def VecNearerUptoSaid : Prop := vecNearerUptoRow.holds Try.pinned (OpenSpec.upto vecNearerSpec)

/-- 'quiverlaw05.VecMeans', WHERE WHAT IT READS IS OF BULK AT MOST 1048576: true; the input reads as it did. -/
def vecMeansUptoRow : OpenClaim := { program := "ytdfpiipnpaknaaa", sum := "35b07e1dc882a366113a9122450563e8822c6efbb8f5707811f18e4de6e75653", func := "quiver/quiverlaw05.VecMeans", spec := "vecMeans", unfollowed := true, recurses := true, apart := false, narrowed := true }
def VecMeansUptoSaid : Prop := vecMeansUptoRow.holds Try.pinned (OpenSpec.upto vecMeansSpec)

end Rows
end Go.Proofs.Ytdfpiipnpaknaaa
