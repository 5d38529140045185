/-
  No cell of these rows narrows 'for every input' (looked for: loops, veiled, ifaces, maps, wideKeys, modest, calm, conditions, laid).
  DERIVED. THE GIVEN ROWS OF THIS SEAT. 6 by the template 'for every input the law returns true; each argument reads behind the call as it read before'; 0 by the template 'total and deterministic' (their statements: YtcekgllahlhaaaaGreatTotals.lean).
  GIVEN WITH THE SEED: the statements are not yours to turn. If you find one false, say at which input.
  Laid BY PROGRAM, IN A SANDBOX (cutbox-rows.mjs): the forced cells as the released guide's own fill.sh prints them over the translation 87fac09bb7d12aaf… (all of the seat's roots in one cut). By AI agents, Wed Nov 11 2026. No macro, syntax, notation, axiom, sorry.
-/
import Derived.Test.YtcekgllahlhaaaaGreatChecked
import GoSem.Claim
import GoSem.ClaimJoined
import GoSem.ClaimMapViews
import Derived.JoinedTies
import Derived.KernelRfl
namespace Go.Proofs.YtcekgllahlhaaaaGreat
/- THE CELL 'sum', in the pinned program and in every row, IS THE sha256 OF THE DUMP (.gsa) THAT YtcekgllahlhaaaaGreatProg.lean LOADS. Nothing in Lean hashes anything: it is a label: what it is worth is what the hold of that sum in a sandbox is worth. -/
noncomputable def Tryz.pinned : Pinned := { name := "ytcekgllahlhaaaagreat", sum := "87fac09bb7d12aaf9a3b6a7c4f23d3df99794b7fca6fba5ccf3cc3898601057f", checked := Tryz.checked }
namespace Rows
def none {H : Type} : Left H := { results := [], args := [] }

/-- 'quiverlaw14.ProbeNearest': WHATEVER THE INPUT: true; the input reads as it did. -/
def probeNearestSpec : ChangeSpec := { name := "probeNearest", fn := fun _ => fun
  | [d1, d2, d3] => { results := [.lit (.bool true)], args := [d1, d2, d3] }
  | _ => none }
def probeNearestRow : OpenClaim := { program := "ytcekgllahlhaaaagreat", sum := "87fac09bb7d12aaf9a3b6a7c4f23d3df99794b7fca6fba5ccf3cc3898601057f", func := "quiver/quiverlaw14.ProbeNearest", spec := "probeNearest", unfollowed := true, recurses := true, plainKeys := false, apart := false }
def ProbeNearestSaid : Prop := probeNearestRow.holds Tryz.pinned (OpenSpec.ofChange probeNearestSpec)

/-- ITS FALSE NEIGHBOUR: 'it returns false'. Refute it at one input. -/
def probeNearestWrong : ChangeSpec := { name := "probeNearest", fn := fun _ => fun
  | [d1, d2, d3] => { results := [.lit (.bool false)], args := [d1, d2, d3] }
  | _ => none }
def ProbeNearestWrongFalsely : Prop := probeNearestRow.holds Tryz.pinned (OpenSpec.ofChange probeNearestWrong)

/-- 'quiverlaw14.ProbeSearches': WHATEVER THE INPUT: true; the input reads as it did. -/
def probeSearchesSpec : ChangeSpec := { name := "probeSearches", fn := fun _ => fun
  | [d1, d2, d3] => { results := [.lit (.bool true)], args := [d1, d2, d3] }
  | _ => none }
def probeSearchesRow : OpenClaim := { program := "ytcekgllahlhaaaagreat", sum := "87fac09bb7d12aaf9a3b6a7c4f23d3df99794b7fca6fba5ccf3cc3898601057f", func := "quiver/quiverlaw14.ProbeSearches", spec := "probeSearches", unfollowed := true, recurses := true, plainKeys := false, apart := false }
def ProbeSearchesSaid : Prop := probeSearchesRow.holds Tryz.pinned (OpenSpec.ofChange probeSearchesSpec)

/-- ITS FALSE NEIGHBOUR: 'it returns false'. Refute it at one input. -/
def probeSearchesWrong : ChangeSpec := { name := "probeSearches", fn := fun _ => fun
  | [d1, d2, d3] => { results := [.lit (.bool false)], args := [d1, d2, d3] }
  | _ => none }
def ProbeSearchesWrongFalsely : Prop := probeSearchesRow.holds Tryz.pinned (OpenSpec.ofChange probeSearchesWrong)

/-- 'quiverlaw14.ProbeRows': WHATEVER THE INPUT: true; the input reads as it did. -/
def probeRowsSpec : ChangeSpec := { name := "probeRows", fn := fun _ => fun
  | [d1, d2, d3] => { results := [.lit (.bool true)], args := [d1, d2, d3] }
  | _ => none }
def probeRowsRow : OpenClaim := { program := "ytcekgllahlhaaaagreat", sum := "87fac09bb7d12aaf9a3b6a7c4f23d3df99794b7fca6fba5ccf3cc3898601057f", func := "quiver/quiverlaw14.ProbeRows", spec := "probeRows", unfollowed := true, recurses := true, plainKeys := false, apart := false }
def ProbeRowsSaid : Prop := probeRowsRow.holds Tryz.pinned (OpenSpec.ofChange probeRowsSpec)

/-- ITS FALSE NEIGHBOUR: 'it returns false'. Refute it at one input. -/
def probeRowsWrong : ChangeSpec := { name := "probeRows", fn := fun _ => fun
  | [d1, d2, d3] => { results := [.lit (.bool false)], args := [d1, d2, d3] }
  | _ => none }
def ProbeRowsWrongFalsely : Prop := probeRowsRow.holds Tryz.pinned (OpenSpec.ofChange probeRowsWrong)

/-- 'quiverlaw14.ProbeAll': WHATEVER THE INPUT: true; the input reads as it did. -/
def probeAllSpec : ChangeSpec := { name := "probeAll", fn := fun _ => fun
  | [d1, d2, d3] => { results := [.lit (.bool true)], args := [d1, d2, d3] }
  | _ => none }
def probeAllRow : OpenClaim := { program := "ytcekgllahlhaaaagreat", sum := "87fac09bb7d12aaf9a3b6a7c4f23d3df99794b7fca6fba5ccf3cc3898601057f", func := "quiver/quiverlaw14.ProbeAll", spec := "probeAll", unfollowed := true, recurses := true, plainKeys := false, apart := false }
def ProbeAllSaid : Prop := probeAllRow.holds Tryz.pinned (OpenSpec.ofChange probeAllSpec)

/-- ITS FALSE NEIGHBOUR: 'it returns false'. Refute it at one input. -/
def probeAllWrong : ChangeSpec := { name := "probeAll", fn := fun _ => fun
  | [d1, d2, d3] => { results := [.lit (.bool false)], args := [d1, d2, d3] }
  | _ => none }
def ProbeAllWrongFalsely : Prop := probeAllRow.holds Tryz.pinned (OpenSpec.ofChange probeAllWrong)

/-- 'quiverlaw14.ProbeMore': WHATEVER THE INPUT: true; the input reads as it did. -/
def probeMoreSpec : ChangeSpec := { name := "probeMore", fn := fun _ => fun
  | [d1, d2, d3] => { results := [.lit (.bool true)], args := [d1, d2, d3] }
  | _ => none }
def probeMoreRow : OpenClaim := { program := "ytcekgllahlhaaaagreat", sum := "87fac09bb7d12aaf9a3b6a7c4f23d3df99794b7fca6fba5ccf3cc3898601057f", func := "quiver/quiverlaw14.ProbeMore", spec := "probeMore", unfollowed := true, recurses := true, plainKeys := false, apart := false }
def ProbeMoreSaid : Prop := probeMoreRow.holds Tryz.pinned (OpenSpec.ofChange probeMoreSpec)

/-- ITS FALSE NEIGHBOUR: 'it returns false'. Refute it at one input. -/
def probeMoreWrong : ChangeSpec := { name := "probeMore", fn := fun _ => fun
  | [d1, d2, d3] => { results := [.lit (.bool false)], args := [d1, d2, d3] }
  | _ => none }
def ProbeMoreWrongFalsely : Prop := probeMoreRow.holds Tryz.pinned (OpenSpec.ofChange probeMoreWrong)

/-- 'quiverlaw14.ProbeTrue': WHATEVER THE INPUT: true; the input reads as it did. -/
def probeTrueSpec : ChangeSpec := { name := "probeTrue", fn := fun _ => fun
  | [d1, d2, d3] => { results := [.lit (.bool true)], args := [d1, d2, d3] }
  | _ => none }
def probeTrueRow : OpenClaim := { program := "ytcekgllahlhaaaagreat", sum := "87fac09bb7d12aaf9a3b6a7c4f23d3df99794b7fca6fba5ccf3cc3898601057f", func := "quiver/quiverlaw14.ProbeTrue", spec := "probeTrue", unfollowed := true, recurses := true, plainKeys := false, apart := false }
def ProbeTrueSaid : Prop := probeTrueRow.holds Tryz.pinned (OpenSpec.ofChange probeTrueSpec)

/-- ITS FALSE NEIGHBOUR: 'it returns false'. Refute it at one input. -/
def probeTrueWrong : ChangeSpec := { name := "probeTrue", fn := fun _ => fun
  | [d1, d2, d3] => { results := [.lit (.bool false)], args := [d1, d2, d3] }
  | _ => none }
def ProbeTrueWrongFalsely : Prop := probeTrueRow.holds Tryz.pinned (OpenSpec.ofChange probeTrueWrong)

/- THE SECOND FORM. 'bulk': how many values and letters a reading holds, each counted each time it is reached (what is shared counts as often as it is met; a slice's spare places count too). A statement '..UptoSaid' is the law's where the arguments, and the package variables that the reading takes, are together of bulk at most 1048576: NARROWER than '..Said'. Prove '..Said' where nothing that the law and all that it calls make is longer than what came in: it says more and counts as full. Else prove '..UptoSaid'. A law counts once. -/
mutual
def uptoBulk {H : Type} : DataW H → Nat
  | .lit (.string bytes) => bytes.length + 1
  | .lit _ => 1
  | .nil => 1
  | .ptr d => uptoBulk d + 1
  | .slice elems spare => uptoBulkAll elems + uptoBulkAll spare + 1
  | .agg parts => uptoBulkAll parts + 1
  | .iface _ d => uptoBulk d + 1
  | .map entries => uptoBulkEntries entries + 1
  | .held _ => 1
def uptoBulkAll {H : Type} : List (DataW H) → Nat
  | [] => 0
  | d :: r => uptoBulk d + uptoBulkAll r
def uptoBulkEntries {H : Type} : List (Lit × DataW H) → Nat
  | [] => 0
  | x :: r => uptoBulkEntry x + uptoBulkEntries r
def uptoBulkEntry {H : Type} : Lit × DataW H → Nat
  | (.string bytes, d) => bytes.length + uptoBulk d + 1
  | (_, d) => uptoBulk d + 1
 end
def uptoSmall : (H : Type) → List (DataW H) → Bool := fun _ ds => decide (uptoBulkAll ds ≤ 1048576)
def OpenSpec.upto (s : _root_.Go.ChangeSpec) : _root_.Go.OpenSpec := { _root_.Go.OpenSpec.ofChange s with cond := some uptoSmall }

/-- 'quiverlaw14.ProbeNearest', WHERE WHAT IT READS IS OF BULK AT MOST 1048576: true; the input reads as it did. -/
def probeNearestUptoRow : OpenClaim := { program := "ytcekgllahlhaaaagreat", sum := "87fac09bb7d12aaf9a3b6a7c4f23d3df99794b7fca6fba5ccf3cc3898601057f", func := "quiver/quiverlaw14.ProbeNearest", spec := "probeNearest", unfollowed := true, recurses := true, plainKeys := false, apart := false, narrowed := true }
def ProbeNearestUptoSaid : Prop := probeNearestUptoRow.holds Tryz.pinned (OpenSpec.upto probeNearestSpec)

/-- 'quiverlaw14.ProbeSearches', WHERE WHAT IT READS IS OF BULK AT MOST 1048576: true; the input reads as it did. -/
def probeSearchesUptoRow : OpenClaim := { program := "ytcekgllahlhaaaagreat", sum := "87fac09bb7d12aaf9a3b6a7c4f23d3df99794b7fca6fba5ccf3cc3898601057f", func := "quiver/quiverlaw14.ProbeSearches", spec := "probeSearches", unfollowed := true, recurses := true, plainKeys := false, apart := false, narrowed := true }
def ProbeSearchesUptoSaid : Prop := probeSearchesUptoRow.holds Tryz.pinned (OpenSpec.upto probeSearchesSpec)

/-- 'quiverlaw14.ProbeRows', WHERE WHAT IT READS IS OF BULK AT MOST 1048576: true; the input reads as it did. -/
def probeRowsUptoRow : OpenClaim := { program := "ytcekgllahlhaaaagreat", sum := "87fac09bb7d12aaf9a3b6a7c4f23d3df99794b7fca6fba5ccf3cc3898601057f", func := "quiver/quiverlaw14.ProbeRows", spec := "probeRows", unfollowed := true, recurses := true, plainKeys := false, apart := false, narrowed := true }
def ProbeRowsUptoSaid : Prop := probeRowsUptoRow.holds Tryz.pinned (OpenSpec.upto probeRowsSpec)

/-- 'quiverlaw14.ProbeAll', WHERE WHAT IT READS IS OF BULK AT MOST 1048576: true; the input reads as it did. -/
def probeAllUptoRow : OpenClaim := { program := "ytcekgllahlhaaaagreat", sum := "87fac09bb7d12aaf9a3b6a7c4f23d3df99794b7fca6fba5ccf3cc3898601057f", func := "quiver/quiverlaw14.ProbeAll", spec := "probeAll", unfollowed := true, recurses := true, plainKeys := false, apart := false, narrowed := true }
def ProbeAllUptoSaid : Prop := probeAllUptoRow.holds Tryz.pinned (OpenSpec.upto probeAllSpec)

/-- 'quiverlaw14.ProbeMore', WHERE WHAT IT READS IS OF BULK AT MOST 1048576: true; the input reads as it did. -/
def probeMoreUptoRow : OpenClaim := { program := "ytcekgllahlhaaaagreat", sum := "87fac09bb7d12aaf9a3b6a7c4f23d3df99794b7fca6fba5ccf3cc3898601057f", func := "quiver/quiverlaw14.ProbeMore", spec := "probeMore", unfollowed := true, recurses := true, plainKeys := false, apart := false, narrowed := true }
def ProbeMoreUptoSaid : Prop := probeMoreUptoRow.holds Tryz.pinned (OpenSpec.upto probeMoreSpec)

/-- 'quiverlaw14.ProbeTrue', WHERE WHAT IT READS IS OF BULK AT MOST 1048576: true; the input reads as it did. -/
def probeTrueUptoRow : OpenClaim := { program := "ytcekgllahlhaaaagreat", sum := "87fac09bb7d12aaf9a3b6a7c4f23d3df99794b7fca6fba5ccf3cc3898601057f", func := "quiver/quiverlaw14.ProbeTrue", spec := "probeTrue", unfollowed := true, recurses := true, plainKeys := false, apart := false, narrowed := true }
def ProbeTrueUptoSaid : Prop := probeTrueUptoRow.holds Tryz.pinned (OpenSpec.upto probeTrueSpec)

end Rows
end Go.Proofs.YtcekgllahlhaaaaGreat
