/-
  DERIVED. GIVEN WITH THE SEED: THE CARDS: each row of YtcekgllahlhaaaaGreatDoorRows.lean that lists a variable, with what it lists TIED to the program's text (the seventh form; the later family's looks); each row that meets fmt, with fmt's text TOLD by the authors' own Lean function (tested against real Go, not proved from fmt's source: count such statements apart). THE CARD IS WHAT COUNTS. Prove the row's statement (the work); the ties are given (YtcekgllahlhaaaaGreatDoorTie.lean); close each card by the builder's one call (the guide's Derived/Test/ToyasCard.lean, 'card_holds'). Laid BY PROGRAM, IN A SANDBOX (cutbox-door.mjs). By AI agents, Wed Nov 11 2026. No macro, syntax, notation, axiom, sorry.
-/
import Derived.Test.YtcekgllahlhaaaaGreatDoorRows
import GoSem.ClaimSeven
namespace Go.Proofs.YtcekgllahlhaaaaGreatDoor
namespace Rows

/-- THE TIED CARD OF 'quiverlaw14.ProbeAgrees'. -/
def probeAgreesCard : Claim7 := { stood := { row := probeAgreesRow, standIns := [], harness := (true, "813fb3fb3c716855867ca3c275178bd0ad3ed86d3d49ae940ca9393993a7f73f"), looks := true }, kinds := [], alts := [], laidByText := true, laidKinds := [.data], laidTests := true, laidLooks := .later }
def ProbeAgreesCardSaid : Prop := Claim7.holds Tryz.pinned (.plain (OpenSpec.ofChange probeAgreesSpec)) probeAgreesCard

/-- THE SECOND FORM's CARD OF 'quiverlaw14.ProbeAgrees'. -/
def probeAgreesUptoCard : Claim7 := { stood := { row := probeAgreesUptoRow, standIns := [], harness := (true, "813fb3fb3c716855867ca3c275178bd0ad3ed86d3d49ae940ca9393993a7f73f"), looks := true }, kinds := [], alts := [], laidByText := true, laidKinds := [.data], laidTests := true, laidLooks := .later }
def ProbeAgreesUptoCardSaid : Prop := Claim7.holds Tryz.pinned (.plain (OpenSpec.upto probeAgreesSpec)) probeAgreesUptoCard
end Rows
end Go.Proofs.YtcekgllahlhaaaaGreatDoor
