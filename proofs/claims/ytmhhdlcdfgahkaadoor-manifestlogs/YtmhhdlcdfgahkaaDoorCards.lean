/-
  DERIVED. GIVEN WITH THE SEED: THE CARDS: each row of YtmhhdlcdfgahkaaDoorRows.lean that lists a variable, with what it lists TIED to the program's text (the seventh form; the later family's looks); each row that meets fmt, with fmt's text TOLD by the authors' own Lean function (tested against real Go, not proved from fmt's source: count such statements apart). THE CARD IS WHAT COUNTS. Prove the row's statement (the work); the ties are given (YtmhhdlcdfgahkaaDoorTie.lean); close each card by the builder's one call (the guide's Derived/Test/ToyasCard.lean, 'card_holds'). Laid BY PROGRAM, IN A SANDBOX (cutbox-door.mjs). By AI agents, Wed Nov 11 2026. No macro, syntax, notation, axiom, sorry.
-/
import Derived.Test.YtmhhdlcdfgahkaaDoorRows
import GoSem.ClaimSeven
namespace Go.Proofs.YtmhhdlcdfgahkaaDoor
namespace Rows

/-- THE TIED CARD OF 'morainelaw9.ManifestLogs'. -/
def manifestLogsCard : Claim7 := { stood := { row := manifestLogsRow, standIns := [], harness := (true, "d55fbcc4e2a6160a571aa4842f7212833eed9c401c1217f9cceaeec7faf90de0"), looks := false }, kinds := [], alts := [], laidByText := true, laidKinds := [.data, .pinned], laidTests := true, laidLooks := .later }
def ManifestLogsCardSaid : Prop := Claim7.holds Tryd.pinned (.plain (OpenSpec.ofChange manifestLogsSpec)) manifestLogsCard

/-- THE SECOND FORM's CARD OF 'morainelaw9.ManifestLogs'. -/
def manifestLogsUptoCard : Claim7 := { stood := { row := manifestLogsUptoRow, standIns := [], harness := (true, "d55fbcc4e2a6160a571aa4842f7212833eed9c401c1217f9cceaeec7faf90de0"), looks := false }, kinds := [], alts := [], laidByText := true, laidKinds := [.data, .pinned], laidTests := true, laidLooks := .later }
def ManifestLogsUptoCardSaid : Prop := Claim7.holds Tryd.pinned (.plain (OpenSpec.upto manifestLogsSpec)) manifestLogsUptoCard
end Rows
end Go.Proofs.YtmhhdlcdfgahkaaDoor
