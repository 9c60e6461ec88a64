/-
  DERIVED. GIVEN WITH THE SEED: THE CARDS: each row of YtegbngbhmgbocaaGreatDoorRows.lean that lists a variable, with what it lists TIED to the program's text (the seventh form; the later family's looks); each row that meets fmt, with fmt's text TOLD by the authors' own Lean function (tested against real Go, not proved from fmt's source: count such statements apart). THE CARD IS WHAT COUNTS. Prove the row's statement (the work); the ties are given (YtegbngbhmgbocaaGreatDoorTie.lean); close each card by the builder's one call (the guide's Derived/Test/ToyasCard.lean, 'card_holds'). Laid BY PROGRAM, IN A SANDBOX (cutbox-door.mjs). By AI agents, Wed Nov 11 2026. No macro, syntax, notation, axiom, sorry.
-/
import Derived.Test.YtegbngbhmgbocaaGreatDoorRows
import GoSem.ClaimSeven
namespace Go.Proofs.YtegbngbhmgbocaaGreatDoor
namespace Rows

/-- THE TIED CARD OF 'morainelaw9.ManifestReplays'. -/
def manifestReplaysCard : Claim7 := { stood := { row := manifestReplaysRow, standIns := [], harness := (true, "da201462a884dd30c9e5d051f496c7eacae6a5f2229187ee28f7ea5179b6b473"), looks := false }, kinds := [], alts := [], laidByText := true, laidKinds := [.data, .pinned], laidTests := true, laidLooks := .later }
def ManifestReplaysCardSaid : Prop := Claim7.holds Tryz.pinned (.plain (OpenSpec.ofChange manifestReplaysSpec)) manifestReplaysCard

/-- THE SECOND FORM's CARD OF 'morainelaw9.ManifestReplays'. -/
def manifestReplaysUptoCard : Claim7 := { stood := { row := manifestReplaysUptoRow, standIns := [], harness := (true, "da201462a884dd30c9e5d051f496c7eacae6a5f2229187ee28f7ea5179b6b473"), looks := false }, kinds := [], alts := [], laidByText := true, laidKinds := [.data, .pinned], laidTests := true, laidLooks := .later }
def ManifestReplaysUptoCardSaid : Prop := Claim7.holds Tryz.pinned (.plain (OpenSpec.upto manifestReplaysSpec)) manifestReplaysUptoCard
end Rows
end Go.Proofs.YtegbngbhmgbocaaGreatDoor
