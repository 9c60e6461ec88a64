/-
  DERIVED. GIVEN WITH THE SEED: THE CARDS: each row of YthmjglglbdlieaaDoorRows.lean that lists a variable, with what it lists TIED to the program's text (the seventh form; the later family's looks); each row that meets fmt, with fmt's text TOLD by the authors' own Lean function (tested against real Go, not proved from fmt's source: count such statements apart). THE CARD IS WHAT COUNTS. Prove the row's statement (the work); the ties are given (YthmjglglbdlieaaDoorTie.lean); close each card by the builder's one call (the guide's Derived/Test/ToyasCard.lean, 'card_holds'). Laid BY PROGRAM, IN A SANDBOX (cutbox-door.mjs). By AI agents, Wed Nov 11 2026. No macro, syntax, notation, axiom, sorry.
-/
import Derived.Test.YthmjglglbdlieaaDoorRows
import GoSem.ClaimSeven
namespace Go.Proofs.YthmjglglbdlieaaDoor
namespace Rows

/-- THE TIED CARD OF 'morainelaw3.KeccakSums'. -/
def keccakSumsCard : Claim7 := { stood := { row := keccakSumsRow, standIns := [], harness := (true, "7fe8da5bdb4e7d3511fd84d97fa8951b194be1ba9c1b89ac256e6e1be496f969"), looks := false }, kinds := [], alts := [], laidByText := true, laidKinds := [.data, .data, .data], laidTests := true, laidLooks := .later }
def KeccakSumsCardSaid : Prop := Claim7.holds Tryd.pinned (.plain (OpenSpec.ofChange keccakSumsSpec)) keccakSumsCard

/-- THE TIED CARD OF 'morainelaw3.KeccakPermutes'. -/
def keccakPermutesCard : Claim7 := { stood := { row := keccakPermutesRow, standIns := [], harness := (true, "7fe8da5bdb4e7d3511fd84d97fa8951b194be1ba9c1b89ac256e6e1be496f969"), looks := false }, kinds := [], alts := [], laidByText := true, laidKinds := [.data, .data, .data], laidTests := true, laidLooks := .later }
def KeccakPermutesCardSaid : Prop := Claim7.holds Tryd.pinned (.plain (OpenSpec.ofChange keccakPermutesSpec)) keccakPermutesCard

/-- THE TIED CARD OF 'morainelaw3.KeccakTwo'. -/
def keccakTwoCard : Claim7 := { stood := { row := keccakTwoRow, standIns := [], harness := (true, "7fe8da5bdb4e7d3511fd84d97fa8951b194be1ba9c1b89ac256e6e1be496f969"), looks := false }, kinds := [], alts := [], laidByText := true, laidKinds := [.data, .data, .data], laidTests := true, laidLooks := .later }
def KeccakTwoCardSaid : Prop := Claim7.holds Tryd.pinned (.plain (OpenSpec.ofChange keccakTwoSpec)) keccakTwoCard

/-- THE TIED CARD OF 'morainelaw3.KeccakApart'. -/
def keccakApartCard : Claim7 := { stood := { row := keccakApartRow, standIns := [], harness := (true, "7fe8da5bdb4e7d3511fd84d97fa8951b194be1ba9c1b89ac256e6e1be496f969"), looks := false }, kinds := [], alts := [], laidByText := true, laidKinds := [.data, .data, .data], laidTests := true, laidLooks := .later }
def KeccakApartCardSaid : Prop := Claim7.holds Tryd.pinned (.plain (OpenSpec.ofChange keccakApartSpec)) keccakApartCard

/-- THE SECOND FORM's CARD OF 'morainelaw3.KeccakSums'. -/
def keccakSumsUptoCard : Claim7 := { stood := { row := keccakSumsUptoRow, standIns := [], harness := (true, "7fe8da5bdb4e7d3511fd84d97fa8951b194be1ba9c1b89ac256e6e1be496f969"), looks := false }, kinds := [], alts := [], laidByText := true, laidKinds := [.data, .data, .data], laidTests := true, laidLooks := .later }
def KeccakSumsUptoCardSaid : Prop := Claim7.holds Tryd.pinned (.plain (OpenSpec.upto keccakSumsSpec)) keccakSumsUptoCard

/-- THE SECOND FORM's CARD OF 'morainelaw3.KeccakPermutes'. -/
def keccakPermutesUptoCard : Claim7 := { stood := { row := keccakPermutesUptoRow, standIns := [], harness := (true, "7fe8da5bdb4e7d3511fd84d97fa8951b194be1ba9c1b89ac256e6e1be496f969"), looks := false }, kinds := [], alts := [], laidByText := true, laidKinds := [.data, .data, .data], laidTests := true, laidLooks := .later }
def KeccakPermutesUptoCardSaid : Prop := Claim7.holds Tryd.pinned (.plain (OpenSpec.upto keccakPermutesSpec)) keccakPermutesUptoCard

/-- THE SECOND FORM's CARD OF 'morainelaw3.KeccakTwo'. -/
def keccakTwoUptoCard : Claim7 := { stood := { row := keccakTwoUptoRow, standIns := [], harness := (true, "7fe8da5bdb4e7d3511fd84d97fa8951b194be1ba9c1b89ac256e6e1be496f969"), looks := false }, kinds := [], alts := [], laidByText := true, laidKinds := [.data, .data, .data], laidTests := true, laidLooks := .later }
def KeccakTwoUptoCardSaid : Prop := Claim7.holds Tryd.pinned (.plain (OpenSpec.upto keccakTwoSpec)) keccakTwoUptoCard

/-- THE SECOND FORM's CARD OF 'morainelaw3.KeccakApart'. -/
def keccakApartUptoCard : Claim7 := { stood := { row := keccakApartUptoRow, standIns := [], harness := (true, "7fe8da5bdb4e7d3511fd84d97fa8951b194be1ba9c1b89ac256e6e1be496f969"), looks := false }, kinds := [], alts := [], laidByText := true, laidKinds := [.data, .data, .data], laidTests := true, laidLooks := .later }
def KeccakApartUptoCardSaid : Prop := Claim7.holds Tryd.pinned (.plain (OpenSpec.upto keccakApartSpec)) keccakApartUptoCard
end Rows
end Go.Proofs.YthmjglglbdlieaaDoor
