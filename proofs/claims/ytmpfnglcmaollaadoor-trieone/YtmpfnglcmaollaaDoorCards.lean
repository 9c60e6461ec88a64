/-
  DERIVED. GIVEN WITH THE SEED: THE CARDS: each row of YtmpfnglcmaollaaDoorRows.lean that lists a variable, with what it lists TIED to the program's text (the seventh form; the later family's looks); each row that meets fmt, with fmt's text TOLD by the authors' own Lean function (tested against real Go, not proved from fmt's source: count such statements apart). THE CARD IS WHAT COUNTS. Prove the row's statement (the work); the ties are given (YtmpfnglcmaollaaDoorTie.lean); close each card by the builder's one call (the guide's Derived/Test/ToyasCard.lean, 'card_holds'). Laid BY PROGRAM, IN A SANDBOX (cutbox-door.mjs). By AI agents, Wed Nov 11 2026. No macro, syntax, notation, axiom, sorry.
-/
import Derived.Test.YtmpfnglcmaollaaDoorRows
import GoSem.ClaimSeven
namespace Go.Proofs.YtmpfnglcmaollaaDoor
namespace Rows

/-- THE TIED CARD OF 'morainelaw14.TrieClosed'. -/
def trieClosedCard : Claim7 := { stood := { row := trieClosedRow, standIns := [], harness := (true, "b9a5bdd3929b2269e83696c90b31c8b916ebb3debc344ffe7d53f5048965847c"), looks := true }, kinds := [], alts := [], laidByText := true, laidKinds := [.data, .data, .data], laidTests := true, laidLooks := .later }
def TrieClosedCardSaid : Prop := Claim7.holds Tryd.pinned (.plain (OpenSpec.ofChange trieClosedSpec)) trieClosedCard

/-- THE TIED CARD OF 'morainelaw14.TriePaths'. -/
def triePathsCard : Claim7 := { stood := { row := triePathsRow, standIns := [], harness := (true, "b9a5bdd3929b2269e83696c90b31c8b916ebb3debc344ffe7d53f5048965847c"), looks := true }, kinds := [], alts := [], laidByText := true, laidKinds := [.data, .data, .data], laidTests := true, laidLooks := .later }
def TriePathsCardSaid : Prop := Claim7.holds Tryd.pinned (.plain (OpenSpec.ofChange triePathsSpec)) triePathsCard

/-- THE TIED CARD OF 'morainelaw14.TrieOrder'. -/
def trieOrderCard : Claim7 := { stood := { row := trieOrderRow, standIns := [], harness := (true, "b9a5bdd3929b2269e83696c90b31c8b916ebb3debc344ffe7d53f5048965847c"), looks := true }, kinds := [], alts := [], laidByText := true, laidKinds := [.data, .data, .data], laidTests := true, laidLooks := .later }
def TrieOrderCardSaid : Prop := Claim7.holds Tryd.pinned (.plain (OpenSpec.ofChange trieOrderSpec)) trieOrderCard

/-- THE TIED CARD OF 'morainelaw14.TrieIdle'. -/
def trieIdleCard : Claim7 := { stood := { row := trieIdleRow, standIns := [], harness := (true, "b9a5bdd3929b2269e83696c90b31c8b916ebb3debc344ffe7d53f5048965847c"), looks := true }, kinds := [], alts := [], laidByText := true, laidKinds := [.data, .data, .data], laidTests := true, laidLooks := .later }
def TrieIdleCardSaid : Prop := Claim7.holds Tryd.pinned (.plain (OpenSpec.ofChange trieIdleSpec)) trieIdleCard

/-- THE TIED CARD OF 'morainelaw14.TrieOne'. -/
def trieOneCard : Claim7 := { stood := { row := trieOneRow, standIns := [], harness := (true, "b9a5bdd3929b2269e83696c90b31c8b916ebb3debc344ffe7d53f5048965847c"), looks := true }, kinds := [], alts := [], laidByText := true, laidKinds := [.data, .data, .data], laidTests := true, laidLooks := .later }
def TrieOneCardSaid : Prop := Claim7.holds Tryd.pinned (.plain (OpenSpec.ofChange trieOneSpec)) trieOneCard

/-- THE TIED CARD OF 'morainelaw14.TrieMany'. -/
def trieManyCard : Claim7 := { stood := { row := trieManyRow, standIns := [], harness := (true, "b9a5bdd3929b2269e83696c90b31c8b916ebb3debc344ffe7d53f5048965847c"), looks := true }, kinds := [], alts := [], laidByText := true, laidKinds := [.data, .data, .data], laidTests := true, laidLooks := .later }
def TrieManyCardSaid : Prop := Claim7.holds Tryd.pinned (.plain (OpenSpec.ofChange trieManySpec)) trieManyCard

/-- THE SECOND FORM's CARD OF 'morainelaw14.TrieClosed'. -/
def trieClosedUptoCard : Claim7 := { stood := { row := trieClosedUptoRow, standIns := [], harness := (true, "b9a5bdd3929b2269e83696c90b31c8b916ebb3debc344ffe7d53f5048965847c"), looks := true }, kinds := [], alts := [], laidByText := true, laidKinds := [.data, .data, .data], laidTests := true, laidLooks := .later }
def TrieClosedUptoCardSaid : Prop := Claim7.holds Tryd.pinned (.plain (OpenSpec.upto trieClosedSpec)) trieClosedUptoCard

/-- THE SECOND FORM's CARD OF 'morainelaw14.TriePaths'. -/
def triePathsUptoCard : Claim7 := { stood := { row := triePathsUptoRow, standIns := [], harness := (true, "b9a5bdd3929b2269e83696c90b31c8b916ebb3debc344ffe7d53f5048965847c"), looks := true }, kinds := [], alts := [], laidByText := true, laidKinds := [.data, .data, .data], laidTests := true, laidLooks := .later }
def TriePathsUptoCardSaid : Prop := Claim7.holds Tryd.pinned (.plain (OpenSpec.upto triePathsSpec)) triePathsUptoCard

/-- THE SECOND FORM's CARD OF 'morainelaw14.TrieOrder'. -/
def trieOrderUptoCard : Claim7 := { stood := { row := trieOrderUptoRow, standIns := [], harness := (true, "b9a5bdd3929b2269e83696c90b31c8b916ebb3debc344ffe7d53f5048965847c"), looks := true }, kinds := [], alts := [], laidByText := true, laidKinds := [.data, .data, .data], laidTests := true, laidLooks := .later }
def TrieOrderUptoCardSaid : Prop := Claim7.holds Tryd.pinned (.plain (OpenSpec.upto trieOrderSpec)) trieOrderUptoCard

/-- THE SECOND FORM's CARD OF 'morainelaw14.TrieIdle'. -/
def trieIdleUptoCard : Claim7 := { stood := { row := trieIdleUptoRow, standIns := [], harness := (true, "b9a5bdd3929b2269e83696c90b31c8b916ebb3debc344ffe7d53f5048965847c"), looks := true }, kinds := [], alts := [], laidByText := true, laidKinds := [.data, .data, .data], laidTests := true, laidLooks := .later }
def TrieIdleUptoCardSaid : Prop := Claim7.holds Tryd.pinned (.plain (OpenSpec.upto trieIdleSpec)) trieIdleUptoCard

/-- THE SECOND FORM's CARD OF 'morainelaw14.TrieOne'. -/
def trieOneUptoCard : Claim7 := { stood := { row := trieOneUptoRow, standIns := [], harness := (true, "b9a5bdd3929b2269e83696c90b31c8b916ebb3debc344ffe7d53f5048965847c"), looks := true }, kinds := [], alts := [], laidByText := true, laidKinds := [.data, .data, .data], laidTests := true, laidLooks := .later }
def TrieOneUptoCardSaid : Prop := Claim7.holds Tryd.pinned (.plain (OpenSpec.upto trieOneSpec)) trieOneUptoCard

/-- THE SECOND FORM's CARD OF 'morainelaw14.TrieMany'. -/
def trieManyUptoCard : Claim7 := { stood := { row := trieManyUptoRow, standIns := [], harness := (true, "b9a5bdd3929b2269e83696c90b31c8b916ebb3debc344ffe7d53f5048965847c"), looks := true }, kinds := [], alts := [], laidByText := true, laidKinds := [.data, .data, .data], laidTests := true, laidLooks := .later }
def TrieManyUptoCardSaid : Prop := Claim7.holds Tryd.pinned (.plain (OpenSpec.upto trieManySpec)) trieManyUptoCard
end Rows
end Go.Proofs.YtmpfnglcmaollaaDoor
