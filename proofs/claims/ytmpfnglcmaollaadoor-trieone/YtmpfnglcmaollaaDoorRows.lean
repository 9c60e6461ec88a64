/-
  NARROWER THAN 'FOR EVERY INPUT', by the rows' own cells (each row's printed sentence says how): TrieClosed: laid · TriePaths: laid · TrieOrder: laid · TrieIdle: laid · TrieOne: laid · TrieMany: laid.
  DERIVED. THE GIVEN ROWS OF THIS SEAT. 6 by the template 'for every input the law returns true; each argument reads behind the call as it read before'; 0 by the template 'total and deterministic' (their statements: YtmpfnglcmaollaaDoorTotals.lean).
  GIVEN WITH THE SEED: the statements are not yours to turn. If you find one false, say at which input.
  Laid BY PROGRAM, IN A SANDBOX (cutbox-rows.mjs): the forced cells as the released guide's own fill.sh prints them over the translation 28708d805223c570… (all of the seat's roots in one cut). By AI agents, Wed Nov 11 2026. No macro, syntax, notation, axiom, sorry.
-/
import Derived.Test.YtmpfnglcmaollaaDoorChecked
import GoSem.Claim
import GoSem.ClaimJoined
import GoSem.ClaimMapViews
import Derived.JoinedTies
import Derived.KernelRfl
namespace Go.Proofs.YtmpfnglcmaollaaDoor
/- THE CELL 'sum', in the pinned program and in every row, IS THE sha256 OF THE DUMP (.gsa) THAT YtmpfnglcmaollaaDoorProg.lean LOADS. Nothing in Lean hashes anything: it is a label: what it is worth is what the hold of that sum in a sandbox is worth. -/
noncomputable def Tryd.pinned : Pinned := { name := "ytmpfnglcmaollaadoor", sum := "28708d805223c5702bfaf53ec6f5c8450a7ed935ceee8a03ee46867c162da46f", checked := Tryd.checked }
namespace Rows
def none {H : Type} : Left H := { results := [], args := [] }

/- WHAT THE LISTED PACKAGE-LEVEL VARIABLES READ AS WHEN THE CALL BEGINS. Each datum BY PROGRAM (the guide's laid-datum.mjs) off the statement by which the dump's own 'gosem.cut.vars' lays the variable. In a bare row this is a premise. The card (YtmpfnglcmaollaaDoorCards.lean) ties it to the program's text. -/
def laid_moraine_keccak_constants {H : Type} : DataW H := .agg [.lit (.int .u64 1), .lit (.int .u64 32898), .lit (.int .u64 9223372036854808714), .lit (.int .u64 9223372039002292224), .lit (.int .u64 32907), .lit (.int .u64 2147483649), .lit (.int .u64 9223372039002292353), .lit (.int .u64 9223372036854808585), .lit (.int .u64 138), .lit (.int .u64 136), .lit (.int .u64 2147516425), .lit (.int .u64 2147483658), .lit (.int .u64 2147516555), .lit (.int .u64 9223372036854775947), .lit (.int .u64 9223372036854808713), .lit (.int .u64 9223372036854808579), .lit (.int .u64 9223372036854808578), .lit (.int .u64 9223372036854775936), .lit (.int .u64 32778), .lit (.int .u64 9223372039002259466), .lit (.int .u64 9223372039002292353), .lit (.int .u64 9223372036854808704), .lit (.int .u64 2147483649), .lit (.int .u64 9223372039002292232)]
def laid_moraine_keccak_walk {H : Type} : DataW H := .agg [.lit (.int .u8 10), .lit (.int .u8 7), .lit (.int .u8 11), .lit (.int .u8 17), .lit (.int .u8 18), .lit (.int .u8 3), .lit (.int .u8 5), .lit (.int .u8 16), .lit (.int .u8 8), .lit (.int .u8 21), .lit (.int .u8 24), .lit (.int .u8 4), .lit (.int .u8 15), .lit (.int .u8 23), .lit (.int .u8 19), .lit (.int .u8 13), .lit (.int .u8 12), .lit (.int .u8 2), .lit (.int .u8 20), .lit (.int .u8 14), .lit (.int .u8 22), .lit (.int .u8 9), .lit (.int .u8 6), .lit (.int .u8 1)]
def laid_moraine_keccak_turns {H : Type} : DataW H := .agg [.lit (.int .u8 1), .lit (.int .u8 3), .lit (.int .u8 6), .lit (.int .u8 10), .lit (.int .u8 15), .lit (.int .u8 21), .lit (.int .u8 28), .lit (.int .u8 36), .lit (.int .u8 45), .lit (.int .u8 55), .lit (.int .u8 2), .lit (.int .u8 14), .lit (.int .u8 27), .lit (.int .u8 41), .lit (.int .u8 56), .lit (.int .u8 8), .lit (.int .u8 25), .lit (.int .u8 43), .lit (.int .u8 62), .lit (.int .u8 18), .lit (.int .u8 39), .lit (.int .u8 61), .lit (.int .u8 20), .lit (.int .u8 44)]

/-- 'morainelaw14.TrieClosed': WHATEVER THE INPUT: true; the input reads as it did. -/
def trieClosedSpec : ChangeSpec := { name := "trieClosed", fn := fun _ => fun
  | [d] => { results := [.lit (.bool true)], args := [d] }
  | _ => none }
def trieClosedRow : OpenClaim := { program := "ytmpfnglcmaollaadoor", sum := "28708d805223c5702bfaf53ec6f5c8450a7ed935ceee8a03ee46867c162da46f", func := "moraine/morainelaw14.TrieClosed", spec := "trieClosed", inPlace := ["slices.overlaps[byte]"], unfollowed := true, recurses := true, named := ["moraine/keccak.constants", "moraine/keccak.walk", "moraine/keccak.turns"], plainKeys := false, apart := false, laid := [("moraine/keccak.constants", laid_moraine_keccak_constants), ("moraine/keccak.walk", laid_moraine_keccak_walk), ("moraine/keccak.turns", laid_moraine_keccak_turns)] }
def TrieClosedSaid : Prop := trieClosedRow.holds Tryd.pinned (OpenSpec.ofChange trieClosedSpec)

/-- ITS FALSE NEIGHBOUR: 'it returns false'. Refute it at one input. -/
def trieClosedWrong : ChangeSpec := { name := "trieClosed", fn := fun _ => fun
  | [d] => { results := [.lit (.bool false)], args := [d] }
  | _ => none }
def TrieClosedWrongFalsely : Prop := trieClosedRow.holds Tryd.pinned (OpenSpec.ofChange trieClosedWrong)

/-- 'morainelaw14.TriePaths': WHATEVER THE INPUT: true; the input reads as it did. -/
def triePathsSpec : ChangeSpec := { name := "triePaths", fn := fun _ => fun
  | [d1, d2, d3, d4] => { results := [.lit (.bool true)], args := [d1, d2, d3, d4] }
  | _ => none }
def triePathsRow : OpenClaim := { program := "ytmpfnglcmaollaadoor", sum := "28708d805223c5702bfaf53ec6f5c8450a7ed935ceee8a03ee46867c162da46f", func := "moraine/morainelaw14.TriePaths", spec := "triePaths", inPlace := ["slices.overlaps[byte]"], unfollowed := true, recurses := true, named := ["moraine/keccak.constants", "moraine/keccak.walk", "moraine/keccak.turns"], plainKeys := false, apart := false, laid := [("moraine/keccak.constants", laid_moraine_keccak_constants), ("moraine/keccak.walk", laid_moraine_keccak_walk), ("moraine/keccak.turns", laid_moraine_keccak_turns)] }
def TriePathsSaid : Prop := triePathsRow.holds Tryd.pinned (OpenSpec.ofChange triePathsSpec)

/-- ITS FALSE NEIGHBOUR: 'it returns false'. Refute it at one input. -/
def triePathsWrong : ChangeSpec := { name := "triePaths", fn := fun _ => fun
  | [d1, d2, d3, d4] => { results := [.lit (.bool false)], args := [d1, d2, d3, d4] }
  | _ => none }
def TriePathsWrongFalsely : Prop := triePathsRow.holds Tryd.pinned (OpenSpec.ofChange triePathsWrong)

/-- 'morainelaw14.TrieOrder': WHATEVER THE INPUT: true; the input reads as it did. -/
def trieOrderSpec : ChangeSpec := { name := "trieOrder", fn := fun _ => fun
  | [d1, d2, d3] => { results := [.lit (.bool true)], args := [d1, d2, d3] }
  | _ => none }
def trieOrderRow : OpenClaim := { program := "ytmpfnglcmaollaadoor", sum := "28708d805223c5702bfaf53ec6f5c8450a7ed935ceee8a03ee46867c162da46f", func := "moraine/morainelaw14.TrieOrder", spec := "trieOrder", inPlace := ["slices.overlaps[byte]"], unfollowed := true, recurses := true, named := ["moraine/keccak.constants", "moraine/keccak.walk", "moraine/keccak.turns"], plainKeys := false, apart := false, laid := [("moraine/keccak.constants", laid_moraine_keccak_constants), ("moraine/keccak.walk", laid_moraine_keccak_walk), ("moraine/keccak.turns", laid_moraine_keccak_turns)] }
def TrieOrderSaid : Prop := trieOrderRow.holds Tryd.pinned (OpenSpec.ofChange trieOrderSpec)

/-- ITS FALSE NEIGHBOUR: 'it returns false'. Refute it at one input. -/
def trieOrderWrong : ChangeSpec := { name := "trieOrder", fn := fun _ => fun
  | [d1, d2, d3] => { results := [.lit (.bool false)], args := [d1, d2, d3] }
  | _ => none }
def TrieOrderWrongFalsely : Prop := trieOrderRow.holds Tryd.pinned (OpenSpec.ofChange trieOrderWrong)

/-- 'morainelaw14.TrieIdle': WHATEVER THE INPUT: true; the input reads as it did. -/
def trieIdleSpec : ChangeSpec := { name := "trieIdle", fn := fun _ => fun
  | [d1, d2] => { results := [.lit (.bool true)], args := [d1, d2] }
  | _ => none }
def trieIdleRow : OpenClaim := { program := "ytmpfnglcmaollaadoor", sum := "28708d805223c5702bfaf53ec6f5c8450a7ed935ceee8a03ee46867c162da46f", func := "moraine/morainelaw14.TrieIdle", spec := "trieIdle", inPlace := ["slices.overlaps[byte]"], unfollowed := true, recurses := true, named := ["moraine/keccak.constants", "moraine/keccak.walk", "moraine/keccak.turns"], plainKeys := false, apart := false, laid := [("moraine/keccak.constants", laid_moraine_keccak_constants), ("moraine/keccak.walk", laid_moraine_keccak_walk), ("moraine/keccak.turns", laid_moraine_keccak_turns)] }
def TrieIdleSaid : Prop := trieIdleRow.holds Tryd.pinned (OpenSpec.ofChange trieIdleSpec)

/-- ITS FALSE NEIGHBOUR: 'it returns false'. Refute it at one input. -/
def trieIdleWrong : ChangeSpec := { name := "trieIdle", fn := fun _ => fun
  | [d1, d2] => { results := [.lit (.bool false)], args := [d1, d2] }
  | _ => none }
def TrieIdleWrongFalsely : Prop := trieIdleRow.holds Tryd.pinned (OpenSpec.ofChange trieIdleWrong)

/-- 'morainelaw14.TrieOne': WHATEVER THE INPUT: true; the input reads as it did. -/
def trieOneSpec : ChangeSpec := { name := "trieOne", fn := fun _ => fun
  | [d1, d2] => { results := [.lit (.bool true)], args := [d1, d2] }
  | _ => none }
def trieOneRow : OpenClaim := { program := "ytmpfnglcmaollaadoor", sum := "28708d805223c5702bfaf53ec6f5c8450a7ed935ceee8a03ee46867c162da46f", func := "moraine/morainelaw14.TrieOne", spec := "trieOne", inPlace := ["slices.overlaps[byte]"], unfollowed := true, recurses := true, named := ["moraine/keccak.constants", "moraine/keccak.walk", "moraine/keccak.turns"], plainKeys := false, apart := false, laid := [("moraine/keccak.constants", laid_moraine_keccak_constants), ("moraine/keccak.walk", laid_moraine_keccak_walk), ("moraine/keccak.turns", laid_moraine_keccak_turns)] }
def TrieOneSaid : Prop := trieOneRow.holds Tryd.pinned (OpenSpec.ofChange trieOneSpec)

/-- ITS FALSE NEIGHBOUR: 'it returns false'. Refute it at one input. -/
def trieOneWrong : ChangeSpec := { name := "trieOne", fn := fun _ => fun
  | [d1, d2] => { results := [.lit (.bool false)], args := [d1, d2] }
  | _ => none }
def TrieOneWrongFalsely : Prop := trieOneRow.holds Tryd.pinned (OpenSpec.ofChange trieOneWrong)

/-- 'morainelaw14.TrieMany': WHATEVER THE INPUT: true; the input reads as it did. -/
def trieManySpec : ChangeSpec := { name := "trieMany", fn := fun _ => fun
  | [d1, d2, d3] => { results := [.lit (.bool true)], args := [d1, d2, d3] }
  | _ => none }
def trieManyRow : OpenClaim := { program := "ytmpfnglcmaollaadoor", sum := "28708d805223c5702bfaf53ec6f5c8450a7ed935ceee8a03ee46867c162da46f", func := "moraine/morainelaw14.TrieMany", spec := "trieMany", inPlace := ["slices.overlaps[byte]"], unfollowed := true, recurses := true, named := ["moraine/keccak.constants", "moraine/keccak.walk", "moraine/keccak.turns"], plainKeys := false, apart := false, laid := [("moraine/keccak.constants", laid_moraine_keccak_constants), ("moraine/keccak.walk", laid_moraine_keccak_walk), ("moraine/keccak.turns", laid_moraine_keccak_turns)] }
def TrieManySaid : Prop := trieManyRow.holds Tryd.pinned (OpenSpec.ofChange trieManySpec)

/-- ITS FALSE NEIGHBOUR: 'it returns false'. Refute it at one input. -/
def trieManyWrong : ChangeSpec := { name := "trieMany", fn := fun _ => fun
  | [d1, d2, d3] => { results := [.lit (.bool false)], args := [d1, d2, d3] }
  | _ => none }
def TrieManyWrongFalsely : Prop := trieManyRow.holds Tryd.pinned (OpenSpec.ofChange trieManyWrong)

/- THE SECOND FORM. 'bulk': how many values and letters a reading holds, each counted each time it is reached (what is shared counts as often as it is met; a slice's spare places count too). A statement '..UptoSaid' is the law's where the arguments, and the package variables that the reading takes, are together of bulk at most 1048576: NARROWER than '..Said'. Prove '..Said' where nothing that the law and all that it calls make is longer than what came in: it says more and counts as full. Else prove '..UptoSaid'. A law counts once. -/
mutual
def uptoBulk {H : Type} : DataW H → Nat
  | .lit (.string bytes) => bytes.length + 1
  | .lit _ => 1
  | .nil => 1
  | .ptr d => uptoBulk d + 1
  | .slice elems spare => uptoBulkAll elems + uptoBulkAll spare + 1
  | .agg parts => uptoBulkAll parts + 1
  | .iface _ d => uptoBulk d + 1
  | .map entries => uptoBulkEntries entries + 1
  | .held _ => 1
def uptoBulkAll {H : Type} : List (DataW H) → Nat
  | [] => 0
  | d :: r => uptoBulk d + uptoBulkAll r
def uptoBulkEntries {H : Type} : List (Lit × DataW H) → Nat
  | [] => 0
  | x :: r => uptoBulkEntry x + uptoBulkEntries r
def uptoBulkEntry {H : Type} : Lit × DataW H → Nat
  | (.string bytes, d) => bytes.length + uptoBulk d + 1
  | (_, d) => uptoBulk d + 1
 end
def uptoSmall : (H : Type) → List (DataW H) → Bool := fun _ ds => decide (uptoBulkAll ds ≤ 1048576)
def OpenSpec.upto (s : _root_.Go.ChangeSpec) : _root_.Go.OpenSpec := { _root_.Go.OpenSpec.ofChange s with cond := some uptoSmall }

/-- 'morainelaw14.TrieClosed', WHERE WHAT IT READS IS OF BULK AT MOST 1048576: true; the input reads as it did. -/
def trieClosedUptoRow : OpenClaim := { program := "ytmpfnglcmaollaadoor", sum := "28708d805223c5702bfaf53ec6f5c8450a7ed935ceee8a03ee46867c162da46f", func := "moraine/morainelaw14.TrieClosed", spec := "trieClosed", inPlace := ["slices.overlaps[byte]"], unfollowed := true, recurses := true, named := ["moraine/keccak.constants", "moraine/keccak.walk", "moraine/keccak.turns"], plainKeys := false, apart := false, laid := [("moraine/keccak.constants", laid_moraine_keccak_constants), ("moraine/keccak.walk", laid_moraine_keccak_walk), ("moraine/keccak.turns", laid_moraine_keccak_turns)], narrowed := true }
def TrieClosedUptoSaid : Prop := trieClosedUptoRow.holds Tryd.pinned (OpenSpec.upto trieClosedSpec)

/-- 'morainelaw14.TriePaths', WHERE WHAT IT READS IS OF BULK AT MOST 1048576: true; the input reads as it did. -/
def triePathsUptoRow : OpenClaim := { program := "ytmpfnglcmaollaadoor", sum := "28708d805223c5702bfaf53ec6f5c8450a7ed935ceee8a03ee46867c162da46f", func := "moraine/morainelaw14.TriePaths", spec := "triePaths", inPlace := ["slices.overlaps[byte]"], unfollowed := true, recurses := true, named := ["moraine/keccak.constants", "moraine/keccak.walk", "moraine/keccak.turns"], plainKeys := false, apart := false, laid := [("moraine/keccak.constants", laid_moraine_keccak_constants), ("moraine/keccak.walk", laid_moraine_keccak_walk), ("moraine/keccak.turns", laid_moraine_keccak_turns)], narrowed := true }
def TriePathsUptoSaid : Prop := triePathsUptoRow.holds Tryd.pinned (OpenSpec.upto triePathsSpec)

/-- 'morainelaw14.TrieOrder', WHERE WHAT IT READS IS OF BULK AT MOST 1048576: true; the input reads as it did. -/
def trieOrderUptoRow : OpenClaim := { program := "ytmpfnglcmaollaadoor", sum := "28708d805223c5702bfaf53ec6f5c8450a7ed935ceee8a03ee46867c162da46f", func := "moraine/morainelaw14.TrieOrder", spec := "trieOrder", inPlace := ["slices.overlaps[byte]"], unfollowed := true, recurses := true, named := ["moraine/keccak.constants", "moraine/keccak.walk", "moraine/keccak.turns"], plainKeys := false, apart := false, laid := [("moraine/keccak.constants", laid_moraine_keccak_constants), ("moraine/keccak.walk", laid_moraine_keccak_walk), ("moraine/keccak.turns", laid_moraine_keccak_turns)], narrowed := true }
def TrieOrderUptoSaid : Prop := trieOrderUptoRow.holds Tryd.pinned (OpenSpec.upto trieOrderSpec)

/-- 'morainelaw14.TrieIdle', WHERE WHAT IT READS IS OF BULK AT MOST 1048576: true; the input reads as it did. -/
def trieIdleUptoRow : OpenClaim := { program := "ytmpfnglcmaollaadoor", sum := "28708d805223c5702bfaf53ec6f5c8450a7ed935ceee8a03ee46867c162da46f", func := "moraine/morainelaw14.TrieIdle", spec := "trieIdle", inPlace := ["slices.overlaps[byte]"], unfollowed := true, recurses := true, named := ["moraine/keccak.constants", "moraine/keccak.walk", "moraine/keccak.turns"], plainKeys := false, apart := false, laid := [("moraine/keccak.constants", laid_moraine_keccak_constants), ("moraine/keccak.walk", laid_moraine_keccak_walk), ("moraine/keccak.turns", laid_moraine_keccak_turns)], narrowed := true }
def TrieIdleUptoSaid : Prop := trieIdleUptoRow.holds Tryd.pinned (OpenSpec.upto trieIdleSpec)

/-- 'morainelaw14.TrieOne', WHERE WHAT IT READS IS OF BULK AT MOST 1048576: true; the input reads as it did. -/
def trieOneUptoRow : OpenClaim := { program := "ytmpfnglcmaollaadoor", sum := "28708d805223c5702bfaf53ec6f5c8450a7ed935ceee8a03ee46867c162da46f", func := "moraine/morainelaw14.TrieOne", spec := "trieOne", inPlace := ["slices.overlaps[byte]"], unfollowed := true, recurses := true, named := ["moraine/keccak.constants", "moraine/keccak.walk", "moraine/keccak.turns"], plainKeys := false, apart := false, laid := [("moraine/keccak.constants", laid_moraine_keccak_constants), ("moraine/keccak.walk", laid_moraine_keccak_walk), ("moraine/keccak.turns", laid_moraine_keccak_turns)], narrowed := true }
def TrieOneUptoSaid : Prop := trieOneUptoRow.holds Tryd.pinned (OpenSpec.upto trieOneSpec)

/-- 'morainelaw14.TrieMany', WHERE WHAT IT READS IS OF BULK AT MOST 1048576: true; the input reads as it did. -/
def trieManyUptoRow : OpenClaim := { program := "ytmpfnglcmaollaadoor", sum := "28708d805223c5702bfaf53ec6f5c8450a7ed935ceee8a03ee46867c162da46f", func := "moraine/morainelaw14.TrieMany", spec := "trieMany", inPlace := ["slices.overlaps[byte]"], unfollowed := true, recurses := true, named := ["moraine/keccak.constants", "moraine/keccak.walk", "moraine/keccak.turns"], plainKeys := false, apart := false, laid := [("moraine/keccak.constants", laid_moraine_keccak_constants), ("moraine/keccak.walk", laid_moraine_keccak_walk), ("moraine/keccak.turns", laid_moraine_keccak_turns)], narrowed := true }
def TrieManyUptoSaid : Prop := trieManyUptoRow.holds Tryd.pinned (OpenSpec.upto trieManySpec)

end Rows
end Go.Proofs.YtmpfnglcmaollaaDoor
