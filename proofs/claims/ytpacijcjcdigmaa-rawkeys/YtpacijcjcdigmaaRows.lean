/-
  No cell of these rows narrows 'for every input' (looked for: loops, veiled, ifaces, maps, wideKeys, modest, calm, conditions, laid).
  DERIVED. THE GIVEN ROWS OF THIS SEAT. 3 by the template 'for every input the law returns true; each argument reads behind the call as it read before'; 0 by the template 'total and deterministic' (their statements: YtpacijcjcdigmaaTotals.lean).
  GIVEN WITH THE SEED: the statements are not yours to turn. If you find one false, say at which input.
  Laid BY PROGRAM, IN A SANDBOX (cutbox-rows.mjs): the forced cells as the released guide's own fill.sh prints them over the translation e0ad4bf1b28b695e… (all of the seat's roots in one cut). By AI agents, Wed Nov 11 2026. No macro, syntax, notation, axiom, sorry.
-/
import Derived.Test.YtpacijcjcdigmaaChecked
import GoSem.Claim
import GoSem.ClaimJoined
import GoSem.ClaimMapViews
import Derived.JoinedTies
import Derived.KernelRfl
namespace Go.Proofs.Ytpacijcjcdigmaa
/- THE CELL 'sum', in the pinned program and in every row, IS THE sha256 OF THE DUMP (.gsa) THAT YtpacijcjcdigmaaProg.lean LOADS. Nothing in Lean hashes anything: it is a label: what it is worth is what the hold of that sum in a sandbox is worth. -/
noncomputable def Try.pinned : Pinned := { name := "ytpacijcjcdigmaa", sum := "e0ad4bf1b28b695e3753a4db9c16f4baa4f76fb4ce6db45c250f3509ee988005", checked := Try.checked }
namespace Rows
def none {H : Type} : Left H := { results := [], args := [] }

/-- 'morainelaw13.RawApart': WHATEVER THE INPUT: true; the input reads as it did. -/
def rawApartSpec : ChangeSpec := { name := "rawApart", fn := fun _ => fun
  | [d1, d2, d3, d4, d5, d6] => { results := [.lit (.bool true)], args := [d1, d2, d3, d4, d5, d6] }
  | _ => none }
def rawApartRow : OpenClaim := { program := "ytpacijcjcdigmaa", sum := "e0ad4bf1b28b695e3753a4db9c16f4baa4f76fb4ce6db45c250f3509ee988005", func := "moraine/morainelaw13.RawApart", spec := "rawApart", apart := false }
def RawApartSaid : Prop := rawApartRow.holds Try.pinned (OpenSpec.ofChange rawApartSpec)

/-- ITS FALSE NEIGHBOUR: 'it returns false'. Refute it at one input. -/
def rawApartWrong : ChangeSpec := { name := "rawApart", fn := fun _ => fun
  | [d1, d2, d3, d4, d5, d6] => { results := [.lit (.bool false)], args := [d1, d2, d3, d4, d5, d6] }
  | _ => none }
def RawApartWrongFalsely : Prop := rawApartRow.holds Try.pinned (OpenSpec.ofChange rawApartWrong)

/-- 'morainelaw13.RawKeys': WHATEVER THE INPUT: true; the input reads as it did. -/
def rawKeysSpec : ChangeSpec := { name := "rawKeys", fn := fun _ => fun
  | [d1, d2, d3, d4] => { results := [.lit (.bool true)], args := [d1, d2, d3, d4] }
  | _ => none }
def rawKeysRow : OpenClaim := { program := "ytpacijcjcdigmaa", sum := "e0ad4bf1b28b695e3753a4db9c16f4baa4f76fb4ce6db45c250f3509ee988005", func := "moraine/morainelaw13.RawKeys", spec := "rawKeys", apart := false }
def RawKeysSaid : Prop := rawKeysRow.holds Try.pinned (OpenSpec.ofChange rawKeysSpec)

/-- ITS FALSE NEIGHBOUR: 'it returns false'. Refute it at one input. -/
def rawKeysWrong : ChangeSpec := { name := "rawKeys", fn := fun _ => fun
  | [d1, d2, d3, d4] => { results := [.lit (.bool false)], args := [d1, d2, d3, d4] }
  | _ => none }
def RawKeysWrongFalsely : Prop := rawKeysRow.holds Try.pinned (OpenSpec.ofChange rawKeysWrong)

/-- 'morainelaw13.RawParses': WHATEVER THE INPUT: true; the input reads as it did. -/
def rawParsesSpec : ChangeSpec := { name := "rawParses", fn := fun _ => fun
  | [d] => { results := [.lit (.bool true)], args := [d] }
  | _ => none }
def rawParsesRow : OpenClaim := { program := "ytpacijcjcdigmaa", sum := "e0ad4bf1b28b695e3753a4db9c16f4baa4f76fb4ce6db45c250f3509ee988005", func := "moraine/morainelaw13.RawParses", spec := "rawParses", apart := false }
def RawParsesSaid : Prop := rawParsesRow.holds Try.pinned (OpenSpec.ofChange rawParsesSpec)

/-- ITS FALSE NEIGHBOUR: 'it returns false'. Refute it at one input. -/
def rawParsesWrong : ChangeSpec := { name := "rawParses", fn := fun _ => fun
  | [d] => { results := [.lit (.bool false)], args := [d] }
  | _ => none }
def RawParsesWrongFalsely : Prop := rawParsesRow.holds Try.pinned (OpenSpec.ofChange rawParsesWrong)

/- THE SECOND FORM. 'bulk': how many values and letters a reading holds, each counted each time it is reached (what is shared counts as often as it is met; a slice's spare places count too). A statement '..UptoSaid' is the law's where the arguments, and the package variables that the reading takes, are together of bulk at most 1048576: NARROWER than '..Said'. Prove '..Said' where nothing that the law and all that it calls make is longer than what came in: it says more and counts as full. Else prove '..UptoSaid'. A law counts once. -/
mutual
def uptoBulk {H : Type} : DataW H → Nat
  | .lit (.string bytes) => bytes.length + 1
  | .lit _ => 1
  | .nil => 1
  | .ptr d => uptoBulk d + 1
  | .slice elems spare => uptoBulkAll elems + uptoBulkAll spare + 1
  | .agg parts => uptoBulkAll parts + 1
  | .iface _ d => uptoBulk d + 1
  | .map entries => uptoBulkEntries entries + 1
  | .held _ => 1
def uptoBulkAll {H : Type} : List (DataW H) → Nat
  | [] => 0
  | d :: r => uptoBulk d + uptoBulkAll r
def uptoBulkEntries {H : Type} : List (Lit × DataW H) → Nat
  | [] => 0
  | x :: r => uptoBulkEntry x + uptoBulkEntries r
def uptoBulkEntry {H : Type} : Lit × DataW H → Nat
  | (.string bytes, d) => bytes.length + uptoBulk d + 1
  | (_, d) => uptoBulk d + 1
 end
def uptoSmall : (H : Type) → List (DataW H) → Bool := fun _ ds => decide (uptoBulkAll ds ≤ 1048576)
def OpenSpec.upto (s : _root_.Go.ChangeSpec) : _root_.Go.OpenSpec := { _root_.Go.OpenSpec.ofChange s with cond := some uptoSmall }

/-- 'morainelaw13.RawApart', WHERE WHAT IT READS IS OF BULK AT MOST 1048576: true; the input reads as it did. -/
def rawApartUptoRow : OpenClaim := { program := "ytpacijcjcdigmaa", sum := "e0ad4bf1b28b695e3753a4db9c16f4baa4f76fb4ce6db45c250f3509ee988005", func := "moraine/morainelaw13.RawApart", spec := "rawApart", apart := false, narrowed := true }
def RawApartUptoSaid : Prop := rawApartUptoRow.holds Try.pinned (OpenSpec.upto rawApartSpec)

/-- 'morainelaw13.RawKeys', WHERE WHAT IT READS IS OF BULK AT MOST 1048576: true; the input reads as it did. -/
def rawKeysUptoRow : OpenClaim := { program := "ytpacijcjcdigmaa", sum := "e0ad4bf1b28b695e3753a4db9c16f4baa4f76fb4ce6db45c250f3509ee988005", func := "moraine/morainelaw13.RawKeys", spec := "rawKeys", apart := false, narrowed := true }
def RawKeysUptoSaid : Prop := rawKeysUptoRow.holds Try.pinned (OpenSpec.upto rawKeysSpec)

/-- 'morainelaw13.RawParses', WHERE WHAT IT READS IS OF BULK AT MOST 1048576: true; the input reads as it did. -/
def rawParsesUptoRow : OpenClaim := { program := "ytpacijcjcdigmaa", sum := "e0ad4bf1b28b695e3753a4db9c16f4baa4f76fb4ce6db45c250f3509ee988005", func := "moraine/morainelaw13.RawParses", spec := "rawParses", apart := false, narrowed := true }
def RawParsesUptoSaid : Prop := rawParsesUptoRow.holds Try.pinned (OpenSpec.upto rawParsesSpec)

end Rows
end Go.Proofs.Ytpacijcjcdigmaa
