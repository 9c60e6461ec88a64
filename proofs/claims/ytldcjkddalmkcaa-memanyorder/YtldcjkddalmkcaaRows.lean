/-
  No cell of these rows narrows 'for every input' (looked for: loops, veiled, ifaces, maps, wideKeys, modest, calm, conditions, laid).
  DERIVED. THE GIVEN ROWS OF THIS SEAT. 4 by the template 'for every input the law returns true; each argument reads behind the call as it read before'; 0 by the template 'total and deterministic' (their statements: YtldcjkddalmkcaaTotals.lean).
  GIVEN WITH THE SEED: the statements are not yours to turn. If you find one false, say at which input.
  Laid BY PROGRAM, IN A SANDBOX (cutbox-rows.mjs): the forced cells as the released guide's own fill.sh prints them over the translation 66a2f12853c4b408… (all of the seat's roots in one cut). By AI agents, Wed Nov 11 2026. No macro, syntax, notation, axiom, sorry.
-/
import Derived.Test.YtldcjkddalmkcaaChecked
import GoSem.Claim
import GoSem.ClaimJoined
import GoSem.ClaimMapViews
import Derived.JoinedTies
import Derived.KernelRfl
namespace Go.Proofs.Ytldcjkddalmkcaa
/- THE CELL 'sum', in the pinned program and in every row, IS THE sha256 OF THE DUMP (.gsa) THAT YtldcjkddalmkcaaProg.lean LOADS. Nothing in Lean hashes anything: it is a label: what it is worth is what the hold of that sum in a sandbox is worth. -/
noncomputable def Try.pinned : Pinned := { name := "ytldcjkddalmkcaa", sum := "66a2f12853c4b40879f22dc5f4cebf527277ba79d3aa7c1ed4a3e4730f50aa49", checked := Try.checked }
namespace Rows
def none {H : Type} : Left H := { results := [], args := [] }

/-- 'morainelaw6.MemPlays': WHATEVER THE INPUT: true; the input reads as it did. -/
def memPlaysSpec : ChangeSpec := { name := "memPlays", fn := fun _ => fun
  | [d1, d2, d3, d4] => { results := [.lit (.bool true)], args := [d1, d2, d3, d4] }
  | _ => none }
def memPlaysRow : OpenClaim := { program := "ytldcjkddalmkcaa", sum := "66a2f12853c4b40879f22dc5f4cebf527277ba79d3aa7c1ed4a3e4730f50aa49", func := "moraine/morainelaw6.MemPlays", spec := "memPlays", inPlace := ["internal/bytealg.Compare"], unfollowed := true, recurses := true, apart := false }
def MemPlaysSaid : Prop := memPlaysRow.holds Try.pinned (OpenSpec.ofChange memPlaysSpec)

/-- ITS FALSE NEIGHBOUR: 'it returns false'. Refute it at one input. -/
def memPlaysWrong : ChangeSpec := { name := "memPlays", fn := fun _ => fun
  | [d1, d2, d3, d4] => { results := [.lit (.bool false)], args := [d1, d2, d3, d4] }
  | _ => none }
def MemPlaysWrongFalsely : Prop := memPlaysRow.holds Try.pinned (OpenSpec.ofChange memPlaysWrong)

/-- 'morainelaw6.MemAnyOrder': WHATEVER THE INPUT: true; the input reads as it did. -/
def memAnyOrderSpec : ChangeSpec := { name := "memAnyOrder", fn := fun _ => fun
  | [d1, d2] => { results := [.lit (.bool true)], args := [d1, d2] }
  | _ => none }
def memAnyOrderRow : OpenClaim := { program := "ytldcjkddalmkcaa", sum := "66a2f12853c4b40879f22dc5f4cebf527277ba79d3aa7c1ed4a3e4730f50aa49", func := "moraine/morainelaw6.MemAnyOrder", spec := "memAnyOrder", inPlace := ["internal/bytealg.Compare"], unfollowed := true, recurses := true, apart := false }
def MemAnyOrderSaid : Prop := memAnyOrderRow.holds Try.pinned (OpenSpec.ofChange memAnyOrderSpec)

/-- ITS FALSE NEIGHBOUR: 'it returns false'. Refute it at one input. -/
def memAnyOrderWrong : ChangeSpec := { name := "memAnyOrder", fn := fun _ => fun
  | [d1, d2] => { results := [.lit (.bool false)], args := [d1, d2] }
  | _ => none }
def MemAnyOrderWrongFalsely : Prop := memAnyOrderRow.holds Try.pinned (OpenSpec.ofChange memAnyOrderWrong)

/-- 'morainelaw6.MemLevels': WHATEVER THE INPUT: true; the input reads as it did. -/
def memLevelsSpec : ChangeSpec := { name := "memLevels", fn := fun _ => fun
  | [d1, d2] => { results := [.lit (.bool true)], args := [d1, d2] }
  | _ => none }
def memLevelsRow : OpenClaim := { program := "ytldcjkddalmkcaa", sum := "66a2f12853c4b40879f22dc5f4cebf527277ba79d3aa7c1ed4a3e4730f50aa49", func := "moraine/morainelaw6.MemLevels", spec := "memLevels", inPlace := ["internal/bytealg.Compare"], unfollowed := true, recurses := true, apart := false }
def MemLevelsSaid : Prop := memLevelsRow.holds Try.pinned (OpenSpec.ofChange memLevelsSpec)

/-- ITS FALSE NEIGHBOUR: 'it returns false'. Refute it at one input. -/
def memLevelsWrong : ChangeSpec := { name := "memLevels", fn := fun _ => fun
  | [d1, d2] => { results := [.lit (.bool false)], args := [d1, d2] }
  | _ => none }
def MemLevelsWrongFalsely : Prop := memLevelsRow.holds Try.pinned (OpenSpec.ofChange memLevelsWrong)

/-- 'morainelaw6.MemLast': WHATEVER THE INPUT: true; the input reads as it did. -/
def memLastSpec : ChangeSpec := { name := "memLast", fn := fun _ => fun
  | [d1, d2] => { results := [.lit (.bool true)], args := [d1, d2] }
  | _ => none }
def memLastRow : OpenClaim := { program := "ytldcjkddalmkcaa", sum := "66a2f12853c4b40879f22dc5f4cebf527277ba79d3aa7c1ed4a3e4730f50aa49", func := "moraine/morainelaw6.MemLast", spec := "memLast", inPlace := ["internal/bytealg.Compare"], unfollowed := true, recurses := true, apart := false }
def MemLastSaid : Prop := memLastRow.holds Try.pinned (OpenSpec.ofChange memLastSpec)

/-- ITS FALSE NEIGHBOUR: 'it returns false'. Refute it at one input. -/
def memLastWrong : ChangeSpec := { name := "memLast", fn := fun _ => fun
  | [d1, d2] => { results := [.lit (.bool false)], args := [d1, d2] }
  | _ => none }
def MemLastWrongFalsely : Prop := memLastRow.holds Try.pinned (OpenSpec.ofChange memLastWrong)

/- THE SECOND FORM. 'bulk': how many values and letters a reading holds, each counted each time it is reached (what is shared counts as often as it is met; a slice's spare places count too). A statement '..UptoSaid' is the law's where the arguments, and the package variables that the reading takes, are together of bulk at most 1048576: NARROWER than '..Said'. Prove '..Said' where nothing that the law and all that it calls make is longer than what came in: it says more and counts as full. Else prove '..UptoSaid'. A law counts once. -/
mutual
def uptoBulk {H : Type} : DataW H → Nat
  | .lit (.string bytes) => bytes.length + 1
  | .lit _ => 1
  | .nil => 1
  | .ptr d => uptoBulk d + 1
  | .slice elems spare => uptoBulkAll elems + uptoBulkAll spare + 1
  | .agg parts => uptoBulkAll parts + 1
  | .iface _ d => uptoBulk d + 1
  | .map entries => uptoBulkEntries entries + 1
  | .held _ => 1
def uptoBulkAll {H : Type} : List (DataW H) → Nat
  | [] => 0
  | d :: r => uptoBulk d + uptoBulkAll r
def uptoBulkEntries {H : Type} : List (Lit × DataW H) → Nat
  | [] => 0
  | x :: r => uptoBulkEntry x + uptoBulkEntries r
def uptoBulkEntry {H : Type} : Lit × DataW H → Nat
  | (.string bytes, d) => bytes.length + uptoBulk d + 1
  | (_, d) => uptoBulk d + 1
 end
def uptoSmall : (H : Type) → List (DataW H) → Bool := fun _ ds => decide (uptoBulkAll ds ≤ 1048576)
def OpenSpec.upto (s : _root_.Go.ChangeSpec) : _root_.Go.OpenSpec := { _root_.Go.OpenSpec.ofChange s with cond := some uptoSmall }

/-- 'morainelaw6.MemPlays', WHERE WHAT IT READS IS OF BULK AT MOST 1048576: true; the input reads as it did. -/
def memPlaysUptoRow : OpenClaim := { program := "ytldcjkddalmkcaa", sum := "66a2f12853c4b40879f22dc5f4cebf527277ba79d3aa7c1ed4a3e4730f50aa49", func := "moraine/morainelaw6.MemPlays", spec := "memPlays", inPlace := ["internal/bytealg.Compare"], unfollowed := true, recurses := true, apart := false, narrowed := true }
def MemPlaysUptoSaid : Prop := memPlaysUptoRow.holds Try.pinned (OpenSpec.upto memPlaysSpec)

/-- 'morainelaw6.MemAnyOrder', WHERE WHAT IT READS IS OF BULK AT MOST 1048576: true; the input reads as it did. -/
def memAnyOrderUptoRow : OpenClaim := { program := "ytldcjkddalmkcaa", sum := "66a2f12853c4b40879f22dc5f4cebf527277ba79d3aa7c1ed4a3e4730f50aa49", func := "moraine/morainelaw6.MemAnyOrder", spec := "memAnyOrder", inPlace := ["internal/bytealg.Compare"], unfollowed := true, recurses := true, apart := false, narrowed := true }
def MemAnyOrderUptoSaid : Prop := memAnyOrderUptoRow.holds Try.pinned (OpenSpec.upto memAnyOrderSpec)

/-- 'morainelaw6.MemLevels', WHERE WHAT IT READS IS OF BULK AT MOST 1048576: true; the input reads as it did. -/
def memLevelsUptoRow : OpenClaim := { program := "ytldcjkddalmkcaa", sum := "66a2f12853c4b40879f22dc5f4cebf527277ba79d3aa7c1ed4a3e4730f50aa49", func := "moraine/morainelaw6.MemLevels", spec := "memLevels", inPlace := ["internal/bytealg.Compare"], unfollowed := true, recurses := true, apart := false, narrowed := true }
def MemLevelsUptoSaid : Prop := memLevelsUptoRow.holds Try.pinned (OpenSpec.upto memLevelsSpec)

/-- 'morainelaw6.MemLast', WHERE WHAT IT READS IS OF BULK AT MOST 1048576: true; the input reads as it did. -/
def memLastUptoRow : OpenClaim := { program := "ytldcjkddalmkcaa", sum := "66a2f12853c4b40879f22dc5f4cebf527277ba79d3aa7c1ed4a3e4730f50aa49", func := "moraine/morainelaw6.MemLast", spec := "memLast", inPlace := ["internal/bytealg.Compare"], unfollowed := true, recurses := true, apart := false, narrowed := true }
def MemLastUptoSaid : Prop := memLastUptoRow.holds Try.pinned (OpenSpec.upto memLastSpec)

end Rows
end Go.Proofs.Ytldcjkddalmkcaa
