/-
  NARROWER THAN 'FOR EVERY INPUT', by the rows' own cells (each row's printed sentence says how): KeccakSums: laid · KeccakPermutes: laid · KeccakTwo: laid · KeccakApart: laid.
  DERIVED. THE GIVEN ROWS OF THIS SEAT. 4 by the template 'for every input the law returns true; each argument reads behind the call as it read before'; 0 by the template 'total and deterministic' (their statements: YthmjglglbdlieaaDoorTotals.lean).
  GIVEN WITH THE SEED: the statements are not yours to turn. If you find one false, say at which input.
  Laid BY PROGRAM, IN A SANDBOX (cutbox-rows.mjs): the forced cells as the released guide's own fill.sh prints them over the translation dd9dbbeed89f9038… (all of the seat's roots in one cut). By AI agents, Wed Nov 11 2026. No macro, syntax, notation, axiom, sorry.
-/
import Derived.Test.YthmjglglbdlieaaDoorChecked
import GoSem.Claim
import GoSem.ClaimJoined
import GoSem.ClaimMapViews
import Derived.JoinedTies
import Derived.KernelRfl
namespace Go.Proofs.YthmjglglbdlieaaDoor
/- THE CELL 'sum', in the pinned program and in every row, IS THE sha256 OF THE DUMP (.gsa) THAT YthmjglglbdlieaaDoorProg.lean LOADS. Nothing in Lean hashes anything: it is a label: what it is worth is what the hold of that sum in a sandbox is worth. -/
noncomputable def Tryd.pinned : Pinned := { name := "ythmjglglbdlieaadoor", sum := "dd9dbbeed89f9038030c4a41007a24d9c1818dbc5adbc028ad69ba7efad18972", checked := Tryd.checked }
namespace Rows
def none {H : Type} : Left H := { results := [], args := [] }

/- WHAT THE LISTED PACKAGE-LEVEL VARIABLES READ AS WHEN THE CALL BEGINS. Each datum BY PROGRAM (the guide's laid-datum.mjs) off the statement by which the dump's own 'gosem.cut.vars' lays the variable. In a bare row this is a premise. The card (YthmjglglbdlieaaDoorCards.lean) ties it to the program's text. -/
def laid_moraine_keccak_constants {H : Type} : DataW H := .agg [.lit (.int .u64 1), .lit (.int .u64 32898), .lit (.int .u64 9223372036854808714), .lit (.int .u64 9223372039002292224), .lit (.int .u64 32907), .lit (.int .u64 2147483649), .lit (.int .u64 9223372039002292353), .lit (.int .u64 9223372036854808585), .lit (.int .u64 138), .lit (.int .u64 136), .lit (.int .u64 2147516425), .lit (.int .u64 2147483658), .lit (.int .u64 2147516555), .lit (.int .u64 9223372036854775947), .lit (.int .u64 9223372036854808713), .lit (.int .u64 9223372036854808579), .lit (.int .u64 9223372036854808578), .lit (.int .u64 9223372036854775936), .lit (.int .u64 32778), .lit (.int .u64 9223372039002259466), .lit (.int .u64 9223372039002292353), .lit (.int .u64 9223372036854808704), .lit (.int .u64 2147483649), .lit (.int .u64 9223372039002292232)]
def laid_moraine_keccak_walk {H : Type} : DataW H := .agg [.lit (.int .u8 10), .lit (.int .u8 7), .lit (.int .u8 11), .lit (.int .u8 17), .lit (.int .u8 18), .lit (.int .u8 3), .lit (.int .u8 5), .lit (.int .u8 16), .lit (.int .u8 8), .lit (.int .u8 21), .lit (.int .u8 24), .lit (.int .u8 4), .lit (.int .u8 15), .lit (.int .u8 23), .lit (.int .u8 19), .lit (.int .u8 13), .lit (.int .u8 12), .lit (.int .u8 2), .lit (.int .u8 20), .lit (.int .u8 14), .lit (.int .u8 22), .lit (.int .u8 9), .lit (.int .u8 6), .lit (.int .u8 1)]
def laid_moraine_keccak_turns {H : Type} : DataW H := .agg [.lit (.int .u8 1), .lit (.int .u8 3), .lit (.int .u8 6), .lit (.int .u8 10), .lit (.int .u8 15), .lit (.int .u8 21), .lit (.int .u8 28), .lit (.int .u8 36), .lit (.int .u8 45), .lit (.int .u8 55), .lit (.int .u8 2), .lit (.int .u8 14), .lit (.int .u8 27), .lit (.int .u8 41), .lit (.int .u8 56), .lit (.int .u8 8), .lit (.int .u8 25), .lit (.int .u8 43), .lit (.int .u8 62), .lit (.int .u8 18), .lit (.int .u8 39), .lit (.int .u8 61), .lit (.int .u8 20), .lit (.int .u8 44)]

/-- 'morainelaw3.KeccakSums': WHATEVER THE INPUT: true; the input reads as it did. -/
def keccakSumsSpec : ChangeSpec := { name := "keccakSums", fn := fun _ => fun
  | [d1, d2] => { results := [.lit (.bool true)], args := [d1, d2] }
  | _ => none }
def keccakSumsRow : OpenClaim := { program := "ythmjglglbdlieaadoor", sum := "dd9dbbeed89f9038030c4a41007a24d9c1818dbc5adbc028ad69ba7efad18972", func := "moraine/morainelaw3.KeccakSums", spec := "keccakSums", named := ["moraine/keccak.constants", "moraine/keccak.walk", "moraine/keccak.turns"], apart := false, laid := [("moraine/keccak.constants", laid_moraine_keccak_constants), ("moraine/keccak.walk", laid_moraine_keccak_walk), ("moraine/keccak.turns", laid_moraine_keccak_turns)] }
def KeccakSumsSaid : Prop := keccakSumsRow.holds Tryd.pinned (OpenSpec.ofChange keccakSumsSpec)

/-- ITS FALSE NEIGHBOUR: 'it returns false'. Refute it at one input. -/
def keccakSumsWrong : ChangeSpec := { name := "keccakSums", fn := fun _ => fun
  | [d1, d2] => { results := [.lit (.bool false)], args := [d1, d2] }
  | _ => none }
def KeccakSumsWrongFalsely : Prop := keccakSumsRow.holds Tryd.pinned (OpenSpec.ofChange keccakSumsWrong)

/-- 'morainelaw3.KeccakPermutes': WHATEVER THE INPUT: true; the input reads as it did. -/
def keccakPermutesSpec : ChangeSpec := { name := "keccakPermutes", fn := fun _ => fun
  | [d] => { results := [.lit (.bool true)], args := [d] }
  | _ => none }
def keccakPermutesRow : OpenClaim := { program := "ythmjglglbdlieaadoor", sum := "dd9dbbeed89f9038030c4a41007a24d9c1818dbc5adbc028ad69ba7efad18972", func := "moraine/morainelaw3.KeccakPermutes", spec := "keccakPermutes", named := ["moraine/keccak.constants", "moraine/keccak.walk", "moraine/keccak.turns"], apart := false, laid := [("moraine/keccak.constants", laid_moraine_keccak_constants), ("moraine/keccak.walk", laid_moraine_keccak_walk), ("moraine/keccak.turns", laid_moraine_keccak_turns)] }
def KeccakPermutesSaid : Prop := keccakPermutesRow.holds Tryd.pinned (OpenSpec.ofChange keccakPermutesSpec)

/-- ITS FALSE NEIGHBOUR: 'it returns false'. Refute it at one input. -/
def keccakPermutesWrong : ChangeSpec := { name := "keccakPermutes", fn := fun _ => fun
  | [d] => { results := [.lit (.bool false)], args := [d] }
  | _ => none }
def KeccakPermutesWrongFalsely : Prop := keccakPermutesRow.holds Tryd.pinned (OpenSpec.ofChange keccakPermutesWrong)

/-- 'morainelaw3.KeccakTwo': WHATEVER THE INPUT: true; the input reads as it did. -/
def keccakTwoSpec : ChangeSpec := { name := "keccakTwo", fn := fun _ => fun
  | [d] => { results := [.lit (.bool true)], args := [d] }
  | _ => none }
def keccakTwoRow : OpenClaim := { program := "ythmjglglbdlieaadoor", sum := "dd9dbbeed89f9038030c4a41007a24d9c1818dbc5adbc028ad69ba7efad18972", func := "moraine/morainelaw3.KeccakTwo", spec := "keccakTwo", named := ["moraine/keccak.constants", "moraine/keccak.walk", "moraine/keccak.turns"], apart := false, laid := [("moraine/keccak.constants", laid_moraine_keccak_constants), ("moraine/keccak.walk", laid_moraine_keccak_walk), ("moraine/keccak.turns", laid_moraine_keccak_turns)] }
def KeccakTwoSaid : Prop := keccakTwoRow.holds Tryd.pinned (OpenSpec.ofChange keccakTwoSpec)

/-- ITS FALSE NEIGHBOUR: 'it returns false'. Refute it at one input. -/
def keccakTwoWrong : ChangeSpec := { name := "keccakTwo", fn := fun _ => fun
  | [d] => { results := [.lit (.bool false)], args := [d] }
  | _ => none }
def KeccakTwoWrongFalsely : Prop := keccakTwoRow.holds Tryd.pinned (OpenSpec.ofChange keccakTwoWrong)

/-- 'morainelaw3.KeccakApart': WHATEVER THE INPUT: true; the input reads as it did. -/
def keccakApartSpec : ChangeSpec := { name := "keccakApart", fn := fun _ => fun
  | [d1, d2, d3] => { results := [.lit (.bool true)], args := [d1, d2, d3] }
  | _ => none }
def keccakApartRow : OpenClaim := { program := "ythmjglglbdlieaadoor", sum := "dd9dbbeed89f9038030c4a41007a24d9c1818dbc5adbc028ad69ba7efad18972", func := "moraine/morainelaw3.KeccakApart", spec := "keccakApart", named := ["moraine/keccak.constants", "moraine/keccak.walk", "moraine/keccak.turns"], apart := false, laid := [("moraine/keccak.constants", laid_moraine_keccak_constants), ("moraine/keccak.walk", laid_moraine_keccak_walk), ("moraine/keccak.turns", laid_moraine_keccak_turns)] }
def KeccakApartSaid : Prop := keccakApartRow.holds Tryd.pinned (OpenSpec.ofChange keccakApartSpec)

/-- ITS FALSE NEIGHBOUR: 'it returns false'. Refute it at one input. -/
def keccakApartWrong : ChangeSpec := { name := "keccakApart", fn := fun _ => fun
  | [d1, d2, d3] => { results := [.lit (.bool false)], args := [d1, d2, d3] }
  | _ => none }
def KeccakApartWrongFalsely : Prop := keccakApartRow.holds Tryd.pinned (OpenSpec.ofChange keccakApartWrong)

/- THE SECOND FORM. 'bulk': how many values and letters a reading holds, each counted each time it is reached (what is shared counts as often as it is met; a slice's spare places count too). A statement '..UptoSaid' is the law's where the arguments, and the package variables that the reading takes, are together of bulk at most 1048576: NARROWER than '..Said'. Prove '..Said' where nothing that the law and all that it calls make is longer than what came in: it says more and counts as full. Else prove '..UptoSaid'. A law counts once. -/
mutual
def uptoBulk {H : Type} : DataW H → Nat
  | .lit (.string bytes) => bytes.length + 1
  | .lit _ => 1
  | .nil => 1
  | .ptr d => uptoBulk d + 1
  | .slice elems spare => uptoBulkAll elems + uptoBulkAll spare + 1
  | .agg parts => uptoBulkAll parts + 1
  | .iface _ d => uptoBulk d + 1
  | .map entries => uptoBulkEntries entries + 1
  | .held _ => 1
def uptoBulkAll {H : Type} : List (DataW H) → Nat
  | [] => 0
  | d :: r => uptoBulk d + uptoBulkAll r
def uptoBulkEntries {H : Type} : List (Lit × DataW H) → Nat
  | [] => 0
  | x :: r => uptoBulkEntry x + uptoBulkEntries r
def uptoBulkEntry {H : Type} : Lit × DataW H → Nat
  | (.string bytes, d) => bytes.length + uptoBulk d + 1
  | (_, d) => uptoBulk d + 1
 end
def uptoSmall : (H : Type) → List (DataW H) → Bool := fun _ ds => decide (uptoBulkAll ds ≤ 1048576)
def OpenSpec.upto (s : _root_.Go.ChangeSpec) : _root_.Go.OpenSpec := { _root_.Go.OpenSpec.ofChange s with cond := some uptoSmall }

/-- 'morainelaw3.KeccakSums', WHERE WHAT IT READS IS OF BULK AT MOST 1048576: true; the input reads as it did. -/
def keccakSumsUptoRow : OpenClaim := { program := "ythmjglglbdlieaadoor", sum := "dd9dbbeed89f9038030c4a41007a24d9c1818dbc5adbc028ad69ba7efad18972", func := "moraine/morainelaw3.KeccakSums", spec := "keccakSums", named := ["moraine/keccak.constants", "moraine/keccak.walk", "moraine/keccak.turns"], apart := false, laid := [("moraine/keccak.constants", laid_moraine_keccak_constants), ("moraine/keccak.walk", laid_moraine_keccak_walk), ("moraine/keccak.turns", laid_moraine_keccak_turns)], narrowed := true }
def KeccakSumsUptoSaid : Prop := keccakSumsUptoRow.holds Tryd.pinned (OpenSpec.upto keccakSumsSpec)

/-- 'morainelaw3.KeccakPermutes', WHERE WHAT IT READS IS OF BULK AT MOST 1048576: true; the input reads as it did. -/
def keccakPermutesUptoRow : OpenClaim := { program := "ythmjglglbdlieaadoor", sum := "dd9dbbeed89f9038030c4a41007a24d9c1818dbc5adbc028ad69ba7efad18972", func := "moraine/morainelaw3.KeccakPermutes", spec := "keccakPermutes", named := ["moraine/keccak.constants", "moraine/keccak.walk", "moraine/keccak.turns"], apart := false, laid := [("moraine/keccak.constants", laid_moraine_keccak_constants), ("moraine/keccak.walk", laid_moraine_keccak_walk), ("moraine/keccak.turns", laid_moraine_keccak_turns)], narrowed := true }
def KeccakPermutesUptoSaid : Prop := keccakPermutesUptoRow.holds Tryd.pinned (OpenSpec.upto keccakPermutesSpec)

/-- 'morainelaw3.KeccakTwo', WHERE WHAT IT READS IS OF BULK AT MOST 1048576: true; the input reads as it did. -/
def keccakTwoUptoRow : OpenClaim := { program := "ythmjglglbdlieaadoor", sum := "dd9dbbeed89f9038030c4a41007a24d9c1818dbc5adbc028ad69ba7efad18972", func := "moraine/morainelaw3.KeccakTwo", spec := "keccakTwo", named := ["moraine/keccak.constants", "moraine/keccak.walk", "moraine/keccak.turns"], apart := false, laid := [("moraine/keccak.constants", laid_moraine_keccak_constants), ("moraine/keccak.walk", laid_moraine_keccak_walk), ("moraine/keccak.turns", laid_moraine_keccak_turns)], narrowed := true }
def KeccakTwoUptoSaid : Prop := keccakTwoUptoRow.holds Tryd.pinned (OpenSpec.upto keccakTwoSpec)

/-- 'morainelaw3.KeccakApart', WHERE WHAT IT READS IS OF BULK AT MOST 1048576: true; the input reads as it did. -/
def keccakApartUptoRow : OpenClaim := { program := "ythmjglglbdlieaadoor", sum := "dd9dbbeed89f9038030c4a41007a24d9c1818dbc5adbc028ad69ba7efad18972", func := "moraine/morainelaw3.KeccakApart", spec := "keccakApart", named := ["moraine/keccak.constants", "moraine/keccak.walk", "moraine/keccak.turns"], apart := false, laid := [("moraine/keccak.constants", laid_moraine_keccak_constants), ("moraine/keccak.walk", laid_moraine_keccak_walk), ("moraine/keccak.turns", laid_moraine_keccak_turns)], narrowed := true }
def KeccakApartUptoSaid : Prop := keccakApartUptoRow.holds Tryd.pinned (OpenSpec.upto keccakApartSpec)

end Rows
end Go.Proofs.YthmjglglbdlieaaDoor
