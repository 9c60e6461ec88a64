/-
  The walk of CodecTakes.
-/
import Derived.Test.YtkphfacodacpkabK
import Derived.Test.YtkphfacodacpkabC
namespace Go.Proofs.Ytkphfacodacpkab
open Go.ChangeShapes Go.WideShapes Go.ChangeAt Go.RowKit

theorem take_t {w : World} {v : Value} {ns : List Nat} (hr : Rd w v (bv ns)) (hb : By ns) (hl : ns.length ≤ 140737488355328) {t1 t2 t3 : Nat} (ht : takeL ns = (t1, t2, t3)) :
    Calls Try.prog 14 #[v] w fun e w' => e = .returned (.tuple #[.int .u64 (t1 : Int), .int .i64 (t2 : Int), .int .i64 (t3 : Int)]) ∧ w' = w := by
  have := take_c hr hb hl
  rw [ht] at this
  exact this
end Go.Proofs.Ytkphfacodacpkab
