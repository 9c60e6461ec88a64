/-
  What the reference's Take answers.
-/
import Derived.Test.YtkphfacodacpkabB
namespace Go.Proofs.Ytkphfacodacpkab
open Go.ChangeShapes Go.WideShapes Go.ChangeAt Go.RowKit

theorem ref_val {k m x : Nat} (hk : k ≤ 9) (hm : m < 2 ^ (7 * k)) (h9 : k = 9 → x ≤ 1) :
    IntKind.u64.wrap ((m : Int) + IntKind.u64.wrap ((x : Int) % 128 * 2 ^ (7 * k))) = ((m + x % 128 * 2 ^ (7 * k) : Nat) : Int) := by
  have hlt := shl_lt hk hm h9
  have e : (x : Int) % 128 * 2 ^ (7 * k) = ((x % 128 * 2 ^ (7 * k) : Nat) : Int) := by simp
  rw [e, wrap64_nat (by omega), ← Int.natCast_add, wrap64_nat hlt]
theorem ref_ret {k m x : Nat} (hk : k ≤ 9) (hm : m < 2 ^ (7 * k)) (h9 : k = 9 → x ≤ 1) :
    Ending.returned (.tuple #[.int .u64 (IntKind.u64.wrap ((m : Int) + IntKind.u64.wrap ((x : Int) % 128 * 2 ^ (7 * k)))), .int .i64 ((k : Int) + 1), .int .i64 0]) = .returned (tkv (m + x % 128 * 2 ^ (7 * k), k + 1, 0)) := by
  rw [ref_val hk hm h9]; rfl
theorem ref_ret9 {k m x : Nat} (hk : k = 9) (hm : m < 2 ^ (7 * k)) (h9 : x ≤ 1) :
    Ending.returned (.tuple #[.int .u64 (IntKind.u64.wrap ((m : Int) + (x : Int) % 128 * 9223372036854775808)), .int .i64 10, .int .i64 0]) = .returned (tkv (m + x % 128 * 2 ^ (7 * k), k + 1, 0)) := by
  subst hk
  have hlt := shl_lt (k := 9) (by omega) hm fun _ => h9
  have e : (m : Int) + (x : Int) % 128 * 9223372036854775808 = ((m + x % 128 * 2 ^ (7 * 9) : Nat) : Int) := by simp
  rw [e, wrap64_nat hlt]; rfl

end Go.Proofs.Ytkphfacodacpkab
