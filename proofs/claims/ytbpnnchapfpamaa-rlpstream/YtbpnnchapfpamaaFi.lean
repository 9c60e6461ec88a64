/-
  What opened and find of package rlp answer.
-/
import Derived.Test.YtbpnnchapfpamaaIt
import Derived.Test.YtbpnnchapfpamaaTE
namespace Go.Proofs.Ytbpnnchapfpamaa
open Go.ChangeShapes Go.WideShapes Go.ChangeAt Go.RowKit

/-- What a first byte says. -/
def Opens (x : Nat) (l : Bool) (s k m : Nat) : Prop := ∀ w : World, Calls Try.prog 37 #[.int .u8 (x : Int)] w fun r w' => r = .returned (.agg #[.bool l, .int .i64 (s : Int), .int .i64 (k : Int), .int .i64 (m : Int)]) ∧ Fr [] w w'

set_option maxRecDepth 20000 in
set_option maxHeartbeats 400000 in
theorem opened_a (x : Nat) (hx : x < 128) : Opens x false 0 0 1 := by
  intro w
  go_enter Try.func37, Try.ntmps37
  go_wp2
  go_returns
  exact ⟨rfl, ((Fr.refl _ _).alloc _).alloc _⟩
set_option maxRecDepth 20000 in
set_option maxHeartbeats 400000 in
theorem opened_b (x m : Nat) (hx : x = 128 + m) (hm : m ≤ 55) : Opens x false 1 0 m := by
  intro w
  subst hx
  rw [show ((128 + m : Nat) : Int) = 128 + (m : Int) by omega]
  have hw2 : IntKind.u8.wrap (128 + (m : Int) - 128) = (m : Int) := by rw [IntKind.wrap_u8]; omega
  go_enter Try.func37, Try.ntmps37
  go_wp2
  all_goals go_returns
  all_goals refine ⟨?_, ((Fr.refl _ _).alloc _).alloc _⟩
  all_goals first | rfl | (rw [(show (m : Int) - 55 = 0 by omega)]; done) | (rw [(show (m : Int) - 55 = 0 by omega)]; rfl) | (exfalso; omega)
set_option maxRecDepth 20000 in
set_option maxHeartbeats 400000 in
theorem opened_c (x k : Nat) (hx : x = 183 + k) (hk : 1 ≤ k) (hk8 : k ≤ 8) : Opens x false 1 k (55 + k) := by
  intro w
  subst hx
  rw [show ((183 + k : Nat) : Int) = 183 + (k : Int) by omega]
  rw [show ((55 + k : Nat) : Int) = 55 + (k : Int) by omega]
  have hw2 : IntKind.u8.wrap (183 + (k : Int) - 128) = (55 + (k : Int)) := by rw [IntKind.wrap_u8]; omega
  go_enter Try.func37, Try.ntmps37
  go_wp2
  all_goals go_returns
  all_goals refine ⟨?_, ((Fr.refl _ _).alloc _).alloc _⟩
  all_goals first | rfl | (rw [(show 55 + (k : Int) - 55 = (k : Int) by omega)]; done) | (rw [(show 55 + (k : Int) - 55 = (k : Int) by omega)]; rfl) | (exfalso; omega)
set_option maxRecDepth 20000 in
set_option maxHeartbeats 400000 in
theorem opened_d (x m : Nat) (hx : x = 192 + m) (hm : m ≤ 55) : Opens x true 1 0 m := by
  intro w
  subst hx
  rw [show ((192 + m : Nat) : Int) = 192 + (m : Int) by omega]
  have hw3 : IntKind.u8.wrap (192 + (m : Int) - 64) = 128 + (m : Int) := by rw [IntKind.wrap_u8]; omega
  have hw2 : IntKind.u8.wrap (128 + (m : Int) - 128) = (m : Int) := by rw [IntKind.wrap_u8]; omega
  go_enter Try.func37, Try.ntmps37
  go_wp2
  all_goals go_returns
  all_goals refine ⟨?_, ((Fr.refl _ _).alloc _).alloc _⟩
  all_goals first | rfl | (rw [(show (m : Int) - 55 = 0 by omega)]; done) | (rw [(show (m : Int) - 55 = 0 by omega)]; rfl) | (exfalso; omega)
set_option maxRecDepth 20000 in
set_option maxHeartbeats 400000 in
theorem opened_e (x k : Nat) (hx : x = 247 + k) (hk : 1 ≤ k) (hk8 : k ≤ 8) : Opens x true 1 k (55 + k) := by
  intro w
  subst hx
  rw [show ((247 + k : Nat) : Int) = 247 + (k : Int) by omega]
  rw [show ((55 + k : Nat) : Int) = 55 + (k : Int) by omega]
  have hw3 : IntKind.u8.wrap (247 + (k : Int) - 64) = 183 + (k : Int) := by rw [IntKind.wrap_u8]; omega
  have hw2 : IntKind.u8.wrap (183 + (k : Int) - 128) = (55 + (k : Int)) := by rw [IntKind.wrap_u8]; omega
  go_enter Try.func37, Try.ntmps37
  go_wp2
  all_goals go_returns
  all_goals refine ⟨?_, ((Fr.refl _ _).alloc _).alloc _⟩
  all_goals first | rfl | (rw [(show 55 + (k : Int) - 55 = (k : Int) by omega)]; done) | (rw [(show 55 + (k : Int) - 55 = (k : Int) by omega)]; rfl) | (exfalso; omega)
end Go.Proofs.Ytbpnnchapfpamaa
