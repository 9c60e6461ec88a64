/-
  What spend and maps.Clone answer; what Restart leaves of a disk with one file.
-/
import Derived.Test.YtilgagmnifbdpaaJ
import Derived.Laws.Externs
namespace Go.Proofs.Ytilgagmnifbdpaa
open Go.ChangeShapes Go.WideShapes Go.ChangeAt Go.RowKit

theorem run_extClone {w : World} {m : Nat} {es : Array MapEntry} {clk : Nat} (hm : w.heap[m]? = some (.map es clk)) :
    (Extern.MapsClone.clone #[.iface 42 (.map (some m))]).run Try.prog w = .ok (.iface 42 (.map (some w.heap.size))) (w.alloc (.map es clk)) := by
  have e : Extern.MapsClone.clone #[.iface 42 (.map (some m))] = (do
      match ← getObj m with
      | .map a c => pure (Value.iface 42 (.map (some (← newObj (.map a c)))))
      | _ => stuck "maps.clone: a map expected") := rfl
  rw [e]
  simp [run_getObj_at hm, go_sem]
theorem run_assertMap (w : World) (v : Value) : (Instr.typeAssert (.iface 42 v) 20 42 false).run Try.prog w = .ok v w := by
  simp [Instr.typeAssert, run_underlying Try.underlying42, go_sem, Result.andThen]

set_option maxRecDepth 100000 in
set_option maxHeartbeats 400000 in
theorem mapsClone_c {w : World} {m : Nat} {es : Array MapEntry} {clk : Nat} (hm : w.heap[m]? = some (.map es clk)) :
    Calls Try.prog 19 #[.map (some m)] w fun e w' => e = .returned (.map (some w.heap.size)) ∧ w' = w.alloc (.map es clk) := by
  have heq := fun (w : World) (r : Option Nat) => run_eql_map_nil (P := Try.prog) w 42 9 50 r Try.underlying42
  go_enter Try.func19, Try.ntmps19
  go_wp2
  rw [run_callFunc_extern Try.func28 (by kernel_rfl) (by kernel_rfl) (by kernel_rfl) (e := Extern.MapsClone.clone) (by kernel_rfl), run_extClone hm]
  simp only [Result.andThen]
  rw [Oper.upon_value]
  go_wp2
  rw [run_assertMap]
  simp only [Result.andThen]
  rw [Oper.upon_value]
  go_wp2
  go_ret
  exact ⟨rfl, rfl⟩
end Go.Proofs.Ytilgagmnifbdpaa
