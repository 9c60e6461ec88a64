/-
  The law of the bytes of an edit, walked behind known.
-/
import Derived.Test.YtckdcaegnbgomaaEK
import Derived.Test.YtckdcaegnbgomaaJ03
namespace Go.Proofs.Ytckdcaegnbgomaa
open Go.ChangeShapes Go.WideShapes Go.ChangeAt Go.RowKit

/-- Equal rows are told equal. -/
theorem bytes_same {w : World} {v1 v2 : Value} {a : List Nat} (h1 : Rd w v1 (bv a)) (h2 : Rd w v2 (bv a)) :
    Calls Try.prog 19 #[v1, v2] w fun e w' => e = .returned (.bool true) ∧ w' = w := by
  have e1 := run_conv h1
  have e2 := run_conv h2
  have e3 : ((strOf a).toList == (strOf a).toList) = true := by rw [beq_str]; simp
  obtain ⟨a1, c1, rfl⟩ := h1.form
  obtain ⟨a2, c2, rfl⟩ := h2.form
  clear h1 h2
  go_enter Try.func19, Try.ntmps19
  go_wp2
  go_ret
  exact ⟨rfl, rfl⟩
set_option maxRecDepth 20000 in
theorem few9_c (w : World) {lg nx sq : Int} {da aa : Option Addr} {dl al dc ac : Nat} :
    Calls Try.prog 7 #[.agg #[.int .i64 lg, .int .i64 nx, .int .u64 sq, .slice da dl dc, .slice aa al ac]] w fun r w' => r = .returned (.bool (decide (dl ≤ 30) && decide (al ≤ 30))) ∧ Fr [] w w' := by
  obtain ⟨W0, hW0⟩ : ∃ W0, W0 = w.alloc (.cells #[.int .i64 lg, .int .i64 nx, .int .u64 sq, .slice da dl dc, .slice aa al ac] 30) := ⟨_, rfl⟩
  have F0 : Hid (Fr [] w W0) := hid (by rw [hW0]; exact (Fr.refl _ _).alloc _)
  have n0 : W0.heap[w.heap.size]? = some (.cells #[.int .i64 lg, .int .i64 nx, .int .u64 sq, .slice da dl dc, .slice aa al ac] 30 (0, 0)) := by rw [hW0]; exact blk_new _ _
  have z3 : W0.cell? ⟨w.heap.size, 3, none⟩ = some (.slice da dl dc) := by rw [blk_cell n0]; rfl
  have z4 : W0.cell? ⟨w.heap.size, 4, none⟩ = some (.slice aa al ac) := by rw [blk_cell n0]; rfl
  clear n0
  by_cases h1 : dl ≤ 30
  · have h1' : (dl : Int) ≤ 30 := by omega
    by_cases h2 : al ≤ 30
    · have h2' : (al : Int) ≤ 30 := by omega
      rw [decide_eq_true h1, decide_eq_true h2]
      go_enter Try.func7, Try.ntmps7
      go_upto_region 1 with fail
      rw [← hW0]
      clear hW0
      go_wp2
      go_ret
      exact ⟨rfl, F0.out⟩
    · have h2' : ¬ (al : Int) ≤ 30 := by omega
      rw [decide_eq_true h1, decide_eq_false h2]
      go_enter Try.func7, Try.ntmps7
      go_upto_region 1 with fail
      rw [← hW0]
      clear hW0
      go_wp2
      go_ret
      exact ⟨rfl, F0.out⟩
  · have h1' : ¬ (dl : Int) ≤ 30 := by omega
    rw [decide_eq_false h1, Bool.false_and]
    go_enter Try.func7, Try.ntmps7
    go_upto_region 1 with fail
    rw [← hW0]
    clear hW0
    go_wp2
    go_ret
    exact ⟨rfl, F0.out⟩
end Go.Proofs.Ytckdcaegnbgomaa
