/-
  What the small functions of package disk answer: isNameByte, isName, size, begin, find, beginOn, look, Used.
-/
import Derived.Test.YtilgagmnifbdpaaW
namespace Go.Proofs.Ytilgagmnifbdpaa
open Go.ChangeShapes Go.WideShapes Go.ChangeAt Go.RowKit

/-- The disk's block: its fields, cell by cell. -/
def DB (w : World) (b : Nat) (cap : Int) (m0 m1 : Nat) (pv : Value) (used made cnt fail halt : Int) (down : Bool) : Prop :=
  w.heap[b]? = some (.cells #[.int .i64 cap, .map (some m0), .map (some m1), pv, .int .i64 used, .int .i64 made, .int .i64 cnt, .int .i64 fail, .int .i64 halt, .bool down] 49 (0, 0))
/-- A file's block. -/
def FB (w : World) (b : Nat) (num : Int) (sv uv pv : Value) : Prop :=
  w.heap[b]? = some (.cells #[.int .i64 num, sv, uv, pv] 57 (0, 0))

/-- The bytes that a name may have. -/
def nb (c : Int) : Bool := (decide (97 ≤ c) && decide (c ≤ 122)) || (decide (48 ≤ c) && decide (c ≤ 57)) || c == 46 || c == 45 || c == 95

set_option maxHeartbeats 400000 in
theorem size_c {w : World} {b : Nat} {num : Int} {a : Option Addr} {l c : Nat} {uv pv : Value} (h : FB w b num (.slice a l c) uv pv) :
    Calls Try.prog 18 #[.pointer (some ⟨b, 0, none⟩)] w fun e w' => e = .returned (.int .i64 l) ∧ w' = w := by
  have c1 : w.cell? ⟨b, 1, none⟩ = some (.slice a l c) := by rw [blk_cell h]; rfl
  clear h
  go_enter Try.func18, Try.ntmps18
  go_wp2
  go_ret
  exact ⟨rfl, rfl⟩

theorem ret_bool {a b : Bool} (h : a = b) : Ending.returned (.bool a) = .returned (.bool b) := by rw [h]

set_option maxHeartbeats 400000 in
theorem isNameByte_c (c : Int) (w : World) :
    Calls Try.prog 27 #[.int .u8 c] w fun e w' => e = .returned (.bool (nb c)) ∧ w' = w := by
  go_enter Try.func27, Try.ntmps27
  go_wp2
  all_goals go_ret
  all_goals refine ⟨ret_bool ?_, rfl⟩
  all_goals (simp only [nb, beq_iff_eq, beq_eq_false_iff_ne] at *)
  all_goals (symm; simp; omega)

set_option maxHeartbeats 400000 in
theorem begin_c {w : World} {b m0 m1 : Nat} {cap used made cnt : Int} {pv : Value} (h : DB w b cap m0 m1 pv used made cnt 0 (-1) false) (h0 : 0 ≤ cnt) (h1 : cnt < 1000000) :
    Calls Try.prog 13 #[.pointer (some ⟨b, 0, none⟩)] w fun e w' => e = .returned (.int .i64 0) ∧ DB w' b cap m0 m1 pv used made (cnt + 1) 0 (-1) false ∧ Fr [b] w w' := by
  have c6 : w.cell? ⟨b, 6, none⟩ = some (.int .i64 cnt) := by rw [blk_cell h]; rfl
  have c7 : w.cell? ⟨b, 7, none⟩ = some (.int .i64 0) := by rw [blk_cell h]; rfl
  have c8 : w.cell? ⟨b, 8, none⟩ = some (.int .i64 (-1)) := by rw [blk_cell h]; rfl
  have c9 : w.cell? ⟨b, 9, none⟩ = some (.bool false) := by rw [blk_cell h]; rfl
  have f6 : w.frozen? ⟨b, 6, none⟩ = false := blk_frozen h 6
  have H : Hid (DB w b cap m0 m1 pv used made cnt 0 (-1) false) := h
  clear h
  go_enter Try.func13, Try.ntmps13
  go_wp2
  go_quiet (fail)
  go_wp2
  go_ret
  refine ⟨rfl, ?_, ?_⟩
  · unfold DB; rw [blk_drewN, blk_set H.out]; rfl
  · exact ((Fr.refl _ _).set _ _ (.inl (by simp))).drewN _
end Go.Proofs.Ytilgagmnifbdpaa
