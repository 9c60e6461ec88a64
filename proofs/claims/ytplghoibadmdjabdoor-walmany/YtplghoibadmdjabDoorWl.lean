/-
  What the statements' few and log answer.
-/
import Derived.Test.YtplghoibadmdjabDoorWi
namespace Go.Proofs.YtplghoibadmdjabDoor
open Go.ChangeShapes Go.WideShapes Go.ChangeAt Go.RowKit

/-- The bytes of records together. -/
def sz (rs : List (List Nat)) : Nat := (rs.map List.length).sum
theorem sz_snoc {rs : List (List Nat)} {k : Nat} {r : List Nat} (h : rs[k]? = some r) : sz (rs.take (k + 1)) = sz (rs.take k) + r.length := by
  unfold sz; rw [List.take_add_one, h]; simp
theorem sz_take_le (rs : List (List Nat)) (k : Nat) : sz (rs.take k) ≤ sz rs := by
  have h : sz rs = sz (rs.take k) + sz (rs.drop k) := by
    unfold sz
    rw [← List.sum_append, ← List.map_append, List.take_append_drop]
  omega
theorem sz_mem {rs : List (List Nat)} {r : List Nat} (h : r ∈ rs) : r.length ≤ sz rs := by
  obtain ⟨k, hk⟩ := List.getElem?_of_mem h
  have := sz_snoc hk
  have := sz_take_le rs (k + 1)
  omega

/-- What few tells. -/
def FewT (rs : List (List Nat)) (e : Ending) : Prop := ∃ fb, e = .returned (.bool fb) ∧ (fb = true → rs.length ≤ 30 ∧ sz rs ≤ 3000)
theorem infoN : (Tryd.prog.info? 3).map (fun i => (i.zero, i.size, i.bytes)) = some (some (.int .i64 0), 1, 8) := by kernel_rfl
/-- Numbers as the program's values. -/
def iv (ns : List Nat) : List Value := ns.map fun n : Nat => Value.int .i64 (n : Int)
theorem logL_take {rs : List (List Nat)} {k : Nat} {r : List Nat} (h : rs[k]? = some r) : logL 0 (rs.take (k + 1)) = logL 0 (rs.take k) ++ appL (logL 0 (rs.take k)).length r := by
  rw [List.take_add_one, h]
  show logL 0 (rs.take k ++ [r]) = _
  rw [logL_snoc, Nat.zero_add]
theorem endsL_take {rs : List (List Nat)} {k : Nat} {r : List Nat} (h : rs[k]? = some r) : endsL 0 (rs.take (k + 1)) = endsL 0 (rs.take k) ++ [(logL 0 (rs.take (k + 1))).length] := by
  rw [List.take_add_one, h]
  show endsL 0 (rs.take k ++ [r]) = _
  rw [endsL_snoc, Nat.zero_add]; rfl

end Go.Proofs.YtplghoibadmdjabDoor
