/-
  How lists of bytes that a statement hands over are opened, as lists that can be read.
-/
import Derived.Test.YtekcpecofclgiaaLJ
import Derived.Test.YtekcpecofclgiaaRo
namespace Go.Proofs.Ytekcpecofclgiaa
open Go.ChangeShapes Go.WideShapes Go.ChangeAt Go.RowKit Go.Deep

theorem cap_of {H : Type} {enc : TypeId × Value → H} {W : World} {la : Option Addr} {len lc : Nat} {d : DataW H} {ps : List MemPlace} (h : DataW.Trod enc Try.prog W 0 (fun _ => true) true 49 (.slice la len lc) d ps) : len ≤ lc ∧ (la = none → lc = 0 ∧ len = 0) := by
  obtain ⟨fuel, hf⟩ := h
  rcases open_int_rows Try.underlying49 Try.underlying26 Try.underlying5 (by kernel_rfl) (by kernel_rfl) hf with ⟨hcs, _⟩ | ⟨a, len', cap', A, L, C, Z, hcs, _, hl, hm, hx, hrow⟩
  · simp [Value.cells] at hcs
    exact ⟨by omega, fun _ => ⟨hcs.2.2, hcs.2.1⟩⟩
  · simp [Value.cells] at hcs
    obtain ⟨rfl, rfl, rfl⟩ := hcs
    exact ⟨hl, fun h => by cases h⟩
theorem lists_of {H : Type} {enc : TypeId × Value → H} {W : World} {la : Option Addr} {len lc : Nat} {d : DataW H} {ps : List MemPlace} (h : DataW.Trod enc Try.prog W 0 (fun _ => true) true 49 (.slice la len lc) d ps)
    (hw : ∀ n ∈ d.weights Try.prog 49, n ≤ reachBytes) : ∃ rs : List (List Nat), rs.length = len ∧ RdL W (.slice la len lc) rs ∧ len ≤ 9223372036854775807 ∧ len ≤ lc ∧ (la = none → lc = 0 ∧ len = 0) := by
  obtain ⟨h1, A, C, X, h2⟩ := rows2_of h hw
  refine ⟨(List.range len).map X, by simp, ⟨la, lc, by simp, fun h0 => ?_⟩, h1, cap_of h⟩
  obtain ⟨lb, lo, e, h3⟩ := h2 (by simpa using h0)
  refine ⟨lb, lo, e, fun j r hj => ?_⟩
  rw [List.getElem?_map] at hj
  have hjl : j < len := by
    rcases Nat.lt_or_ge j len with h | h
    · exact h
    · rw [List.getElem?_eq_none (by simpa using h)] at hj; cases hj
  rw [List.getElem?_range hjl] at hj
  simp at hj
  subst hj
  obtain ⟨c1, c2, c3, c4⟩ := h3 j hjl
  exact ⟨A j, C j, c1, c2, c3, c4⟩
end Go.Proofs.Ytekcpecofclgiaa
