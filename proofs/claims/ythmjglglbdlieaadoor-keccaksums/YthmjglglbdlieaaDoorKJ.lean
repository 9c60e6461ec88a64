/-
  How ints and lists of lists of bytes that a statement hands over are opened.
-/
import Derived.Test.YthmjglglbdlieaaDoorOp
import Derived.Test.YthmjglglbdlieaaDoorLS
namespace Go.Proofs.YthmjglglbdlieaaDoor
open Go.ChangeShapes Go.WideShapes Go.ChangeAt Go.RowKit Go.Deep

theorem ints_of {H : Type} {enc : TypeId × Value → H} {W : World} {na : Option Addr} {ln nc : Nat} {d : DataW H} {ps : List MemPlace} (h : DataW.Trod enc Tryd.prog W 0 (fun _ => true) true 23 (.slice na ln nc) d ps) :
    ∃ Y, Ints W na ln Y ∧ ln ≤ 9223372036854775807 := by
  obtain ⟨fuel, hf⟩ := h
  rcases open_ints Tryd.underlying23 Tryd.underlying3 (by kernel_rfl) hf with ⟨hcs, _⟩ | ⟨a, l, c, zs, hcs, _, hl, hm, hz, hx, hcell, hwf⟩
  · simp [Value.cells] at hcs
    obtain ⟨rfl, rfl, rfl⟩ := hcs
    exact ⟨fun _ => 0, fun h => by omega, by omega⟩
  · simp [Value.cells] at hcs
    obtain ⟨rfl, rfl, rfl⟩ := hcs
    simp only [if_true] at hz
    refine ⟨fun r => zs.getD r 0, fun hpos => ?_, by unfold maxLen at hm; omega⟩
    obtain ⟨nb, no, spot⟩ := a
    have hspot : spot = none := by
      have := hcell 0 (by omega)
      simpa [Addr.add] using World.cell?_spot this
    subst hspot
    refine ⟨nb, no, rfl, fun r hr => ?_⟩
    have h1 := hcell r (by omega)
    rwa [Addr.add_lit] at h1
end Go.Proofs.YthmjglglbdlieaaDoor
