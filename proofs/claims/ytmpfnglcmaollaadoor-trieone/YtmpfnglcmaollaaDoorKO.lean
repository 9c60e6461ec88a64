/-
  What the statements are handed: arrays of lanes; the program's tables.
-/
import Derived.Test.YtmpfnglcmaollaaDoorJ16
import Derived.Lib.LaidTab
import Derived.LaidMore
import Derived.Stop.Joined
import Derived.SizedLaws
import Derived.Test.YtmpfnglcmaollaaDoorJ43
namespace Go.Proofs.YtmpfnglcmaollaaDoor
open Go.ChangeShapes Go.WideShapes Go.ChangeAt Go.RowKit Go.Deep

theorem gCon : Tryd.prog.globalNamed "moraine/keccak.constants" = some 0 := by kernel_rfl
theorem gWal : Tryd.prog.globalNamed "moraine/keccak.walk" = some 1 := by kernel_rfl
theorem gTur : Tryd.prog.globalNamed "moraine/keccak.turns" = some 2 := by kernel_rfl
theorem tCon : (Tryd.prog.globals[0]?).map (·.type) = some 175 := by kernel_rfl
theorem tWal : (Tryd.prog.globals[1]?).map (·.type) = some 179 := by kernel_rfl
theorem tTur : (Tryd.prog.globals[2]?).map (·.type) = some 179 := by kernel_rfl
theorem tabs_of {W : World} (h : laidMetH Tryd.prog [("moraine/keccak.constants", Rows.laid_moraine_keccak_constants), ("moraine/keccak.walk", Rows.laid_moraine_keccak_walk), ("moraine/keccak.turns", Rows.laid_moraine_keccak_turns)] W) : Tabs W := by
  rw [MakeChecks.laidMetH_plain _ _ _ (by kernel_rfl)] at h
  obtain ⟨ps, ⟨g0, t0, cs0, f0, p0, q0, hg0, ht0, hv0, hd0, ⟨g1, t1, cs1, f1, p1, q1, hg1, ht1, hv1, hd1, ⟨g2, t2, cs2, f2, p2, q2, hg2, ht2, hv2, hd2, _, _⟩, _⟩, _⟩, _⟩ := h
  obtain rfl := Option.some.inj (gCon.symm.trans hg0)
  obtain rfl := Option.some.inj (gWal.symm.trans hg1)
  obtain rfl := Option.some.inj (gTur.symm.trans hg2)
  obtain rfl := Option.some.inj (tCon.symm.trans ht0)
  obtain rfl := Option.some.inj (tWal.symm.trans ht1)
  obtain rfl := Option.some.inj (tTur.symm.trans ht2)
  have c0 := Lib.cells_of_tab (k := .u64) (zs := constL.map fun n : Nat => (n : Int)) (n := 24) Tryd.underlying175 Tryd.underlying95 (by kernel_rfl) (by kernel_rfl) hd0
  have c1 := Lib.cells_of_tab (k := .u8) (zs := walkL.map fun n : Nat => (n : Int)) (n := 24) Tryd.underlying179 Tryd.underlying5 (by kernel_rfl) (by kernel_rfl) hd1
  have c2 := Lib.cells_of_tab (k := .u8) (zs := turnL.map fun n : Nat => (n : Int)) (n := 24) Tryd.underlying179 Tryd.underlying5 (by kernel_rfl) (by kernel_rfl) hd2
  have at_ : ∀ {name : String} {g : Nat} {cs : Array Value} {k : IntKind} {l : List Nat}, Tryd.prog.globalNamed name = some g → W.var? Tryd.prog name = some cs → cs.toList = (l.map fun n : Nat => (n : Int)).map (fun z => Value.int k z) → ∀ i, i < l.length → W.cell? ⟨g, i, none⟩ = some (.int k (l.getD i 0 : Int)) := by
    intro name g cs k l hg hv hc i hi
    have := World.var?_cell hg hv i
    rw [this, ← Array.getElem?_toList, hc, List.getElem?_map, List.getElem?_map, List.getElem?_eq_getElem hi]
    simp [List.getD_eq_getElem?_getD, List.getElem?_eq_getElem hi]
  refine ⟨fun i hi => ?_, fun i hi => at_ hg1 hv1 c1 i hi, fun i hi => at_ hg2 hv2 c2 i hi⟩
  rw [at_ hg0 hv0 c0 i hi]
  have : ∀ i : Fin 24, (constL.getD i 0) = (rc i).toNat := by decide +kernel
  rw [this ⟨i, hi⟩]
end Go.Proofs.YtmpfnglcmaollaaDoor
