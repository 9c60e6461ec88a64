/-
  How the arguments that a statement hands over are opened: bytes.
-/
import Derived.Test.YtdcocgjlfhicaaaDoorJ02
import Derived.ShutString
import Derived.ChangeOld
import Derived.SizedLaws
import Derived.Deep.Matrix
import Derived.Test.YtdcocgjlfhicaaaDoorKM
import Derived.Lib.LaidTab
import Derived.LaidMore
import Derived.Stop.Joined
namespace Go.Proofs.YtdcocgjlfhicaaaDoor
open Go.ChangeShapes Go.WideShapes Go.ChangeAt Go.RowKit Go.Deep

theorem ownKnobs : ownKnob Tryd.prog.godebug = none := by kernel_rfl
theorem laidOut : laidOutB Tryd.prog = true := by kernel_rfl

theorem nat_of {n : Int} (h : 0 ≤ n) : ∃ m : Nat, n = (m : Int) := ⟨n.toNat, by omega⟩

/-- Bytes that came in. -/
theorem bytes_of {H : Type} {enc : TypeId × Value → H} {W : World} {ua : Option Addr} {len uc : Nat} {d : DataW H} {ps : List MemPlace} (h : DataW.Trod enc Tryd.prog W 0 (fun _ => true) true 22 (.slice ua len uc) d ps)
    (hw : ∀ n ∈ d.weights Tryd.prog 22, n ≤ reachBytes) : ∃ ns : List Nat, ns.length = len ∧ Rd W (.slice ua len uc) (bv ns) ∧ By ns ∧ len ≤ 140737488351232 := by
  obtain ⟨fuel, hf⟩ := h
  rcases open_ints Tryd.underlying22 Tryd.underlying5 (by kernel_rfl) hf with ⟨hcs, _⟩ | ⟨a, l, c, zs, hcs, _, hl, hm, hz, hx, hcell, hwf⟩
  · simp [Value.cells] at hcs
    obtain ⟨rfl, rfl, rfl⟩ := hcs
    exact ⟨[], rfl, .inl ⟨rfl, rfl⟩, fun u hu => by simp at hu, by omega⟩
  · simp [Value.cells] at hcs
    obtain ⟨rfl, rfl, rfl⟩ := hcs
    simp only [Prod.mk.injEq] at hx
    obtain ⟨rfl, _⟩ := hx
    simp only [if_true] at hz
    have hXl : ((zs.take len).map Int.toNat).length = len := by rw [List.length_map, List.length_take]; omega
    have hb : ∀ z ∈ zs, 0 ≤ z ∧ z ≤ 255 := fun z hz' => bounds_u8 (hwf z hz')
    refine ⟨(zs.take len).map Int.toNat, hXl, .inr ⟨a, uc, by rw [bv_len, hXl], by rw [bv_len, hXl]; exact hl, fun j u hj => ?_⟩, fun u hu => ?_, ?_⟩
    · have hjl : j < len := by
        rcases Nat.lt_or_ge j len with h | h
        · exact h
        · rw [List.getElem?_eq_none (by rw [bv_len, hXl]; omega)] at hj; cases hj
      have hjz : j < zs.length := by omega
      rw [hcell j hjz]
      unfold bv at hj
      rw [List.getElem?_map, List.getElem?_map, List.getElem?_take, if_pos hjl, List.getElem?_eq_getElem hjz] at hj
      simp only [Option.map_some, Option.some.injEq] at hj
      rw [← hj]
      have h0 := hb _ (List.getElem_mem hjz)
      simp only [List.getD, List.getElem?_eq_getElem hjz, Option.getD_some, Int.toNat_of_nonneg h0.1]
    · obtain ⟨n, hn, rfl⟩ := List.mem_map.1 hu
      have := hb n (List.mem_of_mem_take hn)
      omega
    · have h1 := hw (uc * Tryd.prog.bytesOf 5) (by
        simp only [DataW.weights, Tryd.underlying22]
        refine List.mem_cons.2 (.inl ?_)
        rw [lits, lits, List.length_map, List.length_map, List.length_take, List.length_drop, hz]
        congr 1; omega)
      rw [show Tryd.prog.bytesOf 5 = 1 from by kernel_rfl] at h1
      unfold reachBytes at h1
      omega
end Go.Proofs.YtdcocgjlfhicaaaDoor
namespace Go.Proofs.YtdcocgjlfhicaaaDoor
open Go.ChangeShapes Go.WideShapes Go.ChangeAt Go.RowKit Go.Deep

theorem gCon : Tryd.prog.globalNamed "moraine/keccak.constants" = some 0 := by kernel_rfl
theorem gWal : Tryd.prog.globalNamed "moraine/keccak.walk" = some 1 := by kernel_rfl
theorem gTur : Tryd.prog.globalNamed "moraine/keccak.turns" = some 2 := by kernel_rfl
theorem tCon : (Tryd.prog.globals[0]?).map (·.type) = some 174 := by kernel_rfl
theorem tWal : (Tryd.prog.globals[1]?).map (·.type) = some 179 := by kernel_rfl
theorem tTur : (Tryd.prog.globals[2]?).map (·.type) = some 179 := by kernel_rfl
theorem tabs_of {W : World} (h : laidMetH Tryd.prog [("moraine/keccak.constants", Rows.laid_moraine_keccak_constants), ("moraine/keccak.walk", Rows.laid_moraine_keccak_walk), ("moraine/keccak.turns", Rows.laid_moraine_keccak_turns)] W) : Tabs W := by
  rw [MakeChecks.laidMetH_plain _ _ _ (by kernel_rfl)] at h
  obtain ⟨ps, ⟨g0, t0, cs0, f0, p0, q0, hg0, ht0, hv0, hd0, ⟨g1, t1, cs1, f1, p1, q1, hg1, ht1, hv1, hd1, ⟨g2, t2, cs2, f2, p2, q2, hg2, ht2, hv2, hd2, _, _⟩, _⟩, _⟩, _⟩ := h
  obtain rfl := Option.some.inj (gCon.symm.trans hg0)
  obtain rfl := Option.some.inj (gWal.symm.trans hg1)
  obtain rfl := Option.some.inj (gTur.symm.trans hg2)
  obtain rfl := Option.some.inj (tCon.symm.trans ht0)
  obtain rfl := Option.some.inj (tWal.symm.trans ht1)
  obtain rfl := Option.some.inj (tTur.symm.trans ht2)
  have c0 := Lib.cells_of_tab (k := .u64) (zs := constL.map fun n : Nat => (n : Int)) (n := 24) Tryd.underlying174 Tryd.underlying75 (by kernel_rfl) (by kernel_rfl) hd0
  have c1 := Lib.cells_of_tab (k := .u8) (zs := walkL.map fun n : Nat => (n : Int)) (n := 24) Tryd.underlying179 Tryd.underlying5 (by kernel_rfl) (by kernel_rfl) hd1
  have c2 := Lib.cells_of_tab (k := .u8) (zs := turnL.map fun n : Nat => (n : Int)) (n := 24) Tryd.underlying179 Tryd.underlying5 (by kernel_rfl) (by kernel_rfl) hd2
  have at_ : ∀ {name : String} {g : Nat} {cs : Array Value} {k : IntKind} {l : List Nat}, Tryd.prog.globalNamed name = some g → W.var? Tryd.prog name = some cs → cs.toList = (l.map fun n : Nat => (n : Int)).map (fun z => Value.int k z) → ∀ i, i < l.length → W.cell? ⟨g, i, none⟩ = some (.int k (l.getD i 0 : Int)) := by
    intro name g cs k l hg hv hc i hi
    have := World.var?_cell hg hv i
    rw [this, ← Array.getElem?_toList, hc, List.getElem?_map, List.getElem?_map, List.getElem?_eq_getElem hi]
    simp [List.getD_eq_getElem?_getD, List.getElem?_eq_getElem hi]
  refine ⟨fun i hi => ?_, fun i hi => at_ hg1 hv1 c1 i hi, fun i hi => at_ hg2 hv2 c2 i hi⟩
  rw [at_ hg0 hv0 c0 i hi]
  have : ∀ i : Fin 24, (constL.getD i 0) = (rc i).toNat := by decide +kernel
  rw [this ⟨i, hi⟩]
end Go.Proofs.YtdcocgjlfhicaaaDoor
