/-
  How the arguments that a statement hands over are opened: bytes.
-/
import Derived.Test.YtmpfnglcmaollaaDoorJ01
import Derived.ShutString
import Derived.ChangeOld
import Derived.SizedLaws
import Derived.Deep.Matrix
import Derived.Test.YtmpfnglcmaollaaDoorJ36
import Derived.Test.YtmpfnglcmaollaaDoorJ19
import Derived.Lib.LaidTab
import Derived.LaidMore
import Derived.Stop.Joined
namespace Go.Proofs.YtmpfnglcmaollaaDoor
open Go.ChangeShapes Go.WideShapes Go.ChangeAt Go.RowKit Go.Deep

theorem ownKnobs : ownKnob Tryd.prog.godebug = none := by kernel_rfl
theorem laidOut : laidOutB Tryd.prog = true := by kernel_rfl

theorem nat_of {n : Int} (h : 0 ≤ n) : ∃ m : Nat, n = (m : Int) := ⟨n.toNat, by omega⟩

/-- Bytes that came in. -/
theorem bytes_of {H : Type} {enc : TypeId × Value → H} {W : World} {ua : Option Addr} {len uc : Nat} {d : DataW H} {ps : List MemPlace} (h : DataW.Trod enc Tryd.prog W 0 (fun _ => true) true 33 (.slice ua len uc) d ps)
    (hw : ∀ n ∈ d.weights Tryd.prog 33, n ≤ reachBytes) : ∃ ns : List Nat, ns.length = len ∧ Rd W (.slice ua len uc) (bv ns) ∧ By ns ∧ len ≤ 140737488351232 := by
  obtain ⟨fuel, hf⟩ := h
  rcases open_ints Tryd.underlying33 Tryd.underlying5 (by kernel_rfl) hf with ⟨hcs, _⟩ | ⟨a, l, c, zs, hcs, _, hl, hm, hz, hx, hcell, hwf⟩
  · simp [Value.cells] at hcs
    obtain ⟨rfl, rfl, rfl⟩ := hcs
    exact ⟨[], rfl, .inl ⟨rfl, rfl⟩, fun u hu => by simp at hu, by omega⟩
  · simp [Value.cells] at hcs
    obtain ⟨rfl, rfl, rfl⟩ := hcs
    simp only [Prod.mk.injEq] at hx
    obtain ⟨rfl, _⟩ := hx
    simp only [if_true] at hz
    have hXl : ((zs.take len).map Int.toNat).length = len := by rw [List.length_map, List.length_take]; omega
    have hb : ∀ z ∈ zs, 0 ≤ z ∧ z ≤ 255 := fun z hz' => bounds_u8 (hwf z hz')
    refine ⟨(zs.take len).map Int.toNat, hXl, .inr ⟨a, uc, by rw [bv_len, hXl], by rw [bv_len, hXl]; exact hl, fun j u hj => ?_⟩, fun u hu => ?_, ?_⟩
    · have hjl : j < len := by
        rcases Nat.lt_or_ge j len with h | h
        · exact h
        · rw [List.getElem?_eq_none (by rw [bv_len, hXl]; omega)] at hj; cases hj
      have hjz : j < zs.length := by omega
      rw [hcell j hjz]
      unfold bv at hj
      rw [List.getElem?_map, List.getElem?_map, List.getElem?_take, if_pos hjl, List.getElem?_eq_getElem hjz] at hj
      simp only [Option.map_some, Option.some.injEq] at hj
      rw [← hj]
      have h0 := hb _ (List.getElem_mem hjz)
      simp only [List.getD, List.getElem?_eq_getElem hjz, Option.getD_some, Int.toNat_of_nonneg h0.1]
    · obtain ⟨n, hn, rfl⟩ := List.mem_map.1 hu
      have := hb n (List.mem_of_mem_take hn)
      omega
    · have h1 := hw (uc * Tryd.prog.bytesOf 5) (by
        simp only [DataW.weights, Tryd.underlying33]
        refine List.mem_cons.2 (.inl ?_)
        rw [lits, lits, List.length_map, List.length_map, List.length_take, List.length_drop, hz]
        congr 1; omega)
      rw [show Tryd.prog.bytesOf 5 = 1 from by kernel_rfl] at h1
      unfold reachBytes at h1
      omega
end Go.Proofs.YtmpfnglcmaollaaDoor
namespace Go.Proofs.YtmpfnglcmaollaaDoor
open Go.ChangeShapes Go.WideShapes Go.ChangeAt Go.RowKit Go.Deep

theorem weightsAll_mem {H : Type} {P : Program} {e : TypeId} : ∀ {ds : List (DataW H)} {d : DataW H}, d ∈ ds → ∀ n ∈ d.weights P e, n ∈ DataW.weightsAll P e ds
  | [], _, h, _, _ => by cases h
  | x :: r, d, h, n, hn => by
    simp only [DataW.weightsAll, List.mem_append]
    rcases List.mem_cons.1 h with rfl | h
    · exact .inl hn
    · exact .inr (weightsAll_mem h n hn)

theorem list_of {α : Type} {P : Nat → α → Prop} : ∀ (n : Nat), (∀ i, i < n → ∃ k, P i k) → ∃ ks : List α, ks.length = n ∧ ∀ (j : Nat) (k : α), ks[j]? = some k → P j k
  | 0, _ => ⟨[], rfl, fun j k h => by simp at h⟩
  | n + 1, h => by
    obtain ⟨ks, hl, hk⟩ := list_of n fun i hi => h i (by omega)
    obtain ⟨k, h1⟩ := h n (by omega)
    refine ⟨ks ++ [k], by simp [hl], fun j x hx => ?_⟩
    by_cases hj : j < n
    · rw [List.getElem?_append_left (by omega)] at hx
      exact hk j x hx
    · have hj2 : j = n := by
        by_cases hj3 : j = n
        · exact hj3
        · rw [List.getElem?_eq_none (by simp; omega)] at hx; cases hx
      subst hj2
      rw [List.getElem?_append_right (by omega), hl] at hx
      simp at hx
      exact hx ▸ h1

theorem slice_form {H : Type} {enc : TypeId × Value → H} {W : World} {t e : TypeId} {fuel : Nat} {v : Value} {x : DataW H × List MemPlace} (ht : Tryd.prog.underlying t = some (.slice e)) (h : DataW.trod enc Tryd.prog W 0 (fun _ => true) true fuel t [v] = some x) :
    ∃ a n c, v = .slice a n c := by
  rcases DataW.trod_slice ht h with ⟨e, _⟩ | ⟨a, len, cap, _, _, _, _, e, _⟩
  · exact ⟨_, _, _, by simpa using e⟩
  · exact ⟨_, _, _, by simpa using e⟩


theorem two_of {α : Type} : ∀ (l : List α), l.length = 2 → ∃ a b, l = [a, b]
  | [a, b], _ => ⟨a, b, rfl⟩
theorem st_open {H : Type} {enc : TypeId × Value → H} {W : World} {fuel : Nat} {cs : List Value} {d : DataW H} {ps : List MemPlace} (h : DataW.trod enc Tryd.prog W 0 (fun _ => true) true fuel 35 cs = some (d, ps))
    (hw : ∀ k ∈ d.weights Tryd.prog 35, k ≤ reachBytes) :
    ∃ (x : List Nat × List Nat) (a0 a1 : Option Addr) (k0 k1 : Nat), cs = [.slice a0 x.1.length k0, .slice a1 x.2.length k1] ∧ Rd W (.slice a0 x.1.length k0) (bv x.1) ∧ Rd W (.slice a1 x.2.length k1) (bv x.2) ∧ By x.1 ∧ By x.2 ∧ x.1.length ≤ 140737488355328 ∧ x.2.length ≤ 140737488355328 := by
  obtain ⟨xs, m, _, hx, hl, hlen, hf⟩ := DataW.trod_struct Tryd.underlying35 h
  have hl2 : cs.length = 2 := by rw [hl]; kernel_rfl
  have e0 : Tryd.prog.cellsOf 33 = 1 := by kernel_rfl
  obtain ⟨y0, y1, rfl⟩ := two_of xs hlen
  obtain ⟨c0, c1, rfl⟩ := two_of cs hl2
  simp only [Prod.mk.injEq] at hx
  obtain ⟨rfl, _⟩ := hx
  have h0' : DataW.trod enc Tryd.prog W 0 (fun _ => true) true m 33 [c0] = some y0 := by simpa [e0] using hf 0 _ rfl
  have h1' : DataW.trod enc Tryd.prog W 0 (fun _ => true) true m 33 [c1] = some y1 := by simpa [e0] using hf 1 _ rfl
  obtain ⟨a0, n0, k0, rfl⟩ := slice_form Tryd.underlying33 h0'
  obtain ⟨a1, n1, k1, rfl⟩ := slice_form Tryd.underlying33 h1'
  obtain ⟨us, hus, hu1, hu2, hu3⟩ := bytes_of (enc := enc) (W := W) (ua := a0) (len := n0) (uc := k0) (d := y0.1) (ps := y0.2) ⟨m, by simpa [Value.cells] using h0'⟩ (fun k hk => hw k (by
    simp only [DataW.weights, DataW.weightsEach, Tryd.underlying35, List.map_cons, List.map_nil, List.mem_append]
    exact .inl hk))
  obtain ⟨vs, hvs, hv1, hv2, hv3⟩ := bytes_of (enc := enc) (W := W) (ua := a1) (len := n1) (uc := k1) (d := y1.1) (ps := y1.2) ⟨m, by simpa [Value.cells] using h1'⟩ (fun k hk => hw k (by
    simp only [DataW.weights, DataW.weightsEach, Tryd.underlying35, List.map_cons, List.map_nil, List.mem_append]
    exact .inr (.inl hk)))
  subst hus
  subst hvs
  exact ⟨(us, vs), a0, a1, k0, k1, rfl, hu1, hv1, hu2, hv2, by show us.length ≤ _; omega, by show vs.length ≤ _; omega⟩
theorem steps_of {H : Type} {enc : TypeId × Value → H} {W : World} {la : Option Addr} {len lc : Nat} {d : DataW H} {ps : List MemPlace} (h : DataW.Trod enc Tryd.prog W 0 (fun _ => true) true 22 (.slice la len lc) d ps)
    (hw : ∀ k ∈ d.weights Tryd.prog 22, k ≤ reachBytes) : ∃ ls : List (List Nat × List Nat), ls.length = len ∧ len ≤ 140737488355328 ∧ RdS W (.slice la len lc) ls := by
  obtain ⟨fuel, hf⟩ := h
  rcases open_slice Tryd.underlying22 (by simpa [Value.cells] using hf) with ⟨e, _⟩ | ⟨a, len', cap, M, n', D, Pl, e, _, hl, hm, hM, hx, hel⟩
  · simp at e
    obtain ⟨rfl, rfl, rfl⟩ := e
    exact ⟨[], rfl, by simp, RdS.nil W⟩
  · simp at e
    obtain ⟨rfl, rfl, rfl⟩ := e
    simp only [if_true] at hM
    subst hM
    simp only [Prod.mk.injEq] at hx
    obtain ⟨rfl, _⟩ := hx
    have hce : Tryd.prog.cellsOf 35 = 2 := by kernel_rfl
    have hbe : Tryd.prog.bytesOf 35 = 48 := by kernel_rfl
    have hlen : len ≤ 140737488355328 := by
      have h1 := hw ((len + (M - len)) * 48) (by
        simp only [DataW.weights, Tryd.underlying22, hbe, List.length_map, List.length_range]
        exact List.mem_cons.2 (.inl rfl))
      unfold reachBytes at h1
      omega
    have each : ∀ i, i < len → ∃ x : List Nat × List Nat, ∃ (a0 a1 : Option Addr) (k0 k1 : Nat), W.cell? (a.add (i * 2)) = some (.slice a0 x.1.length k0) ∧ W.cell? ((a.add (i * 2)).add 1) = some (.slice a1 x.2.length k1) ∧ Rd W (.slice a0 x.1.length k0) (bv x.1) ∧ Rd W (.slice a1 x.2.length k1) (bv x.2) ∧ By x.1 ∧ By x.2 ∧ x.1.length ≤ 140737488355328 ∧ x.2.length ≤ 140737488355328 := fun i hi => by
      obtain ⟨cs', hc, ht⟩ := hel i (by omega)
      obtain ⟨x, a0, a1, k0, k1, rfl, g⟩ := st_open ht fun k hk => hw k (by
        simp only [DataW.weights, Tryd.underlying22]
        exact List.mem_cons_of_mem _ (List.mem_append_left _ (weightsAll_mem (List.mem_map.2 ⟨i, List.mem_range.2 hi, rfl⟩) _ hk)))
      rw [hce] at hc
      obtain ⟨_, _, hcc⟩ := World.cells?_some hc
      have c0 := hcc 0 (by omega)
      have c1 := hcc 1 (by omega)
      exact ⟨x, a0, a1, k0, k1, by simpa [Addr.add] using c0, by simpa using c1, g⟩
    obtain ⟨ks, hkl, hk⟩ := list_of len each
    refine ⟨ks, hkl, hlen, some a, _, by rw [hkl], fun h0 => ?_⟩
    obtain ⟨kb, ko, spot⟩ := a
    have hspot : spot = none := by
      obtain ⟨x, a0, a1, k0, k1, h1, _⟩ := each 0 (by omega)
      simpa [Addr.add] using World.cell?_spot h1
    subst hspot
    refine ⟨kb, ko, rfl, fun j k hj => ?_⟩
    obtain ⟨a0, a1, k0, k1, c0, c1, g1, g2, g3, g4, g5, g6⟩ := hk j k hj
    simp only [Addr.add_lit] at c0 c1
    exact ⟨a0, k0, a1, k1, c0, c1, g1, g2, g3, g4, g5, g6⟩
end Go.Proofs.YtmpfnglcmaollaaDoor
namespace Go.Proofs.YtmpfnglcmaollaaDoor
open Go.ChangeShapes Go.WideShapes Go.ChangeAt Go.RowKit Go.Deep

theorem gCon : Tryd.prog.globalNamed "moraine/keccak.constants" = some 0 := by kernel_rfl
theorem gWal : Tryd.prog.globalNamed "moraine/keccak.walk" = some 1 := by kernel_rfl
theorem gTur : Tryd.prog.globalNamed "moraine/keccak.turns" = some 2 := by kernel_rfl
theorem tCon : (Tryd.prog.globals[0]?).map (·.type) = some 175 := by kernel_rfl
theorem tWal : (Tryd.prog.globals[1]?).map (·.type) = some 179 := by kernel_rfl
theorem tTur : (Tryd.prog.globals[2]?).map (·.type) = some 179 := by kernel_rfl
theorem tabs_of {W : World} (h : laidMetH Tryd.prog [("moraine/keccak.constants", Rows.laid_moraine_keccak_constants), ("moraine/keccak.walk", Rows.laid_moraine_keccak_walk), ("moraine/keccak.turns", Rows.laid_moraine_keccak_turns)] W) : Tabs W := by
  rw [MakeChecks.laidMetH_plain _ _ _ (by kernel_rfl)] at h
  obtain ⟨ps, ⟨g0, t0, cs0, f0, p0, q0, hg0, ht0, hv0, hd0, ⟨g1, t1, cs1, f1, p1, q1, hg1, ht1, hv1, hd1, ⟨g2, t2, cs2, f2, p2, q2, hg2, ht2, hv2, hd2, _, _⟩, _⟩, _⟩, _⟩ := h
  obtain rfl := Option.some.inj (gCon.symm.trans hg0)
  obtain rfl := Option.some.inj (gWal.symm.trans hg1)
  obtain rfl := Option.some.inj (gTur.symm.trans hg2)
  obtain rfl := Option.some.inj (tCon.symm.trans ht0)
  obtain rfl := Option.some.inj (tWal.symm.trans ht1)
  obtain rfl := Option.some.inj (tTur.symm.trans ht2)
  have c0 := Lib.cells_of_tab (k := .u64) (zs := constL.map fun n : Nat => (n : Int)) (n := 24) Tryd.underlying175 Tryd.underlying95 (by kernel_rfl) (by kernel_rfl) hd0
  have c1 := Lib.cells_of_tab (k := .u8) (zs := walkL.map fun n : Nat => (n : Int)) (n := 24) Tryd.underlying179 Tryd.underlying5 (by kernel_rfl) (by kernel_rfl) hd1
  have c2 := Lib.cells_of_tab (k := .u8) (zs := turnL.map fun n : Nat => (n : Int)) (n := 24) Tryd.underlying179 Tryd.underlying5 (by kernel_rfl) (by kernel_rfl) hd2
  have at_ : ∀ {name : String} {g : Nat} {cs : Array Value} {k : IntKind} {l : List Nat}, Tryd.prog.globalNamed name = some g → W.var? Tryd.prog name = some cs → cs.toList = (l.map fun n : Nat => (n : Int)).map (fun z => Value.int k z) → ∀ i, i < l.length → W.cell? ⟨g, i, none⟩ = some (.int k (l.getD i 0 : Int)) := by
    intro name g cs k l hg hv hc i hi
    have := World.var?_cell hg hv i
    rw [this, ← Array.getElem?_toList, hc, List.getElem?_map, List.getElem?_map, List.getElem?_eq_getElem hi]
    simp [List.getD_eq_getElem?_getD, List.getElem?_eq_getElem hi]
  refine ⟨fun i hi => ?_, fun i hi => at_ hg1 hv1 c1 i hi, fun i hi => at_ hg2 hv2 c2 i hi⟩
  rw [at_ hg0 hv0 c0 i hi]
  have : ∀ i : Fin 24, (constL.getD i 0) = (rc i).toNat := by decide +kernel
  rw [this ⟨i, hi⟩]
end Go.Proofs.YtmpfnglcmaollaaDoor
