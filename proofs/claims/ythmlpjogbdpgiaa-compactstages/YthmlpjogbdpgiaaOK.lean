/-
  An argument of pairs of bytes, opened.
-/
import Derived.Test.YthmlpjogbdpgiaaJ10
import Derived.Test.YthmlpjogbdpgiaaJ43
namespace Go.Proofs.Ythmlpjogbdpgiaa
open Go.ChangeShapes Go.WideShapes Go.ChangeAt Go.RowKit Go.Deep

theorem list_of {α : Type} {P : Nat → α → Prop} : ∀ (n : Nat), (∀ i, i < n → ∃ k, P i k) → ∃ ks : List α, ks.length = n ∧ ∀ (j : Nat) (k : α), ks[j]? = some k → P j k
  | 0, _ => ⟨[], rfl, fun j k h => by simp at h⟩
  | n + 1, h => by
    obtain ⟨ks, hl, hk⟩ := list_of n fun i hi => h i (by omega)
    obtain ⟨k, h1⟩ := h n (by omega)
    refine ⟨ks ++ [k], by simp [hl], fun j x hx => ?_⟩
    by_cases hj : j < n
    · rw [List.getElem?_append_left (by omega)] at hx
      exact hk j x hx
    · have hj2 : j = n := by
        by_cases hj3 : j = n
        · exact hj3
        · rw [List.getElem?_eq_none (by simp; omega)] at hx; cases hx
      subst hj2
      rw [List.getElem?_append_right (by omega), hl] at hx
      simp at hx
      exact hx ▸ h1

theorem slice_form {H : Type} {enc : TypeId × Value → H} {W : World} {t e : TypeId} {fuel : Nat} {v : Value} {x : DataW H × List MemPlace} (ht : Try.prog.underlying t = some (.slice e)) (h : DataW.trod enc Try.prog W 0 (fun _ => true) true fuel t [v] = some x) :
    ∃ a n c, v = .slice a n c := by
  rcases DataW.trod_slice ht h with ⟨e, _⟩ | ⟨a, len, cap, _, _, _, _, e, _⟩
  · exact ⟨_, _, _, by simpa using e⟩
  · exact ⟨_, _, _, by simpa using e⟩


theorem two_of {α : Type} : ∀ (l : List α), l.length = 2 → ∃ a b, l = [a, b]
  | [a, b], _ => ⟨a, b, rfl⟩
theorem kv_open {H : Type} {enc : TypeId × Value → H} {W : World} {fuel : Nat} {cs : List Value} {d : DataW H} {ps : List MemPlace} (h : DataW.trod enc Try.prog W 0 (fun _ => true) true fuel 50 cs = some (d, ps))
    (hw : ∀ k ∈ d.weights Try.prog 50, k ≤ reachBytes) :
    ∃ (x : List Nat × List Nat) (a0 a1 : Option Addr) (k0 k1 : Nat), cs = [.slice a0 x.1.length k0, .slice a1 x.2.length k1] ∧ Rd W (.slice a0 x.1.length k0) (bv x.1) ∧ Rd W (.slice a1 x.2.length k1) (bv x.2) ∧ By x.1 ∧ By x.2 ∧ x.1.length ≤ 140737488355328 ∧ x.2.length ≤ 140737488355328 := by
  obtain ⟨xs, m, _, hx, hl, hlen, hf⟩ := DataW.trod_struct Try.underlying50 h
  have hl2 : cs.length = 2 := by rw [hl]; kernel_rfl
  have e0 : Try.prog.cellsOf 35 = 1 := by kernel_rfl
  obtain ⟨y0, y1, rfl⟩ := two_of xs hlen
  obtain ⟨c0, c1, rfl⟩ := two_of cs hl2
  simp only [Prod.mk.injEq] at hx
  obtain ⟨rfl, _⟩ := hx
  have h0' : DataW.trod enc Try.prog W 0 (fun _ => true) true m 35 [c0] = some y0 := by simpa [e0] using hf 0 _ rfl
  have h1' : DataW.trod enc Try.prog W 0 (fun _ => true) true m 35 [c1] = some y1 := by simpa [e0] using hf 1 _ rfl
  obtain ⟨a0, n0, k0, rfl⟩ := slice_form Try.underlying35 h0'
  obtain ⟨a1, n1, k1, rfl⟩ := slice_form Try.underlying35 h1'
  obtain ⟨us, hus, hu1, hu2, hu3⟩ := bytes_of (enc := enc) (W := W) (ua := a0) (len := n0) (uc := k0) (d := y0.1) (ps := y0.2) ⟨m, by simpa [Value.cells] using h0'⟩ (fun k hk => hw k (by
    simp only [DataW.weights, DataW.weightsEach, Try.underlying50, List.map_cons, List.map_nil, List.mem_append]
    exact .inl hk))
  obtain ⟨vs, hvs, hv1, hv2, hv3⟩ := bytes_of (enc := enc) (W := W) (ua := a1) (len := n1) (uc := k1) (d := y1.1) (ps := y1.2) ⟨m, by simpa [Value.cells] using h1'⟩ (fun k hk => hw k (by
    simp only [DataW.weights, DataW.weightsEach, Try.underlying50, List.map_cons, List.map_nil, List.mem_append]
    exact .inr (.inl hk)))
  subst hus
  subst hvs
  exact ⟨(us, vs), a0, a1, k0, k1, rfl, hu1, hv1, hu2, hv2, by show us.length ≤ _; omega, by show vs.length ≤ _; omega⟩
theorem kvs_of {H : Type} {enc : TypeId × Value → H} {W : World} {la : Option Addr} {len lc : Nat} {d : DataW H} {ps : List MemPlace} (h : DataW.Trod enc Try.prog W 0 (fun _ => true) true 27 (.slice la len lc) d ps)
    (hw : ∀ k ∈ d.weights Try.prog 27, k ≤ reachBytes) : ∃ ls : Ps, ls.length = len ∧ len ≤ lc ∧ len ≤ 140737488355328 ∧ RdK W (.slice la len lc) ls := by
  obtain ⟨fuel, hf⟩ := h
  rcases open_slice Try.underlying27 (by simpa [Value.cells] using hf) with ⟨e, _⟩ | ⟨a, len', cap, M, n', D, Pl, e, _, hl, hm, hM, hx, hel⟩
  · simp at e
    obtain ⟨rfl, rfl, rfl⟩ := e
    exact ⟨[], rfl, by simp, by simp, RdK.nil W⟩
  · simp at e
    obtain ⟨rfl, rfl, rfl⟩ := e
    simp only [if_true] at hM
    subst hM
    simp only [Prod.mk.injEq] at hx
    obtain ⟨rfl, _⟩ := hx
    have hce : Try.prog.cellsOf 50 = 2 := by kernel_rfl
    have hbe : Try.prog.bytesOf 50 = 48 := by kernel_rfl
    have hlen : len ≤ 140737488355328 := by
      have h1 := hw ((len + (M - len)) * 48) (by
        simp only [DataW.weights, Try.underlying27, hbe, List.length_map, List.length_range]
        exact List.mem_cons.2 (.inl rfl))
      unfold reachBytes at h1
      omega
    have each : ∀ i, i < len → ∃ x : List Nat × List Nat, ∃ (a0 a1 : Option Addr) (k0 k1 : Nat), W.cell? (a.add (i * 2)) = some (.slice a0 x.1.length k0) ∧ W.cell? ((a.add (i * 2)).add 1) = some (.slice a1 x.2.length k1) ∧ Rd W (.slice a0 x.1.length k0) (bv x.1) ∧ Rd W (.slice a1 x.2.length k1) (bv x.2) ∧ By x.1 ∧ By x.2 ∧ x.1.length ≤ 140737488355328 ∧ x.2.length ≤ 140737488355328 := fun i hi => by
      obtain ⟨cs', hc, ht⟩ := hel i (by omega)
      obtain ⟨x, a0, a1, k0, k1, rfl, g⟩ := kv_open ht fun k hk => hw k (by
        simp only [DataW.weights, Try.underlying27]
        exact List.mem_cons_of_mem _ (List.mem_append_left _ (weightsAll_mem (List.mem_map.2 ⟨i, List.mem_range.2 hi, rfl⟩) _ hk)))
      rw [hce] at hc
      obtain ⟨_, _, hcc⟩ := World.cells?_some hc
      have c0 := hcc 0 (by omega)
      have c1 := hcc 1 (by omega)
      exact ⟨x, a0, a1, k0, k1, by simpa [Addr.add] using c0, by simpa using c1, g⟩
    obtain ⟨ks, hkl, hk⟩ := list_of len each
    refine ⟨ks, hkl, by omega, hlen, some a, _, by rw [hkl], by rw [hkl]; omega, fun h0 => ?_⟩
    obtain ⟨kb, ko, spot⟩ := a
    have hspot : spot = none := by
      obtain ⟨x, a0, a1, k0, k1, h1, _⟩ := each 0 (by omega)
      simpa [Addr.add] using World.cell?_spot h1
    subst hspot
    refine ⟨kb, ko, rfl, fun j k hj => ?_⟩
    obtain ⟨a0, a1, k0, k1, c0, c1, g1, g2, g3, g4, g5, g6⟩ := hk j k hj
    simp only [Addr.add_lit] at c0 c1
    exact ⟨a0, k0, a1, k1, c0, c1, g1, g2, g3, g4, g5, g6⟩
end Go.Proofs.Ythmlpjogbdpgiaa
