/-
  An argument of lists of pairs of bytes, opened.
-/
import Derived.Test.YthmlpjogbdpgiaaOK
import Derived.Test.YthmlpjogbdpgiaaCQ9
namespace Go.Proofs.Ythmlpjogbdpgiaa
open Go.ChangeShapes Go.WideShapes Go.ChangeAt Go.RowKit Go.Deep

theorem kvss_of {H : Type} {enc : TypeId × Value → H} {W : World} {la : Option Addr} {len lc : Nat} {d : DataW H} {ps : List MemPlace} (h : DataW.Trod enc Try.prog W 0 (fun _ => true) true 22 (.slice la len lc) d ps)
    (hw : ∀ k ∈ d.weights Try.prog 22, k ≤ reachBytes) : ∃ LL : List Ps, LL.length = len ∧ len ≤ 140737488355328 ∧ (∀ p ∈ LL, p.length ≤ 140737488355328) ∧ RdLL W (.slice la len lc) LL := by
  obtain ⟨fuel, hf⟩ := h
  rcases open_slice1 Try.underlying22 (by kernel_rfl) (by simpa [Value.cells] using hf) with ⟨e, _⟩ | ⟨a, len', cap, M, n', V, D, Pl, e, _, hl, hm, hM, hx, hel⟩
  · simp at e
    obtain ⟨rfl, rfl, rfl⟩ := e
    exact ⟨[], rfl, by simp, fun p hp => by simp at hp, none, 0, rfl, by simp, fun h0 => by simp at h0⟩
  · simp at e
    obtain ⟨rfl, rfl, rfl⟩ := e
    simp only [if_true] at hM
    subst hM
    simp only [Prod.mk.injEq] at hx
    obtain ⟨rfl, _⟩ := hx
    have hbe : Try.prog.bytesOf 27 = 24 := by kernel_rfl
    have hlen : len ≤ 140737488355328 := by
      have h1 := hw ((len + (M - len)) * 24) (by
        simp only [DataW.weights, Try.underlying22, hbe, List.length_map, List.length_range]
        exact List.mem_cons.2 (.inl rfl))
      unfold reachBytes at h1
      omega
    have each : ∀ i, i < len → ∃ p : Ps, ∃ (ua : Option Addr) (uc : Nat), W.cell? (a.add i) = some (.slice ua p.length uc) ∧ RdK W (.slice ua p.length uc) p ∧ p.length ≤ 140737488355328 := fun i hi => by
      obtain ⟨hc, ht⟩ := hel i (by omega)
      obtain ⟨ua, un, uc, hv⟩ := slice_form Try.underlying27 ht
      rw [hv] at hc ht
      obtain ⟨p, hp, _, hp2, hr⟩ := kvs_of (enc := enc) (W := W) (la := ua) (len := un) (lc := uc) (d := D i) (ps := Pl i) ⟨n', by simpa [Value.cells] using ht⟩ (fun k hk => hw k (by
        simp only [DataW.weights, Try.underlying22]
        exact List.mem_cons_of_mem _ (List.mem_append_left _ (weightsAll_mem (List.mem_map.2 ⟨i, List.mem_range.2 hi, rfl⟩) _ hk))))
      subst hp
      exact ⟨p, ua, uc, hc, hr, hp2⟩
    obtain ⟨LL, hkl, hk⟩ := list_of len each
    refine ⟨LL, hkl, hlen, fun p hp => ?_, some a, _, by rw [hkl], by rw [hkl]; omega, fun h0 => ?_⟩
    · obtain ⟨i, hi⟩ := List.getElem?_of_mem hp
      obtain ⟨_, _, _, _, h3⟩ := hk i p hi
      exact h3
    obtain ⟨kb, ko, spot⟩ := a
    have hspot : spot = none := by
      obtain ⟨x, a0, k0, h1, _⟩ := each 0 (by omega)
      simpa [Addr.add] using World.cell?_spot h1
    subst hspot
    refine ⟨kb, ko, rfl, fun j k hj => ?_⟩
    obtain ⟨ua, uc, c0, g1, _⟩ := hk j k hj
    simp only [Addr.add_lit] at c0
    exact ⟨ua, uc, c0, g1⟩
end Go.Proofs.Ythmlpjogbdpgiaa
namespace Go.Proofs.Ythmlpjogbdpgiaa
open Go.ChangeShapes Go.WideShapes Go.ChangeAt Go.RowKit Go.Deep

theorem span_open {H : Type} {enc : TypeId × Value → H} {W : World} {fuel : Nat} {cs : List Value} {d : DataW H} {ps : List MemPlace} (h : DataW.trod enc Try.prog W 0 (fun _ => true) true fuel 58 cs = some (d, ps))
    (hw : ∀ k ∈ d.weights Try.prog 58, k ≤ reachBytes) :
    ∃ (x : List Nat × List Nat) (a0 a1 : Option Addr) (k0 k1 : Nat), cs = [.slice a0 x.1.length k0, .slice a1 x.2.length k1] ∧ Rd W (.slice a0 x.1.length k0) (bv x.1) ∧ Rd W (.slice a1 x.2.length k1) (bv x.2) ∧ By x.1 ∧ By x.2 ∧ x.1.length ≤ 140737488355328 ∧ x.2.length ≤ 140737488355328 := by
  obtain ⟨xs, m, _, hx, hl, hlen, hf⟩ := DataW.trod_struct Try.underlying58 h
  have hl2 : cs.length = 2 := by rw [hl]; kernel_rfl
  have e0 : Try.prog.cellsOf 35 = 1 := by kernel_rfl
  obtain ⟨y0, y1, rfl⟩ := two_of xs hlen
  obtain ⟨c0, c1, rfl⟩ := two_of cs hl2
  simp only [Prod.mk.injEq] at hx
  obtain ⟨rfl, _⟩ := hx
  have h0' : DataW.trod enc Try.prog W 0 (fun _ => true) true m 35 [c0] = some y0 := by simpa [e0] using hf 0 _ rfl
  have h1' : DataW.trod enc Try.prog W 0 (fun _ => true) true m 35 [c1] = some y1 := by simpa [e0] using hf 1 _ rfl
  obtain ⟨a0, n0, k0, rfl⟩ := slice_form Try.underlying35 h0'
  obtain ⟨a1, n1, k1, rfl⟩ := slice_form Try.underlying35 h1'
  obtain ⟨us, hus, hu1, hu2, hu3⟩ := bytes_of (enc := enc) (W := W) (ua := a0) (len := n0) (uc := k0) (d := y0.1) (ps := y0.2) ⟨m, by simpa [Value.cells] using h0'⟩ (fun k hk => hw k (by
    simp only [DataW.weights, DataW.weightsEach, Try.underlying58, List.map_cons, List.map_nil, List.mem_append]
    exact .inl hk))
  obtain ⟨vs, hvs, hv1, hv2, hv3⟩ := bytes_of (enc := enc) (W := W) (ua := a1) (len := n1) (uc := k1) (d := y1.1) (ps := y1.2) ⟨m, by simpa [Value.cells] using h1'⟩ (fun k hk => hw k (by
    simp only [DataW.weights, DataW.weightsEach, Try.underlying58, List.map_cons, List.map_nil, List.mem_append]
    exact .inr (.inl hk)))
  subst hus
  subst hvs
  exact ⟨(us, vs), a0, a1, k0, k1, rfl, hu1, hv1, hu2, hv2, by show us.length ≤ _; omega, by show vs.length ≤ _; omega⟩
theorem spans_of {H : Type} {enc : TypeId × Value → H} {W : World} {la : Option Addr} {len lc : Nat} {d : DataW H} {ps : List MemPlace} (h : DataW.Trod enc Try.prog W 0 (fun _ => true) true 24 (.slice la len lc) d ps)
    (hw : ∀ k ∈ d.weights Try.prog 24, k ≤ reachBytes) : ∃ ls : Ps, ls.length = len ∧ len ≤ lc ∧ len ≤ 140737488355328 ∧ RdK W (.slice la len lc) ls := by
  obtain ⟨fuel, hf⟩ := h
  rcases open_slice Try.underlying24 (by simpa [Value.cells] using hf) with ⟨e, _⟩ | ⟨a, len', cap, M, n', D, Pl, e, _, hl, hm, hM, hx, hel⟩
  · simp at e
    obtain ⟨rfl, rfl, rfl⟩ := e
    exact ⟨[], rfl, by simp, by simp, RdK.nil W⟩
  · simp at e
    obtain ⟨rfl, rfl, rfl⟩ := e
    simp only [if_true] at hM
    subst hM
    simp only [Prod.mk.injEq] at hx
    obtain ⟨rfl, _⟩ := hx
    have hce : Try.prog.cellsOf 58 = 2 := by kernel_rfl
    have hbe : Try.prog.bytesOf 58 = 48 := by kernel_rfl
    have hlen : len ≤ 140737488355328 := by
      have h1 := hw ((len + (M - len)) * 48) (by
        simp only [DataW.weights, Try.underlying24, hbe, List.length_map, List.length_range]
        exact List.mem_cons.2 (.inl rfl))
      unfold reachBytes at h1
      omega
    have each : ∀ i, i < len → ∃ x : List Nat × List Nat, ∃ (a0 a1 : Option Addr) (k0 k1 : Nat), W.cell? (a.add (i * 2)) = some (.slice a0 x.1.length k0) ∧ W.cell? ((a.add (i * 2)).add 1) = some (.slice a1 x.2.length k1) ∧ Rd W (.slice a0 x.1.length k0) (bv x.1) ∧ Rd W (.slice a1 x.2.length k1) (bv x.2) ∧ By x.1 ∧ By x.2 ∧ x.1.length ≤ 140737488355328 ∧ x.2.length ≤ 140737488355328 := fun i hi => by
      obtain ⟨cs', hc, ht⟩ := hel i (by omega)
      obtain ⟨x, a0, a1, k0, k1, rfl, g⟩ := span_open ht fun k hk => hw k (by
        simp only [DataW.weights, Try.underlying24]
        exact List.mem_cons_of_mem _ (List.mem_append_left _ (weightsAll_mem (List.mem_map.2 ⟨i, List.mem_range.2 hi, rfl⟩) _ hk)))
      rw [hce] at hc
      obtain ⟨_, _, hcc⟩ := World.cells?_some hc
      have c0 := hcc 0 (by omega)
      have c1 := hcc 1 (by omega)
      exact ⟨x, a0, a1, k0, k1, by simpa [Addr.add] using c0, by simpa using c1, g⟩
    obtain ⟨ks, hkl, hk⟩ := list_of len each
    refine ⟨ks, hkl, by omega, hlen, some a, _, by rw [hkl], by rw [hkl]; omega, fun h0 => ?_⟩
    obtain ⟨kb, ko, spot⟩ := a
    have hspot : spot = none := by
      obtain ⟨x, a0, a1, k0, k1, h1, _⟩ := each 0 (by omega)
      simpa [Addr.add] using World.cell?_spot h1
    subst hspot
    refine ⟨kb, ko, rfl, fun j k hj => ?_⟩
    obtain ⟨a0, a1, k0, k1, c0, c1, g1, g2, g3, g4, g5, g6⟩ := hk j k hj
    simp only [Addr.add_lit] at c0 c1
    exact ⟨a0, k0, a1, k1, c0, c1, g1, g2, g3, g4, g5, g6⟩
end Go.Proofs.Ythmlpjogbdpgiaa
namespace Go.Proofs.Ythmlpjogbdpgiaa
open Go.ChangeShapes Go.WideShapes Go.ChangeAt Go.RowKit Go.Deep

theorem nil_cap {H : Type} {enc : TypeId × Value → H} {W : World} {t e : TypeId} {la : Option Addr} {len lc : Nat} {d : DataW H} {ps : List MemPlace} (ht : Try.prog.underlying t = some (.slice e)) (h : DataW.Trod enc Try.prog W 0 (fun _ => true) true t (.slice la len lc) d ps) : la = none → lc = 0 := by
  obtain ⟨fuel, hf⟩ := h
  intro hn
  subst hn
  rcases DataW.trod_slice ht (by simpa [Value.cells] using hf) with ⟨e, _⟩ | ⟨a, len', cap, _, _, _, _, e, _⟩
  · simp at e
    exact e.2
  · simp at e
end Go.Proofs.Ythmlpjogbdpgiaa
