/-
  How items that a statement hands over are opened: to whatever depth.
-/
import Derived.Test.YtldhcdmoenoopaaIt
import Derived.Test.YtldhcdmoenoopaaJ30
import Derived.Deep.Strs
namespace Go.Proofs.Ytldhcdmoenoopaa
open Go.ChangeShapes Go.WideShapes Go.ChangeAt Go.RowKit Go.Deep

theorem list_of {α : Type} {P : Nat → α → Prop} : ∀ (n : Nat), (∀ i, i < n → ∃ k, P i k) → ∃ ks : List α, ks.length = n ∧ ∀ (j : Nat) (k : α), ks[j]? = some k → P j k
  | 0, _ => ⟨[], rfl, fun j k h => by simp at h⟩
  | n + 1, h => by
    obtain ⟨ks, hl, hk⟩ := list_of n fun i hi => h i (by omega)
    obtain ⟨k, h1⟩ := h n (by omega)
    refine ⟨ks ++ [k], by simp [hl], fun j x hx => ?_⟩
    by_cases hj : j < n
    · rw [List.getElem?_append_left (by omega)] at hx
      exact hk j x hx
    · have hj2 : j = n := by
        by_cases hj3 : j = n
        · exact hj3
        · rw [List.getElem?_eq_none (by simp; omega)] at hx; cases hx
      subst hj2
      rw [List.getElem?_append_right (by omega), hl] at hx
      simp at hx
      exact hx ▸ h1

theorem slice_form {H : Type} {enc : TypeId × Value → H} {W : World} {t e : TypeId} {fuel : Nat} {v : Value} {x : DataW H × List MemPlace} (ht : Try.prog.underlying t = some (.slice e)) (h : DataW.trod enc Try.prog W 0 (fun _ => true) true fuel t [v] = some x) :
    ∃ a n c, v = .slice a n c := by
  rcases DataW.trod_slice ht h with ⟨e, _⟩ | ⟨a, len, cap, _, _, _, _, e, _⟩
  · exact ⟨_, _, _, by simpa using e⟩
  · exact ⟨_, _, _, by simpa using e⟩

theorem item_open {H : Type} {enc : TypeId × Value → H} {W : World} {fuel : Nat} {cs : List Value} {d : DataW H} {ps : List MemPlace} (h : DataW.trod enc Try.prog W 0 (fun _ => true) true fuel 25 cs = some (d, ps))
    (hw : ∀ k ∈ d.weights Try.prog 25, k ≤ reachBytes) :
    ∃ l v1 v2 d1 p1 d2 p2 m, cs = [.bool l, v1, v2] ∧ DataW.trod enc Try.prog W 0 (fun _ => true) true m 22 [v1] = some (d1, p1) ∧ (∀ k ∈ DataW.weights Try.prog 22 d1, k ≤ reachBytes) ∧
      DataW.trod enc Try.prog W 0 (fun _ => true) true m 23 [v2] = some (d2, p2) ∧ (∀ k ∈ DataW.weights Try.prog 23 d2, k ≤ reachBytes) := by
  obtain ⟨y0, y1, y2, m, hx, hl, h0, h1, h2⟩ := trod_struct3 Try.underlying25 h
  have hl3 : cs.length = 3 := by rw [hl]; kernel_rfl
  have e0 : Try.prog.cellsOf 4 = 1 := by kernel_rfl
  have e1 : Try.prog.cellsOf 22 = 1 := by kernel_rfl
  have e2 : Try.prog.cellsOf 23 = 1 := by kernel_rfl
  match cs, hl3 with
  | [c0, c1, c2], _ =>
    simp only [Prod.mk.injEq] at hx
    obtain ⟨rfl, _⟩ := hx
    have h0' : DataW.trod enc Try.prog W 0 (fun _ => true) true m 4 [c0] = some y0 := by simpa [e0] using h0
    have h1' : DataW.trod enc Try.prog W 0 (fun _ => true) true m 22 [c1] = some y1 := by simpa [e1] using h1
    have h2' : DataW.trod enc Try.prog W 0 (fun _ => true) true m 23 [c2] = some y2 := by simpa [e2] using h2
    obtain ⟨l, e, _⟩ := DataW.trod_bool Try.underlying4 h0'
    simp at e
    subst e
    refine ⟨l, c1, c2, y1.1, y1.2, y2.1, y2.2, m, rfl, h1', fun k hk => hw k ?_, h2', fun k hk => hw k ?_⟩
    · simp only [DataW.weights, DataW.weightsEach, Try.underlying25, List.map_cons, List.map_nil, List.mem_append]
      exact .inr (.inl hk)
    · simp only [DataW.weights, DataW.weightsEach, Try.underlying25, List.map_cons, List.map_nil, List.mem_append]
      exact .inr (.inr (.inl hk))

/-- A row of items that came in, as deep as it is looked at; what one of them is comes from outside. -/
theorem row_of {H : Type} {enc : TypeId × Value → H} {W : World} {n : Nat}
    (ih : ∀ {fuel : Nat} {cs : List Value} {d : DataW H} {ps : List MemPlace}, DataW.trod enc Try.prog W 0 (fun _ => true) true fuel 25 cs = some (d, ps) → (∀ k ∈ d.weights Try.prog 25, k ≤ reachBytes) →
      ∃ l v1 v2, ∃ t : Tr n, cs = [.bool l, v1, v2] ∧ IsV W n (.agg #[.bool l, v1, v2]) t)
    {fuel : Nat} {v : Value} {d : DataW H} {ps : List MemPlace} (h : DataW.trod enc Try.prog W 0 (fun _ => true) true fuel 23 [v] = some (d, ps)) (hw : ∀ k ∈ d.weights Try.prog 23, k ≤ reachBytes) :
    ∃ (ks : List (Tr n)) (ka : Option Addr) (kc : Nat), v = .slice ka ks.length kc ∧ ks.length ≤ kc ∧ ks.length ≤ 140737488355328 ∧
      (0 < ks.length → ∃ kb ko, ka = some ⟨kb, ko, none⟩ ∧ ∀ (j : Nat) (k : Tr n), ks[j]? = some k → ∃ l bs' is', W.cell? ⟨kb, ko + j * 3, none⟩ = some (.bool l) ∧ W.cell? ⟨kb, ko + j * 3 + 1, none⟩ = some bs' ∧ W.cell? ⟨kb, ko + j * 3 + 2, none⟩ = some is' ∧ IsV W n (.agg #[.bool l, bs', is']) k) := by
  rcases open_slice Try.underlying23 h with ⟨e, _⟩ | ⟨a, len, cap, M, n', D, Pl, e, _, hl, hm, hM, hx, hel⟩
  · simp at e
    subst e
    exact ⟨[], none, 0, rfl, by simp, by simp, fun h0 => by simp at h0⟩
  · simp at e
    subst e
    simp only [if_true] at hM
    subst hM
    simp only [Prod.mk.injEq] at hx
    obtain ⟨rfl, _⟩ := hx
    have hce : Try.prog.cellsOf 25 = 3 := by kernel_rfl
    have hbe : Try.prog.bytesOf 25 = 56 := by kernel_rfl
    have hlen : len ≤ 140737488355328 := by
      have h1 := hw ((len + (M - len)) * 56) (by
        simp only [DataW.weights, Try.underlying23, hbe, List.length_map, List.length_range]
        exact List.mem_cons.2 (.inl rfl))
      unfold reachBytes at h1
      omega
    have each : ∀ i, i < len → ∃ k : Tr n, ∃ l bs' is', W.cell? (a.add (i * 3)) = some (.bool l) ∧ W.cell? ((a.add (i * 3)).add 1) = some bs' ∧ W.cell? ((a.add (i * 3)).add 2) = some is' ∧ IsV W n (.agg #[.bool l, bs', is']) k := fun i hi => by
      obtain ⟨cs', hc, ht⟩ := hel i (by omega)
      obtain ⟨l, v1, v2, t, rfl, hv⟩ := ih ht fun k hk => hw k (by
        simp only [DataW.weights, Try.underlying23]
        exact List.mem_cons_of_mem _ (List.mem_append_left _ (weightsAll_mem (List.mem_map.2 ⟨i, List.mem_range.2 hi, rfl⟩) _ hk)))
      rw [hce] at hc
      obtain ⟨_, _, hcc⟩ := World.cells?_some hc
      have c0 := hcc 0 (by omega)
      have c1 := hcc 1 (by omega)
      have c2 := hcc 2 (by omega)
      exact ⟨t, l, v1, v2, by simpa [Addr.add] using c0, by simpa using c1, by simpa using c2, hv⟩
    obtain ⟨ks, hkl, hk⟩ := list_of len each
    refine ⟨ks, some a, M, by rw [hkl], by omega, by omega, fun h0 => ?_⟩
    obtain ⟨kb, ko, spot⟩ := a
    have hspot : spot = none := by
      obtain ⟨k, l, _, _, h1, _⟩ := each 0 (by omega)
      simpa [Addr.add] using World.cell?_spot h1
    subst hspot
    refine ⟨kb, ko, rfl, fun j k hj => ?_⟩
    obtain ⟨l, b', i', c0, c1, c2, c3⟩ := hk j k hj
    simp only [Addr.add_lit] at c0 c1 c2
    exact ⟨l, b', i', c0, c1, c2, c3⟩

/-- An item that came in, as deep as it is looked at. -/
theorem item_of {H : Type} {enc : TypeId × Value → H} {W : World} : ∀ (n : Nat) {fuel : Nat} {cs : List Value} {d : DataW H} {ps : List MemPlace}, DataW.trod enc Try.prog W 0 (fun _ => true) true fuel 25 cs = some (d, ps) → (∀ k ∈ d.weights Try.prog 25, k ≤ reachBytes) →
    ∃ l v1 v2, ∃ t : Tr n, cs = [.bool l, v1, v2] ∧ IsV W n (.agg #[.bool l, v1, v2]) t := by
  intro n
  induction n with
  | zero =>
    intro fuel cs d ps h hw
    obtain ⟨l, v1, v2, d1, p1, d2, p2, m, rfl, h1, _, h2, _⟩ := item_open h hw
    obtain ⟨a1, n1, c1, rfl⟩ := slice_form Try.underlying22 h1
    obtain ⟨a2, n2, c2, rfl⟩ := slice_form Try.underlying23 h2
    exact ⟨l, _, _, (), rfl, l, a1, n1, c1, a2, n2, c2, rfl⟩
  | succ n ih =>
    intro fuel cs d ps h hw
    obtain ⟨l, v1, v2, d1, p1, d2, p2, m, rfl, h1, hw1, h2, hw2⟩ := item_open h hw
    obtain ⟨a1, n1, c1, rfl⟩ := slice_form Try.underlying22 h1
    obtain ⟨ns, hns, hrd, hby, hn1⟩ := bytes_of (enc := enc) (W := W) (ua := a1) (len := n1) (uc := c1) (d := d1) (ps := p1) ⟨m, by simpa [Value.cells] using h1⟩ hw1
    obtain ⟨ks, ka, kc, rfl, hk1, hk2, hk3⟩ := row_of ih h2 hw2
    refine ⟨l, _, _, mkT l ns ks, rfl, .slice a1 n1 c1, ka, kc, rfl, hrd, hby, ?_, hk1, hk2, hk3⟩
    rw [tB_mk, hns]; omega

/-- A row of items that came in. -/
theorem items_of {H : Type} {enc : TypeId × Value → H} {W : World} (n : Nat) {la : Option Addr} {len lc : Nat} {d : DataW H} {ps : List MemPlace} (h : DataW.Trod enc Try.prog W 0 (fun _ => true) true 23 (.slice la len lc) d ps)
    (hw : ∀ k ∈ d.weights Try.prog 23, k ≤ reachBytes) :
    ∃ ks : List (Tr n), ks.length = len ∧ len ≤ lc ∧ len ≤ 140737488355328 ∧
      (0 < len → ∃ kb ko, la = some ⟨kb, ko, none⟩ ∧ ∀ (j : Nat) (k : Tr n), ks[j]? = some k → ∃ l bs' is', W.cell? ⟨kb, ko + j * 3, none⟩ = some (.bool l) ∧ W.cell? ⟨kb, ko + j * 3 + 1, none⟩ = some bs' ∧ W.cell? ⟨kb, ko + j * 3 + 2, none⟩ = some is' ∧ IsV W n (.agg #[.bool l, bs', is']) k) := by
  obtain ⟨fuel, hf⟩ := h
  obtain ⟨ks, ka, kc, e, h1, h2, h3⟩ := row_of (item_of n) (by simpa [Value.cells] using hf) hw
  simp only [Value.slice.injEq] at e
  obtain ⟨rfl, rfl, rfl⟩ := e
  exact ⟨ks, rfl, h1, h2, h3⟩

/-- An item that came in as an argument. -/
theorem item_arg {H : Type} {enc : TypeId × Value → H} {W : World} (n : Nat) {x y z : Value} {d : DataW H} {ps : List MemPlace} (h : DataW.Trod enc Try.prog W 0 (fun _ => true) true 25 (.agg #[x, y, z]) d ps)
    (hw : ∀ k ∈ d.weights Try.prog 25, k ≤ reachBytes) : ∃ l, x = .bool l ∧ ∃ t : Tr n, IsV W n (.agg #[.bool l, y, z]) t := by
  obtain ⟨fuel, hf⟩ := h
  obtain ⟨l, v1, v2, t, e, hv⟩ := item_of n (cs := [x, y, z]) (by simpa [Value.cells] using hf) hw
  simp at e
  obtain ⟨rfl, rfl, rfl⟩ := e
  exact ⟨l, rfl, t, hv⟩
end Go.Proofs.Ytldhcdmoenoopaa
