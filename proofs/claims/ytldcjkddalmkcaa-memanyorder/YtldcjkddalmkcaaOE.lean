/-
  Entries that a statement hands over: how they lie in memory, and how they are opened.
-/
import Derived.Test.YtldcjkddalmkcaaMO
import Derived.Test.YtldcjkddalmkcaaLJ
import Derived.Deep.Strs
namespace Go.Proofs.Ytldcjkddalmkcaa
open Go.ChangeShapes Go.WideShapes Go.ChangeAt Go.RowKit Go.Deep

/-- An entry that is handed over. -/
structure Ar where
  u : List Nat
  v : List Nat
  s : Nat
  k : Int
/-- Where an entry lies. -/
structure ArAt (w : World) (b o : Nat) (x : Ar) (uv vv : Value) : Prop where
  c0 : w.cell? ⟨b, o, none⟩ = some uv
  c1 : w.cell? ⟨b, o + 1, none⟩ = some vv
  c2 : w.cell? ⟨b, o + 2, none⟩ = some (.int .u64 (x.s : Int))
  c3 : w.cell? ⟨b, o + 3, none⟩ = some (.int .i64 x.k)
  ru : Rd w uv (bv x.u)
  rv : Rd w vv (bv x.v)
  bu : By x.u
  bv' : By x.v
  lu : x.u.length ≤ 140737488355328
  lv : x.v.length ≤ 140737488355328
  ls : x.s < 18446744073709551616
def Ents (w : World) (a : Option Addr) (ls : List Ar) : Prop :=
  0 < ls.length → ∃ b o, a = some ⟨b, o, none⟩ ∧ ∀ (j : Nat) (x : Ar), ls[j]? = some x → ∃ uv vv, ArAt w b (o + j * 4) x uv vv
theorem ArAt.fr {w w' : World} {b o : Nat} {x : Ar} {uv vv : Value} (h : ArAt w b o x uv vv) (f : Fr [] w w') : ArAt w' b o x uv vv :=
  ⟨cell_fr f h.c0, cell_fr f h.c1, cell_fr f h.c2, cell_fr f h.c3, h.ru.fr f, h.rv.fr f, h.bu, h.bv', h.lu, h.lv, h.ls⟩

theorem list_of {α : Type} {P : Nat → α → Prop} : ∀ (n : Nat), (∀ i, i < n → ∃ k, P i k) → ∃ ks : List α, ks.length = n ∧ ∀ (j : Nat) (k : α), ks[j]? = some k → P j k
  | 0, _ => ⟨[], rfl, fun j k h => by simp at h⟩
  | n + 1, h => by
    obtain ⟨ks, hl, hk⟩ := list_of n fun i hi => h i (by omega)
    obtain ⟨k, h1⟩ := h n (by omega)
    refine ⟨ks ++ [k], by simp [hl], fun j x hx => ?_⟩
    by_cases hj : j < n
    · rw [List.getElem?_append_left (by omega)] at hx
      exact hk j x hx
    · have hj2 : j = n := by
        by_cases hj3 : j = n
        · exact hj3
        · rw [List.getElem?_eq_none (by simp; omega)] at hx; cases hx
      subst hj2
      rw [List.getElem?_append_right (by omega), hl] at hx
      simp at hx
      exact hx ▸ h1

theorem slice_form {H : Type} {enc : TypeId × Value → H} {W : World} {t e : TypeId} {fuel : Nat} {v : Value} {x : DataW H × List MemPlace} (ht : Try.prog.underlying t = some (.slice e)) (h : DataW.trod enc Try.prog W 0 (fun _ => true) true fuel t [v] = some x) :
    ∃ a n c, v = .slice a n c := by
  rcases DataW.trod_slice ht h with ⟨e, _⟩ | ⟨a, len, cap, _, _, _, _, e, _⟩
  · exact ⟨_, _, _, by simpa using e⟩
  · exact ⟨_, _, _, by simpa using e⟩


theorem four_of {α : Type} : ∀ (l : List α), l.length = 4 → ∃ a b c d, l = [a, b, c, d]
  | [a, b, c, d], _ => ⟨a, b, c, d, rfl⟩
theorem ar_open {H : Type} {enc : TypeId × Value → H} {W : World} {fuel : Nat} {cs : List Value} {d : DataW H} {ps : List MemPlace} (h : DataW.trod enc Try.prog W 0 (fun _ => true) true fuel 33 cs = some (d, ps))
    (hw : ∀ k ∈ d.weights Try.prog 33, k ≤ reachBytes) :
    ∃ (x : Ar) (uv vv : Value), cs = [uv, vv, .int .u64 (x.s : Int), .int .i64 x.k] ∧ Rd W uv (bv x.u) ∧ Rd W vv (bv x.v) ∧ By x.u ∧ By x.v ∧ x.u.length ≤ 140737488355328 ∧ x.v.length ≤ 140737488355328 ∧ x.s < 18446744073709551616 := by
  obtain ⟨xs, m, _, hx, hl, hlen, hf⟩ := DataW.trod_struct Try.underlying33 h
  have hl4 : cs.length = 4 := by rw [hl]; kernel_rfl
  have e0 : Try.prog.cellsOf 30 = 1 := by kernel_rfl
  have e2 : Try.prog.cellsOf 31 = 1 := by kernel_rfl
  have e3 : Try.prog.cellsOf 3 = 1 := by kernel_rfl
  obtain ⟨y0, y1, y2, y3, rfl⟩ := four_of xs hlen
  obtain ⟨c0, c1, c2, c3, rfl⟩ := four_of cs hl4
  · simp only [Prod.mk.injEq] at hx
    obtain ⟨rfl, _⟩ := hx
    have h0' : DataW.trod enc Try.prog W 0 (fun _ => true) true m 30 [c0] = some y0 := by simpa [e0] using hf 0 _ rfl
    have h1' : DataW.trod enc Try.prog W 0 (fun _ => true) true m 30 [c1] = some y1 := by simpa [e0] using hf 1 _ rfl
    have h2' : DataW.trod enc Try.prog W 0 (fun _ => true) true m 31 [c2] = some y2 := by simpa [e2] using hf 2 _ rfl
    have h3' : DataW.trod enc Try.prog W 0 (fun _ => true) true m 3 [c3] = some y3 := by simpa [e3] using hf 3 _ rfl
    obtain ⟨a0, n0, k0, rfl⟩ := slice_form Try.underlying30 h0'
    obtain ⟨a1, n1, k1, rfl⟩ := slice_form Try.underlying30 h1'
    obtain ⟨us, hus, hu1, hu2, hu3⟩ := bytes_of (enc := enc) (W := W) (ua := a0) (len := n0) (uc := k0) (d := y0.1) (ps := y0.2) ⟨m, by simpa [Value.cells] using h0'⟩ (fun k hk => hw k (by
      simp only [DataW.weights, DataW.weightsEach, Try.underlying33, List.map_cons, List.map_nil, List.mem_append]
      exact .inl hk))
    obtain ⟨vs, hvs, hv1, hv2, hv3⟩ := bytes_of (enc := enc) (W := W) (ua := a1) (len := n1) (uc := k1) (d := y1.1) (ps := y1.2) ⟨m, by simpa [Value.cells] using h1'⟩ (fun k hk => hw k (by
      simp only [DataW.weights, DataW.weightsEach, Try.underlying33, List.map_cons, List.map_nil, List.mem_append]
      exact .inr (.inl hk)))
    obtain ⟨z2, r2, _, w2⟩ := DataW.trod_int Try.underlying31 h2'
    obtain ⟨z3, r3, _, w3⟩ := DataW.trod_int Try.underlying3 h3'
    simp at r2 r3
    subst r2
    subst r3
    have b2 : 0 ≤ z2 ∧ z2 ≤ 18446744073709551615 := by simpa [Lit.wf, IntKind.min, IntKind.max, IntKind.signed, IntKind.bits] using w2
    obtain ⟨s2, rfl⟩ := nat_of b2.1
    exact ⟨⟨us, vs, s2, z3⟩, _, _, rfl, hu1, hv1, hu2, hv2, by show us.length ≤ _; omega, by show vs.length ≤ _; omega, by show s2 < _; omega⟩
theorem ents_of {H : Type} {enc : TypeId × Value → H} {W : World} {la : Option Addr} {len lc : Nat} {d : DataW H} {ps : List MemPlace} (h : DataW.Trod enc Try.prog W 0 (fun _ => true) true 23 (.slice la len lc) d ps)
    (hw : ∀ k ∈ d.weights Try.prog 23, k ≤ reachBytes) : ∃ ls : List Ar, ls.length = len ∧ len ≤ lc ∧ len ≤ 140737488355328 ∧ Ents W la ls := by
  obtain ⟨fuel, hf⟩ := h
  rcases open_slice Try.underlying23 (by simpa [Value.cells] using hf) with ⟨e, _⟩ | ⟨a, len', cap, M, n', D, Pl, e, _, hl, hm, hM, hx, hel⟩
  · simp at e
    obtain ⟨rfl, rfl, rfl⟩ := e
    exact ⟨[], rfl, by simp, by simp, fun h0 => by simp at h0⟩
  · simp at e
    obtain ⟨rfl, rfl, rfl⟩ := e
    simp only [if_true] at hM
    subst hM
    simp only [Prod.mk.injEq] at hx
    obtain ⟨rfl, _⟩ := hx
    have hce : Try.prog.cellsOf 33 = 4 := by kernel_rfl
    have hbe : Try.prog.bytesOf 33 = 64 := by kernel_rfl
    have hlen : len ≤ 140737488355328 := by
      have h1 := hw ((len + (M - len)) * 64) (by
        simp only [DataW.weights, Try.underlying23, hbe, List.length_map, List.length_range]
        exact List.mem_cons.2 (.inl rfl))
      unfold reachBytes at h1
      omega
    have each : ∀ i, i < len → ∃ x : Ar, ∃ uv vv, W.cell? (a.add (i * 4)) = some uv ∧ W.cell? ((a.add (i * 4)).add 1) = some vv ∧ W.cell? ((a.add (i * 4)).add 2) = some (.int .u64 (x.s : Int)) ∧ W.cell? ((a.add (i * 4)).add 3) = some (.int .i64 x.k) ∧ Rd W uv (bv x.u) ∧ Rd W vv (bv x.v) ∧ By x.u ∧ By x.v ∧ x.u.length ≤ 140737488355328 ∧ x.v.length ≤ 140737488355328 ∧ x.s < 18446744073709551616 := fun i hi => by
      obtain ⟨cs', hc, ht⟩ := hel i (by omega)
      obtain ⟨x, uv, vv, rfl, g⟩ := ar_open ht fun k hk => hw k (by
        simp only [DataW.weights, Try.underlying23]
        exact List.mem_cons_of_mem _ (List.mem_append_left _ (weightsAll_mem (List.mem_map.2 ⟨i, List.mem_range.2 hi, rfl⟩) _ hk)))
      rw [hce] at hc
      obtain ⟨_, _, hcc⟩ := World.cells?_some hc
      have c0 := hcc 0 (by omega)
      have c1 := hcc 1 (by omega)
      have c2 := hcc 2 (by omega)
      have c3 := hcc 3 (by omega)
      exact ⟨x, uv, vv, by simpa [Addr.add] using c0, by simpa using c1, by simpa using c2, by simpa using c3, g⟩
    obtain ⟨ks, hkl, hk⟩ := list_of len each
    refine ⟨ks, hkl, by omega, hlen, fun h0 => ?_⟩
    obtain ⟨kb, ko, spot⟩ := a
    have hspot : spot = none := by
      obtain ⟨x, uv, vv, h1, _⟩ := each 0 (by omega)
      simpa [Addr.add] using World.cell?_spot h1
    subst hspot
    refine ⟨kb, ko, rfl, fun j k hj => ?_⟩
    obtain ⟨uv, vv, c0, c1, c2, c3, g1, g2, g3, g4, g5, g6, g7⟩ := hk j k hj
    simp only [Addr.add_lit] at c0 c1 c2 c3
    exact ⟨uv, vv, c0, c1, c2, c3, g1, g2, g3, g4, g5, g6, g7⟩
theorem ints_of {H : Type} {enc : TypeId × Value → H} {W : World} {na : Option Addr} {ln nc : Nat} {d : DataW H} {ps : List MemPlace} (h : DataW.Trod enc Try.prog W 0 (fun _ => true) true 22 (.slice na ln nc) d ps) :
    ∃ Y, Ints W na ln Y ∧ ln ≤ 9223372036854775807 := by
  obtain ⟨fuel, hf⟩ := h
  rcases open_ints Try.underlying22 Try.underlying3 (by kernel_rfl) hf with ⟨hcs, _⟩ | ⟨a, l, c, zs, hcs, _, hl, hm, hz, hx, hcell, hwf⟩
  · simp [Value.cells] at hcs
    obtain ⟨rfl, rfl, rfl⟩ := hcs
    exact ⟨fun _ => 0, fun h => by omega, by omega⟩
  · simp [Value.cells] at hcs
    obtain ⟨rfl, rfl, rfl⟩ := hcs
    simp only [if_true] at hz
    refine ⟨fun r => zs.getD r 0, fun hpos => ?_, by unfold maxLen at hm; omega⟩
    obtain ⟨nb, no, spot⟩ := a
    have hspot : spot = none := by
      have := hcell 0 (by omega)
      simpa [Addr.add] using World.cell?_spot this
    subst hspot
    refine ⟨nb, no, rfl, fun r hr => ?_⟩
    have h1 := hcell r (by omega)
    rwa [Addr.add_lit] at h1
end Go.Proofs.Ytldcjkddalmkcaa
