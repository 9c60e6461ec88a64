/-
  A version as an argument.
-/
import Derived.Test.YtckdcaegnbgomaaJ05
import Derived.Test.YtckdcaegnbgomaaJ46
namespace Go.Proofs.Ytckdcaegnbgomaa
open Go.ChangeShapes Go.WideShapes Go.ChangeAt Go.RowKit Go.Deep

theorem files_of {H : Type} {enc : TypeId × Value → H} {W : World} {la : Option Addr} {len lc : Nat} {d : DataW H} {ps : List MemPlace} (h : DataW.Trod enc Try.prog W 0 (fun _ => true) true 23 (.slice la len lc) d ps)
    (hw : ∀ k ∈ d.weights Try.prog 23, k ≤ reachBytes) : ∃ ls : List Fl, ls.length = len ∧ len ≤ 140737488355328 ∧ (0 < len → ∃ b off, la = some ⟨b, off, none⟩ ∧ ∀ (j : Nat) (f : Fl), ls[j]? = some f → ∃ a c m k, FAt W b (off + j * 4) f a c m k) := by
  obtain ⟨fuel, hf⟩ := h
  rcases open_slice Try.underlying23 (by simpa [Value.cells] using hf) with ⟨e, _⟩ | ⟨a, len', cap, M, n', D, Pl, e, _, hl, hm, hM, hx, hel⟩
  · simp at e
    obtain ⟨rfl, rfl, rfl⟩ := e
    exact ⟨[], rfl, by simp, fun h => by omega⟩
  · simp at e
    obtain ⟨rfl, rfl, rfl⟩ := e
    simp only [if_true] at hM
    subst hM
    simp only [Prod.mk.injEq] at hx
    obtain ⟨rfl, _⟩ := hx
    have hce : Try.prog.cellsOf 55 = 4 := by kernel_rfl
    have hbe : Try.prog.bytesOf 55 = 64 := by kernel_rfl
    have hlen : len ≤ 140737488355328 := by
      have h1 := hw ((len + (M - len)) * 64) (by
        simp only [DataW.weights, Try.underlying23, hbe, List.length_map, List.length_range]
        exact List.mem_cons.2 (.inl rfl))
      unfold reachBytes at h1
      omega
    have each : ∀ i, i < len → ∃ p : Fl, ∃ (la ma : Option Addr) (lc mc : Nat), W.cell? (a.add (i * 4)) = some (.int .i64 p.num) ∧ W.cell? ((a.add (i * 4)).add 1) = some (.int .i64 p.size) ∧ W.cell? ((a.add (i * 4)).add 2) = some (.slice la p.least.length lc) ∧ W.cell? ((a.add (i * 4)).add 3) = some (.slice ma p.most.length mc) ∧ FRd W p la lc ma mc := fun i hi => by
      obtain ⟨cs', hc, ht⟩ := hel i (by omega)
      obtain ⟨p, la, ma, lc, mc, rfl, g⟩ := file_open ht fun k hk => hw k (by
        simp only [DataW.weights, Try.underlying23]
        exact List.mem_cons_of_mem _ (List.mem_append_left _ (weightsAll_mem (List.mem_map.2 ⟨i, List.mem_range.2 hi, rfl⟩) _ hk)))
      rw [hce] at hc
      obtain ⟨_, _, hcc⟩ := World.cells?_some hc
      have c0 := hcc 0 (by omega)
      have c1 := hcc 1 (by omega)
      have c2 := hcc 2 (by omega)
      have c3 := hcc 3 (by omega)
      exact ⟨p, la, ma, lc, mc, by simpa [Addr.add] using c0, by simpa using c1, by simpa using c2, by simpa using c3, g⟩
    obtain ⟨ks, hkl, hk⟩ := list_of len each
    refine ⟨ks, hkl, hlen, fun h0 => ?_⟩
    obtain ⟨kb, ko, spot⟩ := a
    have hspot : spot = none := by
      obtain ⟨p, la, ma, lc, mc, h1, _⟩ := each 0 (by omega)
      simpa [Addr.add] using World.cell?_spot h1
    subst hspot
    refine ⟨kb, ko, rfl, fun j k hj => ?_⟩
    obtain ⟨la, ma, lc, mc, c0, c1, c2, c3, g⟩ := hk j k hj
    simp only [Addr.add_lit] at c0 c1 c2 c3
    exact ⟨la, lc, ma, mc, c0, c1, c2, c3, g⟩
theorem eight_o {α : Type} : ∀ (l : List α), l.length = 8 → ∃ a b c d e f g h, l = [a, b, c, d, e, f, g, h]
  | [a, b, c, d, e, f, g, h], _ => ⟨a, b, c, d, e, f, g, h, rfl⟩
theorem array8 {α : Type} {cs : Array α} (h : cs.size = 8) : ∃ c0 c1 c2 c3 c4 c5 c6 c7, cs = #[c0, c1, c2, c3, c4, c5, c6, c7] := by
  obtain ⟨l⟩ := cs
  obtain ⟨a, b, c, d, e, f, g, h', rfl⟩ := eight_o l (by simpa using h)
  exact ⟨a, b, c, d, e, f, g, h', rfl⟩
theorem version_of {H : Type} {enc : TypeId × Value → H} {W : World} {v0 v1 v2 v3 v4 v5 v6 v7 : Value} {d : DataW H} {ps : List MemPlace} (h : DataW.Trod enc Try.prog W 0 (fun _ => true) true 26 (.agg #[v0, v1, v2, v3, v4, v5, v6, v7]) d ps)
    (hw : ∀ k ∈ d.weights Try.prog 26, k ≤ reachBytes) :
    ∃ (v : Vn) (ad : Nat → Option Addr) (ln cp : Nat → Nat), v0 = .int .i64 v.log ∧ v1 = .int .i64 v.next ∧ v2 = .int .u64 (v.seq : Int) ∧ v3 = .slice (ad 0) (ln 0) (cp 0) ∧ v4 = .slice (ad 1) (ln 1) (cp 1) ∧ v5 = .slice (ad 2) (ln 2) (cp 2) ∧ v6 = .slice (ad 3) (ln 3) (cp 3) ∧ v7 = .slice (ad 4) (ln 4) (cp 4) ∧ VAt W v.lv ad ln cp := by
  obtain ⟨fuel, hf0⟩ := h
  have hf' : DataW.trod enc Try.prog W 0 (fun _ => true) true fuel 26 [v0, v1, v2, v3, v4, v5, v6, v7] = some (d, ps) := by simpa [Value.cells] using hf0
  obtain ⟨xs, m, _, hx, hl, hlen, hf⟩ := DataW.trod_struct Try.underlying26 hf'
  have e0 : Try.prog.cellsOf 3 = 1 := by kernel_rfl
  have e2 : Try.prog.cellsOf 22 = 1 := by kernel_rfl
  have e3 : Try.prog.cellsOf 24 = 5 := by kernel_rfl
  have e4 : Try.prog.cellsOf 23 = 1 := by kernel_rfl
  obtain ⟨y0, y1, y2, y3, rfl⟩ := four_o xs hlen
  simp only [Prod.mk.injEq] at hx
  obtain ⟨rfl, _⟩ := hx
  have h0 : DataW.trod enc Try.prog W 0 (fun _ => true) true m 3 [v0] = some y0 := by simpa [e0] using hf 0 _ rfl
  have h1 : DataW.trod enc Try.prog W 0 (fun _ => true) true m 3 [v1] = some y1 := by simpa [e0] using hf 1 _ rfl
  have h2 : DataW.trod enc Try.prog W 0 (fun _ => true) true m 22 [v2] = some y2 := by simpa [e2] using hf 2 _ rfl
  have h3 : DataW.trod enc Try.prog W 0 (fun _ => true) true m 24 [v3, v4, v5, v6, v7] = some y3 := by simpa [e3] using hf 3 _ rfl
  obtain ⟨n0, g0, _⟩ := DataW.trod_int Try.underlying3 h0
  obtain ⟨n1, g1, _⟩ := DataW.trod_int Try.underlying3 h1
  obtain ⟨n2, g2, _, w2⟩ := DataW.trod_int Try.underlying22 h2
  have b2 : 0 ≤ n2 ∧ n2 ≤ 18446744073709551615 := by simpa [Lit.wf, IntKind.min, IntKind.max, IntKind.signed, IntKind.bits] using w2
  obtain ⟨sq, rfl⟩ : ∃ sq : Nat, n2 = (sq : Int) := ⟨n2.toNat, by omega⟩
  simp only [List.cons.injEq, and_true] at g0 g1 g2
  subst g0 g1 g2
  obtain ⟨zs, m', _, hz, _, hzl, hzf⟩ := DataW.trod_array Try.underlying24 h3
  obtain ⟨t0, t1, t2, t3, t4, rfl⟩ := five_o zs hzl
  have k0 : DataW.trod enc Try.prog W 0 (fun _ => true) true m' 23 [v3] = some t0 := by simpa [e4] using hzf 0 (by omega)
  have k1 : DataW.trod enc Try.prog W 0 (fun _ => true) true m' 23 [v4] = some t1 := by simpa [e4] using hzf 1 (by omega)
  have k2 : DataW.trod enc Try.prog W 0 (fun _ => true) true m' 23 [v5] = some t2 := by simpa [e4] using hzf 2 (by omega)
  have k3 : DataW.trod enc Try.prog W 0 (fun _ => true) true m' 23 [v6] = some t3 := by simpa [e4] using hzf 3 (by omega)
  have k4 : DataW.trod enc Try.prog W 0 (fun _ => true) true m' 23 [v7] = some t4 := by simpa [e4] using hzf 4 (by omega)
  have hwz : ∀ t ∈ [t0, t1, t2, t3, t4], ∀ k ∈ t.1.weights Try.prog 23, k ≤ reachBytes := by
    intro t ht k hk
    refine hw k ?_
    have hk3 : k ∈ y3.1.weights Try.prog 24 := by
      rw [hz]
      simp only [DataW.weights, Try.underlying24]
      exact weightsAll_mem (List.mem_map.2 ⟨t, ht, rfl⟩) _ hk
    simp only [DataW.weights, DataW.weightsEach, Try.underlying26, List.map_cons, List.map_nil, List.mem_append]
    exact .inr (.inr (.inr (.inl hk3)))
  have fo : ∀ (v : Value) (t : DataW H × List MemPlace), DataW.trod enc Try.prog W 0 (fun _ => true) true m' 23 [v] = some t → (∀ k ∈ t.1.weights Try.prog 23, k ≤ reachBytes) → ∃ (a : Option Addr) (n c : Nat) (ls : List Fl), v = .slice a n c ∧ ls.length = n ∧ n ≤ 140737488355328 ∧ (0 < n → ∃ b off, a = some ⟨b, off, none⟩ ∧ ∀ (j : Nat) (f : Fl), ls[j]? = some f → ∃ a c m k, FAt W b (off + j * 4) f a c m k) := fun v t ht hwt => by
    obtain ⟨a, n, c, rfl⟩ := slice_form Try.underlying23 ht
    obtain ⟨ls, q1, q2, q3⟩ := files_of (d := t.1) (ps := t.2) ⟨m', by simpa [Value.cells] using ht⟩ hwt
    exact ⟨a, n, c, ls, rfl, q1, q2, q3⟩
  obtain ⟨a0, l0, c0, s0, rfl, p0⟩ := fo v3 t0 k0 (hwz t0 (by simp))
  obtain ⟨a1, l1, c1, s1, rfl, p1⟩ := fo v4 t1 k1 (hwz t1 (by simp))
  obtain ⟨a2, l2, c2, s2, rfl, p2⟩ := fo v5 t2 k2 (hwz t2 (by simp))
  obtain ⟨a3, l3, c3, s3, rfl, p3⟩ := fo v6 t3 k3 (hwz t3 (by simp))
  obtain ⟨a4, l4, c4, s4, rfl, p4⟩ := fo v7 t4 k4 (hwz t4 (by simp))
  refine ⟨⟨n0, n1, sq, fun i => if i = 0 then s0 else if i = 1 then s1 else if i = 2 then s2 else if i = 3 then s3 else s4⟩, fun i => if i = 0 then a0 else if i = 1 then a1 else if i = 2 then a2 else if i = 3 then a3 else a4, fun i => if i = 0 then l0 else if i = 1 then l1 else if i = 2 then l2 else if i = 3 then l3 else l4, fun i => if i = 0 then c0 else if i = 1 then c1 else if i = 2 then c2 else if i = 3 then c3 else c4, rfl, rfl, rfl, rfl, rfl, rfl, rfl, rfl, ?_⟩
  have all : ∀ i, i < 5 → (if i = 0 then s0 else if i = 1 then s1 else if i = 2 then s2 else if i = 3 then s3 else s4).length = (if i = 0 then l0 else if i = 1 then l1 else if i = 2 then l2 else if i = 3 then l3 else l4) ∧ (if i = 0 then l0 else if i = 1 then l1 else if i = 2 then l2 else if i = 3 then l3 else l4) ≤ 140737488355328 ∧ (0 < (if i = 0 then l0 else if i = 1 then l1 else if i = 2 then l2 else if i = 3 then l3 else l4) → ∃ b off, (if i = 0 then a0 else if i = 1 then a1 else if i = 2 then a2 else if i = 3 then a3 else a4) = some ⟨b, off, none⟩ ∧ ∀ (j : Nat) (f : Fl), (if i = 0 then s0 else if i = 1 then s1 else if i = 2 then s2 else if i = 3 then s3 else s4)[j]? = some f → ∃ a c m k, FAt W b (off + j * 4) f a c m k) := by
    intro i hi
    rcases (show i = 0 ∨ i = 1 ∨ i = 2 ∨ i = 3 ∨ i = 4 from by omega) with rfl | rfl | rfl | rfl | rfl
    · exact p0
    · exact p1
    · exact p2
    · exact p3
    · exact p4
  exact ⟨fun i hi => (all i hi).1.symm, fun i hi => (all i hi).2.1, fun i hi h0 => (all i hi).2.2 h0⟩
end Go.Proofs.Ytckdcaegnbgomaa
namespace Go.Proofs.Ytckdcaegnbgomaa
open Go.ChangeShapes Go.WideShapes Go.ChangeAt Go.RowKit Go.Deep

theorem files_nil {H : Type} {enc : TypeId × Value → H} {W : World} {la : Option Addr} {len lc : Nat} {d : DataW H} {ps : List MemPlace} (h : DataW.Trod enc Try.prog W 0 (fun _ => true) true 23 (.slice la len lc) d ps) : la = none → len = 0 ∧ lc = 0 := by
  intro hn
  obtain ⟨fuel, hf⟩ := h
  rcases open_slice Try.underlying23 (by simpa [Value.cells] using hf) with ⟨e, _⟩ | ⟨a, len', cap, M, n', D, Pl, e, _⟩
  · simp at e
    exact ⟨e.2.1, e.2.2⟩
  · simp at e
    rw [hn] at e
    exact absurd e.1 (by simp)
theorem version_of2 {H : Type} {enc : TypeId × Value → H} {W : World} {v0 v1 v2 v3 v4 v5 v6 v7 : Value} {d : DataW H} {ps : List MemPlace} (h : DataW.Trod enc Try.prog W 0 (fun _ => true) true 26 (.agg #[v0, v1, v2, v3, v4, v5, v6, v7]) d ps)
    (hw : ∀ k ∈ d.weights Try.prog 26, k ≤ reachBytes) :
    ∃ (v : Vn) (ad : Nat → Option Addr) (ln cp : Nat → Nat), v0 = .int .i64 v.log ∧ v1 = .int .i64 v.next ∧ v2 = .int .u64 (v.seq : Int) ∧ v3 = .slice (ad 0) (ln 0) (cp 0) ∧ v4 = .slice (ad 1) (ln 1) (cp 1) ∧ v5 = .slice (ad 2) (ln 2) (cp 2) ∧ v6 = .slice (ad 3) (ln 3) (cp 3) ∧ v7 = .slice (ad 4) (ln 4) (cp 4) ∧ VAt W v.lv ad ln cp ∧ ∀ i, i < 5 → ad i = none → ln i = 0 ∧ cp i = 0 := by
  obtain ⟨fuel, hf0⟩ := h
  have hf' : DataW.trod enc Try.prog W 0 (fun _ => true) true fuel 26 [v0, v1, v2, v3, v4, v5, v6, v7] = some (d, ps) := by simpa [Value.cells] using hf0
  obtain ⟨xs, m, _, hx, hl, hlen, hf⟩ := DataW.trod_struct Try.underlying26 hf'
  have e0 : Try.prog.cellsOf 3 = 1 := by kernel_rfl
  have e2 : Try.prog.cellsOf 22 = 1 := by kernel_rfl
  have e3 : Try.prog.cellsOf 24 = 5 := by kernel_rfl
  have e4 : Try.prog.cellsOf 23 = 1 := by kernel_rfl
  obtain ⟨y0, y1, y2, y3, rfl⟩ := four_o xs hlen
  simp only [Prod.mk.injEq] at hx
  obtain ⟨rfl, _⟩ := hx
  have h0 : DataW.trod enc Try.prog W 0 (fun _ => true) true m 3 [v0] = some y0 := by simpa [e0] using hf 0 _ rfl
  have h1 : DataW.trod enc Try.prog W 0 (fun _ => true) true m 3 [v1] = some y1 := by simpa [e0] using hf 1 _ rfl
  have h2 : DataW.trod enc Try.prog W 0 (fun _ => true) true m 22 [v2] = some y2 := by simpa [e2] using hf 2 _ rfl
  have h3 : DataW.trod enc Try.prog W 0 (fun _ => true) true m 24 [v3, v4, v5, v6, v7] = some y3 := by simpa [e3] using hf 3 _ rfl
  obtain ⟨n0, g0, _⟩ := DataW.trod_int Try.underlying3 h0
  obtain ⟨n1, g1, _⟩ := DataW.trod_int Try.underlying3 h1
  obtain ⟨n2, g2, _, w2⟩ := DataW.trod_int Try.underlying22 h2
  have b2 : 0 ≤ n2 ∧ n2 ≤ 18446744073709551615 := by simpa [Lit.wf, IntKind.min, IntKind.max, IntKind.signed, IntKind.bits] using w2
  obtain ⟨sq, rfl⟩ : ∃ sq : Nat, n2 = (sq : Int) := ⟨n2.toNat, by omega⟩
  simp only [List.cons.injEq, and_true] at g0 g1 g2
  subst g0 g1 g2
  obtain ⟨zs, m', _, hz, _, hzl, hzf⟩ := DataW.trod_array Try.underlying24 h3
  obtain ⟨t0, t1, t2, t3, t4, rfl⟩ := five_o zs hzl
  have k0 : DataW.trod enc Try.prog W 0 (fun _ => true) true m' 23 [v3] = some t0 := by simpa [e4] using hzf 0 (by omega)
  have k1 : DataW.trod enc Try.prog W 0 (fun _ => true) true m' 23 [v4] = some t1 := by simpa [e4] using hzf 1 (by omega)
  have k2 : DataW.trod enc Try.prog W 0 (fun _ => true) true m' 23 [v5] = some t2 := by simpa [e4] using hzf 2 (by omega)
  have k3 : DataW.trod enc Try.prog W 0 (fun _ => true) true m' 23 [v6] = some t3 := by simpa [e4] using hzf 3 (by omega)
  have k4 : DataW.trod enc Try.prog W 0 (fun _ => true) true m' 23 [v7] = some t4 := by simpa [e4] using hzf 4 (by omega)
  have hwz : ∀ t ∈ [t0, t1, t2, t3, t4], ∀ k ∈ t.1.weights Try.prog 23, k ≤ reachBytes := by
    intro t ht k hk
    refine hw k ?_
    have hk3 : k ∈ y3.1.weights Try.prog 24 := by
      rw [hz]
      simp only [DataW.weights, Try.underlying24]
      exact weightsAll_mem (List.mem_map.2 ⟨t, ht, rfl⟩) _ hk
    simp only [DataW.weights, DataW.weightsEach, Try.underlying26, List.map_cons, List.map_nil, List.mem_append]
    exact .inr (.inr (.inr (.inl hk3)))
  have fo : ∀ (v : Value) (t : DataW H × List MemPlace), DataW.trod enc Try.prog W 0 (fun _ => true) true m' 23 [v] = some t → (∀ k ∈ t.1.weights Try.prog 23, k ≤ reachBytes) → ∃ (a : Option Addr) (n c : Nat) (ls : List Fl), v = .slice a n c ∧ (a = none → n = 0 ∧ c = 0) ∧ ls.length = n ∧ n ≤ 140737488355328 ∧ (0 < n → ∃ b off, a = some ⟨b, off, none⟩ ∧ ∀ (j : Nat) (f : Fl), ls[j]? = some f → ∃ a c m k, FAt W b (off + j * 4) f a c m k) := fun v t ht hwt => by
    obtain ⟨a, n, c, rfl⟩ := slice_form Try.underlying23 ht
    obtain ⟨ls, q1, q2, q3⟩ := files_of (d := t.1) (ps := t.2) ⟨m', by simpa [Value.cells] using ht⟩ hwt
    exact ⟨a, n, c, ls, rfl, files_nil (d := t.1) (ps := t.2) ⟨m', by simpa [Value.cells] using ht⟩, q1, q2, q3⟩
  obtain ⟨a0, l0, c0, s0, rfl, e0n, p0⟩ := fo v3 t0 k0 (hwz t0 (by simp))
  obtain ⟨a1, l1, c1, s1, rfl, e1n, p1⟩ := fo v4 t1 k1 (hwz t1 (by simp))
  obtain ⟨a2, l2, c2, s2, rfl, e2n, p2⟩ := fo v5 t2 k2 (hwz t2 (by simp))
  obtain ⟨a3, l3, c3, s3, rfl, e3n, p3⟩ := fo v6 t3 k3 (hwz t3 (by simp))
  obtain ⟨a4, l4, c4, s4, rfl, e4n, p4⟩ := fo v7 t4 k4 (hwz t4 (by simp))
  refine ⟨⟨n0, n1, sq, fun i => if i = 0 then s0 else if i = 1 then s1 else if i = 2 then s2 else if i = 3 then s3 else s4⟩, fun i => if i = 0 then a0 else if i = 1 then a1 else if i = 2 then a2 else if i = 3 then a3 else a4, fun i => if i = 0 then l0 else if i = 1 then l1 else if i = 2 then l2 else if i = 3 then l3 else l4, fun i => if i = 0 then c0 else if i = 1 then c1 else if i = 2 then c2 else if i = 3 then c3 else c4, rfl, rfl, rfl, rfl, rfl, rfl, rfl, rfl, ?_, ?_⟩
  rotate_left
  · intro i hi
    rcases (show i = 0 ∨ i = 1 ∨ i = 2 ∨ i = 3 ∨ i = 4 from by omega) with rfl | rfl | rfl | rfl | rfl
    · exact e0n
    · exact e1n
    · exact e2n
    · exact e3n
    · exact e4n
  have all : ∀ i, i < 5 → (if i = 0 then s0 else if i = 1 then s1 else if i = 2 then s2 else if i = 3 then s3 else s4).length = (if i = 0 then l0 else if i = 1 then l1 else if i = 2 then l2 else if i = 3 then l3 else l4) ∧ (if i = 0 then l0 else if i = 1 then l1 else if i = 2 then l2 else if i = 3 then l3 else l4) ≤ 140737488355328 ∧ (0 < (if i = 0 then l0 else if i = 1 then l1 else if i = 2 then l2 else if i = 3 then l3 else l4) → ∃ b off, (if i = 0 then a0 else if i = 1 then a1 else if i = 2 then a2 else if i = 3 then a3 else a4) = some ⟨b, off, none⟩ ∧ ∀ (j : Nat) (f : Fl), (if i = 0 then s0 else if i = 1 then s1 else if i = 2 then s2 else if i = 3 then s3 else s4)[j]? = some f → ∃ a c m k, FAt W b (off + j * 4) f a c m k) := by
    intro i hi
    rcases (show i = 0 ∨ i = 1 ∨ i = 2 ∨ i = 3 ∨ i = 4 from by omega) with rfl | rfl | rfl | rfl | rfl
    · exact p0
    · exact p1
    · exact p2
    · exact p3
    · exact p4
  exact ⟨fun i hi => (all i hi).1.symm, fun i hi => (all i hi).2.1, fun i hi h0 => (all i hi).2.2 h0⟩
end Go.Proofs.Ytckdcaegnbgomaa
