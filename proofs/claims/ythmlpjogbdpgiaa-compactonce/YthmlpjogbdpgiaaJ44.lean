/-
  How the arguments that a statement hands over are opened: bytes.
-/
import Derived.Test.YthmlpjogbdpgiaaJ02
import Derived.ShutString
import Derived.ChangeOld
import Derived.SizedLaws
import Derived.Deep.Matrix
import Derived.Test.YthmlpjogbdpgiaaJ10
import Derived.Test.YthmlpjogbdpgiaaCQ9
namespace Go.Proofs.Ythmlpjogbdpgiaa
open Go.ChangeShapes Go.WideShapes Go.ChangeAt Go.RowKit Go.Deep

theorem ownKnobs : ownKnob Try.prog.godebug = none := by kernel_rfl
theorem laidOut : laidOutB Try.prog = true := by kernel_rfl

theorem nat_of {n : Int} (h : 0 ≤ n) : ∃ m : Nat, n = (m : Int) := ⟨n.toNat, by omega⟩

/-- Bytes that came in. -/
theorem bytes_of {H : Type} {enc : TypeId × Value → H} {W : World} {ua : Option Addr} {len uc : Nat} {d : DataW H} {ps : List MemPlace} (h : DataW.Trod enc Try.prog W 0 (fun _ => true) true 35 (.slice ua len uc) d ps)
    (hw : ∀ n ∈ d.weights Try.prog 35, n ≤ reachBytes) : ∃ ns : List Nat, ns.length = len ∧ Rd W (.slice ua len uc) (bv ns) ∧ By ns ∧ len ≤ 140737488351232 := by
  obtain ⟨fuel, hf⟩ := h
  rcases open_ints Try.underlying35 Try.underlying5 (by kernel_rfl) hf with ⟨hcs, _⟩ | ⟨a, l, c, zs, hcs, _, hl, hm, hz, hx, hcell, hwf⟩
  · simp [Value.cells] at hcs
    obtain ⟨rfl, rfl, rfl⟩ := hcs
    exact ⟨[], rfl, .inl ⟨rfl, rfl⟩, fun u hu => by simp at hu, by omega⟩
  · simp [Value.cells] at hcs
    obtain ⟨rfl, rfl, rfl⟩ := hcs
    simp only [Prod.mk.injEq] at hx
    obtain ⟨rfl, _⟩ := hx
    simp only [if_true] at hz
    have hXl : ((zs.take len).map Int.toNat).length = len := by rw [List.length_map, List.length_take]; omega
    have hb : ∀ z ∈ zs, 0 ≤ z ∧ z ≤ 255 := fun z hz' => bounds_u8 (hwf z hz')
    refine ⟨(zs.take len).map Int.toNat, hXl, .inr ⟨a, uc, by rw [bv_len, hXl], by rw [bv_len, hXl]; exact hl, fun j u hj => ?_⟩, fun u hu => ?_, ?_⟩
    · have hjl : j < len := by
        rcases Nat.lt_or_ge j len with h | h
        · exact h
        · rw [List.getElem?_eq_none (by rw [bv_len, hXl]; omega)] at hj; cases hj
      have hjz : j < zs.length := by omega
      rw [hcell j hjz]
      unfold bv at hj
      rw [List.getElem?_map, List.getElem?_map, List.getElem?_take, if_pos hjl, List.getElem?_eq_getElem hjz] at hj
      simp only [Option.map_some, Option.some.injEq] at hj
      rw [← hj]
      have h0 := hb _ (List.getElem_mem hjz)
      simp only [List.getD, List.getElem?_eq_getElem hjz, Option.getD_some, Int.toNat_of_nonneg h0.1]
    · obtain ⟨n, hn, rfl⟩ := List.mem_map.1 hu
      have := hb n (List.mem_of_mem_take hn)
      omega
    · have h1 := hw (uc * Try.prog.bytesOf 5) (by
        simp only [DataW.weights, Try.underlying35]
        refine List.mem_cons.2 (.inl ?_)
        rw [lits, lits, List.length_map, List.length_map, List.length_take, List.length_drop, hz]
        congr 1; omega)
      rw [show Try.prog.bytesOf 5 = 1 from by kernel_rfl] at h1
      unfold reachBytes at h1
      omega
end Go.Proofs.Ythmlpjogbdpgiaa
namespace Go.Proofs.Ythmlpjogbdpgiaa
open Go.ChangeShapes Go.WideShapes Go.ChangeAt Go.RowKit Go.Deep

theorem weightsAll_mem {H : Type} {P : Program} {e : TypeId} : ∀ {ds : List (DataW H)} {d : DataW H}, d ∈ ds → ∀ n ∈ d.weights P e, n ∈ DataW.weightsAll P e ds
  | [], _, h, _, _ => by cases h
  | x :: r, d, h, n, hn => by
    simp only [DataW.weightsAll, List.mem_append]
    rcases List.mem_cons.1 h with rfl | h
    · exact .inl hn
    · exact .inr (weightsAll_mem h n hn)

/-- A list of lists of bytes that came in. -/
def Rows2 (w : World) (la : Option Addr) (len : Nat) (A : Nat → Option Addr) (C : Nat → Nat) (X : Nat → List Nat) : Prop :=
  0 < len → ∃ lb lo, la = some ⟨lb, lo, none⟩ ∧ ∀ r, r < len → w.cell? ⟨lb, lo + r, none⟩ = some (.slice (A r) (X r).length (C r)) ∧ Rd w (.slice (A r) (X r).length (C r)) (bv (X r)) ∧ By (X r) ∧ (X r).length ≤ 140737488355328
/-- A list of numbers that came in. -/
def Nums (w : World) (na : Option Addr) (ln : Nat) (Y : Nat → Nat) : Prop :=
  0 < ln → ∃ nb no, na = some ⟨nb, no, none⟩ ∧ ∀ r, r < ln → w.cell? ⟨nb, no + r, none⟩ = some (.int .u64 (Y r : Int)) ∧ Y r < 18446744073709551616

theorem rows2_of {H : Type} {enc : TypeId × Value → H} {W : World} {la : Option Addr} {len lc : Nat} {d : DataW H} {ps : List MemPlace} (h : DataW.Trod enc Try.prog W 0 (fun _ => true) true 101 (.slice la len lc) d ps)
    (hw : ∀ n ∈ d.weights Try.prog 101, n ≤ reachBytes) : len ≤ 9223372036854775807 ∧ ∃ A C X, Rows2 W la len A C X := by
  obtain ⟨fuel, hf⟩ := h
  rcases open_int_rows Try.underlying101 Try.underlying35 Try.underlying5 (by kernel_rfl) (by kernel_rfl) hf with ⟨hcs, _⟩ | ⟨a, len', cap', A, L, C, Z, hcs, _, hl, hm, hx, hrow⟩
  · simp [Value.cells] at hcs
    obtain ⟨rfl, rfl, rfl⟩ := hcs
    exact ⟨by omega, fun _ => none, fun _ => 0, fun _ => [], fun h => by omega⟩
  · simp [Value.cells] at hcs
    obtain ⟨rfl, rfl, rfl⟩ := hcs
    simp only [Prod.mk.injEq] at hx
    obtain ⟨rfl, _⟩ := hx
    refine ⟨by unfold maxLen at hm; omega, A, C, fun r => ((Z r).take (L r)).map Int.toNat, fun hpos => ?_⟩
    obtain ⟨lb, lo, spot⟩ := a
    have hspot : spot = none := by
      have := (hrow 0 (by omega)).1
      simpa [Addr.add] using World.cell?_spot this
    subst hspot
    refine ⟨lb, lo, rfl, fun r hr => ?_⟩
    obtain ⟨c1, c2, c3, c4, c5, c6, c7⟩ := hrow r (by omega)
    have hXl : (((Z r).take (L r)).map Int.toNat).length = L r := by rw [List.length_map, List.length_take]; omega
    have hb : ∀ z ∈ Z r, 0 ≤ z ∧ z ≤ 255 := fun z hz' => bounds_u8 (c5 z hz')
    have hC : C r ≤ 140737488355328 := by
      cases hA : A r with
      | none => rw [c6 hA]; omega
      | some a' =>
        have hmem : (C r) * Try.prog.bytesOf 5 ∈ DataW.weights Try.prog 101 (DataW.slice ((List.range len).map fun r => intRow (H := H) .u8 (A r) (L r) (Z r)) ((List.range (lc - len)).map fun j => intRow .u8 (A (len + j)) (L (len + j)) (Z (len + j)))) := by
          simp only [DataW.weights, Try.underlying101]
          refine List.mem_cons_of_mem _ (List.mem_append_left _ (weightsAll_mem (List.mem_map.2 ⟨r, List.mem_range.2 hr, rfl⟩) _ ?_))
          simp only [intRow, hA, DataW.weights, Try.underlying35]
          refine List.mem_cons.2 (.inl ?_)
          rw [lits, lits, List.length_map, List.length_map, List.length_take, List.length_drop, c4]
          congr 1; omega
        have h1 := hw _ hmem
        rw [show Try.prog.bytesOf 5 = 1 from by kernel_rfl] at h1
        have := reachBytes_lt
        omega
    refine ⟨?_, ?_, ?_, ?_⟩
    · rw [hXl]; have := c1; rwa [Addr.add_lit] at this
    · rw [hXl]
      cases hA : A r with
      | none =>
        have h0 := c6 hA
        have h1 : L r = 0 := by omega
        rw [h0, h1]
        exact .inl ⟨rfl, by simp [h1, bv]⟩
      | some a' =>
        refine .inr ⟨a', C r, by rw [bv_len, hXl], by rw [bv_len, hXl]; exact c2, fun j u hj => ?_⟩
        have hjl : j < L r := by
          rcases Nat.lt_or_ge j (L r) with h | h
          · exact h
          · rw [List.getElem?_eq_none (by rw [bv_len, hXl]; omega)] at hj; cases hj
        have hjz : j < (Z r).length := by omega
        rw [(c7 a' hA).2 j (by omega)]
        unfold bv at hj
        rw [List.getElem?_map, List.getElem?_map, List.getElem?_take, if_pos hjl, List.getElem?_eq_getElem hjz] at hj
        simp only [Option.map_some, Option.some.injEq] at hj
        rw [← hj]
        have h0 := hb _ (List.getElem_mem hjz)
        simp only [List.getD, List.getElem?_eq_getElem hjz, Option.getD_some, Int.toNat_of_nonneg h0.1]
    · intro u hu
      obtain ⟨n, hn, rfl⟩ := List.mem_map.1 hu
      have := hb n (List.mem_of_mem_take hn)
      omega
    · rw [hXl]; omega

end Go.Proofs.Ythmlpjogbdpgiaa
namespace Go.Proofs.Ythmlpjogbdpgiaa
open Go.ChangeShapes Go.WideShapes Go.ChangeAt Go.RowKit Go.Deep

theorem list_of {α : Type} {P : Nat → α → Prop} : ∀ (n : Nat), (∀ i, i < n → ∃ k, P i k) → ∃ ks : List α, ks.length = n ∧ ∀ (j : Nat) (k : α), ks[j]? = some k → P j k
  | 0, _ => ⟨[], rfl, fun j k h => by simp at h⟩
  | n + 1, h => by
    obtain ⟨ks, hl, hk⟩ := list_of n fun i hi => h i (by omega)
    obtain ⟨k, h1⟩ := h n (by omega)
    refine ⟨ks ++ [k], by simp [hl], fun j x hx => ?_⟩
    by_cases hj : j < n
    · rw [List.getElem?_append_left (by omega)] at hx
      exact hk j x hx
    · have hj2 : j = n := by
        by_cases hj3 : j = n
        · exact hj3
        · rw [List.getElem?_eq_none (by simp; omega)] at hx; cases hx
      subst hj2
      rw [List.getElem?_append_right (by omega), hl] at hx
      simp at hx
      exact hx ▸ h1

theorem slice_form {H : Type} {enc : TypeId × Value → H} {W : World} {t e : TypeId} {fuel : Nat} {v : Value} {x : DataW H × List MemPlace} (ht : Try.prog.underlying t = some (.slice e)) (h : DataW.trod enc Try.prog W 0 (fun _ => true) true fuel t [v] = some x) :
    ∃ a n c, v = .slice a n c := by
  rcases DataW.trod_slice ht h with ⟨e, _⟩ | ⟨a, len, cap, _, _, _, _, e, _⟩
  · exact ⟨_, _, _, by simpa using e⟩
  · exact ⟨_, _, _, by simpa using e⟩


theorem two_of {α : Type} : ∀ (l : List α), l.length = 2 → ∃ a b, l = [a, b]
  | [a, b], _ => ⟨a, b, rfl⟩
theorem kv_open {H : Type} {enc : TypeId × Value → H} {W : World} {fuel : Nat} {cs : List Value} {d : DataW H} {ps : List MemPlace} (h : DataW.trod enc Try.prog W 0 (fun _ => true) true fuel 50 cs = some (d, ps))
    (hw : ∀ k ∈ d.weights Try.prog 50, k ≤ reachBytes) :
    ∃ (x : List Nat × List Nat) (a0 a1 : Option Addr) (k0 k1 : Nat), cs = [.slice a0 x.1.length k0, .slice a1 x.2.length k1] ∧ Rd W (.slice a0 x.1.length k0) (bv x.1) ∧ Rd W (.slice a1 x.2.length k1) (bv x.2) ∧ By x.1 ∧ By x.2 ∧ x.1.length ≤ 140737488355328 ∧ x.2.length ≤ 140737488355328 := by
  obtain ⟨xs, m, _, hx, hl, hlen, hf⟩ := DataW.trod_struct Try.underlying50 h
  have hl2 : cs.length = 2 := by rw [hl]; kernel_rfl
  have e0 : Try.prog.cellsOf 35 = 1 := by kernel_rfl
  obtain ⟨y0, y1, rfl⟩ := two_of xs hlen
  obtain ⟨c0, c1, rfl⟩ := two_of cs hl2
  simp only [Prod.mk.injEq] at hx
  obtain ⟨rfl, _⟩ := hx
  have h0' : DataW.trod enc Try.prog W 0 (fun _ => true) true m 35 [c0] = some y0 := by simpa [e0] using hf 0 _ rfl
  have h1' : DataW.trod enc Try.prog W 0 (fun _ => true) true m 35 [c1] = some y1 := by simpa [e0] using hf 1 _ rfl
  obtain ⟨a0, n0, k0, rfl⟩ := slice_form Try.underlying35 h0'
  obtain ⟨a1, n1, k1, rfl⟩ := slice_form Try.underlying35 h1'
  obtain ⟨us, hus, hu1, hu2, hu3⟩ := bytes_of (enc := enc) (W := W) (ua := a0) (len := n0) (uc := k0) (d := y0.1) (ps := y0.2) ⟨m, by simpa [Value.cells] using h0'⟩ (fun k hk => hw k (by
    simp only [DataW.weights, DataW.weightsEach, Try.underlying50, List.map_cons, List.map_nil, List.mem_append]
    exact .inl hk))
  obtain ⟨vs, hvs, hv1, hv2, hv3⟩ := bytes_of (enc := enc) (W := W) (ua := a1) (len := n1) (uc := k1) (d := y1.1) (ps := y1.2) ⟨m, by simpa [Value.cells] using h1'⟩ (fun k hk => hw k (by
    simp only [DataW.weights, DataW.weightsEach, Try.underlying50, List.map_cons, List.map_nil, List.mem_append]
    exact .inr (.inl hk)))
  subst hus
  subst hvs
  exact ⟨(us, vs), a0, a1, k0, k1, rfl, hu1, hv1, hu2, hv2, by show us.length ≤ _; omega, by show vs.length ≤ _; omega⟩
theorem kvs_of {H : Type} {enc : TypeId × Value → H} {W : World} {la : Option Addr} {len lc : Nat} {d : DataW H} {ps : List MemPlace} (h : DataW.Trod enc Try.prog W 0 (fun _ => true) true 27 (.slice la len lc) d ps)
    (hw : ∀ k ∈ d.weights Try.prog 27, k ≤ reachBytes) : ∃ ls : Ps, ls.length = len ∧ len ≤ lc ∧ len ≤ 140737488355328 ∧ RdK W (.slice la len lc) ls := by
  obtain ⟨fuel, hf⟩ := h
  rcases open_slice Try.underlying27 (by simpa [Value.cells] using hf) with ⟨e, _⟩ | ⟨a, len', cap, M, n', D, Pl, e, _, hl, hm, hM, hx, hel⟩
  · simp at e
    obtain ⟨rfl, rfl, rfl⟩ := e
    exact ⟨[], rfl, by simp, by simp, RdK.nil W⟩
  · simp at e
    obtain ⟨rfl, rfl, rfl⟩ := e
    simp only [if_true] at hM
    subst hM
    simp only [Prod.mk.injEq] at hx
    obtain ⟨rfl, _⟩ := hx
    have hce : Try.prog.cellsOf 50 = 2 := by kernel_rfl
    have hbe : Try.prog.bytesOf 50 = 48 := by kernel_rfl
    have hlen : len ≤ 140737488355328 := by
      have h1 := hw ((len + (M - len)) * 48) (by
        simp only [DataW.weights, Try.underlying27, hbe, List.length_map, List.length_range]
        exact List.mem_cons.2 (.inl rfl))
      unfold reachBytes at h1
      omega
    have each : ∀ i, i < len → ∃ x : List Nat × List Nat, ∃ (a0 a1 : Option Addr) (k0 k1 : Nat), W.cell? (a.add (i * 2)) = some (.slice a0 x.1.length k0) ∧ W.cell? ((a.add (i * 2)).add 1) = some (.slice a1 x.2.length k1) ∧ Rd W (.slice a0 x.1.length k0) (bv x.1) ∧ Rd W (.slice a1 x.2.length k1) (bv x.2) ∧ By x.1 ∧ By x.2 ∧ x.1.length ≤ 140737488355328 ∧ x.2.length ≤ 140737488355328 := fun i hi => by
      obtain ⟨cs', hc, ht⟩ := hel i (by omega)
      obtain ⟨x, a0, a1, k0, k1, rfl, g⟩ := kv_open ht fun k hk => hw k (by
        simp only [DataW.weights, Try.underlying27]
        exact List.mem_cons_of_mem _ (List.mem_append_left _ (weightsAll_mem (List.mem_map.2 ⟨i, List.mem_range.2 hi, rfl⟩) _ hk)))
      rw [hce] at hc
      obtain ⟨_, _, hcc⟩ := World.cells?_some hc
      have c0 := hcc 0 (by omega)
      have c1 := hcc 1 (by omega)
      exact ⟨x, a0, a1, k0, k1, by simpa [Addr.add] using c0, by simpa using c1, g⟩
    obtain ⟨ks, hkl, hk⟩ := list_of len each
    refine ⟨ks, hkl, by omega, hlen, some a, _, by rw [hkl], by rw [hkl]; omega, fun h0 => ?_⟩
    obtain ⟨kb, ko, spot⟩ := a
    have hspot : spot = none := by
      obtain ⟨x, a0, a1, k0, k1, h1, _⟩ := each 0 (by omega)
      simpa [Addr.add] using World.cell?_spot h1
    subst hspot
    refine ⟨kb, ko, rfl, fun j k hj => ?_⟩
    obtain ⟨a0, a1, k0, k1, c0, c1, g1, g2, g3, g4, g5, g6⟩ := hk j k hj
    simp only [Addr.add_lit] at c0 c1
    exact ⟨a0, k0, a1, k1, c0, c1, g1, g2, g3, g4, g5, g6⟩
end Go.Proofs.Ythmlpjogbdpgiaa
namespace Go.Proofs.Ythmlpjogbdpgiaa
open Go.ChangeShapes Go.WideShapes Go.ChangeAt Go.RowKit Go.Deep

theorem kvss_of {H : Type} {enc : TypeId × Value → H} {W : World} {la : Option Addr} {len lc : Nat} {d : DataW H} {ps : List MemPlace} (h : DataW.Trod enc Try.prog W 0 (fun _ => true) true 22 (.slice la len lc) d ps)
    (hw : ∀ k ∈ d.weights Try.prog 22, k ≤ reachBytes) : ∃ LL : List Ps, LL.length = len ∧ len ≤ 140737488355328 ∧ (∀ p ∈ LL, p.length ≤ 140737488355328) ∧ RdLL W (.slice la len lc) LL := by
  obtain ⟨fuel, hf⟩ := h
  rcases open_slice1 Try.underlying22 (by kernel_rfl) (by simpa [Value.cells] using hf) with ⟨e, _⟩ | ⟨a, len', cap, M, n', V, D, Pl, e, _, hl, hm, hM, hx, hel⟩
  · simp at e
    obtain ⟨rfl, rfl, rfl⟩ := e
    exact ⟨[], rfl, by simp, fun p hp => by simp at hp, none, 0, rfl, by simp, fun h0 => by simp at h0⟩
  · simp at e
    obtain ⟨rfl, rfl, rfl⟩ := e
    simp only [if_true] at hM
    subst hM
    simp only [Prod.mk.injEq] at hx
    obtain ⟨rfl, _⟩ := hx
    have hbe : Try.prog.bytesOf 27 = 24 := by kernel_rfl
    have hlen : len ≤ 140737488355328 := by
      have h1 := hw ((len + (M - len)) * 24) (by
        simp only [DataW.weights, Try.underlying22, hbe, List.length_map, List.length_range]
        exact List.mem_cons.2 (.inl rfl))
      unfold reachBytes at h1
      omega
    have each : ∀ i, i < len → ∃ p : Ps, ∃ (ua : Option Addr) (uc : Nat), W.cell? (a.add i) = some (.slice ua p.length uc) ∧ RdK W (.slice ua p.length uc) p ∧ p.length ≤ 140737488355328 := fun i hi => by
      obtain ⟨hc, ht⟩ := hel i (by omega)
      obtain ⟨ua, un, uc, hv⟩ := slice_form Try.underlying27 ht
      rw [hv] at hc ht
      obtain ⟨p, hp, _, hp2, hr⟩ := kvs_of (enc := enc) (W := W) (la := ua) (len := un) (lc := uc) (d := D i) (ps := Pl i) ⟨n', by simpa [Value.cells] using ht⟩ (fun k hk => hw k (by
        simp only [DataW.weights, Try.underlying22]
        exact List.mem_cons_of_mem _ (List.mem_append_left _ (weightsAll_mem (List.mem_map.2 ⟨i, List.mem_range.2 hi, rfl⟩) _ hk))))
      subst hp
      exact ⟨p, ua, uc, hc, hr, hp2⟩
    obtain ⟨LL, hkl, hk⟩ := list_of len each
    refine ⟨LL, hkl, hlen, fun p hp => ?_, some a, _, by rw [hkl], by rw [hkl]; omega, fun h0 => ?_⟩
    · obtain ⟨i, hi⟩ := List.getElem?_of_mem hp
      obtain ⟨_, _, _, _, h3⟩ := hk i p hi
      exact h3
    obtain ⟨kb, ko, spot⟩ := a
    have hspot : spot = none := by
      obtain ⟨x, a0, k0, h1, _⟩ := each 0 (by omega)
      simpa [Addr.add] using World.cell?_spot h1
    subst hspot
    refine ⟨kb, ko, rfl, fun j k hj => ?_⟩
    obtain ⟨ua, uc, c0, g1, _⟩ := hk j k hj
    simp only [Addr.add_lit] at c0
    exact ⟨ua, uc, c0, g1⟩
end Go.Proofs.Ythmlpjogbdpgiaa
