/-
  How the arguments that a statement hands over are opened: bytes.
-/
import Derived.Test.YtegbngbhmgbocaaGreatDoorJ02
import Derived.ShutString
import Derived.ChangeOld
import Derived.SizedLaws
import Derived.Deep.Matrix
import Derived.Test.YtegbngbhmgbocaaGreatDoorJ09
namespace Go.Proofs.YtegbngbhmgbocaaGreatDoor
open Go.ChangeShapes Go.WideShapes Go.ChangeAt Go.RowKit Go.Deep

theorem ownKnobs : ownKnob Tryz.prog.godebug = none := by kernel_rfl
theorem laidOut : laidOutB Tryz.prog = true := by kernel_rfl

theorem nat_of {n : Int} (h : 0 ≤ n) : ∃ m : Nat, n = (m : Int) := ⟨n.toNat, by omega⟩

/-- Bytes that came in. -/
theorem bytes_of {H : Type} {enc : TypeId × Value → H} {W : World} {ua : Option Addr} {len uc : Nat} {d : DataW H} {ps : List MemPlace} (h : DataW.Trod enc Tryz.prog W 0 (fun _ => true) true 22 (.slice ua len uc) d ps)
    (hw : ∀ n ∈ d.weights Tryz.prog 22, n ≤ reachBytes) : ∃ ns : List Nat, ns.length = len ∧ Rd W (.slice ua len uc) (bv ns) ∧ By ns ∧ len ≤ 140737488351232 := by
  obtain ⟨fuel, hf⟩ := h
  rcases open_ints Tryz.underlying22 Tryz.underlying5 (by kernel_rfl) hf with ⟨hcs, _⟩ | ⟨a, l, c, zs, hcs, _, hl, hm, hz, hx, hcell, hwf⟩
  · simp [Value.cells] at hcs
    obtain ⟨rfl, rfl, rfl⟩ := hcs
    exact ⟨[], rfl, .inl ⟨rfl, rfl⟩, fun u hu => by simp at hu, by omega⟩
  · simp [Value.cells] at hcs
    obtain ⟨rfl, rfl, rfl⟩ := hcs
    simp only [Prod.mk.injEq] at hx
    obtain ⟨rfl, _⟩ := hx
    simp only [if_true] at hz
    have hXl : ((zs.take len).map Int.toNat).length = len := by rw [List.length_map, List.length_take]; omega
    have hb : ∀ z ∈ zs, 0 ≤ z ∧ z ≤ 255 := fun z hz' => bounds_u8 (hwf z hz')
    refine ⟨(zs.take len).map Int.toNat, hXl, .inr ⟨a, uc, by rw [bv_len, hXl], by rw [bv_len, hXl]; exact hl, fun j u hj => ?_⟩, fun u hu => ?_, ?_⟩
    · have hjl : j < len := by
        rcases Nat.lt_or_ge j len with h | h
        · exact h
        · rw [List.getElem?_eq_none (by rw [bv_len, hXl]; omega)] at hj; cases hj
      have hjz : j < zs.length := by omega
      rw [hcell j hjz]
      unfold bv at hj
      rw [List.getElem?_map, List.getElem?_map, List.getElem?_take, if_pos hjl, List.getElem?_eq_getElem hjz] at hj
      simp only [Option.map_some, Option.some.injEq] at hj
      rw [← hj]
      have h0 := hb _ (List.getElem_mem hjz)
      simp only [List.getD, List.getElem?_eq_getElem hjz, Option.getD_some, Int.toNat_of_nonneg h0.1]
    · obtain ⟨n, hn, rfl⟩ := List.mem_map.1 hu
      have := hb n (List.mem_of_mem_take hn)
      omega
    · have h1 := hw (uc * Tryz.prog.bytesOf 5) (by
        simp only [DataW.weights, Tryz.underlying22]
        refine List.mem_cons.2 (.inl ?_)
        rw [lits, lits, List.length_map, List.length_map, List.length_take, List.length_drop, hz]
        congr 1; omega)
      rw [show Tryz.prog.bytesOf 5 = 1 from by kernel_rfl] at h1
      unfold reachBytes at h1
      omega
end Go.Proofs.YtegbngbhmgbocaaGreatDoor
namespace Go.Proofs.YtegbngbhmgbocaaGreatDoor
open Go.ChangeShapes Go.WideShapes Go.ChangeAt Go.RowKit Go.Deep

theorem weightsAll_mem {H : Type} {P : Program} {e : TypeId} : ∀ {ds : List (DataW H)} {d : DataW H}, d ∈ ds → ∀ n ∈ d.weights P e, n ∈ DataW.weightsAll P e ds
  | [], _, h, _, _ => by cases h
  | x :: r, d, h, n, hn => by
    simp only [DataW.weightsAll, List.mem_append]
    rcases List.mem_cons.1 h with rfl | h
    · exact .inl hn
    · exact .inr (weightsAll_mem h n hn)

/-- A list of lists of bytes that came in. -/
def Rows2 (w : World) (la : Option Addr) (len : Nat) (A : Nat → Option Addr) (C : Nat → Nat) (X : Nat → List Nat) : Prop :=
  0 < len → ∃ lb lo, la = some ⟨lb, lo, none⟩ ∧ ∀ r, r < len → w.cell? ⟨lb, lo + r, none⟩ = some (.slice (A r) (X r).length (C r)) ∧ Rd w (.slice (A r) (X r).length (C r)) (bv (X r)) ∧ By (X r) ∧ (X r).length ≤ 140737488355328
/-- A list of numbers that came in. -/
def Nums (w : World) (na : Option Addr) (ln : Nat) (Y : Nat → Nat) : Prop :=
  0 < ln → ∃ nb no, na = some ⟨nb, no, none⟩ ∧ ∀ r, r < ln → w.cell? ⟨nb, no + r, none⟩ = some (.int .u64 (Y r : Int)) ∧ Y r < 18446744073709551616

theorem rows2_of {H : Type} {enc : TypeId × Value → H} {W : World} {la : Option Addr} {len lc : Nat} {d : DataW H} {ps : List MemPlace} (h : DataW.Trod enc Tryz.prog W 0 (fun _ => true) true 46 (.slice la len lc) d ps)
    (hw : ∀ n ∈ d.weights Tryz.prog 46, n ≤ reachBytes) : len ≤ 9223372036854775807 ∧ ∃ A C X, Rows2 W la len A C X := by
  obtain ⟨fuel, hf⟩ := h
  rcases open_int_rows Tryz.underlying46 Tryz.underlying22 Tryz.underlying5 (by kernel_rfl) (by kernel_rfl) hf with ⟨hcs, _⟩ | ⟨a, len', cap', A, L, C, Z, hcs, _, hl, hm, hx, hrow⟩
  · simp [Value.cells] at hcs
    obtain ⟨rfl, rfl, rfl⟩ := hcs
    exact ⟨by omega, fun _ => none, fun _ => 0, fun _ => [], fun h => by omega⟩
  · simp [Value.cells] at hcs
    obtain ⟨rfl, rfl, rfl⟩ := hcs
    simp only [Prod.mk.injEq] at hx
    obtain ⟨rfl, _⟩ := hx
    refine ⟨by unfold maxLen at hm; omega, A, C, fun r => ((Z r).take (L r)).map Int.toNat, fun hpos => ?_⟩
    obtain ⟨lb, lo, spot⟩ := a
    have hspot : spot = none := by
      have := (hrow 0 (by omega)).1
      simpa [Addr.add] using World.cell?_spot this
    subst hspot
    refine ⟨lb, lo, rfl, fun r hr => ?_⟩
    obtain ⟨c1, c2, c3, c4, c5, c6, c7⟩ := hrow r (by omega)
    have hXl : (((Z r).take (L r)).map Int.toNat).length = L r := by rw [List.length_map, List.length_take]; omega
    have hb : ∀ z ∈ Z r, 0 ≤ z ∧ z ≤ 255 := fun z hz' => bounds_u8 (c5 z hz')
    have hC : C r ≤ 140737488355328 := by
      cases hA : A r with
      | none => rw [c6 hA]; omega
      | some a' =>
        have hmem : (C r) * Tryz.prog.bytesOf 5 ∈ DataW.weights Tryz.prog 46 (DataW.slice ((List.range len).map fun r => intRow (H := H) .u8 (A r) (L r) (Z r)) ((List.range (lc - len)).map fun j => intRow .u8 (A (len + j)) (L (len + j)) (Z (len + j)))) := by
          simp only [DataW.weights, Tryz.underlying46]
          refine List.mem_cons_of_mem _ (List.mem_append_left _ (weightsAll_mem (List.mem_map.2 ⟨r, List.mem_range.2 hr, rfl⟩) _ ?_))
          simp only [intRow, hA, DataW.weights, Tryz.underlying22]
          refine List.mem_cons.2 (.inl ?_)
          rw [lits, lits, List.length_map, List.length_map, List.length_take, List.length_drop, c4]
          congr 1; omega
        have h1 := hw _ hmem
        rw [show Tryz.prog.bytesOf 5 = 1 from by kernel_rfl] at h1
        have := reachBytes_lt
        omega
    refine ⟨?_, ?_, ?_, ?_⟩
    · rw [hXl]; have := c1; rwa [Addr.add_lit] at this
    · rw [hXl]
      cases hA : A r with
      | none =>
        have h0 := c6 hA
        have h1 : L r = 0 := by omega
        rw [h0, h1]
        exact .inl ⟨rfl, by simp [h1, bv]⟩
      | some a' =>
        refine .inr ⟨a', C r, by rw [bv_len, hXl], by rw [bv_len, hXl]; exact c2, fun j u hj => ?_⟩
        have hjl : j < L r := by
          rcases Nat.lt_or_ge j (L r) with h | h
          · exact h
          · rw [List.getElem?_eq_none (by rw [bv_len, hXl]; omega)] at hj; cases hj
        have hjz : j < (Z r).length := by omega
        rw [(c7 a' hA).2 j (by omega)]
        unfold bv at hj
        rw [List.getElem?_map, List.getElem?_map, List.getElem?_take, if_pos hjl, List.getElem?_eq_getElem hjz] at hj
        simp only [Option.map_some, Option.some.injEq] at hj
        rw [← hj]
        have h0 := hb _ (List.getElem_mem hjz)
        simp only [List.getD, List.getElem?_eq_getElem hjz, Option.getD_some, Int.toNat_of_nonneg h0.1]
    · intro u hu
      obtain ⟨n, hn, rfl⟩ := List.mem_map.1 hu
      have := hb n (List.mem_of_mem_take hn)
      omega
    · rw [hXl]; omega

end Go.Proofs.YtegbngbhmgbocaaGreatDoor
namespace Go.Proofs.YtegbngbhmgbocaaGreatDoor
open Go.ChangeShapes Go.WideShapes Go.ChangeAt Go.RowKit Go.Deep

theorem list_of {α : Type} {P : Nat → α → Prop} : ∀ (n : Nat), (∀ i, i < n → ∃ k, P i k) → ∃ ks : List α, ks.length = n ∧ ∀ (j : Nat) (k : α), ks[j]? = some k → P j k
  | 0, _ => ⟨[], rfl, fun j k h => by simp at h⟩
  | n + 1, h => by
    obtain ⟨ks, hl, hk⟩ := list_of n fun i hi => h i (by omega)
    obtain ⟨k, h1⟩ := h n (by omega)
    refine ⟨ks ++ [k], by simp [hl], fun j x hx => ?_⟩
    by_cases hj : j < n
    · rw [List.getElem?_append_left (by omega)] at hx
      exact hk j x hx
    · have hj2 : j = n := by
        by_cases hj3 : j = n
        · exact hj3
        · rw [List.getElem?_eq_none (by simp; omega)] at hx; cases hx
      subst hj2
      rw [List.getElem?_append_right (by omega), hl] at hx
      simp at hx
      exact hx ▸ h1

theorem slice_form {H : Type} {enc : TypeId × Value → H} {W : World} {t e : TypeId} {fuel : Nat} {v : Value} {x : DataW H × List MemPlace} (ht : Tryz.prog.underlying t = some (.slice e)) (h : DataW.trod enc Tryz.prog W 0 (fun _ => true) true fuel t [v] = some x) :
    ∃ a n c, v = .slice a n c := by
  rcases DataW.trod_slice ht h with ⟨e, _⟩ | ⟨a, len, cap, _, _, _, _, e, _⟩
  · exact ⟨_, _, _, by simpa using e⟩
  · exact ⟨_, _, _, by simpa using e⟩


theorem two_of {α : Type} : ∀ (l : List α), l.length = 2 → ∃ a b, l = [a, b]
  | [a, b], _ => ⟨a, b, rfl⟩
theorem four_o {α : Type} : ∀ (l : List α), l.length = 4 → ∃ a b c d, l = [a, b, c, d]
  | [a, b, c, d], _ => ⟨a, b, c, d, rfl⟩
theorem five_o {α : Type} : ∀ (l : List α), l.length = 5 → ∃ a b c d e, l = [a, b, c, d, e]
  | [a, b, c, d, e], _ => ⟨a, b, c, d, e, rfl⟩
theorem gone_open {H : Type} {enc : TypeId × Value → H} {W : World} {fuel : Nat} {cs : List Value} {d : DataW H} {ps : List MemPlace} (h : DataW.trod enc Tryz.prog W 0 (fun _ => true) true fuel 45 cs = some (d, ps)) :
    ∃ g : Int × Int, cs = [.int .i64 g.1, .int .i64 g.2] := by
  obtain ⟨xs, m, _, hx, hl, hlen, hf⟩ := DataW.trod_struct Tryz.underlying45 h
  have hl2 : cs.length = 2 := by rw [hl]; kernel_rfl
  have e0 : Tryz.prog.cellsOf 3 = 1 := by kernel_rfl
  obtain ⟨y0, y1, rfl⟩ := two_of xs hlen
  obtain ⟨c0, c1, rfl⟩ := two_of cs hl2
  have h0 : DataW.trod enc Tryz.prog W 0 (fun _ => true) true m 3 [c0] = some y0 := by simpa [e0] using hf 0 _ rfl
  have h1 : DataW.trod enc Tryz.prog W 0 (fun _ => true) true m 3 [c1] = some y1 := by simpa [e0] using hf 1 _ rfl
  obtain ⟨n0, g0, _⟩ := DataW.trod_int Tryz.underlying3 h0
  obtain ⟨n1, g1, _⟩ := DataW.trod_int Tryz.underlying3 h1
  simp only [List.cons.injEq, and_true] at g0 g1
  subst g0 g1
  exact ⟨(n0, n1), rfl⟩
theorem file_open {H : Type} {enc : TypeId × Value → H} {W : World} {fuel : Nat} {cs : List Value} {d : DataW H} {ps : List MemPlace} (h : DataW.trod enc Tryz.prog W 0 (fun _ => true) true fuel 62 cs = some (d, ps))
    (hw : ∀ k ∈ d.weights Tryz.prog 62, k ≤ reachBytes) :
    ∃ (f : Fl) (la ma : Option Addr) (lc mc : Nat), cs = [.int .i64 f.num, .int .i64 f.size, .slice la f.least.length lc, .slice ma f.most.length mc] ∧ FRd W f la lc ma mc := by
  obtain ⟨xs, m, _, hx, hl, hlen, hf⟩ := DataW.trod_struct Tryz.underlying62 h
  have hl4 : cs.length = 4 := by rw [hl]; kernel_rfl
  have e0 : Tryz.prog.cellsOf 22 = 1 := by kernel_rfl
  have e3 : Tryz.prog.cellsOf 3 = 1 := by kernel_rfl
  obtain ⟨y0, y1, y2, y3, rfl⟩ := four_o xs hlen
  obtain ⟨c0, c1, c2, c3, rfl⟩ := four_o cs hl4
  simp only [Prod.mk.injEq] at hx
  obtain ⟨rfl, _⟩ := hx
  have h0 : DataW.trod enc Tryz.prog W 0 (fun _ => true) true m 3 [c0] = some y0 := by simpa [e3] using hf 0 _ rfl
  have h1 : DataW.trod enc Tryz.prog W 0 (fun _ => true) true m 3 [c1] = some y1 := by simpa [e3] using hf 1 _ rfl
  have h2 : DataW.trod enc Tryz.prog W 0 (fun _ => true) true m 22 [c2] = some y2 := by simpa [e0] using hf 2 _ rfl
  have h3 : DataW.trod enc Tryz.prog W 0 (fun _ => true) true m 22 [c3] = some y3 := by simpa [e0] using hf 3 _ rfl
  obtain ⟨n0, g0, _⟩ := DataW.trod_int Tryz.underlying3 h0
  obtain ⟨n1, g1, _⟩ := DataW.trod_int Tryz.underlying3 h1
  simp only [List.cons.injEq, and_true] at g0 g1
  subst g0 g1
  obtain ⟨a0, l0, k0, rfl⟩ := slice_form Tryz.underlying22 h2
  obtain ⟨a1, l1, k1, rfl⟩ := slice_form Tryz.underlying22 h3
  obtain ⟨us, hus, hu1, hu2, hu3⟩ := bytes_of (enc := enc) (W := W) (ua := a0) (len := l0) (uc := k0) (d := y2.1) (ps := y2.2) ⟨m, by simpa [Value.cells] using h2⟩ (fun k hk => hw k (by
    simp only [DataW.weights, DataW.weightsEach, Tryz.underlying62, List.map_cons, List.map_nil, List.mem_append]
    exact .inr (.inr (.inl hk))))
  obtain ⟨vs, hvs, hv1, hv2, hv3⟩ := bytes_of (enc := enc) (W := W) (ua := a1) (len := l1) (uc := k1) (d := y3.1) (ps := y3.2) ⟨m, by simpa [Value.cells] using h3⟩ (fun k hk => hw k (by
    simp only [DataW.weights, DataW.weightsEach, Tryz.underlying62, List.map_cons, List.map_nil, List.mem_append]
    exact .inr (.inr (.inr (.inl hk)))))
  subst hus
  subst hvs
  exact ⟨⟨n0, n1, us, vs⟩, a0, a1, k0, k1, rfl, hu1, hv1, hu2, hv2, by show us.length ≤ _; omega, by show vs.length ≤ _; omega⟩
theorem placed_open {H : Type} {enc : TypeId × Value → H} {W : World} {fuel : Nat} {cs : List Value} {d : DataW H} {ps : List MemPlace} (h : DataW.trod enc Tryz.prog W 0 (fun _ => true) true fuel 64 cs = some (d, ps))
    (hw : ∀ k ∈ d.weights Tryz.prog 64, k ≤ reachBytes) :
    ∃ (p : Int × Fl) (la ma : Option Addr) (lc mc : Nat), cs = [.int .i64 p.1, .int .i64 p.2.num, .int .i64 p.2.size, .slice la p.2.least.length lc, .slice ma p.2.most.length mc] ∧ FRd W p.2 la lc ma mc := by
  obtain ⟨xs, m, _, hx, hl, hlen, hf⟩ := DataW.trod_struct Tryz.underlying64 h
  have hl5 : cs.length = 5 := by rw [hl]; kernel_rfl
  have e0 : Tryz.prog.cellsOf 62 = 4 := by kernel_rfl
  have e3 : Tryz.prog.cellsOf 3 = 1 := by kernel_rfl
  obtain ⟨y0, y1, rfl⟩ := two_of xs hlen
  obtain ⟨c0, c1, c2, c3, c4, rfl⟩ := five_o cs hl5
  simp only [Prod.mk.injEq] at hx
  obtain ⟨rfl, _⟩ := hx
  have h0 : DataW.trod enc Tryz.prog W 0 (fun _ => true) true m 3 [c0] = some y0 := by simpa [e3] using hf 0 _ rfl
  have h1 : DataW.trod enc Tryz.prog W 0 (fun _ => true) true m 62 [c1, c2, c3, c4] = some y1 := by simpa [e0] using hf 1 _ rfl
  obtain ⟨n0, g0, _⟩ := DataW.trod_int Tryz.underlying3 h0
  simp only [List.cons.injEq, and_true] at g0
  subst g0
  obtain ⟨f, la, ma, lc, mc, hcs, hfr⟩ := file_open (d := y1.1) (ps := y1.2) h1 (fun k hk => hw k (by
    simp only [DataW.weights, DataW.weightsEach, Tryz.underlying64, List.map_cons, List.map_nil, List.mem_append]
    exact .inr (.inl hk)))
  exact ⟨(n0, f), la, ma, lc, mc, by rw [hcs], hfr⟩
theorem gones_of {H : Type} {enc : TypeId × Value → H} {W : World} {la : Option Addr} {len lc : Nat} {d : DataW H} {ps : List MemPlace} (h : DataW.Trod enc Tryz.prog W 0 (fun _ => true) true 38 (.slice la len lc) d ps)
    (hw : ∀ k ∈ d.weights Tryz.prog 38, k ≤ reachBytes) : ∃ ls : List (Int × Int), ls.length = len ∧ len ≤ 140737488355328 ∧ RdD W (.slice la len lc) ls := by
  obtain ⟨fuel, hf⟩ := h
  rcases open_slice Tryz.underlying38 (by simpa [Value.cells] using hf) with ⟨e, _⟩ | ⟨a, len', cap, M, n', D, Pl, e, _, hl, hm, hM, hx, hel⟩
  · simp at e
    obtain ⟨rfl, rfl, rfl⟩ := e
    exact ⟨[], rfl, by simp, none, 0, rfl, fun h => by simp at h⟩
  · simp at e
    obtain ⟨rfl, rfl, rfl⟩ := e
    simp only [if_true] at hM
    subst hM
    simp only [Prod.mk.injEq] at hx
    obtain ⟨rfl, _⟩ := hx
    have hce : Tryz.prog.cellsOf 45 = 2 := by kernel_rfl
    have hbe : Tryz.prog.bytesOf 45 = 16 := by kernel_rfl
    have hlen : len ≤ 140737488355328 := by
      have h1 := hw ((len + (M - len)) * 16) (by
        simp only [DataW.weights, Tryz.underlying38, hbe, List.length_map, List.length_range]
        exact List.mem_cons.2 (.inl rfl))
      unfold reachBytes at h1
      omega
    have each : ∀ i, i < len → ∃ g : Int × Int, W.cell? (a.add (i * 2)) = some (.int .i64 g.1) ∧ W.cell? ((a.add (i * 2)).add 1) = some (.int .i64 g.2) := fun i hi => by
      obtain ⟨cs', hc, ht⟩ := hel i (by omega)
      obtain ⟨g, rfl⟩ := gone_open ht
      rw [hce] at hc
      obtain ⟨_, _, hcc⟩ := World.cells?_some hc
      have c0 := hcc 0 (by omega)
      have c1 := hcc 1 (by omega)
      exact ⟨g, by simpa [Addr.add] using c0, by simpa using c1⟩
    obtain ⟨ks, hkl, hk⟩ := list_of len each
    refine ⟨ks, hkl, hlen, some a, _, by rw [hkl], fun h0 => ?_⟩
    obtain ⟨kb, ko, spot⟩ := a
    have hspot : spot = none := by
      obtain ⟨g, h1, _⟩ := each 0 (by omega)
      simpa [Addr.add] using World.cell?_spot h1
    subst hspot
    refine ⟨kb, ko, rfl, fun j k hj => ?_⟩
    obtain ⟨c0, c1⟩ := hk j k hj
    simp only [Addr.add_lit] at c0 c1
    exact ⟨c0, c1⟩
theorem placeds_of {H : Type} {enc : TypeId × Value → H} {W : World} {la : Option Addr} {len lc : Nat} {d : DataW H} {ps : List MemPlace} (h : DataW.Trod enc Tryz.prog W 0 (fun _ => true) true 39 (.slice la len lc) d ps)
    (hw : ∀ k ∈ d.weights Tryz.prog 39, k ≤ reachBytes) : ∃ ls : List (Int × Fl), ls.length = len ∧ len ≤ 140737488355328 ∧ RdA W (.slice la len lc) ls := by
  obtain ⟨fuel, hf⟩ := h
  rcases open_slice Tryz.underlying39 (by simpa [Value.cells] using hf) with ⟨e, _⟩ | ⟨a, len', cap, M, n', D, Pl, e, _, hl, hm, hM, hx, hel⟩
  · simp at e
    obtain ⟨rfl, rfl, rfl⟩ := e
    exact ⟨[], rfl, by simp, none, 0, rfl, fun h => by simp at h⟩
  · simp at e
    obtain ⟨rfl, rfl, rfl⟩ := e
    simp only [if_true] at hM
    subst hM
    simp only [Prod.mk.injEq] at hx
    obtain ⟨rfl, _⟩ := hx
    have hce : Tryz.prog.cellsOf 64 = 5 := by kernel_rfl
    have hbe : Tryz.prog.bytesOf 64 = 72 := by kernel_rfl
    have hlen : len ≤ 140737488355328 := by
      have h1 := hw ((len + (M - len)) * 72) (by
        simp only [DataW.weights, Tryz.underlying39, hbe, List.length_map, List.length_range]
        exact List.mem_cons.2 (.inl rfl))
      unfold reachBytes at h1
      omega
    have each : ∀ i, i < len → ∃ p : Int × Fl, ∃ (la ma : Option Addr) (lc mc : Nat), W.cell? (a.add (i * 5)) = some (.int .i64 p.1) ∧ W.cell? ((a.add (i * 5)).add 1) = some (.int .i64 p.2.num) ∧ W.cell? ((a.add (i * 5)).add 2) = some (.int .i64 p.2.size) ∧ W.cell? ((a.add (i * 5)).add 3) = some (.slice la p.2.least.length lc) ∧ W.cell? ((a.add (i * 5)).add 4) = some (.slice ma p.2.most.length mc) ∧ FRd W p.2 la lc ma mc := fun i hi => by
      obtain ⟨cs', hc, ht⟩ := hel i (by omega)
      obtain ⟨p, la, ma, lc, mc, rfl, g⟩ := placed_open ht fun k hk => hw k (by
        simp only [DataW.weights, Tryz.underlying39]
        exact List.mem_cons_of_mem _ (List.mem_append_left _ (weightsAll_mem (List.mem_map.2 ⟨i, List.mem_range.2 hi, rfl⟩) _ hk)))
      rw [hce] at hc
      obtain ⟨_, _, hcc⟩ := World.cells?_some hc
      have c0 := hcc 0 (by omega)
      have c1 := hcc 1 (by omega)
      have c2 := hcc 2 (by omega)
      have c3 := hcc 3 (by omega)
      have c4 := hcc 4 (by omega)
      exact ⟨p, la, ma, lc, mc, by simpa [Addr.add] using c0, by simpa using c1, by simpa using c2, by simpa using c3, by simpa using c4, g⟩
    obtain ⟨ks, hkl, hk⟩ := list_of len each
    refine ⟨ks, hkl, hlen, some a, _, by rw [hkl], fun h0 => ?_⟩
    obtain ⟨kb, ko, spot⟩ := a
    have hspot : spot = none := by
      obtain ⟨p, la, ma, lc, mc, h1, _⟩ := each 0 (by omega)
      simpa [Addr.add] using World.cell?_spot h1
    subst hspot
    refine ⟨kb, ko, rfl, fun j k hj => ?_⟩
    obtain ⟨la, ma, lc, mc, c0, c1, c2, c3, c4, g⟩ := hk j k hj
    simp only [Addr.add_lit] at c0 c1 c2 c3 c4
    exact ⟨c0, la, lc, ma, mc, c1, c2, c3, c4, g⟩
theorem edit_of {H : Type} {enc : TypeId × Value → H} {W : World} {v0 v1 v2 v3 v4 : Value} {d : DataW H} {ps : List MemPlace} (h : DataW.Trod enc Tryz.prog W 0 (fun _ => true) true 41 (.agg #[v0, v1, v2, v3, v4]) d ps)
    (hw : ∀ k ∈ d.weights Tryz.prog 41, k ≤ reachBytes) :
    ∃ (e : Ed) (da aa : Option Addr) (dc ac : Nat), v0 = .int .i64 e.log ∧ v1 = .int .i64 e.next ∧ v2 = .int .u64 (e.seq : Int) ∧ v3 = .slice da e.drop.length dc ∧ v4 = .slice aa e.add.length ac ∧ EAt W e da dc aa ac := by
  obtain ⟨fuel, hf0⟩ := h
  have hf' : DataW.trod enc Tryz.prog W 0 (fun _ => true) true fuel 41 [v0, v1, v2, v3, v4] = some (d, ps) := by simpa [Value.cells] using hf0
  obtain ⟨xs, m, _, hx, hl, hlen, hf⟩ := DataW.trod_struct Tryz.underlying41 hf'
  have e0 : Tryz.prog.cellsOf 3 = 1 := by kernel_rfl
  have e2 : Tryz.prog.cellsOf 24 = 1 := by kernel_rfl
  have e3 : Tryz.prog.cellsOf 38 = 1 := by kernel_rfl
  have e4 : Tryz.prog.cellsOf 39 = 1 := by kernel_rfl
  obtain ⟨y0, y1, y2, y3, y4, rfl⟩ := five_o xs hlen
  simp only [Prod.mk.injEq] at hx
  obtain ⟨rfl, _⟩ := hx
  have h0 : DataW.trod enc Tryz.prog W 0 (fun _ => true) true m 3 [v0] = some y0 := by simpa [e0] using hf 0 _ rfl
  have h1 : DataW.trod enc Tryz.prog W 0 (fun _ => true) true m 3 [v1] = some y1 := by simpa [e0] using hf 1 _ rfl
  have h2 : DataW.trod enc Tryz.prog W 0 (fun _ => true) true m 24 [v2] = some y2 := by simpa [e2] using hf 2 _ rfl
  have h3 : DataW.trod enc Tryz.prog W 0 (fun _ => true) true m 38 [v3] = some y3 := by simpa [e3] using hf 3 _ rfl
  have h4 : DataW.trod enc Tryz.prog W 0 (fun _ => true) true m 39 [v4] = some y4 := by simpa [e4] using hf 4 _ rfl
  obtain ⟨n0, g0, _⟩ := DataW.trod_int Tryz.underlying3 h0
  obtain ⟨n1, g1, _⟩ := DataW.trod_int Tryz.underlying3 h1
  obtain ⟨n2, g2, _, w2⟩ := DataW.trod_int Tryz.underlying24 h2
  have b2 : 0 ≤ n2 ∧ n2 ≤ 18446744073709551615 := by simpa [Lit.wf, IntKind.min, IntKind.max, IntKind.signed, IntKind.bits] using w2
  obtain ⟨sq, rfl⟩ : ∃ sq : Nat, n2 = (sq : Int) := ⟨n2.toNat, by omega⟩
  simp only [List.cons.injEq, and_true] at g0 g1 g2
  subst g0 g1 g2
  obtain ⟨a3, l3, k3, rfl⟩ := slice_form Tryz.underlying38 h3
  obtain ⟨a4, l4, k4, rfl⟩ := slice_form Tryz.underlying39 h4
  obtain ⟨gs, hg, hgl, hgr⟩ := gones_of (d := y3.1) (ps := y3.2) ⟨m, by simpa [Value.cells] using h3⟩ (fun k hk => hw k (by
    simp only [DataW.weights, DataW.weightsEach, Tryz.underlying41, List.map_cons, List.map_nil, List.mem_append]
    exact .inr (.inr (.inr (.inl hk)))))
  obtain ⟨as', ha, hal, har⟩ := placeds_of (d := y4.1) (ps := y4.2) ⟨m, by simpa [Value.cells] using h4⟩ (fun k hk => hw k (by
    simp only [DataW.weights, DataW.weightsEach, Tryz.underlying41, List.map_cons, List.map_nil, List.mem_append]
    exact .inr (.inr (.inr (.inr (.inl hk))))))
  subst hg
  subst ha
  exact ⟨⟨n0, n1, sq, gs, as'⟩, a3, a4, k3, k4, rfl, rfl, rfl, rfl, rfl, hgr, har, hgl, hal⟩
theorem array5 {α : Type} {cs : Array α} (h : cs.size = 5) : ∃ c0 c1 c2 c3 c4, cs = #[c0, c1, c2, c3, c4] := by
  obtain ⟨l⟩ := cs
  obtain ⟨a, b, c, d, e, rfl⟩ := five_o l (by simpa using h)
  exact ⟨a, b, c, d, e, rfl⟩
end Go.Proofs.YtegbngbhmgbocaaGreatDoor
namespace Go.Proofs.YtegbngbhmgbocaaGreatDoor
open Go.ChangeShapes Go.WideShapes Go.ChangeAt Go.RowKit Go.Deep

/-- Edits in memory. -/
def EsAt (w : World) (v : Value) (es : List Ed) : Prop := ∃ a c, v = .slice a es.length c ∧ (0 < es.length → ∃ b off, a = some ⟨b, off, none⟩ ∧ ∀ (j : Nat) (e : Ed), es[j]? = some e → ∃ da dc aa ac, (w.cell? ⟨b, off + j * 5, none⟩ = some (.int .i64 e.log) ∧ w.cell? ⟨b, off + j * 5 + 1, none⟩ = some (.int .i64 e.next) ∧ w.cell? ⟨b, off + j * 5 + 2, none⟩ = some (.int .u64 (e.seq : Int)) ∧ w.cell? ⟨b, off + j * 5 + 3, none⟩ = some (.slice da e.drop.length dc) ∧ w.cell? ⟨b, off + j * 5 + 4, none⟩ = some (.slice aa e.add.length ac)) ∧ EAt w e da dc aa ac)
theorem EsAt.fr {w w' : World} {v : Value} {es : List Ed} (h : EsAt w v es) (f : Fr [] w w') : EsAt w' v es := by
  obtain ⟨a, c, e, k⟩ := h
  refine ⟨a, c, e, fun h0 => ?_⟩
  obtain ⟨b, off, e1, m⟩ := k h0
  refine ⟨b, off, e1, fun j e hj => ?_⟩
  obtain ⟨da, dc, aa, ac, ⟨c0, c1, c2, c3, c4⟩, g⟩ := m j e hj
  exact ⟨da, dc, aa, ac, ⟨cell_fr f c0, cell_fr f c1, cell_fr f c2, cell_fr f c3, cell_fr f c4⟩, g.fr f⟩
theorem edit_open {H : Type} {enc : TypeId × Value → H} {W : World} {fuel : Nat} {cs : List Value} {d : DataW H} {ps : List MemPlace} (h : DataW.trod enc Tryz.prog W 0 (fun _ => true) true fuel 41 cs = some (d, ps))
    (hw : ∀ k ∈ d.weights Tryz.prog 41, k ≤ reachBytes) :
    ∃ (e : Ed) (da aa : Option Addr) (dc ac : Nat), cs = [.int .i64 e.log, .int .i64 e.next, .int .u64 (e.seq : Int), .slice da e.drop.length dc, .slice aa e.add.length ac] ∧ EAt W e da dc aa ac := by
  obtain ⟨xs, m, _, hx, hl, hlen, hf⟩ := DataW.trod_struct Tryz.underlying41 h
  have hl5 : cs.length = 5 := by rw [hl]; kernel_rfl
  obtain ⟨v0, v1, v2, v3, v4, rfl⟩ := five_o cs hl5
  have e0 : Tryz.prog.cellsOf 3 = 1 := by kernel_rfl
  have e2 : Tryz.prog.cellsOf 24 = 1 := by kernel_rfl
  have e3 : Tryz.prog.cellsOf 38 = 1 := by kernel_rfl
  have e4 : Tryz.prog.cellsOf 39 = 1 := by kernel_rfl
  obtain ⟨y0, y1, y2, y3, y4, rfl⟩ := five_o xs hlen
  simp only [Prod.mk.injEq] at hx
  obtain ⟨rfl, _⟩ := hx
  have h0 : DataW.trod enc Tryz.prog W 0 (fun _ => true) true m 3 [v0] = some y0 := by simpa [e0] using hf 0 _ rfl
  have h1 : DataW.trod enc Tryz.prog W 0 (fun _ => true) true m 3 [v1] = some y1 := by simpa [e0] using hf 1 _ rfl
  have h2 : DataW.trod enc Tryz.prog W 0 (fun _ => true) true m 24 [v2] = some y2 := by simpa [e2] using hf 2 _ rfl
  have h3 : DataW.trod enc Tryz.prog W 0 (fun _ => true) true m 38 [v3] = some y3 := by simpa [e3] using hf 3 _ rfl
  have h4 : DataW.trod enc Tryz.prog W 0 (fun _ => true) true m 39 [v4] = some y4 := by simpa [e4] using hf 4 _ rfl
  obtain ⟨n0, g0, _⟩ := DataW.trod_int Tryz.underlying3 h0
  obtain ⟨n1, g1, _⟩ := DataW.trod_int Tryz.underlying3 h1
  obtain ⟨n2, g2, _, w2⟩ := DataW.trod_int Tryz.underlying24 h2
  have b2 : 0 ≤ n2 ∧ n2 ≤ 18446744073709551615 := by simpa [Lit.wf, IntKind.min, IntKind.max, IntKind.signed, IntKind.bits] using w2
  obtain ⟨sq, rfl⟩ : ∃ sq : Nat, n2 = (sq : Int) := ⟨n2.toNat, by omega⟩
  simp only [List.cons.injEq, and_true] at g0 g1 g2
  subst g0 g1 g2
  obtain ⟨a3, l3, k3, rfl⟩ := slice_form Tryz.underlying38 h3
  obtain ⟨a4, l4, k4, rfl⟩ := slice_form Tryz.underlying39 h4
  obtain ⟨gs, hg, hgl, hgr⟩ := gones_of (d := y3.1) (ps := y3.2) ⟨m, by simpa [Value.cells] using h3⟩ (fun k hk => hw k (by
    simp only [DataW.weights, DataW.weightsEach, Tryz.underlying41, List.map_cons, List.map_nil, List.mem_append]
    exact .inr (.inr (.inr (.inl hk)))))
  obtain ⟨as', ha, hal, har⟩ := placeds_of (d := y4.1) (ps := y4.2) ⟨m, by simpa [Value.cells] using h4⟩ (fun k hk => hw k (by
    simp only [DataW.weights, DataW.weightsEach, Tryz.underlying41, List.map_cons, List.map_nil, List.mem_append]
    exact .inr (.inr (.inr (.inr (.inl hk))))))
  subst hg
  subst ha
  exact ⟨⟨n0, n1, sq, gs, as'⟩, a3, a4, k3, k4, rfl, hgr, har, hgl, hal⟩
end Go.Proofs.YtegbngbhmgbocaaGreatDoor
