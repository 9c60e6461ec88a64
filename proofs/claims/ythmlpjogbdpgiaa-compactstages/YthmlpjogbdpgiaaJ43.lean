/-
  What is merged, merged again; lists laid behind one another.
-/
import Derived.Test.YthmlpjogbdpgiaaCYB
import Derived.Test.YthmlpjogbdpgiaaJ02
import Derived.ShutString
import Derived.ChangeOld
import Derived.SizedLaws
import Derived.Deep.Matrix
namespace Go.Proofs.Ythmlpjogbdpgiaa
open Go.ChangeShapes Go.WideShapes Go.ChangeAt Go.RowKit

theorem kept_from {old : Nat} {sp S : Ps} : ∀ n, n ≤ S.length → ∀ (j : Nat) (p : List Nat × List Nat), (kept old sp S n)[j]? = some p →
    ∃ i, i < n ∧ p = (kA S i, vA S i) ∧ stay old sp S i = true ∧ (0 < j → ∃ i', i' < i ∧ (kept old sp S n)[j - 1]? = some (kA S i', vA S i'))
  | 0, _, j, p, h => by simp [kept] at h
  | n + 1, hn, j, p, h => by
    rw [kept_succ] at h ⊢
    rcases Nat.lt_or_ge j (kept old sp S n).length with hlt | hge
    · rw [List.getElem?_append_left hlt] at h
      obtain ⟨i, h1, h2, h3, h4⟩ := kept_from n (by omega) j p h
      refine ⟨i, by omega, h2, h3, fun h0 => ?_⟩
      obtain ⟨i', h5, h6⟩ := h4 h0
      exact ⟨i', h5, by rw [List.getElem?_append_left (by omega)]; exact h6⟩
    · rw [List.getElem?_append_right hge] at h
      by_cases hst : stay old sp S n = true
      · rw [if_pos hst] at h ⊢
        have hj : j - (kept old sp S n).length = 0 := by
          rcases Nat.eq_zero_or_pos (j - (kept old sp S n).length) with h0 | h0
          · exact h0
          · rw [List.getElem?_eq_none (by simp; omega)] at h; cases h
        rw [hj] at h
        simp at h
        refine ⟨n, by omega, h.symm, hst, fun h0 => ?_⟩
        have hjl : j - 1 < (kept old sp S n).length := by omega
        obtain ⟨i', h5, h6, _⟩ := kept_from n (by omega) (j - 1) _ (List.getElem?_eq_getElem hjl)
        exact ⟨i', h5, by rw [List.getElem?_append_left hjl, List.getElem?_eq_getElem hjl, h6]⟩
      · rw [if_neg hst] at h
        simp at h
theorem kept_idem {old : Nat} {sp S : Ps} (hS : S.Pairwise Lt) : kept old sp (kept old sp S S.length) (kept old sp S S.length).length = kept old sp S S.length := by
  obtain ⟨K, hK⟩ : ∃ K, K = kept old sp S S.length := ⟨_, rfl⟩
  have hst : ∀ j, j < K.length → stay old sp K j = true := fun j hj => by
    obtain ⟨i, h1, h2, h3, h4⟩ := kept_from (old := old) (sp := sp) (S := S) S.length (Nat.le_refl _) j K[j] (by rw [← hK]; exact List.getElem?_eq_getElem hj)
    have ek : kA K j = kA S i := by
      rw [(kA_at (List.getElem?_eq_getElem hj)).1, h2]
    have h3' := h3
    unfold stay at h3' ⊢
    simp only [Bool.and_eq_true, Bool.not_eq_true'] at h3' ⊢
    obtain ⟨c1, c2⟩ := h3'
    refine ⟨?_, by unfold seqA at c2 ⊢; rw [ek]; exact c2⟩
    rw [Bool.eq_false_iff]
    intro hc
    simp only [Bool.and_eq_true, decide_eq_true_eq] at hc
    obtain ⟨d1, d2, d3⟩ := hc
    obtain ⟨i', h5, h6⟩ := h4 d1
    rw [← hK] at h6
    have ek' : kA K (j - 1) = kA S i' := (kA_at h6).1
    rw [ek, ek'] at d2
    unfold seqA at d3
    rw [ek'] at d3
    have e1 := same_user hS (show i' ≤ i - 1 by omega) (show i - 1 ≤ i by omega) h1 d2.symm
    have e2 := seq_falls_le hS (show i' ≤ i - 1 by omega) (show i - 1 < S.length by omega) (d2.symm.trans e1.symm)
    have : (decide (0 < i) && (decide (userL (kA S i) = userL (kA S (i - 1))) && decide (seqA S (i - 1) ≤ old))) = true := by
      simp only [Bool.and_eq_true, decide_eq_true_eq]
      exact ⟨by omega, e1.symm, by unfold seqA at e2 ⊢; omega⟩
    rw [this] at c1
    cases c1
  have key : ∀ j, j ≤ K.length → kept old sp K j = K.take j := by
    intro j
    induction j with
    | zero => intro _; simp [kept]
    | succ j ih =>
      intro hj
      rw [kept_succ, ih (by omega), hst j (by omega), if_pos rfl, take_kA (by omega)]
  rw [← hK, key K.length (Nat.le_refl _), List.take_length]
theorem kept_lt {old : Nat} {sp S : Ps} (hS : S.Pairwise Lt) : (kept old sp S S.length).Pairwise Lt := by
  have h := kept_sub old sp S S.length (Nat.le_refl _)
  rw [List.take_length] at h
  exact hS.sublist h
theorem kept_rises {old : Nat} {sp S : Ps} (hr : Rises S) : Rises (kept old sp S S.length) := by
  have h := kept_sub old sp S S.length (Nat.le_refl _)
  rw [List.take_length] at h
  exact hr.sub h
/-- A part, sought entry by entry. -/
theorem sub_skip {α : Type} {p q : α} {r t : List α} (h : (p :: r).Sublist (q :: t)) (hne : q ≠ p) : (p :: r).Sublist t := by
  rcases List.sublist_cons_iff.1 h with h | ⟨r', e, _⟩
  · exact h
  · simp only [List.cons.injEq] at e
    exact absurd e.1.symm hne
theorem sub_next {α : Type} {p : α} {r t : List α} (h : (p :: r).Sublist (p :: t)) : r.Sublist t := List.cons_sublist_cons.1 h
theorem drop_kA {S : Ps} {i : Nat} (hi : i < S.length) : S.drop i = (kA S i, vA S i) :: S.drop (i + 1) := by
  have h0 := ps_at hi
  obtain ⟨hl, he⟩ := List.getElem?_eq_some_iff.1 h0
  rw [List.drop_eq_getElem_cons hl, he]
/-- append(own, l...) of pairs that others have. -/
theorem wpList_app_kvsR {w w0 : World} {ops : Array Oper} {rest : List Oper} {o : Oper} {a : Act} {Q : Exit → Act → World → Prop} (hgd : o.guard = none) (s x : Operand)
    (ho : o.op = .call { callee := .builtin .append, args := #[s, x], argTypes := #[27, 27] }) {B : Nat} (hbase : B ≤ w.heap.size) (f : Fr [] w0 w) {v : Value} {ps qs : Ps} {mb moff m mc : Nat} (h1 : ColR w0 w B v ps) (h2 : RdK w0 (.slice (some ⟨mb, moff, none⟩) m mc) qs) (hm : m = qs.length) (hs : a.eval s = v) (hx : a.eval x = .slice (some ⟨mb, moff, none⟩) m mc)
    (hl1 : ps.length ≤ 1000000) (hl2 : qs.length ≤ 1000000)
    (h : ∀ v' w', ColR w0 w' B v' (ps ++ qs) → w.grownBy w' v.ownBlock → wpList Try.prog ops Q rest (a.put o.dst v') w') :
    wpList Try.prog ops Q (o :: rest) a w := by
  obtain ⟨i0, hi, hz0, hz1, hz2⟩ := info_parts infoP
  obtain ⟨cs, oc, rc⟩ := h1
  subst hm
  obtain ⟨a', c', e, hc, k1⟩ := h2
  have hcells : ∀ j, j < qs.length → ∃ ka kc va vc, w.cell? ⟨mb, moff + j * 2, none⟩ = some (.slice ka (kA qs j).length kc) ∧ w.cell? ⟨mb, moff + (j * 2 + 1), none⟩ = some (.slice va (vA qs j).length vc) ∧ PAt w0 mb (moff + j * 2) (kA qs j, vA qs j) ka kc va vc := fun j hj => by
    obtain ⟨b, off, e2, m1⟩ := k1 (by omega)
    simp only [Value.slice.injEq] at e
    rw [← e.1] at e2
    simp only [Option.some.injEq, Addr.mk.injEq, and_true] at e2
    obtain ⟨rfl, rfl⟩ := e2
    obtain ⟨ka, kc, va, vc, P⟩ := m1 j _ (ps_at hj)
    exact ⟨ka, kc, va, vc, cell_fr f P.ck, cell_fr f P.cv, P⟩
  obtain ⟨ds, hds⟩ : ∃ ds, ds = (List.range (qs.length * 2)).map (fun i => (w.cell? ⟨mb, moff + i, none⟩).getD undef) := ⟨_, rfl⟩
  have hdl : ds.length = qs.length * 2 := by rw [hds]; simp
  have hda : ∀ i, i < qs.length * 2 → ds[i]? = some ((w.cell? ⟨mb, moff + i, none⟩).getD undef) := fun i hi => by
    rw [hds, List.getElem?_map, List.getElem?_range hi]; rfl
  have hsl : ∀ i, i < qs.length * 2 → ∃ xa xn xc, w.cell? ⟨mb, moff + i, none⟩ = some (.slice xa xn xc) := fun i hi => by
    obtain ⟨ka, kc, va, vc, c0, c1, _⟩ := hcells (i / 2) (by omega)
    rcases Nat.mod_two_eq_zero_or_one i with h0 | h0
    · rw [show i / 2 * 2 = i by omega] at c0; exact ⟨_, _, _, c0⟩
    · rw [show i / 2 * 2 + 1 = i by omega] at c1; exact ⟨_, _, _, c1⟩
  refine wpList_append_own_at w hgd s x 27 ho B 50 i0 _ 2 48 Try.underlying27 hi hz0 hz1 hz2 rfl (by decide) v ps.length cs hs oc ⟨mb, moff, none⟩ qs.length mc ds hx hdl (fun j u hj => ?_) (fun u hu => ?_) (by unfold maxLen; omega) (by omega) hbase fun v' w' o' g' _ _ => h v' w' ?_ g'
  · have hjl := (List.getElem?_eq_some_iff.1 hj).1
    rw [hdl] at hjl
    obtain ⟨xa, xn, xc, hc⟩ := hsl j hjl
    rw [hda j hjl, hc] at hj
    simp at hj
    rw [Addr.add_lit, hc, hj]
  · obtain ⟨j, hj⟩ := List.getElem?_of_mem hu
    have hjl := (List.getElem?_eq_some_iff.1 hj).1
    rw [hdl] at hjl
    obtain ⟨xa, xn, xc, hc⟩ := hsl j hjl
    rw [hda j hjl, hc] at hj
    simp at hj
    rw [← hj]; rfl
  · refine ⟨cs ++ ds, by rw [List.length_append]; exact o', fun j p hj => ?_⟩
    have hcl := oc.1
    by_cases hjl : j < ps.length
    · rw [List.getElem?_append_left hjl] at hj
      obtain ⟨ka, kc, va, vc, c0, c1, q0⟩ := rc j p hj
      exact ⟨ka, kc, va, vc, by rw [List.getElem?_append_left (by omega)]; exact c0, by rw [List.getElem?_append_left (by omega)]; exact c1, q0⟩
    · rw [List.getElem?_append_right (by omega)] at hj
      have hjq := (List.getElem?_eq_some_iff.1 hj).1
      obtain ⟨ka, kc, va, vc, c0, c1, P⟩ := hcells (j - ps.length) hjq
      obtain ⟨e1, e2⟩ := kA_at hj
      rw [e1] at c0
      rw [e2] at c1
      have ep : p = (kA qs (j - ps.length), vA qs (j - ps.length)) := by rw [e1, e2]
      refine ⟨ka, kc, va, vc, ?_, ?_, ?_⟩
      · rw [List.getElem?_append_right (by omega), show j * 2 - cs.length = (j - ps.length) * 2 by omega, hda _ (by omega), c0]; rfl
      · rw [List.getElem?_append_right (by omega), show j * 2 + 1 - cs.length = (j - ps.length) * 2 + 1 by omega, hda _ (by omega), c1]; rfl
      · rw [ep]; exact ⟨P.rk, P.rv, P.bk, P.bv', P.lk, P.lv⟩
end Go.Proofs.Ythmlpjogbdpgiaa
namespace Go.Proofs.Ythmlpjogbdpgiaa
open Go.ChangeShapes Go.WideShapes Go.ChangeAt Go.RowKit Go.Deep

theorem ownKnobs : ownKnob Try.prog.godebug = none := by kernel_rfl
theorem laidOut : laidOutB Try.prog = true := by kernel_rfl

theorem nat_of {n : Int} (h : 0 ≤ n) : ∃ m : Nat, n = (m : Int) := ⟨n.toNat, by omega⟩

/-- Bytes that came in. -/
theorem bytes_of {H : Type} {enc : TypeId × Value → H} {W : World} {ua : Option Addr} {len uc : Nat} {d : DataW H} {ps : List MemPlace} (h : DataW.Trod enc Try.prog W 0 (fun _ => true) true 35 (.slice ua len uc) d ps)
    (hw : ∀ n ∈ d.weights Try.prog 35, n ≤ reachBytes) : ∃ ns : List Nat, ns.length = len ∧ Rd W (.slice ua len uc) (bv ns) ∧ By ns ∧ len ≤ 140737488351232 := by
  obtain ⟨fuel, hf⟩ := h
  rcases open_ints Try.underlying35 Try.underlying5 (by kernel_rfl) hf with ⟨hcs, _⟩ | ⟨a, l, c, zs, hcs, _, hl, hm, hz, hx, hcell, hwf⟩
  · simp [Value.cells] at hcs
    obtain ⟨rfl, rfl, rfl⟩ := hcs
    exact ⟨[], rfl, .inl ⟨rfl, rfl⟩, fun u hu => by simp at hu, by omega⟩
  · simp [Value.cells] at hcs
    obtain ⟨rfl, rfl, rfl⟩ := hcs
    simp only [Prod.mk.injEq] at hx
    obtain ⟨rfl, _⟩ := hx
    simp only [if_true] at hz
    have hXl : ((zs.take len).map Int.toNat).length = len := by rw [List.length_map, List.length_take]; omega
    have hb : ∀ z ∈ zs, 0 ≤ z ∧ z ≤ 255 := fun z hz' => bounds_u8 (hwf z hz')
    refine ⟨(zs.take len).map Int.toNat, hXl, .inr ⟨a, uc, by rw [bv_len, hXl], by rw [bv_len, hXl]; exact hl, fun j u hj => ?_⟩, fun u hu => ?_, ?_⟩
    · have hjl : j < len := by
        rcases Nat.lt_or_ge j len with h | h
        · exact h
        · rw [List.getElem?_eq_none (by rw [bv_len, hXl]; omega)] at hj; cases hj
      have hjz : j < zs.length := by omega
      rw [hcell j hjz]
      unfold bv at hj
      rw [List.getElem?_map, List.getElem?_map, List.getElem?_take, if_pos hjl, List.getElem?_eq_getElem hjz] at hj
      simp only [Option.map_some, Option.some.injEq] at hj
      rw [← hj]
      have h0 := hb _ (List.getElem_mem hjz)
      simp only [List.getD, List.getElem?_eq_getElem hjz, Option.getD_some, Int.toNat_of_nonneg h0.1]
    · obtain ⟨n, hn, rfl⟩ := List.mem_map.1 hu
      have := hb n (List.mem_of_mem_take hn)
      omega
    · have h1 := hw (uc * Try.prog.bytesOf 5) (by
        simp only [DataW.weights, Try.underlying35]
        refine List.mem_cons.2 (.inl ?_)
        rw [lits, lits, List.length_map, List.length_map, List.length_take, List.length_drop, hz]
        congr 1; omega)
      rw [show Try.prog.bytesOf 5 = 1 from by kernel_rfl] at h1
      unfold reachBytes at h1
      omega
end Go.Proofs.Ythmlpjogbdpgiaa
namespace Go.Proofs.Ythmlpjogbdpgiaa
open Go.ChangeShapes Go.WideShapes Go.ChangeAt Go.RowKit Go.Deep

theorem weightsAll_mem {H : Type} {P : Program} {e : TypeId} : ∀ {ds : List (DataW H)} {d : DataW H}, d ∈ ds → ∀ n ∈ d.weights P e, n ∈ DataW.weightsAll P e ds
  | [], _, h, _, _ => by cases h
  | x :: r, d, h, n, hn => by
    simp only [DataW.weightsAll, List.mem_append]
    rcases List.mem_cons.1 h with rfl | h
    · exact .inl hn
    · exact .inr (weightsAll_mem h n hn)

/-- A list of lists of bytes that came in. -/
def Rows2 (w : World) (la : Option Addr) (len : Nat) (A : Nat → Option Addr) (C : Nat → Nat) (X : Nat → List Nat) : Prop :=
  0 < len → ∃ lb lo, la = some ⟨lb, lo, none⟩ ∧ ∀ r, r < len → w.cell? ⟨lb, lo + r, none⟩ = some (.slice (A r) (X r).length (C r)) ∧ Rd w (.slice (A r) (X r).length (C r)) (bv (X r)) ∧ By (X r) ∧ (X r).length ≤ 140737488355328
/-- A list of numbers that came in. -/
def Nums (w : World) (na : Option Addr) (ln : Nat) (Y : Nat → Nat) : Prop :=
  0 < ln → ∃ nb no, na = some ⟨nb, no, none⟩ ∧ ∀ r, r < ln → w.cell? ⟨nb, no + r, none⟩ = some (.int .u64 (Y r : Int)) ∧ Y r < 18446744073709551616

theorem rows2_of {H : Type} {enc : TypeId × Value → H} {W : World} {la : Option Addr} {len lc : Nat} {d : DataW H} {ps : List MemPlace} (h : DataW.Trod enc Try.prog W 0 (fun _ => true) true 101 (.slice la len lc) d ps)
    (hw : ∀ n ∈ d.weights Try.prog 101, n ≤ reachBytes) : len ≤ 9223372036854775807 ∧ ∃ A C X, Rows2 W la len A C X := by
  obtain ⟨fuel, hf⟩ := h
  rcases open_int_rows Try.underlying101 Try.underlying35 Try.underlying5 (by kernel_rfl) (by kernel_rfl) hf with ⟨hcs, _⟩ | ⟨a, len', cap', A, L, C, Z, hcs, _, hl, hm, hx, hrow⟩
  · simp [Value.cells] at hcs
    obtain ⟨rfl, rfl, rfl⟩ := hcs
    exact ⟨by omega, fun _ => none, fun _ => 0, fun _ => [], fun h => by omega⟩
  · simp [Value.cells] at hcs
    obtain ⟨rfl, rfl, rfl⟩ := hcs
    simp only [Prod.mk.injEq] at hx
    obtain ⟨rfl, _⟩ := hx
    refine ⟨by unfold maxLen at hm; omega, A, C, fun r => ((Z r).take (L r)).map Int.toNat, fun hpos => ?_⟩
    obtain ⟨lb, lo, spot⟩ := a
    have hspot : spot = none := by
      have := (hrow 0 (by omega)).1
      simpa [Addr.add] using World.cell?_spot this
    subst hspot
    refine ⟨lb, lo, rfl, fun r hr => ?_⟩
    obtain ⟨c1, c2, c3, c4, c5, c6, c7⟩ := hrow r (by omega)
    have hXl : (((Z r).take (L r)).map Int.toNat).length = L r := by rw [List.length_map, List.length_take]; omega
    have hb : ∀ z ∈ Z r, 0 ≤ z ∧ z ≤ 255 := fun z hz' => bounds_u8 (c5 z hz')
    have hC : C r ≤ 140737488355328 := by
      cases hA : A r with
      | none => rw [c6 hA]; omega
      | some a' =>
        have hmem : (C r) * Try.prog.bytesOf 5 ∈ DataW.weights Try.prog 101 (DataW.slice ((List.range len).map fun r => intRow (H := H) .u8 (A r) (L r) (Z r)) ((List.range (lc - len)).map fun j => intRow .u8 (A (len + j)) (L (len + j)) (Z (len + j)))) := by
          simp only [DataW.weights, Try.underlying101]
          refine List.mem_cons_of_mem _ (List.mem_append_left _ (weightsAll_mem (List.mem_map.2 ⟨r, List.mem_range.2 hr, rfl⟩) _ ?_))
          simp only [intRow, hA, DataW.weights, Try.underlying35]
          refine List.mem_cons.2 (.inl ?_)
          rw [lits, lits, List.length_map, List.length_map, List.length_take, List.length_drop, c4]
          congr 1; omega
        have h1 := hw _ hmem
        rw [show Try.prog.bytesOf 5 = 1 from by kernel_rfl] at h1
        have := reachBytes_lt
        omega
    refine ⟨?_, ?_, ?_, ?_⟩
    · rw [hXl]; have := c1; rwa [Addr.add_lit] at this
    · rw [hXl]
      cases hA : A r with
      | none =>
        have h0 := c6 hA
        have h1 : L r = 0 := by omega
        rw [h0, h1]
        exact .inl ⟨rfl, by simp [h1, bv]⟩
      | some a' =>
        refine .inr ⟨a', C r, by rw [bv_len, hXl], by rw [bv_len, hXl]; exact c2, fun j u hj => ?_⟩
        have hjl : j < L r := by
          rcases Nat.lt_or_ge j (L r) with h | h
          · exact h
          · rw [List.getElem?_eq_none (by rw [bv_len, hXl]; omega)] at hj; cases hj
        have hjz : j < (Z r).length := by omega
        rw [(c7 a' hA).2 j (by omega)]
        unfold bv at hj
        rw [List.getElem?_map, List.getElem?_map, List.getElem?_take, if_pos hjl, List.getElem?_eq_getElem hjz] at hj
        simp only [Option.map_some, Option.some.injEq] at hj
        rw [← hj]
        have h0 := hb _ (List.getElem_mem hjz)
        simp only [List.getD, List.getElem?_eq_getElem hjz, Option.getD_some, Int.toNat_of_nonneg h0.1]
    · intro u hu
      obtain ⟨n, hn, rfl⟩ := List.mem_map.1 hu
      have := hb n (List.mem_of_mem_take hn)
      omega
    · rw [hXl]; omega

end Go.Proofs.Ythmlpjogbdpgiaa
