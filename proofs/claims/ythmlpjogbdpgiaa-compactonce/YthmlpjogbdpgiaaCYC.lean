/-
  What is merged, merged again; lists laid behind one another.
-/
import Derived.Test.YthmlpjogbdpgiaaCYB
namespace Go.Proofs.Ythmlpjogbdpgiaa
open Go.ChangeShapes Go.WideShapes Go.ChangeAt Go.RowKit

theorem kept_from {old : Nat} {sp S : Ps} : ∀ n, n ≤ S.length → ∀ (j : Nat) (p : List Nat × List Nat), (kept old sp S n)[j]? = some p →
    ∃ i, i < n ∧ p = (kA S i, vA S i) ∧ stay old sp S i = true ∧ (0 < j → ∃ i', i' < i ∧ (kept old sp S n)[j - 1]? = some (kA S i', vA S i'))
  | 0, _, j, p, h => by simp [kept] at h
  | n + 1, hn, j, p, h => by
    rw [kept_succ] at h ⊢
    rcases Nat.lt_or_ge j (kept old sp S n).length with hlt | hge
    · rw [List.getElem?_append_left hlt] at h
      obtain ⟨i, h1, h2, h3, h4⟩ := kept_from n (by omega) j p h
      refine ⟨i, by omega, h2, h3, fun h0 => ?_⟩
      obtain ⟨i', h5, h6⟩ := h4 h0
      exact ⟨i', h5, by rw [List.getElem?_append_left (by omega)]; exact h6⟩
    · rw [List.getElem?_append_right hge] at h
      by_cases hst : stay old sp S n = true
      · rw [if_pos hst] at h ⊢
        have hj : j - (kept old sp S n).length = 0 := by
          rcases Nat.eq_zero_or_pos (j - (kept old sp S n).length) with h0 | h0
          · exact h0
          · rw [List.getElem?_eq_none (by simp; omega)] at h; cases h
        rw [hj] at h
        simp at h
        refine ⟨n, by omega, h.symm, hst, fun h0 => ?_⟩
        have hjl : j - 1 < (kept old sp S n).length := by omega
        obtain ⟨i', h5, h6, _⟩ := kept_from n (by omega) (j - 1) _ (List.getElem?_eq_getElem hjl)
        exact ⟨i', h5, by rw [List.getElem?_append_left hjl, List.getElem?_eq_getElem hjl, h6]⟩
      · rw [if_neg hst] at h
        simp at h
theorem kept_idem {old : Nat} {sp S : Ps} (hS : S.Pairwise Lt) : kept old sp (kept old sp S S.length) (kept old sp S S.length).length = kept old sp S S.length := by
  obtain ⟨K, hK⟩ : ∃ K, K = kept old sp S S.length := ⟨_, rfl⟩
  have hst : ∀ j, j < K.length → stay old sp K j = true := fun j hj => by
    obtain ⟨i, h1, h2, h3, h4⟩ := kept_from (old := old) (sp := sp) (S := S) S.length (Nat.le_refl _) j K[j] (by rw [← hK]; exact List.getElem?_eq_getElem hj)
    have ek : kA K j = kA S i := by
      rw [(kA_at (List.getElem?_eq_getElem hj)).1, h2]
    have h3' := h3
    unfold stay at h3' ⊢
    simp only [Bool.and_eq_true, Bool.not_eq_true'] at h3' ⊢
    obtain ⟨c1, c2⟩ := h3'
    refine ⟨?_, by unfold seqA at c2 ⊢; rw [ek]; exact c2⟩
    rw [Bool.eq_false_iff]
    intro hc
    simp only [Bool.and_eq_true, decide_eq_true_eq] at hc
    obtain ⟨d1, d2, d3⟩ := hc
    obtain ⟨i', h5, h6⟩ := h4 d1
    rw [← hK] at h6
    have ek' : kA K (j - 1) = kA S i' := (kA_at h6).1
    rw [ek, ek'] at d2
    unfold seqA at d3
    rw [ek'] at d3
    have e1 := same_user hS (show i' ≤ i - 1 by omega) (show i - 1 ≤ i by omega) h1 d2.symm
    have e2 := seq_falls_le hS (show i' ≤ i - 1 by omega) (show i - 1 < S.length by omega) (d2.symm.trans e1.symm)
    have : (decide (0 < i) && (decide (userL (kA S i) = userL (kA S (i - 1))) && decide (seqA S (i - 1) ≤ old))) = true := by
      simp only [Bool.and_eq_true, decide_eq_true_eq]
      exact ⟨by omega, e1.symm, by unfold seqA at e2 ⊢; omega⟩
    rw [this] at c1
    cases c1
  have key : ∀ j, j ≤ K.length → kept old sp K j = K.take j := by
    intro j
    induction j with
    | zero => intro _; simp [kept]
    | succ j ih =>
      intro hj
      rw [kept_succ, ih (by omega), hst j (by omega), if_pos rfl, take_kA (by omega)]
  rw [← hK, key K.length (Nat.le_refl _), List.take_length]
theorem kept_lt {old : Nat} {sp S : Ps} (hS : S.Pairwise Lt) : (kept old sp S S.length).Pairwise Lt := by
  have h := kept_sub old sp S S.length (Nat.le_refl _)
  rw [List.take_length] at h
  exact hS.sublist h
theorem kept_rises {old : Nat} {sp S : Ps} (hr : Rises S) : Rises (kept old sp S S.length) := by
  have h := kept_sub old sp S S.length (Nat.le_refl _)
  rw [List.take_length] at h
  exact hr.sub h
/-- A part, sought entry by entry. -/
theorem sub_skip {α : Type} {p q : α} {r t : List α} (h : (p :: r).Sublist (q :: t)) (hne : q ≠ p) : (p :: r).Sublist t := by
  rcases List.sublist_cons_iff.1 h with h | ⟨r', e, _⟩
  · exact h
  · simp only [List.cons.injEq] at e
    exact absurd e.1.symm hne
theorem sub_next {α : Type} {p : α} {r t : List α} (h : (p :: r).Sublist (p :: t)) : r.Sublist t := List.cons_sublist_cons.1 h
theorem drop_kA {S : Ps} {i : Nat} (hi : i < S.length) : S.drop i = (kA S i, vA S i) :: S.drop (i + 1) := by
  have h0 := ps_at hi
  obtain ⟨hl, he⟩ := List.getElem?_eq_some_iff.1 h0
  rw [List.drop_eq_getElem_cons hl, he]
/-- append(own, l...) of pairs that others have. -/
theorem wpList_app_kvsR {w w0 : World} {ops : Array Oper} {rest : List Oper} {o : Oper} {a : Act} {Q : Exit → Act → World → Prop} (hgd : o.guard = none) (s x : Operand)
    (ho : o.op = .call { callee := .builtin .append, args := #[s, x], argTypes := #[27, 27] }) {B : Nat} (hbase : B ≤ w.heap.size) (f : Fr [] w0 w) {v : Value} {ps qs : Ps} {mb moff m mc : Nat} (h1 : ColR w0 w B v ps) (h2 : RdK w0 (.slice (some ⟨mb, moff, none⟩) m mc) qs) (hm : m = qs.length) (hs : a.eval s = v) (hx : a.eval x = .slice (some ⟨mb, moff, none⟩) m mc)
    (hl1 : ps.length ≤ 1000000) (hl2 : qs.length ≤ 1000000)
    (h : ∀ v' w', ColR w0 w' B v' (ps ++ qs) → w.grownBy w' v.ownBlock → wpList Try.prog ops Q rest (a.put o.dst v') w') :
    wpList Try.prog ops Q (o :: rest) a w := by
  obtain ⟨i0, hi, hz0, hz1, hz2⟩ := info_parts infoP
  obtain ⟨cs, oc, rc⟩ := h1
  subst hm
  obtain ⟨a', c', e, hc, k1⟩ := h2
  have hcells : ∀ j, j < qs.length → ∃ ka kc va vc, w.cell? ⟨mb, moff + j * 2, none⟩ = some (.slice ka (kA qs j).length kc) ∧ w.cell? ⟨mb, moff + (j * 2 + 1), none⟩ = some (.slice va (vA qs j).length vc) ∧ PAt w0 mb (moff + j * 2) (kA qs j, vA qs j) ka kc va vc := fun j hj => by
    obtain ⟨b, off, e2, m1⟩ := k1 (by omega)
    simp only [Value.slice.injEq] at e
    rw [← e.1] at e2
    simp only [Option.some.injEq, Addr.mk.injEq, and_true] at e2
    obtain ⟨rfl, rfl⟩ := e2
    obtain ⟨ka, kc, va, vc, P⟩ := m1 j _ (ps_at hj)
    exact ⟨ka, kc, va, vc, cell_fr f P.ck, cell_fr f P.cv, P⟩
  obtain ⟨ds, hds⟩ : ∃ ds, ds = (List.range (qs.length * 2)).map (fun i => (w.cell? ⟨mb, moff + i, none⟩).getD undef) := ⟨_, rfl⟩
  have hdl : ds.length = qs.length * 2 := by rw [hds]; simp
  have hda : ∀ i, i < qs.length * 2 → ds[i]? = some ((w.cell? ⟨mb, moff + i, none⟩).getD undef) := fun i hi => by
    rw [hds, List.getElem?_map, List.getElem?_range hi]; rfl
  have hsl : ∀ i, i < qs.length * 2 → ∃ xa xn xc, w.cell? ⟨mb, moff + i, none⟩ = some (.slice xa xn xc) := fun i hi => by
    obtain ⟨ka, kc, va, vc, c0, c1, _⟩ := hcells (i / 2) (by omega)
    rcases Nat.mod_two_eq_zero_or_one i with h0 | h0
    · rw [show i / 2 * 2 = i by omega] at c0; exact ⟨_, _, _, c0⟩
    · rw [show i / 2 * 2 + 1 = i by omega] at c1; exact ⟨_, _, _, c1⟩
  refine wpList_append_own_at w hgd s x 27 ho B 50 i0 _ 2 48 Try.underlying27 hi hz0 hz1 hz2 rfl (by decide) v ps.length cs hs oc ⟨mb, moff, none⟩ qs.length mc ds hx hdl (fun j u hj => ?_) (fun u hu => ?_) (by unfold maxLen; omega) (by omega) hbase fun v' w' o' g' _ _ => h v' w' ?_ g'
  · have hjl := (List.getElem?_eq_some_iff.1 hj).1
    rw [hdl] at hjl
    obtain ⟨xa, xn, xc, hc⟩ := hsl j hjl
    rw [hda j hjl, hc] at hj
    simp at hj
    rw [Addr.add_lit, hc, hj]
  · obtain ⟨j, hj⟩ := List.getElem?_of_mem hu
    have hjl := (List.getElem?_eq_some_iff.1 hj).1
    rw [hdl] at hjl
    obtain ⟨xa, xn, xc, hc⟩ := hsl j hjl
    rw [hda j hjl, hc] at hj
    simp at hj
    rw [← hj]; rfl
  · refine ⟨cs ++ ds, by rw [List.length_append]; exact o', fun j p hj => ?_⟩
    have hcl := oc.1
    by_cases hjl : j < ps.length
    · rw [List.getElem?_append_left hjl] at hj
      obtain ⟨ka, kc, va, vc, c0, c1, q0⟩ := rc j p hj
      exact ⟨ka, kc, va, vc, by rw [List.getElem?_append_left (by omega)]; exact c0, by rw [List.getElem?_append_left (by omega)]; exact c1, q0⟩
    · rw [List.getElem?_append_right (by omega)] at hj
      have hjq := (List.getElem?_eq_some_iff.1 hj).1
      obtain ⟨ka, kc, va, vc, c0, c1, P⟩ := hcells (j - ps.length) hjq
      obtain ⟨e1, e2⟩ := kA_at hj
      rw [e1] at c0
      rw [e2] at c1
      have ep : p = (kA qs (j - ps.length), vA qs (j - ps.length)) := by rw [e1, e2]
      refine ⟨ka, kc, va, vc, ?_, ?_, ?_⟩
      · rw [List.getElem?_append_right (by omega), show j * 2 - cs.length = (j - ps.length) * 2 by omega, hda _ (by omega), c0]; rfl
      · rw [List.getElem?_append_right (by omega), show j * 2 + 1 - cs.length = (j - ps.length) * 2 + 1 by omega, hda _ (by omega), c1]; rfl
      · rw [ep]; exact ⟨P.rk, P.rv, P.bk, P.bv', P.lk, P.lv⟩
end Go.Proofs.Ythmlpjogbdpgiaa
