/-
  Entries are copied, one is taken out: append on rows of entries.
-/
import Derived.Test.YtldcjkddalmkcaaAM
namespace Go.Proofs.Ytldcjkddalmkcaa
open Go.ChangeShapes Go.WideShapes Go.ChangeAt Go.RowKit

theorem step_append_run {ops : Array Oper} {o : Oper} {a : Act} {w w' : World} {K : Act → World → Prop} {Q : Exit → Act → World → Prop} {E : Prop} {T : TypeId} {vs vx v' : Value} (hg : o.guard = none) (s x : Operand) (hop : o.op = Op.call { callee := Callee.builtin Builtin.append, args := #[s, x], argTypes := #[T, T] }) (hs : a.eval s = vs) (hx : a.eval x = vx)
    (hrun : ∀ ty, (Builtin.append_ #[T, T] ty #[vs, vx]).run Try.prog w = .ok v' w') (hK : K (a.put o.dst v') w') :
    if Region.wanted o (yielded ops a.tmps) = true then Oper.wp Try.prog o a w K Q else E := by
  have hw : Region.wanted o (yielded ops a.tmps) = true := by simp [Region.wanted, hg]
  rw [if_pos hw]
  unfold Oper.wp
  simp [execOp, hop, resolve, invoke, builtin, hs, hx, hrun, Result.andThen]
  exact hK
theorem ents_le {w : World} {la : Option Addr} {ls : List Ar} (h : Ents w la ls) : ∃ les : List Le, les.map Le.x = ls ∧ (0 < ls.length → ∃ b o, la = some ⟨b, o, none⟩ ∧ ∀ (j : Nat) (e : Le), les[j]? = some e → ArAt w b (o + j * 4) e.x e.uv e.vv) := by
  by_cases h0 : 0 < ls.length
  · obtain ⟨b, o, h1, h2⟩ := h h0
    obtain ⟨les, hl, hk⟩ := list_of (α := Le) (P := fun j k => ls[j]? = some k.x ∧ ArAt w b (o + j * 4) k.x k.uv k.vv) ls.length fun i hi => by
      obtain ⟨uv, vv, g⟩ := h2 i ls[i] (List.getElem?_eq_getElem hi)
      exact ⟨⟨ls[i], uv, vv⟩, List.getElem?_eq_getElem hi, g⟩
    refine ⟨les, ?_, fun _ => ⟨b, o, h1, fun j e he => (hk j e he).2⟩⟩
    apply List.ext_getElem?
    intro j
    rw [List.getElem?_map]
    cases hj : les[j]? with
    | none =>
      have : ls.length ≤ j := by rw [← hl]; simpa using hj
      rw [List.getElem?_eq_none this]; rfl
    | some e => rw [(hk j e hj).1]; rfl
  · have : ls = [] := List.eq_nil_of_length_eq_zero (by omega)
    subst this
    exact ⟨[], rfl, fun h => by simp at h⟩
theorem ArAt.le {w : World} {b o : Nat} {e : Le} (h : ArAt w b o e.x e.uv e.vv) : LeOk w e := ⟨h.ru, h.rv, h.bu, h.bv'⟩
theorem flatE_cells {w : World} {b o : Nat} {les : List Le} (h : ∀ (j : Nat) (e : Le), les[j]? = some e → ArAt w b (o + j * 4) e.x e.uv e.vv) : ∀ j u, (flatE les)[j]? = some u → w.cell? ((⟨b, o, none⟩ : Addr).add j) = some u := by
  intro j u hj
  have hjl : j < 4 * les.length := by rw [← flatE_len]; exact (List.getElem?_eq_some_iff.1 hj).1
  obtain ⟨e, he⟩ : ∃ e, les[j / 4]? = some e := ⟨_, List.getElem?_eq_getElem (by omega)⟩
  have g := h _ e he
  have hf := flatE_at he (j % 4) (Nat.mod_lt _ (by omega))
  rw [show j / 4 * 4 + j % 4 = j from by omega, hj] at hf
  rw [Addr.add_lit]
  rcases (show j % 4 = 0 ∨ j % 4 = 1 ∨ j % 4 = 2 ∨ j % 4 = 3 from by omega) with r | r | r | r
  · rw [r] at hf
    have := g.c0
    rw [show o + j / 4 * 4 = o + j from by omega] at this
    rw [this]; exact hf.symm
  · rw [r] at hf
    have := g.c1
    rw [show o + j / 4 * 4 + 1 = o + j from by omega] at this
    rw [this]; exact hf.symm
  · rw [r] at hf
    have := g.c2
    rw [show o + j / 4 * 4 + 2 = o + j from by omega] at this
    rw [this]; exact hf.symm
  · rw [r] at hf
    have := g.c3
    rw [show o + j / 4 * 4 + 3 = o + j from by omega] at this
    rw [this]; exact hf.symm
theorem flatE_one {les : List Le} (h : ∀ e ∈ les, ∃ w, LeOk w e) : ∀ u ∈ flatE les, u.oneCell' = true := by
  intro u hu
  unfold flatE at hu
  obtain ⟨e, he, hm⟩ := List.mem_flatMap.1 hu
  obtain ⟨w, k⟩ := h e he
  obtain ⟨a1, c1, e1⟩ := k.ru.form
  obtain ⟨a2, c2, e2⟩ := k.rv.form
  simp only [List.mem_cons, List.not_mem_nil, or_false] at hm
  rcases hm with rfl | rfl | rfl | rfl
  · rw [e1]; rfl
  · rw [e2]; rfl
  · rfl
  · rfl
/-- append([]Entry(nil), l...), l not empty. -/
theorem left_new {w : World} {b o lc : Nat} {les : List Le} (h0 : 0 < les.length) (hn : les.length ≤ 1000) (h : ∀ (j : Nat) (e : Le), les[j]? = some e → ArAt w b (o + j * 4) e.x e.uv e.vv) :
    ∃ v' w' g c cur, (∀ ty, (Builtin.append_ #[23, 23] ty #[.slice none 0 0, .slice (some ⟨b, o, none⟩) les.length lc]).run Try.prog w = .ok v' w') ∧ Left w' v' les g c cur ∧ Fr [] w w' := by
  obtain ⟨i0, hi, hz0, hz1, hz2⟩ := info_parts infoE
  have hcap := grownCap_ge w les.length 0 33
  have hmx := grownCap_le_maxLen w les.length 0 33 (by unfold maxLen; omega)
  unfold maxLen at hmx
  refine ⟨_, _, w.heap.size, grownCap w les.length 0 33, (flatE les).toArray ++ Builtin.zeroCells (Value.agg #[.slice none 0 0, .slice none 0 0, .int .u64 0, .int .i64 0]).cells (grownCap w les.length 0 33 - les.length), fun ty => run_append_nil (P := Try.prog) w 23 ty 33 i0 _ Try.underlying23 hi hz0 ⟨b, o, none⟩ les.length lc (flatE les) (by rw [flatE_len, hz1]; omega) (flatE_cells h) h0 (by omega) (by rw [hz2]; omega), ?_, (Fr.refl _ _).drew.alloc _⟩
  refine ⟨rfl, hcap, by omega, blk_new _ _, ?_, ?_⟩
  · rw [Array.size_append]; simp [flatE_len]
  · rw [Array.toList_append, List.take_append_of_le_length (by simp [flatE_len])]
    rw [List.take_of_length_le (by simp [flatE_len])]
/-- append(left[:at:at], left[at+1:]...). -/
theorem left_cut {w : World} {v : Value} {l : List Le} {g c : Nat} {cur : Array Value} (L : Left w v l g c cur) (hn : l.length ≤ 1000) {at' : Nat} (ha : at' < l.length) (A : Addr) (hA : at' + 1 < l.length → A = ⟨g, (at' + 1) * 4, none⟩) :
    ∃ v' w' g' c' cur', (∀ ty, (Builtin.append_ #[23, 23] ty #[.slice (some ⟨g, 0, none⟩) at' at', .slice (some A) (l.length - (at' + 1)) (c - (at' + 1))]).run Try.prog w = .ok v' w') ∧ Left w' v' (l.take at' ++ l.drop (at' + 1)) g' c' cur' ∧ Fr [] w w' := by
  obtain ⟨i0, hi, hz0, hz1, hz2⟩ := info_parts infoE
  have hlen : (l.take at' ++ l.drop (at' + 1)).length = l.length - 1 := by rw [List.length_append, List.length_take, List.length_drop]; omega
  have hfl : flatE (l.take at') = (cur.toList.take (4 * at')) := by
    have h2 := L.row
    have h3 : flatE l = flatE (l.take at') ++ flatE (l.drop at') := by rw [← flatE_app, List.take_append_drop]
    have h4 : (flatE (l.take at')).length = 4 * at' := by rw [flatE_len, List.length_take]; omega
    have h5 : flatE (l.take at') = (flatE l).take (4 * at') := by rw [h3, List.take_left' h4]
    rw [h5, ← h2, List.take_take, Nat.min_eq_left (by omega)]
  by_cases hlt : at' + 1 < l.length
  · rw [hA hlt]
    have hcap := grownCap_ge w (at' + (l.length - (at' + 1))) at' 33
    have hmx := grownCap_le_maxLen w (at' + (l.length - (at' + 1))) at' 33 (by unfold maxLen; omega)
    unfold maxLen at hmx
    have holds : ∀ j u, (flatE (l.take at'))[j]? = some u → w.cell? ((⟨g, 0, none⟩ : Addr).add j) = some u := by
      intro j u hj
      rw [Addr.add_lit, Nat.zero_add, blk_cell L.blk, ← Array.getElem?_toList]
      rw [hfl, List.getElem?_take] at hj
      split at hj
      · exact hj
      · cases hj
    have hnews : ∀ j u, (flatE (l.drop (at' + 1)))[j]? = some u → w.cell? ((⟨g, (at' + 1) * 4, none⟩ : Addr).add j) = some u := by
      intro j u hj
      have hjl : j < 4 * (l.length - (at' + 1)) := by
        have := (List.getElem?_eq_some_iff.1 hj).1
        rw [flatE_len, List.length_drop] at this; exact this
      rw [Addr.add_lit, blk_cell L.blk, ← Array.getElem?_toList]
      have h3 : flatE l = flatE (l.take (at' + 1)) ++ flatE (l.drop (at' + 1)) := by rw [← flatE_app, List.take_append_drop]
      have h4 : (flatE (l.take (at' + 1))).length = (at' + 1) * 4 := by rw [flatE_len, List.length_take]; omega
      have h5 : (flatE l)[(at' + 1) * 4 + j]? = some u := by
        rw [h3, List.getElem?_append_right (by omega), h4, Nat.add_sub_cancel_left]; exact hj
      rw [← L.row, List.getElem?_take, if_pos (by omega)] at h5
      exact h5
    refine ⟨_, _, w.heap.size, grownCap w (at' + (l.length - (at' + 1))) at' 33, (flatE (l.take at')).toArray ++ (flatE (l.drop (at' + 1))).toArray ++ Builtin.zeroCells (Value.agg #[.slice none 0 0, .slice none 0 0, .int .u64 0, .int .i64 0]).cells (grownCap w (at' + (l.length - (at' + 1))) at' 33 - (at' + (l.length - (at' + 1)))), fun ty => run_append_grow (P := Try.prog) w 23 ty 33 i0 _ Try.underlying23 hi hz0 ⟨g, 0, none⟩ at' at' (flatE (l.take at')) (by rw [flatE_len, hz1, List.length_take]; omega) holds ⟨g, (at' + 1) * 4, none⟩ (l.length - (at' + 1)) (c - (at' + 1)) (flatE (l.drop (at' + 1))) (by rw [flatE_len, hz1, List.length_drop]; omega) hnews (by omega) (by omega) (by rw [hz2]; exact growslice_fits (by omega) (by omega)), ?_, (Fr.refl _ _).drew.alloc _⟩
    refine ⟨by rw [hlen, show at' + (l.length - (at' + 1)) = l.length - 1 from by omega], by omega, by omega, blk_new _ _, ?_, ?_⟩
    · rw [Array.size_append, Array.size_append]
      simp [flatE_len]; omega
    · have h6 : ((flatE (l.take at')).toArray ++ (flatE (l.drop (at' + 1))).toArray).toList = flatE (l.take at' ++ l.drop (at' + 1)) := by rw [flatE_app]; simp
      rw [Array.toList_append, List.take_append_of_le_length (by rw [h6, flatE_len]; exact Nat.le_refl _), h6, List.take_of_length_le (by rw [flatE_len]; exact Nat.le_refl _)]
  · have hz : l.length - (at' + 1) = 0 := by omega
    rw [hz]
    have hsame : (cur.toList.take (at' * i0.size) ++ ([] : List Value) ++ cur.toList.drop (at' * i0.size + ([] : List Value).length)).toArray = cur := by simp
    have hw : (w.setRow g (cur.toList.take (at' * i0.size) ++ ([] : List Value) ++ cur.toList.drop (at' * i0.size + ([] : List Value).length)).toArray).heap[g]? = w.heap[g]? := by
      rw [hsame, L.blk]; exact setRow_heap w g _ _ _ _ L.blk
    refine ⟨_, _, g, at', cur, fun ty => run_append_room (P := Try.prog) w 23 ty 33 i0 Try.underlying23 hi g at' at' cur L.blk A 0 (c - (at' + 1)) [] (by simp) (fun j u h => by simp at h) (fun u h => by cases h) (by omega) (by have := L.fit; simp [hz1]; omega), ⟨?_, by rw [hlen]; omega, by have := L.cap; have := L.cmx; omega, by rw [hw]; exact L.blk, by rw [hlen]; have := L.fit; omega, ?_⟩, ?_⟩
    · rw [hlen, show at' + 0 = l.length - 1 from by omega]
    · have hd : l.drop (at' + 1) = [] := List.drop_eq_nil_of_le (by omega)
      rw [hlen, hd, List.append_nil, hfl, show 4 * (l.length - 1) = 4 * at' from by omega]
    · refine ⟨rfl, rfl, rfl, by simp [World.setRow], fun k hk _ => ?_⟩
      by_cases e : k = g
      · subst e; exact hw
      · exact row_ne w _ e
end Go.Proofs.Ytldcjkddalmkcaa
