/-
  Rows of spans of the call's own; lists laid behind one another.
-/
import Derived.Test.YthmlpjogbdpgiaaCZA
import Derived.Test.YthmlpjogbdpgiaaJ43
import Derived.Test.YthmlpjogbdpgiaaOK
namespace Go.Proofs.Ythmlpjogbdpgiaa
open Go.ChangeShapes Go.WideShapes Go.ChangeAt Go.RowKit

/-- Spans of others, in a row of the call's own. -/
def ColS (w0 W : World) (B : Nat) (v : Value) (ps : Ps) : Prop := ∃ cs, W.ownsRow B 58 2 v ps.length cs ∧ ∀ (j : Nat) (p : List Nat × List Nat), ps[j]? = some p → ∃ ka kc va vc, cs[j * 2]? = some (.slice ka p.1.length kc) ∧ cs[j * 2 + 1]? = some (.slice va p.2.length vc) ∧ Rd w0 (.slice ka p.1.length kc) (bv p.1) ∧ Rd w0 (.slice va p.2.length vc) (bv p.2) ∧ By p.1 ∧ By p.2 ∧ p.1.length ≤ 140737488355328 ∧ p.2.length ≤ 140737488355328
theorem ColS.nil (w0 W : World) (B : Nat) : ColS w0 W B (.slice none 0 0) [] := ⟨[], World.ownsRow_nil _ _ _ _, fun j p h => by simp at h⟩
theorem ColS.keep {w0 W W' : World} {B : Nat} {v : Value} {ps : Ps} {S : List Nat} (h : ColS w0 W B v ps) (f : Fr S W W') (hS : ∀ k, v.ownBlock = some k → k ∉ S) : ColS w0 W' B v ps := by
  obtain ⟨cs, o, h2⟩ := h
  exact ⟨cs, own_keepF o f hS, h2⟩
theorem ColS.rd {w0 W : World} {B : Nat} {v : Value} {ps : Ps} (h : ColS w0 W B v ps) (f : Fr [] w0 W) : RdK W v ps := by
  obtain ⟨cs, o, h2⟩ := h
  rcases o.2 with ⟨rfl, h0⟩ | ⟨g, cap, cur, rfl, _, h3, h4, h5⟩
  · have : ps = [] := List.eq_nil_of_length_eq_zero h0
    subst this
    exact RdK.nil W
  · refine ⟨_, cap, rfl, h4, fun _ => ⟨g, 0, rfl, fun j p hj => ?_⟩⟩
    obtain ⟨ka, kc, va, vc, c0, c1, r0, r1, b0, b1, l0, l1⟩ := h2 j p hj
    have d0 := o.cells rfl _ _ c0
    have d1 := o.cells rfl _ _ c1
    rw [Addr.add_lit] at d0 d1
    exact ⟨ka, kc, va, vc, d0, by rw [show 0 + j * 2 + 1 = 0 + (j * 2 + 1) from by omega]; exact d1, r0.fr f, r1.fr f, b0, b1, l0, l1⟩
theorem ColS.app {w0 W' : World} {B : Nat} {v' : Value} {ps : Ps} {p : List Nat × List Nat} {cs : List Value} {ka va : Option Addr} {kc vc : Nat} (hcl : cs.length = ps.length * 2) (h : ∀ (j : Nat) (p : List Nat × List Nat), ps[j]? = some p → ∃ ka kc va vc, cs[j * 2]? = some (.slice ka p.1.length kc) ∧ cs[j * 2 + 1]? = some (.slice va p.2.length vc) ∧ Rd w0 (.slice ka p.1.length kc) (bv p.1) ∧ Rd w0 (.slice va p.2.length vc) (bv p.2) ∧ By p.1 ∧ By p.2 ∧ p.1.length ≤ 140737488355328 ∧ p.2.length ≤ 140737488355328)
    (rk : Rd w0 (.slice ka p.1.length kc) (bv p.1)) (rv : Rd w0 (.slice va p.2.length vc) (bv p.2)) (bk : By p.1) (bw : By p.2) (lk : p.1.length ≤ 140737488355328) (lv : p.2.length ≤ 140737488355328)
    (o' : W'.ownsRow B 58 2 v' (ps.length + 1) (cs ++ [.slice ka p.1.length kc, .slice va p.2.length vc])) : ColS w0 W' B v' (ps ++ [p]) := by
  refine ⟨cs ++ [.slice ka p.1.length kc, .slice va p.2.length vc], by rw [List.length_append]; exact o', fun j p' hj => ?_⟩
  rcases Nat.lt_or_ge j ps.length with hlt | hge
  · rw [List.getElem?_append_left hlt] at hj
    obtain ⟨ka', kc', va', vc', c0, c1, r⟩ := h j p' hj
    exact ⟨ka', kc', va', vc', by rw [List.getElem?_append_left (by omega)]; exact c0, by rw [List.getElem?_append_left (by omega)]; exact c1, r⟩
  · have hjl := (List.getElem?_eq_some_iff.1 hj).1
    simp at hjl
    have : j = ps.length := by omega
    subst this
    rw [List.getElem?_append_right (by omega)] at hj
    simp at hj
    subst hj
    exact ⟨ka, kc, va, vc, by rw [List.getElem?_append_right (by omega), hcl]; simp, by rw [List.getElem?_append_right (by omega), hcl, show ps.length * 2 + 1 - ps.length * 2 = 1 by omega]; rfl, rk, rv, bk, bw, lk, lv⟩
theorem wpList_appSp {w : World} {ops : Array Oper} {rest : List Oper} {o : Oper} {a : Act} {Q : Exit → Act → World → Prop} (hgd : o.guard = none) (s x : Operand)
    (ho : o.op = .call { callee := .builtin .append, args := #[s, x], argTypes := #[24, 24] }) (base : Nat) (hbase : base ≤ w.heap.size) (v : Value) (n : Nat) (xs : List Value) (hs : a.eval s = v) (hown : w.ownsRow base 58 2 v n xs) (G : Nat) (hx : a.eval x = .slice (some ⟨G, 0, none⟩) 1 1) {u0 u1 : Value} {T : TypeId} (hG : w.heap[G]? = some (.cells #[u0, u1] T (0, 0)))
    (hu : ∀ u ∈ [u0, u1], u.oneCell' = true) (hl : n ≤ 1000000000)
    (h : ∀ v' w', w'.ownsRow base 58 2 v' (n + 1) (xs ++ [u0, u1]) → w.grownBy w' v.ownBlock → wpList Try.prog ops Q rest (a.put o.dst v') w') :
    wpList Try.prog ops Q (o :: rest) a w := by
  obtain ⟨i0, hi, hz0, hz1, hz2⟩ := info_parts infoSp
  exact wpList_append_own_at w hgd s x 24 ho base 58 i0 _ 2 48 Try.underlying24 hi hz0 hz1 hz2 rfl (by decide) v n xs hs hown ⟨G, 0, none⟩ 1 1 [u0, u1] hx rfl (fun j u hj => by rw [Addr.add_lit, Nat.zero_add, blk_cell hG, ← Array.getElem?_toList]; exact hj) hu (by unfold maxLen; omega) (by omega) hbase fun v' w' h1 h2 _ _ => h v' w' h1 h2
/-- append(own, l...) of spans that others have. -/
theorem wpList_app_spsR {w w0 : World} {ops : Array Oper} {rest : List Oper} {o : Oper} {a : Act} {Q : Exit → Act → World → Prop} (hgd : o.guard = none) (s x : Operand)
    (ho : o.op = .call { callee := .builtin .append, args := #[s, x], argTypes := #[24, 24] }) {B : Nat} (hbase : B ≤ w.heap.size) (f : Fr [] w0 w) {v : Value} {ps qs : Ps} {mb moff m mc : Nat} (h1 : ColS w0 w B v ps) (h2 : RdK w0 (.slice (some ⟨mb, moff, none⟩) m mc) qs) (hm : m = qs.length) (hs : a.eval s = v) (hx : a.eval x = .slice (some ⟨mb, moff, none⟩) m mc)
    (hl1 : ps.length ≤ 1000000) (hl2 : qs.length ≤ 1000000)
    (h : ∀ v' w', ColS w0 w' B v' (ps ++ qs) → w.grownBy w' v.ownBlock → wpList Try.prog ops Q rest (a.put o.dst v') w') :
    wpList Try.prog ops Q (o :: rest) a w := by
  obtain ⟨i0, hi, hz0, hz1, hz2⟩ := info_parts infoSp
  obtain ⟨cs, oc, rc⟩ := h1
  subst hm
  obtain ⟨a', c', e, hc, k1⟩ := h2
  have hcells : ∀ j, j < qs.length → ∃ ka kc va vc, w.cell? ⟨mb, moff + j * 2, none⟩ = some (.slice ka (kA qs j).length kc) ∧ w.cell? ⟨mb, moff + (j * 2 + 1), none⟩ = some (.slice va (vA qs j).length vc) ∧ PAt w0 mb (moff + j * 2) (kA qs j, vA qs j) ka kc va vc := fun j hj => by
    obtain ⟨b, off, e2, m1⟩ := k1 (by omega)
    simp only [Value.slice.injEq] at e
    rw [← e.1] at e2
    simp only [Option.some.injEq, Addr.mk.injEq, and_true] at e2
    obtain ⟨rfl, rfl⟩ := e2
    obtain ⟨ka, kc, va, vc, P⟩ := m1 j _ (ps_at hj)
    exact ⟨ka, kc, va, vc, cell_fr f P.ck, cell_fr f P.cv, P⟩
  obtain ⟨ds, hds⟩ : ∃ ds, ds = (List.range (qs.length * 2)).map (fun i => (w.cell? ⟨mb, moff + i, none⟩).getD undef) := ⟨_, rfl⟩
  have hdl : ds.length = qs.length * 2 := by rw [hds]; simp
  have hda : ∀ i, i < qs.length * 2 → ds[i]? = some ((w.cell? ⟨mb, moff + i, none⟩).getD undef) := fun i hi => by
    rw [hds, List.getElem?_map, List.getElem?_range hi]; rfl
  have hsl : ∀ i, i < qs.length * 2 → ∃ xa xn xc, w.cell? ⟨mb, moff + i, none⟩ = some (.slice xa xn xc) := fun i hi => by
    obtain ⟨ka, kc, va, vc, c0, c1, _⟩ := hcells (i / 2) (by omega)
    rcases Nat.mod_two_eq_zero_or_one i with h0 | h0
    · rw [show i / 2 * 2 = i by omega] at c0; exact ⟨_, _, _, c0⟩
    · rw [show i / 2 * 2 + 1 = i by omega] at c1; exact ⟨_, _, _, c1⟩
  refine wpList_append_own_at w hgd s x 24 ho B 58 i0 _ 2 48 Try.underlying24 hi hz0 hz1 hz2 rfl (by decide) v ps.length cs hs oc ⟨mb, moff, none⟩ qs.length mc ds hx hdl (fun j u hj => ?_) (fun u hu => ?_) (by unfold maxLen; omega) (by omega) hbase fun v' w' o' g' _ _ => h v' w' ?_ g'
  · have hjl := (List.getElem?_eq_some_iff.1 hj).1
    rw [hdl] at hjl
    obtain ⟨xa, xn, xc, hc⟩ := hsl j hjl
    rw [hda j hjl, hc] at hj
    simp at hj
    rw [Addr.add_lit, hc, hj]
  · obtain ⟨j, hj⟩ := List.getElem?_of_mem hu
    have hjl := (List.getElem?_eq_some_iff.1 hj).1
    rw [hdl] at hjl
    obtain ⟨xa, xn, xc, hc⟩ := hsl j hjl
    rw [hda j hjl, hc] at hj
    simp at hj
    rw [← hj]; rfl
  · refine ⟨cs ++ ds, by rw [List.length_append]; exact o', fun j p hj => ?_⟩
    have hcl := oc.1
    by_cases hjl : j < ps.length
    · rw [List.getElem?_append_left hjl] at hj
      obtain ⟨ka, kc, va, vc, c0, c1, q0⟩ := rc j p hj
      exact ⟨ka, kc, va, vc, by rw [List.getElem?_append_left (by omega)]; exact c0, by rw [List.getElem?_append_left (by omega)]; exact c1, q0⟩
    · rw [List.getElem?_append_right (by omega)] at hj
      have hjq := (List.getElem?_eq_some_iff.1 hj).1
      obtain ⟨ka, kc, va, vc, c0, c1, P⟩ := hcells (j - ps.length) hjq
      obtain ⟨e1, e2⟩ := kA_at hj
      rw [e1] at c0
      rw [e2] at c1
      have ep : p = (kA qs (j - ps.length), vA qs (j - ps.length)) := by rw [e1, e2]
      refine ⟨ka, kc, va, vc, ?_, ?_, ?_⟩
      · rw [List.getElem?_append_right (by omega), show j * 2 - cs.length = (j - ps.length) * 2 by omega, hda _ (by omega), c0]; rfl
      · rw [List.getElem?_append_right (by omega), show j * 2 + 1 - cs.length = (j - ps.length) * 2 + 1 by omega, hda _ (by omega), c1]; rfl
      · rw [ep]; exact ⟨P.rk, P.rv, P.bk, P.bv', P.lk, P.lv⟩
/-- append(nil, nothing...). -/
theorem wpList_app_sps0 {w : World} {ops : Array Oper} {rest : List Oper} {o : Oper} {a : Act} {Q : Exit → Act → World → Prop} (hgd : o.guard = none) (s x : Operand)
    (ho : o.op = .call { callee := .builtin .append, args := #[s, x], argTypes := #[24, 24] }) {ao : Option Addr} {c : Nat} (hs : a.eval s = .slice none 0 0) (hx : a.eval x = .slice ao 0 c) (hn : ao = none → c = 0)
    (h : ∀ w', Fr [] w w' → wpList Try.prog ops Q rest (a.put o.dst (.slice none 0 0)) w') :
    wpList Try.prog ops Q (o :: rest) a w := by
  obtain ⟨i0, hi, hz0, hz1, hz2⟩ := info_parts infoSp
  cases ao with
  | none =>
    obtain rfl := hn rfl
    exact wpList_append_own_none hgd s x 24 ho w.heap.size 58 i0 2 Try.underlying24 hi (.slice none 0 0) 0 [] hs (World.ownsRow_nil _ _ _ _) hx (h w (Fr.refl _ _))
  | some ad =>
    refine wpList_append_own_at w hgd s x 24 ho w.heap.size 58 i0 _ 2 48 Try.underlying24 hi hz0 hz1 hz2 rfl (by decide) (.slice none 0 0) 0 [] hs (World.ownsRow_nil _ _ _ _) ad 0 c [] hx rfl (fun j u hj => by simp at hj) (fun u hu => by cases hu) (by unfold maxLen; omega) (by omega) (Nat.le_refl _) fun v' w' _ g' n' _ => ?_
    have e : v' = .slice none 0 0 := n'.2 ⟨rfl, rfl⟩
    subst e
    exact h w' ((Fr.refl [] w).grown g' (fun k hk => by cases hk))
theorem RdLL.front {w : World} {a : Option Addr} {n c : Nat} {LL : List Ps} (h : RdLL w (.slice a n c) LL) (hn : n = LL.length) {k : Nat} (hk : k ≤ n) : RdLL w (.slice a k c) (LL.take k) := by
  obtain ⟨a', c', e, hc, k1⟩ := h
  simp only [Value.slice.injEq] at e
  obtain ⟨rfl, _, rfl⟩ := e
  have hl : (LL.take k).length = k := by rw [List.length_take]; omega
  refine ⟨a, c, by rw [hl], by rw [hl]; omega, fun h0 => ?_⟩
  rw [hl] at h0
  obtain ⟨b, off, e, m⟩ := k1 (by omega)
  refine ⟨b, off, e, fun i p hi => m i p ?_⟩
  rw [List.getElem?_take] at hi
  split at hi
  · exact hi
  · cases hi
theorem RdLL.back {w : World} {b off n c : Nat} {LL : List Ps} (h : RdLL w (.slice (some ⟨b, off, none⟩) n c) LL) (hn : n = LL.length) {k : Nat} (hk : k < n) : RdLL w (.slice (some ⟨b, off + k, none⟩) (n - k) (c - k)) (LL.drop k) := by
  obtain ⟨a', c', e, hc, k1⟩ := h
  simp only [Value.slice.injEq] at e
  obtain ⟨e1, _, rfl⟩ := e
  have hl : (LL.drop k).length = n - k := by rw [List.length_drop]; omega
  refine ⟨_, c - k, by rw [hl], by rw [hl]; omega, fun h0 => ?_⟩
  obtain ⟨b', off', e, m⟩ := k1 (by omega)
  rw [← e1] at e
  simp only [Option.some.injEq, Addr.mk.injEq, and_true] at e
  obtain ⟨rfl, rfl⟩ := e
  refine ⟨b, off + k, rfl, fun i p hi => ?_⟩
  rw [List.getElem?_drop] at hi
  obtain ⟨ua, uc, c0, r⟩ := m (k + i) p hi
  exact ⟨ua, uc, by rw [Nat.add_assoc]; exact c0, r⟩
/-- What an appended list of lists hands over. -/
def NewsL (w : World) (LL : List Ps) (news : List Value) : Prop := news.length = LL.length ∧ ∀ (i : Nat) (p : Ps), LL[i]? = some p → ∃ ua uc, news[i]? = some (.slice ua p.length uc) ∧ RdK w (.slice ua p.length uc) p
theorem RdLL.news {w : World} {b off n c : Nat} {LL : List Ps} (h : RdLL w (.slice (some ⟨b, off, none⟩) n c) LL) : ∃ news, NewsL w LL news ∧ (∀ j u, news[j]? = some u → w.cell? ((⟨b, off, none⟩ : Addr).add j) = some u) ∧ ∀ u ∈ news, u.oneCell' = true := by
  obtain ⟨a', c', e, hc, k1⟩ := h
  simp only [Value.slice.injEq] at e
  obtain ⟨e1, _, rfl⟩ := e
  have each : ∀ i, i < LL.length → ∃ u : Value, ∃ p ua uc, LL[i]? = some p ∧ u = .slice ua p.length uc ∧ w.cell? ⟨b, off + i, none⟩ = some u ∧ RdK w u p := fun i hi => by
    obtain ⟨b', off', e, m⟩ := k1 (by omega)
    rw [← e1] at e
    simp only [Option.some.injEq, Addr.mk.injEq, and_true] at e
    obtain ⟨rfl, rfl⟩ := e
    obtain ⟨ua, uc, c0, r⟩ := m i LL[i] (List.getElem?_eq_getElem hi)
    exact ⟨_, LL[i], ua, uc, List.getElem?_eq_getElem hi, rfl, c0, r⟩
  obtain ⟨news, hl, hk⟩ := list_of LL.length each
  refine ⟨news, ⟨hl, fun i p hi => ?_⟩, fun j u hj => ?_, fun u hu => ?_⟩
  · have hil := (List.getElem?_eq_some_iff.1 hi).1
    obtain ⟨p', ua, uc, h1, h2, h3, h4⟩ := hk i news[i] (List.getElem?_eq_getElem (by omega))
    rw [hi] at h1
    cases h1
    exact ⟨ua, uc, by rw [List.getElem?_eq_getElem (by omega), h2], by rw [← h2]; exact h4⟩
  · obtain ⟨p', ua, uc, h1, h2, h3, h4⟩ := hk j u hj
    rw [Addr.add_lit]; exact h3
  · obtain ⟨j, hj⟩ := List.getElem?_of_mem hu
    obtain ⟨p', ua, uc, h1, h2, h3, h4⟩ := hk j u hj
    rw [h2]; rfl
/-- append(own, l...) of lists. -/
theorem wpList_app_LLm {w w0 : World} {ops : Array Oper} {rest : List Oper} {o : Oper} {a : Act} {Q : Exit → Act → World → Prop} (hgd : o.guard = none) (s x : Operand)
    (ho : o.op = .call { callee := .builtin .append, args := #[s, x], argTypes := #[22, 22] }) (base : Nat) (hbase : base ≤ w.heap.size) (v : Value) (n : Nat) (xs : List Value) (hs : a.eval s = v) (hown : w.ownsRow base 27 1 v n xs) {b off m c : Nat} {LL : List Ps} (hx : a.eval x = .slice (some ⟨b, off, none⟩) m c) (f : Fr [] w0 w) (hr : RdLL w0 (.slice (some ⟨b, off, none⟩) m c) LL) (hm : m = LL.length)
    (hl : n ≤ 1000000) (hl2 : m ≤ 1000000)
    (h : ∀ v' w' news, NewsL w0 LL news → w'.ownsRow base 27 1 v' (n + m) (xs ++ news) → w.grownBy w' v.ownBlock → wpList Try.prog ops Q rest (a.put o.dst v') w') :
    wpList Try.prog ops Q (o :: rest) a w := by
  obtain ⟨i0, hi, hz0, hz1, hz2⟩ := info_parts infoRw
  obtain ⟨news, hN, hc, h1⟩ := hr.news
  exact wpList_append_own_at w hgd s x 22 ho base 27 i0 _ 1 24 Try.underlying22 hi hz0 hz1 hz2 rfl (by decide) v n xs hs hown ⟨b, off, none⟩ m c news hx (by rw [hN.1, hm, Nat.mul_one]) (fun j u hj => cell_fr f (hc j u hj)) h1 (by unfold maxLen; omega) (by omega) hbase fun v' w' o' g' _ _ => h v' w' news hN o' g'
/-- append(own, nothing...) of lists. -/
theorem wpList_app_LL0 {w : World} {ops : Array Oper} {rest : List Oper} {o : Oper} {a : Act} {Q : Exit → Act → World → Prop} (hgd : o.guard = none) (s x : Operand)
    (ho : o.op = .call { callee := .builtin .append, args := #[s, x], argTypes := #[22, 22] }) (base : Nat) (hbase : base ≤ w.heap.size) (v : Value) (n : Nat) (xs : List Value) (hs : a.eval s = v) (hown : w.ownsRow base 27 1 v n xs) {ao : Option Addr} {c : Nat} (hx : a.eval x = .slice ao 0 c) (hn : ao = none → c = 0) (hl : n ≤ 1000000)
    (h : ∀ v' w', w'.ownsRow base 27 1 v' n xs → w.grownBy w' v.ownBlock → wpList Try.prog ops Q rest (a.put o.dst v') w') :
    wpList Try.prog ops Q (o :: rest) a w := by
  obtain ⟨i0, hi, hz0, hz1, hz2⟩ := info_parts infoRw
  cases ao with
  | none =>
    obtain rfl := hn rfl
    exact wpList_append_own_none hgd s x 22 ho base 27 i0 1 Try.underlying22 hi v n xs hs hown hx (h v w hown ⟨rfl, rfl, rfl, Nat.le_refl _, fun _ _ _ => rfl⟩)
  | some ad =>
    refine wpList_append_own_at w hgd s x 22 ho base 27 i0 _ 1 24 Try.underlying22 hi hz0 hz1 hz2 rfl (by decide) v n xs hs hown ad 0 c [] hx rfl (fun j u hj => by simp at hj) (fun u hu => by cases hu) (by unfold maxLen; omega) (by omega) hbase fun v' w' o' g' _ _ => ?_
    rw [List.append_nil] at o'
    exact h v' w' o' g'
/-- A list ahead of lists. -/
theorem RdLL.cons {w0 W' : World} {base n : Nat} {v' : Value} {K : Ps} {LL : List Ps} {a : Option Addr} {c : Nat} {news : List Value} (hn : n = LL.length) (f : Fr [] w0 W') (o : W'.ownsRow base 27 1 v' (1 + n) ([.slice a K.length c] ++ news)) (hK : RdK w0 (.slice a K.length c) K) (hN : NewsL w0 LL news) : RdLL W' v' (K :: LL) := by
  rcases o.2 with ⟨_, h0⟩ | ⟨g, cap, cur, rfl, _, h3, h4, h5⟩
  · omega
  · refine ⟨some ⟨g, 0, none⟩, cap, by rw [List.length_cons, hn, Nat.add_comm], by rw [List.length_cons]; omega, fun _ => ⟨g, 0, rfl, fun i p hi => ?_⟩⟩
    cases i with
    | zero =>
      simp at hi
      subst hi
      have := o.cells (g := g) rfl 0 _ rfl
      rw [Addr.add_lit] at this
      exact ⟨a, c, this, hK.fr f⟩
    | succ i =>
      simp at hi
      obtain ⟨ua, uc, e, r⟩ := hN.2 i p hi
      have := o.cells (g := g) rfl (i + 1) (.slice ua p.length uc) (by rw [List.getElem?_append_right (by simp)]; simpa using e)
      rw [Addr.add_lit] at this
      exact ⟨ua, uc, this, r.fr f⟩
end Go.Proofs.Ythmlpjogbdpgiaa
