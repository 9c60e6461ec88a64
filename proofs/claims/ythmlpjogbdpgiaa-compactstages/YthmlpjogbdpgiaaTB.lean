/-
  Pairs appended to a row of the call's own; the statement's Copy.
-/
import Derived.Test.YthmlpjogbdpgiaaJ11
import Derived.Test.YthmlpjogbdpgiaaJ18
namespace Go.Proofs.Ythmlpjogbdpgiaa
open Go.ChangeShapes Go.WideShapes Go.ChangeAt Go.RowKit

/-- append([]byte(nil), x...) within a region that draws. -/
theorem step_append_nilB {ops : Array Oper} {o : Oper} {a : Act} {w : World} {K : Act → World → Prop} {Q : Exit → Act → World → Prop} {E : Prop} (hg : o.guard = none) (s x : Operand) (hop : o.op = Op.call { callee := Callee.builtin Builtin.append, args := #[s, x], argTypes := #[35, 35] }) (hs : a.eval s = .slice none 0 0) {sx : Value} (hx : a.eval x = sx) {ns : List Nat} (hr : Rd w sx (bv ns)) (hl : ns.length ≤ 140737488355328)
    (hK : ∀ v' w', w'.ownsRow w.heap.size 5 1 v' ns.length (bv ns) → Fr [] w w' → K (a.put o.dst v') w') :
    if Region.wanted o (yielded ops a.tmps) = true then Oper.wp Try.prog o a w K Q else E := by
  have hw : Region.wanted o (yielded ops a.tmps) = true := by simp [Region.wanted, hg]
  rw [if_pos hw]
  obtain ⟨i0, hi, hz0, hz1, hz2⟩ := info_parts infoB
  rcases hr with ⟨rfl, h0⟩ | ⟨ad, c, rfl, h4, h5⟩
  · have hn0 : ns = [] := by cases ns with | nil => rfl | cons => simp [bv] at h0
    subst hn0
    have hrun : ∀ ty, (Builtin.append_ #[35, 35] ty #[.slice none 0 0, .slice none 0 0]).run Try.prog w = .ok (.slice none 0 0) w := fun ty => by
      simp [Builtin.append_, Builtin.firstCells, go_sem]
    unfold Oper.wp
    simp [execOp, hop, resolve, invoke, builtin, hs, hx, hrun, Result.andThen]
    exact hK _ _ (World.ownsRow_nil _ _ _ _) (Fr.refl _ _)
  · obtain ⟨v', w', hrun, h2, h3, _, h6⟩ := run_append_own_at (P := Try.prog) w w.heap.size 35 o.type 5 i0 (.int .u8 0) 1 1 Try.underlying35 hi hz0 hz1 hz2 rfl (by decide) (.slice none 0 0) 0 [] (World.ownsRow_nil _ _ _ _) ad (bv ns).length c (bv ns) (by simp) h5 bv_one (by rw [bv_len]; unfold maxLen; omega) (by rw [bv_len]; omega) (Nat.le_refl _)
    unfold Oper.wp
    simp [execOp, hop, resolve, invoke, builtin, hs, hx, hrun, Result.andThen]
    refine hK _ _ ?_ ((Fr.refl _ _).grown h3 (by simp [Value.ownBlock]))
    rw [bv_len, Nat.zero_add, List.nil_append] at h2
    exact h2
theorem step_append_nilS {ops : Array Oper} {o : Oper} {a : Act} {w : World} {K : Act → World → Prop} {Q : Exit → Act → World → Prop} {E : Prop} (hg : o.guard = none) (s x : Operand) (hop : o.op = Op.call { callee := Callee.builtin Builtin.append, args := #[s, x], argTypes := #[35, 35] }) (hs : a.eval s = .slice none 0 0) {sx : Value} (hx : a.eval x = sx) {ns : List Nat} (hr : Rd w sx (bv ns)) (hl : ns.length ≤ 140737488355328) {l : Nat} (hln : l = ns.length)
    (hK : ∀ a' c' w', w'.ownsRow w.heap.size 5 1 (.slice a' l c') ns.length (bv ns) → Fr [] w w' → K (a.put o.dst (.slice a' l c')) w') :
    if Region.wanted o (yielded ops a.tmps) = true then Oper.wp Try.prog o a w K Q else E := by
  subst hln
  refine step_append_nilB hg s x hop hs hx hr hl fun v' w' o' f' => ?_
  obtain ⟨a', c', rfl, _⟩ := ownsRow_slice o'
  exact hK a' c' w' o' f'
theorem step_build1 {ops : Array Oper} {o : Oper} {a : Act} {w : World} {K : Act → World → Prop} {Q : Exit → Act → World → Prop} {E : Prop} (hg : o.guard = none) (x : Operand) (hop : o.op = Op.buildSlice 27 1 #[(0, x)]) {a0 a1 : Option Addr} {n0 n1 c0 c1 : Nat} (hx : a.eval x = .agg #[.slice a0 n0 c0, .slice a1 n1 c1])
    (hK : K (a.put o.dst (.slice (some ⟨w.heap.size, 0, none⟩) 1 1)) (w.alloc (.cells #[.slice a0 n0 c0, .slice a1 n1 c1] 50))) :
    if Region.wanted o (yielded ops a.tmps) = true then Oper.wp Try.prog o a w K Q else E := by
  have hw : Region.wanted o (yielded ops a.tmps) = true := by simp [Region.wanted, hg]
  rw [if_pos hw]
  unfold Oper.wp
  simp [execOp, hop, hx]
  go_simp
  exact hK
theorem step_append_kv {ops : Array Oper} {o : Oper} {a : Act} {w : World} {K : Act → World → Prop} {Q : Exit → Act → World → Prop} {E : Prop} (hg : o.guard = none) (s x : Operand) (hop : o.op = Op.call { callee := Callee.builtin Builtin.append, args := #[s, x], argTypes := #[27, 27] }) (base : Nat) {v : Value} {n : Nat} {xs : List Value} (hs : a.eval s = v) (hown : w.ownsRow base 50 2 v n xs) {G : Nat} (hx : a.eval x = .slice (some ⟨G, 0, none⟩) 1 1) {u0 u1 : Value} {T : TypeId} (hG : w.heap[G]? = some (.cells #[u0, u1] T (0, 0)))
    (hu : ∀ u ∈ [u0, u1], u.oneCell' = true) (hl : n ≤ 1000000000) (hbase : base ≤ w.heap.size)
    (hK : ∀ v' w', w'.ownsRow base 50 2 v' (n + 1) (xs ++ [u0, u1]) → w.grownBy w' v.ownBlock → K (a.put o.dst v') w') :
    if Region.wanted o (yielded ops a.tmps) = true then Oper.wp Try.prog o a w K Q else E := by
  obtain ⟨i0, hi0, hz0, hz1, hz2⟩ := info_parts infoP
  exact step_append_own hg s x 27 hop base 50 i0 _ 2 48 Try.underlying27 hi0 hz0 hz1 hz2 rfl (by decide) v n xs hs hown ⟨G, 0, none⟩ 1 1 [u0, u1] hx rfl (fun j u hj => by rw [Addr.add_lit, Nat.zero_add, blk_cell hG, ← Array.getElem?_toList]; exact hj) hu (by unfold maxLen; omega) (by omega) hbase (fun v' w' o' g' _ => hK v' w' o' g')
/-- Pairs of the call's own, their bytes too. -/
def ColO (W : World) (B : Nat) (v : Value) (ps : Ps) : Prop := ∃ cs, W.ownsRow B 50 2 v ps.length cs ∧
  ∀ (j : Nat) (p : List Nat × List Nat), ps[j]? = some p → ∃ kv vv, cs[j * 2]? = some kv ∧ cs[j * 2 + 1]? = some vv ∧ W.ownsRow B 5 1 kv p.1.length (bv p.1) ∧ W.ownsRow B 5 1 vv p.2.length (bv p.2) ∧ By p.1 ∧ By p.2 ∧ p.1.length ≤ 140737488355328 ∧ p.2.length ≤ 140737488355328
theorem ColO.nil (W : World) (B : Nat) : ColO W B (.slice none 0 0) [] := ⟨[], World.ownsRow_nil _ _ _ _, fun j p h => by simp at h⟩
theorem ColO.fr {W W' : World} {B : Nat} {v : Value} {ps : Ps} (h : ColO W B v ps) (f : Fr [] W W') : ColO W' B v ps := by
  obtain ⟨cs, o, h2⟩ := h
  refine ⟨cs, ownsRow_fr o f, fun j p hj => ?_⟩
  obtain ⟨kv, vv, c0, c1, r0, r1, b0⟩ := h2 j p hj
  exact ⟨kv, vv, c0, c1, ownsRow_fr r0 f, ownsRow_fr r1 f, b0⟩
theorem ColO.rd {w : World} {B : Nat} {v : Value} {ps : Ps} (h : ColO w B v ps) : RdK w v ps := by
  obtain ⟨cs, o, h2⟩ := h
  rcases o.2 with ⟨rfl, h0⟩ | ⟨g, cap, cur, rfl, _, h3, h4, h5⟩
  · have : ps = [] := List.eq_nil_of_length_eq_zero h0
    subst this
    exact RdK.nil w
  · refine ⟨_, cap, rfl, h4, fun _ => ⟨g, 0, rfl, fun j p hj => ?_⟩⟩
    obtain ⟨kv, vv, c0, c1, q0, q1, b0, b1, l0, l1⟩ := h2 j p hj
    have r0 := Rd.ownB q0
    have r1 := Rd.ownB q1
    have d0 := o.cells rfl _ _ c0
    have d1 := o.cells rfl _ _ c1
    rw [Addr.add_lit] at d0 d1
    obtain ⟨a0, k0, e0⟩ := r0.form
    obtain ⟨a1, k1, e1⟩ := r1.form
    rw [bv_len] at e0 e1
    subst e0
    subst e1
    exact ⟨a0, k0, a1, k1, d0, by rw [show 0 + j * 2 + 1 = 0 + (j * 2 + 1) from by omega]; exact d1, r0, r1, b0, b1, l0, l1⟩
/-- A row of bytes stays while a row of another kind grows. -/
theorem own_stays {W W' : World} {B B' s n m : Nat} {e : TypeId} {v u : Value} {xs ys : List Value} (o : W.ownsRow B e s v n xs) (g : W.grownBy W' v.ownBlock) (q : W.ownsRow B' 5 1 u m ys) (hne : 5 ≠ e) : W'.ownsRow B' 5 1 u m ys := by
  refine ownsRow_of_block q fun k hk => ?_
  rcases q.2 with ⟨rfl, _⟩ | ⟨h, cap, cur, rfl, _, h3, _⟩
  · simp [Value.ownBlock] at hk
  · simp [Value.ownBlock] at hk
    subst hk
    exact g.block _ (blk_lt h3) (fun e' => own_not o h3 hne e'.symm)
theorem own_base {W : World} {B B' s n : Nat} {e : TypeId} {v : Value} {xs : List Value} (h : W.ownsRow B e s v n xs) (hb : B' ≤ B) : W.ownsRow B' e s v n xs := by
  refine ⟨h.1, ?_⟩
  rcases h.2 with h0 | ⟨g, cap, cur, h1, h2, h3⟩
  · exact .inl h0
  · exact .inr ⟨g, cap, cur, h1, by omega, h3⟩
theorem ColO.app {W W' : World} {B : Nat} {v v' kv vv : Value} {ps : Ps} {p : List Nat × List Nat} {cs : List Value} (o : W.ownsRow B 50 2 v ps.length cs)
    (h : ∀ (j : Nat) (p : List Nat × List Nat), ps[j]? = some p → ∃ kv vv, cs[j * 2]? = some kv ∧ cs[j * 2 + 1]? = some vv ∧ W.ownsRow B 5 1 kv p.1.length (bv p.1) ∧ W.ownsRow B 5 1 vv p.2.length (bv p.2) ∧ By p.1 ∧ By p.2 ∧ p.1.length ≤ 140737488355328 ∧ p.2.length ≤ 140737488355328)
    (ok : W.ownsRow B 5 1 kv p.1.length (bv p.1)) (ov : W.ownsRow B 5 1 vv p.2.length (bv p.2)) (bk : By p.1) (bw : By p.2) (lk : p.1.length ≤ 140737488355328) (lv : p.2.length ≤ 140737488355328)
    (o' : W'.ownsRow B 50 2 v' (ps.length + 1) (cs ++ [kv, vv])) (g : W.grownBy W' v.ownBlock) : ColO W' B v' (ps ++ [p]) := by
  refine ⟨cs ++ [kv, vv], by rw [List.length_append]; exact o', fun j p' hj => ?_⟩
  have hcl := o.1
  rcases Nat.lt_or_ge j ps.length with hlt | hge
  · rw [List.getElem?_append_left hlt] at hj
    obtain ⟨a, b, c0, c1, q0, q1, b0⟩ := h j p' hj
    exact ⟨a, b, by rw [List.getElem?_append_left (by omega)]; exact c0, by rw [List.getElem?_append_left (by omega)]; exact c1, own_stays o g q0 (by decide), own_stays o g q1 (by decide), b0⟩
  · rw [List.getElem?_append_right hge] at hj
    have hjj : j = ps.length := by
      rcases Nat.lt_or_ge (j - ps.length) 1 with h1 | h1
      · omega
      · rw [List.getElem?_eq_none (by simpa using h1)] at hj; cases hj
    subst hjj
    simp at hj
    subst hj
    exact ⟨kv, vv, by rw [List.getElem?_append_right (by omega), hcl, Nat.sub_self]; rfl, by rw [List.getElem?_append_right (by omega), hcl, show ps.length * 2 + 1 - ps.length * 2 = 1 from by omega]; rfl, own_stays o g ok (by decide), own_stays o g ov (by decide), bk, bw, lk, lv⟩
end Go.Proofs.Ythmlpjogbdpgiaa
