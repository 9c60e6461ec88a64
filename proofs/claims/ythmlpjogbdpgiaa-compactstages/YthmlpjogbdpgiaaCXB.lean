/-
  compact.Cut in general.
-/
import Derived.Test.YthmlpjogbdpgiaaJ09
import Derived.Test.YthmlpjogbdpgiaaCQ9
import Derived.Test.YthmlpjogbdpgiaaJ14
namespace Go.Proofs.Ythmlpjogbdpgiaa
open Go.ChangeShapes Go.WideShapes Go.ChangeAt Go.RowKit

/-- Lists of pairs, all of the call's own. -/
def PcO (W : World) (B : Nat) (v : Value) (PP : List Ps) : Prop := ∃ vs, W.ownsRow B 27 1 v PP.length vs ∧ ∀ (j : Nat) (p : Ps), PP[j]? = some p → ∃ u, vs[j]? = some u ∧ ColO W B u p
theorem PcO.nil (W : World) (B : Nat) : PcO W B (.slice none 0 0) [] := ⟨[], World.ownsRow_nil _ _ _ _, fun j p h => by simp at h⟩
theorem PcO.fr {W W' : World} {B : Nat} {v : Value} {PP : List Ps} (h : PcO W B v PP) (f : Fr [] W W') : PcO W' B v PP := by
  obtain ⟨vs, o, h2⟩ := h
  refine ⟨vs, ownsRow_fr o f, fun j p hj => ?_⟩
  obtain ⟨u, e, c⟩ := h2 j p hj
  exact ⟨u, e, c.fr f⟩
theorem ColO.keepT {W W' : World} {B : Nat} {v : Value} {ps : Ps} {S : List Nat} (h : ColO W B v ps) (f : Fr S W W') (hS : ∀ x ∈ S, ∃ cs T, W.heap[x]? = some (.cells cs T (0, 0)) ∧ T ≠ 5 ∧ T ≠ 50) : ColO W' B v ps := by
  have key : ∀ {e : TypeId} {s n : Nat} {u : Value} {xs : List Value}, (e = 5 ∨ e = 50) → W.ownsRow B e s u n xs → W'.ownsRow B e s u n xs := fun he o => own_keepF o f (fun k hk hm => by
    obtain ⟨cs, T, h1, h2, h3⟩ := hS k hm
    rcases he with rfl | rfl
    · exact own_not o h1 (fun e => h2 e) hk
    · exact own_not o h1 (fun e => h3 e) hk)
  obtain ⟨cs, o, h2⟩ := h
  refine ⟨cs, key (.inr rfl) o, fun j p hj => ?_⟩
  obtain ⟨kv, vv, c0, c1, r0, r1, b0⟩ := h2 j p hj
  exact ⟨kv, vv, c0, c1, key (.inl rfl) r0, key (.inl rfl) r1, b0⟩
theorem ColO.form {W : World} {B : Nat} {v : Value} {ps : Ps} (h : ColO W B v ps) : ∃ a c, v = .slice a ps.length c := by
  obtain ⟨cs, o, _⟩ := h
  obtain ⟨a, c, e, _⟩ := ownsRow_slice o
  exact ⟨a, c, e⟩
/-- The blocks of a row that changes. -/
theorem own_ty {W : World} {B s n : Nat} {e : TypeId} {v : Value} {xs : List Value} (o : W.ownsRow B e s v n xs) : ∀ x ∈ v.ownBlock.toList, ∃ cs T, W.heap[x]? = some (.cells cs T (0, 0)) ∧ T = e := fun x hx => by
  rcases o.2 with ⟨rfl, _⟩ | ⟨g, cap, cur, rfl, _, h3, _⟩
  · simp [Value.ownBlock] at hx
  · simp [Value.ownBlock] at hx
    subst hx
    exact ⟨cur, _, h3, rfl⟩
theorem PcO.app {W W' : World} {B : Nat} {v v' u : Value} {PP : List Ps} {p : Ps} {vs : List Value} (o : W.ownsRow B 27 1 v PP.length vs) (h : ∀ (j : Nat) (p : Ps), PP[j]? = some p → ∃ u, vs[j]? = some u ∧ ColO W B u p) (hu : ColO W B u p)
    (o' : W'.ownsRow B 27 1 v' (PP.length + 1) (vs ++ [u])) (f : Fr v.ownBlock.toList W W') : PcO W' B v' (PP ++ [p]) := by
  have hT : ∀ x ∈ v.ownBlock.toList, ∃ cs T, W.heap[x]? = some (.cells cs T (0, 0)) ∧ T ≠ 5 ∧ T ≠ 50 := fun x hx => by
    obtain ⟨cs, T, h1, rfl⟩ := own_ty o x hx
    exact ⟨cs, _, h1, by decide, by decide⟩
  have hvl := o.1
  refine ⟨vs ++ [u], by rw [List.length_append]; exact o', fun j q hj => ?_⟩
  rcases Nat.lt_or_ge j PP.length with hlt | hge
  · rw [List.getElem?_append_left hlt] at hj
    obtain ⟨y, e, c⟩ := h j q hj
    exact ⟨y, by rw [List.getElem?_append_left (by omega)]; exact e, c.keepT f hT⟩
  · have hjl := (List.getElem?_eq_some_iff.1 hj).1
    simp at hjl
    have : j = PP.length := by omega
    subst this
    rw [List.getElem?_append_right (by omega)] at hj
    simp at hj
    subst hj
    exact ⟨u, by rw [List.getElem?_append_right (by omega)]; simp [hvl], hu.keepT f hT⟩
theorem PcO.rd {W : World} {B : Nat} {v : Value} {PP : List Ps} (h : PcO W B v PP) : RdLL W v PP := by
  obtain ⟨vs, o, h2⟩ := h
  rcases o.2 with ⟨rfl, h0⟩ | ⟨g, cap, cur, rfl, _, h3, h4, h5⟩
  · have : PP = [] := List.eq_nil_of_length_eq_zero h0
    subst this
    exact ⟨none, 0, rfl, Nat.le_refl _, fun h => by simp at h⟩
  · refine ⟨_, cap, rfl, h4, fun _ => ⟨g, 0, rfl, fun j p hj => ?_⟩⟩
    obtain ⟨u, e, c⟩ := h2 j p hj
    obtain ⟨ua, uc, rfl⟩ := c.form
    have d0 := o.cells rfl _ _ e
    rw [Addr.add_lit] at d0
    exact ⟨ua, uc, d0, c.rd⟩
theorem wpList_appLL {w : World} {ops : Array Oper} {rest : List Oper} {o : Oper} {a : Act} {Q : Exit → Act → World → Prop} (hgd : o.guard = none) (s x : Operand)
    (ho : o.op = .call { callee := .builtin .append, args := #[s, x], argTypes := #[22, 22] }) (base : Nat) (hbase : base ≤ w.heap.size) (v : Value) (n : Nat) (xs : List Value) (hs : a.eval s = v) (hown : w.ownsRow base 27 1 v n xs) (G : Nat) (hx : a.eval x = .slice (some ⟨G, 0, none⟩) 1 1) {u0 : Value} {T : TypeId} (hG : w.heap[G]? = some (.cells #[u0] T (0, 0)))
    (hu : u0.oneCell' = true) (hl : n ≤ 1000000000)
    (h : ∀ v' w', w'.ownsRow base 27 1 v' (n + 1) (xs ++ [u0]) → w.grownBy w' v.ownBlock → wpList Try.prog ops Q rest (a.put o.dst v') w') :
    wpList Try.prog ops Q (o :: rest) a w := by
  obtain ⟨i0, hi, hz0, hz1, hz2⟩ := info_parts infoRw
  exact wpList_append_own_at w hgd s x 22 ho base 27 i0 _ 1 24 Try.underlying22 hi hz0 hz1 hz2 rfl (by decide) v n xs hs hown ⟨G, 0, none⟩ 1 1 [u0] hx rfl (fun j u hj => by rw [Addr.add_lit, Nat.zero_add, blk_cell hG, ← Array.getElem?_toList]; exact hj) (fun u hm => by simp at hm; subst hm; exact hu) (by unfold maxLen; omega) (by omega) hbase fun v' w' h1 h2 _ _ => h v' w' h1 h2
/-- Where Cut's loop stands. -/
structure CutI (w Wk wr : World) (v6 v7 v8 : Value) (PP : List Ps) (c : Ps) (u : List Nat) : Prop where
  f0 : Fr [] w Wk
  f1 : Fr [] Wk wr
  pc : PcO Wk w.heap.size v6 PP
  co : ColO wr Wk.heap.size v7 c
  us : wr.ownsRow w.heap.size 5 1 v8 u.length (bv u)
theorem CutI.quiet {w Wk wr W : World} {v6 v7 v8 : Value} {PP : List Ps} {c : Ps} {u : List Nat} (h : CutI w Wk wr v6 v7 v8 PP c u) (f : Fr [] wr W) : CutI w Wk W v6 v7 v8 PP c u :=
  ⟨h.f0, h.f1.trans f, h.pc, h.co.fr f, ownsRow_fr h.us f⟩
/-- A piece is laid to the others. -/
theorem CutI.push {w Wk wr W : World} {v6 v7 v8 v' : Value} {PP : List Ps} {c : Ps} {u : List Nat} (h : CutI w Wk wr v6 v7 v8 PP c u) {vs : List Value} (o : wr.ownsRow w.heap.size 27 1 v6 PP.length vs) (hv : ∀ (j : Nat) (p : Ps), PP[j]? = some p → ∃ u, vs[j]? = some u ∧ ColO wr w.heap.size u p)
    (o' : W.ownsRow w.heap.size 27 1 v' (PP.length + 1) (vs ++ [v7])) (g : wr.grownBy W v6.ownBlock) : CutI w W W v' (.slice none 0 0) v8 (PP ++ [c]) [] u := by
  have f : Fr v6.ownBlock.toList wr W := (Fr.refl _ _).grown g (fun q hq => .inl (by rw [hq]; simp))
  have hlow : w.heap.size ≤ Wk.heap.size := h.f0.size
  refine ⟨(h.f0.trans h.f1).grown g (fun k hk => .inr (o.lt k hk).1), Fr.refl _ _, PcO.app o hv (h.co.lower hlow) o' f, ColO.nil _ _, own_keepF h.us f (fun k hk hm => ?_)⟩
  obtain ⟨cs, T, h1, rfl⟩ := own_ty o k hm
  exact own_not h.us h1 (by decide) hk
theorem CutI.row {w Wk wr : World} {v6 v7 v8 : Value} {PP : List Ps} {c : Ps} {u : List Nat} (h : CutI w Wk wr v6 v7 v8 PP c u) : ∃ vs, wr.ownsRow w.heap.size 27 1 v6 PP.length vs ∧ ∀ (j : Nat) (p : Ps), PP[j]? = some p → ∃ u, vs[j]? = some u ∧ ColO wr w.heap.size u p :=
  h.pc.fr h.f1
/-- An entry is laid to the piece under way. -/
theorem CutI.add {w Wk wr W : World} {v6 v7 v8 v' kv vv : Value} {PP : List Ps} {c : Ps} {u : List Nat} (h : CutI w Wk wr v6 v7 v8 PP c u) {x : List Nat × List Nat} {cs : List Value} (o : wr.ownsRow Wk.heap.size 50 2 v7 c.length cs)
    (hv : ∀ (j : Nat) (p : List Nat × List Nat), c[j]? = some p → ∃ kv vv, cs[j * 2]? = some kv ∧ cs[j * 2 + 1]? = some vv ∧ wr.ownsRow Wk.heap.size 5 1 kv p.1.length (bv p.1) ∧ wr.ownsRow Wk.heap.size 5 1 vv p.2.length (bv p.2) ∧ By p.1 ∧ By p.2 ∧ p.1.length ≤ 140737488355328 ∧ p.2.length ≤ 140737488355328)
    (ok : wr.ownsRow Wk.heap.size 5 1 kv x.1.length (bv x.1)) (ov : wr.ownsRow Wk.heap.size 5 1 vv x.2.length (bv x.2)) (bk : By x.1) (bw : By x.2) (lk : x.1.length ≤ 140737488355328) (lv : x.2.length ≤ 140737488355328)
    (o' : W.ownsRow Wk.heap.size 50 2 v' (c.length + 1) (cs ++ [kv, vv])) (g : wr.grownBy W v7.ownBlock) : CutI w Wk W v6 v' v8 PP (c ++ [x]) u := by
  have f : Fr v7.ownBlock.toList wr W := (Fr.refl _ _).grown g (fun q hq => .inl (by rw [hq]; simp))
  refine ⟨h.f0, h.f1.grown g (fun k hk => .inr (o.lt k hk).1), h.pc, ColO.app o hv ok ov bk bw lk lv o' g, own_keepF h.us f (fun k hk hm => ?_)⟩
  obtain ⟨cs, T, h1, rfl⟩ := own_ty o k hm
  exact own_not h.us h1 (by decide) hk
end Go.Proofs.Ythmlpjogbdpgiaa
