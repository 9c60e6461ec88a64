/-
  The document's Cut: where its loop stands.
-/
import Derived.Test.YthmlpjogbdpgiaaCXB
import Derived.Test.YthmlpjogbdpgiaaCT8
import Derived.Test.YthmlpjogbdpgiaaJ13
namespace Go.Proofs.Ythmlpjogbdpgiaa
open Go.ChangeShapes Go.WideShapes Go.ChangeAt Go.RowKit

theorem ruser10_q (w : World) {q off n c : Nat} (h8 : 8 ≤ n) (hc : n ≤ c) (hn : n ≤ 140737488355328) :
    Calls Try.prog 32 #[.slice (some ⟨q, off, none⟩) n c] w fun r w' => r = .returned (.slice (some ⟨q, off, none⟩) (n - 8) c) ∧ w' = w := by
  have e1 : ((n : Int) - 8).toNat = n - 8 := by omega
  have e2 : IntKind.i64.wrap ((n : Int) - 8) = (n : Int) - 8 := by rw [IntKind.wrap_i64]; omega
  have e3 : ¬ (n : Int) - 8 < 0 := by omega
  have e4 : ¬ (c : Int) < (n : Int) - 8 := by omega
  have e5 : (n : Int) - 8 ≤ (c : Int) := by omega
  go_enter Try.func32, Try.ntmps32
  go_wp2
  go_ret
  exact ⟨rfl, rfl⟩
theorem ColR.form {w0 W : World} {B : Nat} {v : Value} {ps : Ps} (h : ColR w0 W B v ps) : ∃ a c, v = .slice a ps.length c := by
  obtain ⟨cs, o, _⟩ := h
  obtain ⟨a, c, e, _⟩ := ownsRow_slice o
  exact ⟨a, c, e⟩
theorem ColR.lower {w0 W : World} {B B' : Nat} {v : Value} {ps : Ps} (h : ColR w0 W B v ps) (hb : B' ≤ B) : ColR w0 W B' v ps := by
  obtain ⟨cs, o, h2⟩ := h
  exact ⟨cs, own_baseC o hb, h2⟩
/-- Lists of others' pairs, in rows of the call's own. -/
def PcR (w0 W : World) (B : Nat) (v : Value) (PP : List Ps) : Prop := ∃ vs, W.ownsRow B 27 1 v PP.length vs ∧ ∀ (j : Nat) (p : Ps), PP[j]? = some p → ∃ u, vs[j]? = some u ∧ ColR w0 W B u p
theorem PcR.nil (w0 W : World) (B : Nat) : PcR w0 W B (.slice none 0 0) [] := ⟨[], World.ownsRow_nil _ _ _ _, fun j p h => by simp at h⟩
theorem PcR.fr {w0 W W' : World} {B : Nat} {v : Value} {PP : List Ps} (h : PcR w0 W B v PP) (f : Fr [] W W') : PcR w0 W' B v PP := by
  obtain ⟨vs, o, h2⟩ := h
  refine ⟨vs, ownsRow_fr o f, fun j p hj => ?_⟩
  obtain ⟨u, e, c⟩ := h2 j p hj
  exact ⟨u, e, c.keep f (fun _ _ h => by cases h)⟩
theorem PcR.rd {w0 W : World} {B : Nat} {v : Value} {PP : List Ps} (h : PcR w0 W B v PP) (f : Fr [] w0 W) : RdLL W v PP := by
  obtain ⟨vs, o, h2⟩ := h
  rcases o.2 with ⟨rfl, h0⟩ | ⟨g, cap, cur, rfl, _, h3, h4, h5⟩
  · have : PP = [] := List.eq_nil_of_length_eq_zero h0
    subst this
    exact ⟨none, 0, rfl, Nat.le_refl _, fun h => by simp at h⟩
  · refine ⟨_, cap, rfl, h4, fun _ => ⟨g, 0, rfl, fun j p hj => ?_⟩⟩
    obtain ⟨u, e, c⟩ := h2 j p hj
    obtain ⟨ua, uc, rfl⟩ := c.form
    have d0 := o.cells rfl _ _ e
    rw [Addr.add_lit] at d0
    exact ⟨ua, uc, d0, c.rd f⟩
/-- The document's Cut, a piece under way. -/
structure RcI (w Wk wr : World) (v6 : Value) (vs : List Value) (cv : Value) (PP : List Ps) (c : Ps) : Prop where
  fr : Fr [] w wr
  sz : w.heap.size ≤ Wk.heap.size
  vl : vs.length = PP.length
  row : wr.ownsRow w.heap.size 27 1 v6 (PP.length + 1) (vs ++ [cv])
  gk : ∀ k, v6.ownBlock = some k → k < Wk.heap.size ∧ ∃ cur, Wk.heap[k]? = some (.cells cur 27 (0, 0))
  old : ∀ (j : Nat) (p : Ps), PP[j]? = some p → ∃ u, vs[j]? = some u ∧ ColR w Wk w.heap.size u p
  fk : Fr v6.ownBlock.toList Wk wr
  co : ColR w wr Wk.heap.size cv c
theorem ColR.keepT {w0 W W' : World} {B : Nat} {v : Value} {ps : Ps} {S : List Nat} (h : ColR w0 W B v ps) (f : Fr S W W') (hS : ∀ x ∈ S, ∃ cs T, W.heap[x]? = some (.cells cs T (0, 0)) ∧ T ≠ 50) : ColR w0 W' B v ps := by
  refine h.keep f (fun k hk hm => ?_)
  obtain ⟨cs, o, _⟩ := h
  obtain ⟨cs', T, h1, h2⟩ := hS k hm
  exact own_not o h1 (fun e => h2 e) hk
theorem RcI.rows {w Wk wr : World} {v6 cv : Value} {vs : List Value} {PP : List Ps} {c : Ps} (h : RcI w Wk wr v6 vs cv PP c) : PcR w wr w.heap.size v6 (PP ++ [c]) := by
  refine ⟨vs ++ [cv], by rw [List.length_append]; exact h.row, fun j p hj => ?_⟩
  have hvl := h.vl
  rcases Nat.lt_or_ge j PP.length with hlt | hge
  · rw [List.getElem?_append_left hlt] at hj
    obtain ⟨y, e, k⟩ := h.old j p hj
    exact ⟨y, by rw [List.getElem?_append_left (by omega)]; exact e, k.keepT h.fk (fun x hx => by
      have hx' : v6.ownBlock = some x := by
        cases hu : v6.ownBlock with
        | none => rw [hu] at hx; simp at hx
        | some q => rw [hu] at hx; simp at hx; rw [hx]
      obtain ⟨_, cur, hc⟩ := h.gk x hx'
      exact ⟨cur, _, hc, by decide⟩)⟩
  · have hjl := (List.getElem?_eq_some_iff.1 hj).1
    simp at hjl
    have : j = PP.length := by omega
    subst this
    rw [List.getElem?_append_right (by omega)] at hj
    simp at hj
    subst hj
    exact ⟨cv, by rw [List.getElem?_append_right (by omega)]; simp [hvl], h.co.lower h.sz⟩
/-- A new piece is begun. -/
theorem PcR.begin {w wr W : World} {v6 v' : Value} {QQ : List Ps} (hf : Fr [] w wr) {vs : List Value} (o : wr.ownsRow w.heap.size 27 1 v6 QQ.length vs) (hv : ∀ (j : Nat) (p : Ps), QQ[j]? = some p → ∃ u, vs[j]? = some u ∧ ColR w wr w.heap.size u p)
    (o' : W.ownsRow w.heap.size 27 1 v' (QQ.length + 1) (vs ++ [.slice none 0 0])) (g : wr.grownBy W v6.ownBlock) : RcI w W W v' vs (.slice none 0 0) QQ [] := by
  have f : Fr v6.ownBlock.toList wr W := (Fr.refl _ _).grown g (fun q hq => .inl (by rw [hq]; simp))
  have hfw : Fr [] w W := hf.grown g (fun k hk => .inr (o.lt k hk).1)
  refine ⟨hfw, hfw.size, o.1.trans (by omega), o', fun k hk => ⟨(o'.lt k hk).2, ?_⟩, fun j p hj => ?_, Fr.refl _ _, ColR.nil _ _ _⟩
  · obtain ⟨cs, T, h1, rfl⟩ := own_ty o' k (by rw [hk]; simp)
    exact ⟨cs, h1⟩
  · obtain ⟨u, e, k⟩ := hv j p hj
    exact ⟨u, e, k.keepT f (fun x hx => by
      obtain ⟨cs, T, h1, rfl⟩ := own_ty o x hx
      exact ⟨cs, _, h1, by decide⟩)⟩
theorem RcI.quiet {w Wk wr W : World} {v6 cv : Value} {vs : List Value} {PP : List Ps} {c : Ps} (h : RcI w Wk wr v6 vs cv PP c) (f : Fr [] wr W) : RcI w Wk W v6 vs cv PP c :=
  ⟨h.fr.trans f, h.sz, h.vl, ownsRow_fr h.row f, h.gk, h.old, h.fk.trans (f.mono (by simp)), h.co.keep f (fun _ _ h => by cases h)⟩
/-- The block of out. -/
theorem RcI.blk {w Wk wr : World} {v6 cv : Value} {vs : List Value} {PP : List Ps} {c : Ps} (h : RcI w Wk wr v6 vs cv PP c) : ∃ G cp cur, v6 = .slice (some ⟨G, 0, none⟩) (PP.length + 1) cp ∧ PP.length + 1 ≤ cp ∧ wr.heap[G]? = some (.cells cur 27 (0, 0)) ∧ wr.cell? ⟨G, PP.length, none⟩ = some cv := by
  rcases h.row.2 with ⟨e, h0⟩ | ⟨g, cap, cur, e, _, h3, h4, h5⟩
  · omega
  · have hc := h.row.cells (g := g) (by rw [e]; rfl) PP.length cv (by rw [List.getElem?_append_right (by rw [h.vl]; exact Nat.le_refl _), h.vl, Nat.sub_self]; rfl)
    rw [Addr.add_lit, Nat.zero_add] at hc
    exact ⟨g, cap, cur, e, h4, h3, hc⟩
/-- An entry is laid to the piece under way, and the piece set anew. -/
theorem RcI.add {w Wk wr W : World} {v6 cv cv' : Value} {vs cs : List Value} {PP : List Ps} {c : Ps} (h : RcI w Wk wr v6 vs cv PP c) {x : List Nat × List Nat} {ka va : Option Addr} {kc vc G cp : Nat} (e6 : v6 = .slice (some ⟨G, 0, none⟩) (PP.length + 1) cp) (hcl : cs.length = c.length * 2)
    (hv : ∀ (j : Nat) (p : List Nat × List Nat), c[j]? = some p → ∃ ka kc va vc, cs[j * 2]? = some (.slice ka p.1.length kc) ∧ cs[j * 2 + 1]? = some (.slice va p.2.length vc) ∧ Rd w (.slice ka p.1.length kc) (bv p.1) ∧ Rd w (.slice va p.2.length vc) (bv p.2) ∧ By p.1 ∧ By p.2 ∧ p.1.length ≤ 140737488355328 ∧ p.2.length ≤ 140737488355328)
    (rk : Rd w (.slice ka x.1.length kc) (bv x.1)) (rv : Rd w (.slice va x.2.length vc) (bv x.2)) (bk : By x.1) (bw : By x.2) (lk : x.1.length ≤ 140737488355328) (lv : x.2.length ≤ 140737488355328)
    (o' : W.ownsRow Wk.heap.size 50 2 cv' (c.length + 1) (cs ++ [.slice ka x.1.length kc, .slice va x.2.length vc])) (g : wr.grownBy W cv.ownBlock) :
    RcI w Wk (W.setCell ⟨G, PP.length, none⟩ cv') v6 vs cv' PP (c ++ [x]) ∧ W.cell? ⟨G, PP.length, none⟩ = some cv ∧ W.frozen? ⟨G, PP.length, none⟩ = false := by
  obtain ⟨cs0, oc, _⟩ := h.co
  have f : Fr cv.ownBlock.toList wr W := (Fr.refl _ _).grown g (fun q hq => .inl (by rw [hq]; simp))
  have hG : v6.ownBlock = some G := by rw [e6]; rfl
  have hGl := h.gk G hG
  have hrow := own_keepF h.row f (fun k hk hm => by
    obtain ⟨cs', T, h1, rfl⟩ := own_ty oc k hm
    exact own_not h.row h1 (by decide) hk)
  have hrow2 := hrow
  rw [e6] at hrow2
  have hcell := hrow2.cells (g := G) rfl PP.length cv (by rw [List.getElem?_append_right (by rw [h.vl]; exact Nat.le_refl _), h.vl, Nat.sub_self]; rfl)
  rw [Addr.add_lit, Nat.zero_add] at hcell
  obtain ⟨cs1, T1, hb1, rfl⟩ := own_ty hrow2 G (by simp [Value.ownBlock])
  have st := hrow2.stored PP.length cv'
  have hset : (vs ++ [cv]).set PP.length cv' = vs ++ [cv'] := by
    rw [List.set_append_right _ _ (by rw [h.vl]; exact Nat.le_refl _), h.vl, Nat.sub_self]; rfl
  rw [hset] at st
  have fw : Fr [] w W := h.fr.grown g (fun k hk => .inr (Nat.le_trans h.sz (oc.lt k hk).1))
  have fkw : Fr v6.ownBlock.toList Wk W := h.fk.grown g (fun k hk => .inr (oc.lt k hk).1)
  have hset1 : Fr [G] W (W.setCell ⟨G, PP.length, none⟩ cv') := (Fr.refl [G] W).set _ _ (.inl (by simp))
  have hGw : w.heap.size ≤ G := (h.row.lt G hG).1
  refine ⟨⟨fw.wide hset1 (fun k hk => by simp at hk; omega), h.sz, h.vl, by rw [e6]; exact st.1, h.gk, h.old, fkw.trans (hset1.mono (by rw [hG]; simp)), ?_⟩, hcell, blk_frozen hb1 _⟩
  exact (ColR.app hcl hv rk rv bk bw lk lv o').keepT hset1 (fun y hy => by
    simp at hy
    subst hy
    exact ⟨cs1, _, hb1, by decide⟩)
end Go.Proofs.Ythmlpjogbdpgiaa
