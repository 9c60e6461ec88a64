/-
  Pairs that a range gathers in a box: a round, and what is left.
-/
import Derived.Test.YtldcjkddalmkcaaAP
import Derived.Test.YtldcjkddalmkcaaCK
namespace Go.Proofs.Ytldcjkddalmkcaa
open Go.ChangeShapes Go.WideShapes Go.ChangeAt Go.RowKit

/-- Pairs of the statement's own, whose bytes lie in rows of bytes. -/
def ColO (W : World) (B : Nat) (v : Value) (ps : List (List Nat × List Nat)) : Prop := ∃ cs, W.ownsRow B 50 2 v ps.length cs ∧
  ∀ (j : Nat) (p : List Nat × List Nat), ps[j]? = some p → ∃ kv vv, cs[j * 2]? = some kv ∧ cs[j * 2 + 1]? = some vv ∧ W.ownsRow 0 5 1 kv p.1.length (bv p.1) ∧ W.ownsRow 0 5 1 vv p.2.length (bv p.2) ∧ By p.1 ∧ By p.2
/-- Is this a row of bytes? -/
def B8 (W : World) (k : Nat) : Prop := ∃ cs, W.heap[k]? = some (.cells cs 5 (0, 0))
theorem own_b8 {W : World} {B n : Nat} {v : Value} {xs : List Value} (o : W.ownsRow B 5 1 v n xs) {k : Nat} (hk : v.ownBlock = some k) : B8 W k := by
  rcases o.2 with ⟨rfl, _⟩ | ⟨g, cap, cur, rfl, _, h3, _⟩
  · simp [Value.ownBlock] at hk
  · simp [Value.ownBlock] at hk
    subst hk
    exact ⟨cur, h3⟩
theorem own_kv {W : World} {B n : Nat} {v : Value} {xs : List Value} (o : W.ownsRow B 50 2 v n xs) {k : Nat} (hk : v.ownBlock = some k) : ∃ cs, W.heap[k]? = some (.cells cs 50 (0, 0)) := by
  rcases o.2 with ⟨rfl, _⟩ | ⟨g, cap, cur, rfl, _, h3, _⟩
  · simp [Value.ownBlock] at hk
  · simp [Value.ownBlock] at hk
    subst hk
    exact ⟨cur, h3⟩
theorem ColO.nil (W : World) (B : Nat) : ColO W B (.slice none 0 0) [] := ⟨[], World.ownsRow_nil _ _ _ _, fun j p h => by simp at h⟩
theorem ColO.step {W W' : World} {B : Nat} {v : Value} {ps : List (List Nat × List Nat)} (h : ColO W B v ps) (hb : ∀ k, v.ownBlock = some k → W'.heap[k]? = W.heap[k]?) (hu : ∀ k, B8 W k → W'.heap[k]? = W.heap[k]?) : ColO W' B v ps := by
  obtain ⟨cs, o, h2⟩ := h
  refine ⟨cs, ownsRow_of_block o hb, fun j p hj => ?_⟩
  obtain ⟨kv, vv, c0, c1, r0, r1, b0, b1⟩ := h2 j p hj
  exact ⟨kv, vv, c0, c1, ownsRow_of_block r0 fun k hk => hu k (own_b8 r0 hk), ownsRow_of_block r1 fun k hk => hu k (own_b8 r1 hk), b0, b1⟩
theorem ColO.rd {w : World} {B : Nat} {v : Value} {ps : List (List Nat × List Nat)} (h : ColO w B v ps) : RdK w v ps := by
  obtain ⟨cs, o, h2⟩ := h
  rcases o.2 with ⟨rfl, h0⟩ | ⟨g, cap, cur, rfl, _, h3, h4, h5⟩
  · have : ps = [] := List.eq_nil_of_length_eq_zero h0
    subst this
    exact ⟨none, 0, rfl, fun h => by simp at h⟩
  · refine ⟨_, cap, rfl, fun _ => ⟨g, 0, rfl, fun j p hj => ?_⟩⟩
    obtain ⟨kv, vv, c0, c1, r0', r1', b0, b1⟩ := h2 j p hj
    have r0 := Rd.ownB r0'
    have r1 := Rd.ownB r1'
    have d0 := o.cells rfl _ _ c0
    have d1 := o.cells rfl _ _ c1
    rw [Addr.add_lit] at d0 d1
    obtain ⟨a0, k0, e0⟩ := r0.form
    obtain ⟨a1, k1, e1⟩ := r1.form
    rw [bv_len] at e0 e1
    subst e0
    subst e1
    exact ⟨a0, k0, a1, k1, d0, by rw [show 0 + j * 2 + 1 = 0 + (j * 2 + 1) from by omega]; exact d1, r0, r1, b0, b1⟩
theorem ColO.lt {W : World} {B : Nat} {v : Value} {ps : List (List Nat × List Nat)} (h : ColO W B v ps) : ∀ k, v.ownBlock = some k → B ≤ k ∧ k < W.heap.size := fun k hk => by obtain ⟨cs, o, _⟩ := h; exact o.lt k hk
theorem ColO.fr {W W' : World} {B : Nat} {v : Value} {ps : List (List Nat × List Nat)} (h : ColO W B v ps) (f : Fr [] W W') : ColO W' B v ps :=
  h.step (fun k hk => f.block k (h.lt k hk).2 (by simp)) (fun k hk => f.block k (by obtain ⟨cs, h⟩ := hk; exact blk_lt h) (by simp))
/-- Gathered in a box that lay there when the range began. -/
structure Gt (w W : World) (p : Nat) (v : Value) (ps : List (List Nat × List Nat)) : Prop where
  lt : p < w.heap.size
  fr : Fr [p] w W
  box : W.heap[p]? = some (.cells #[v] 59 (0, 0))
  col : ColO W w.heap.size v ps
theorem Gt.fr' {w W W' : World} {p : Nat} {v : Value} {ps : List (List Nat × List Nat)} (h : Gt w W p v ps) (f : Fr [] W W') : Gt w W' p v ps :=
  ⟨h.lt, h.fr.trans (f.mono (by simp)), f.at h.box (by simp), h.col.fr f⟩
theorem Gt.own {w W W' : World} {p : Nat} {v : Value} {ps : List (List Nat × List Nat)} (h : Gt w W p v ps) {row : Option Nat} (hg : W.grownBy W' row) (hr : ∀ r, row = some r → w.heap.size ≤ r ∧ ∃ o : Obj, W.heap[r]? = some o ∧ o.isCells = false) : Gt w W' p v ps := by
  have hk : ∀ {k : Nat} {cs : Array Value} {T : TypeId}, W.heap[k]? = some (.cells cs T (0, 0)) → W'.heap[k]? = W.heap[k]? := fun h => grownBy_keeps_cells hg (fun r e => (hr r e).2) h rfl
  refine ⟨h.lt, h.fr.grown hg (fun k e => .inr (hr k e).1), by rw [hk h.box]; exact h.box, h.col.step (fun k hb => ?_) (fun k hb => ?_)⟩
  · obtain ⟨cs, o, _⟩ := h.col
    obtain ⟨cs', h'⟩ := own_kv o hb
    exact hk h'
  · obtain ⟨cs', h'⟩ := hb
    exact hk h'
theorem gt_own (w : World) (p : Nat) (ps : List (List Nat × List Nat)) : OwnFrom w.heap.size (fun k W => ∃ v, Gt w W p v (ps.take k)) := fun _ _ _ _ ⟨v, h⟩ hg hr => ⟨v, h.own hg hr⟩
/-- What a round has in hand. -/
structure Ax (w : World) (p : Nat) (es : List E) (k : Nat) (tp te : Value) (W : World) (v : Value) (Eb : Nat) (kv vv : Value) (e : E) : Prop where
  g : Gt w W p v ((prs es).take k)
  at' : es[k]? = some e
  eb : W.heap[Eb]? = some (.cells #[kv, vv] 50 (0, 0))
  ok : W.ownsRow 0 5 1 kv e.key.length (bv e.key)
  ov : W.ownsRow 0 5 1 vv e.val.length (bv e.val)
  tp' : tp = .pointer (some ⟨p, 0, none⟩)
  te' : te = .pointer (some ⟨Eb, 0, none⟩)
theorem Ax.own {w W W' : World} {p : Nat} {es : List E} {k : Nat} {tp te v : Value} {Eb : Nat} {kv vv : Value} {e : E} (h : Ax w p es k tp te W v Eb kv vv e) {row : Option Nat} (hg : W.grownBy W' row) (hr : ∀ r, row = some r → w.heap.size ≤ r ∧ ∃ o : Obj, W.heap[r]? = some o ∧ o.isCells = false) : Ax w p es k tp te W' v Eb kv vv e := by
  have hk : ∀ {k : Nat} {cs : Array Value} {T : TypeId}, W.heap[k]? = some (.cells cs T (0, 0)) → W'.heap[k]? = W.heap[k]? := fun h => grownBy_keeps_cells hg (fun r e => (hr r e).2) h rfl
  exact ⟨h.g.own hg hr, h.at', by rw [hk h.eb]; exact h.eb, ownsRow_of_block h.ok (fun k hb => by obtain ⟨cs', h'⟩ := own_b8 h.ok hb; exact hk h'), ownsRow_of_block h.ov (fun k hb => by obtain ⟨cs', h'⟩ := own_b8 h.ov hb; exact hk h'), h.tp', h.te'⟩
theorem ev_same {a : Act} {d : Tmp} {v : Value} (h : d < a.tmps.size) : (a.put (some d) v).eval (.tmp d) = v := by
  simp [Act.put, Act.eval, Array.getD_eq_getD_getElem?, h]
theorem ev_ne {a : Act} {d e : Tmp} {v : Value} (h : d ≠ e) : (a.put (some d) v).eval (.tmp e) = a.eval (.tmp e) := by
  simp [Act.put, Act.eval, Array.getD_eq_getD_getElem?, h]
theorem ev_size {a : Act} {d : Tmp} {v : Value} : (a.put (some d) v).tmps.size = a.tmps.size := by simp [Act.put]
/-- One operation that hands nothing on. -/
theorem wpList_skip {ops : Array Oper} {rest : List Oper} {o : Oper} {a : Act} {w w' : World} {Q : Exit → Act → World → Prop} (hg : o.guard = none) (hd : o.dst = none) (h0 : (execOp a.eval o).run Try.prog w = .ok .skip w')
    (h : wpList Try.prog ops Q rest a w') : wpList Try.prog ops Q (o :: rest) a w :=
  wpList_plain hg fun K hK => by unfold Oper.wp; rw [h0, Oper.upon_skip, hd]; exact hK _ _ h
def AxP (w : World) (p : Nat) (es : List E) (sp se : Nat) (k : Nat) (a : Act) (W : World) : Prop := a.tmps.size = 168 ∧ ∃ v Eb kv vv e, Ax w p es k (a.eval (.tmp sp)) (a.eval (.tmp se)) W v Eb kv vv e
theorem axP_own (w : World) (p : Nat) (es : List E) (sp se k : Nat) (a : Act) : OwnFrom w.heap.size (fun (_ : Unit) W => AxP w p es sp se k a W) := fun _ _ _ _ ⟨hs, v, Eb, kv, vv, e, h⟩ hg hr => ⟨hs, v, Eb, kv, vv, e, h.own hg hr⟩
/-- append(own, x) for a pair. -/
theorem wpList_append_kv {w : World} {ops : Array Oper} {rest : List Oper} {o : Oper} {a : Act} {Q : Exit → Act → World → Prop} (hgd : o.guard = none) (s x : Operand)
    (ho : o.op = .call { callee := .builtin .append, args := #[s, x], argTypes := #[59, 59] }) (base : Nat) (hbase : base ≤ w.heap.size) (v : Value) (n : Nat) (xs : List Value) (hs : a.eval s = v) (hown : w.ownsRow base 50 2 v n xs) (G : Nat) (hx : a.eval x = .slice (some ⟨G, 0, none⟩) 1 1) {a1 a2 : Option Addr} {n1 c1 n2 c2 : Nat} {T : TypeId} (hG : w.heap[G]? = some (.cells #[.slice a1 n1 c1, .slice a2 n2 c2] T (0, 0)))
    (hl : n ≤ 200000)
    (h : ∀ v' w', w'.ownsRow base 50 2 v' (n + 1) (xs ++ [.slice a1 n1 c1, .slice a2 n2 c2]) → w.grownBy w' v.ownBlock → (v'.ownBlock = v.ownBlock ∨ v'.ownBlock = some w.heap.size) → wpList Try.prog ops Q rest (a.put o.dst v') w') :
    wpList Try.prog ops Q (o :: rest) a w := by
  obtain ⟨i0, hi, hz0, hz1, hz2⟩ := info_parts infoP
  refine wpList_append_own_at w hgd s x 59 ho base 50 i0 _ 2 48 Try.underlying59 hi hz0 hz1 hz2 rfl (by decide) v n xs hs hown ⟨G, 0, none⟩ 1 1 [.slice a1 n1 c1, .slice a2 n2 c2] hx rfl ?_ ?_ (by unfold maxLen; omega) (by omega) hbase fun v' w' h1 h2 _ h3 => h v' w' h1 h2 h3
  · intro j u hj
    rw [Addr.add_lit, Nat.zero_add, blk_cell hG, ← Array.getElem?_toList]
    exact hj
  · intro u hu
    simp at hu
    rcases hu with rfl | rfl <;> rfl
/-- What a round leaves. -/
theorem round_left {w W w2 : World} {p : Nat} {es : List E} {k : Nat} {tp te v v' : Value} {Eb : Nat} {e : E} {a1 a2 : Option Addr} {n1 c1 n2 c2 : Nat} {cs : List Value} (h : Ax w p es k tp te W v Eb (.slice a1 n1 c1) (.slice a2 n2 c2) e) (hby : By e.key ∧ By e.val)
    (o : W.ownsRow w.heap.size 50 2 v ((prs es).take k).length cs)
    (hc : ∀ (j : Nat) (q : List Nat × List Nat), ((prs es).take k)[j]? = some q → ∃ kv vv, cs[j * 2]? = some kv ∧ cs[j * 2 + 1]? = some vv ∧ W.ownsRow 0 5 1 kv q.1.length (bv q.1) ∧ W.ownsRow 0 5 1 vv q.2.length (bv q.2) ∧ By q.1 ∧ By q.2)
    (o2 : w2.ownsRow w.heap.size 50 2 v' (((prs es).take k).length + 1) (cs ++ [.slice a1 n1 c1, .slice a2 n2 c2])) (hg : (W.alloc (.cells #[.slice a1 n1 c1, .slice a2 n2 c2] 50)).grownBy w2 v.ownBlock) :
    KeepsFrom w.heap.size W (w2.setCell ⟨p, 0, none⟩ v') ∧ Gt w (w2.setCell ⟨p, 0, none⟩ v') p v' ((prs es).take (k + 1)) := by
  obtain ⟨W1, hW1⟩ : ∃ W1, W.alloc (.cells #[.slice a1 n1 c1, .slice a2 n2 c2] 50) = W1 := ⟨_, rfl⟩
  have f1 : Fr [] W W1 := by rw [← hW1]; exact (Fr.refl _ _).alloc _
  rw [hW1] at hg
  have hlt := h.g.lt
  have hkeep : ∀ q, q < W.heap.size → v.ownBlock ≠ some q → w2.heap[q]? = W.heap[q]? := fun q hq hn => by
    rw [hg.block q (Nat.lt_of_lt_of_le hq f1.size) (fun e => hn e.symm), f1.block q hq (by simp)]
  have hsz : W.heap.size ≤ w2.heap.size := Nat.le_trans f1.size hg.size
  have h8 : ∀ q, B8 W q → (w2.setCell ⟨p, 0, none⟩ v').heap[q]? = W.heap[q]? := fun q ⟨c8, hq⟩ => by
    rw [blk_setne _ _ _ (fun e => by subst e; rw [h.g.box] at hq; simp at hq)]
    refine hkeep q (blk_lt hq) fun e => ?_
    obtain ⟨c9, h9⟩ := own_kv o e
    rw [h9] at hq
    simp at hq
  have hpn : v.ownBlock ≠ some p := fun e => by have := (o.lt p e).1; omega
  have hpb : w2.heap[p]? = some (.cells #[v] 59 (0, 0)) := by rw [hkeep p (blk_lt h.g.box) hpn]; exact h.g.box
  have htk : (prs es).take (k + 1) = (prs es).take k ++ [(e.key, e.val)] := by
    rw [List.take_add_one]
    congr 1
    unfold prs
    rw [List.getElem?_map, h.at']
    rfl
  refine ⟨⟨by simpa [World.setCell] using hsz, fun q ob hq hob hnc => ?_⟩, hlt, ?_, ?_, ?_⟩
  · rw [blk_setne _ _ _ (by omega), hkeep q (blk_lt hob) fun e => ?_]
    · exact hob
    · obtain ⟨c9, h9⟩ := own_kv o e
      rw [h9] at hob
      cases hob
      simp [Obj.isCells] at hnc
  · refine Fr.set ?_ 0 v' (.inl (by simp))
    exact ((h.g.fr.trans (f1.mono (by simp))).grown hg fun q e => .inr (o.lt q e).1)
  · rw [blk_set hpb]; rfl
  · rw [htk]
    refine ⟨cs ++ [.slice a1 n1 c1, .slice a2 n2 c2], ?_, fun j q hj => ?_⟩
    · rw [List.length_append]
      refine ownsRow_of_block o2 fun q hq => blk_setne _ _ _ ?_
      have := (o2.lt q hq).1
      omega
    · by_cases hjl : j < ((prs es).take k).length
      · rw [List.getElem?_append_left hjl] at hj
        obtain ⟨kv, vv, c0, c1', r0, r1, b0, b1⟩ := hc j q hj
        have g0 := (List.getElem?_eq_some_iff.1 c0).1
        have g1 := (List.getElem?_eq_some_iff.1 c1').1
        exact ⟨kv, vv, by rw [List.getElem?_append_left g0]; exact c0, by rw [List.getElem?_append_left g1]; exact c1', ownsRow_of_block r0 fun k hk => h8 k (own_b8 r0 hk), ownsRow_of_block r1 fun k hk => h8 k (own_b8 r1 hk), b0, b1⟩
      · have hcl : cs.length = ((prs es).take k).length * 2 := o.1
        rw [List.getElem?_append_right (by omega)] at hj
        have hj0 : j = ((prs es).take k).length := by
          have := (List.getElem?_eq_some_iff.1 hj).1
          rw [List.length_singleton] at this
          omega
        rw [hj0] at hj
        simp at hj
        subst hj
        refine ⟨.slice a1 n1 c1, .slice a2 n2 c2, ?_, ?_, ownsRow_of_block h.ok fun k hk => h8 k (own_b8 h.ok hk), ownsRow_of_block h.ov fun k hk => h8 k (own_b8 h.ov hk), hby.1, hby.2⟩
        · rw [List.getElem?_append_right (by omega), show j * 2 - cs.length = 0 from by omega]; rfl
        · rw [List.getElem?_append_right (by omega), show j * 2 + 1 - cs.length = 1 from by omega]; rfl

set_option maxRecDepth 20000 in
theorem assign_a {w W0 W1 : World} {p l k : Nat} {es : List E} {v : Value} {t : Array Value} (hs : t.size = 168) (hp : ∀ d, Act.eval ⟨t, d⟩ (.tmp 12) = .pointer (some ⟨p, 0, none⟩)) (g : ∃ v, Gt w W0 p v ((prs es).take k)) (f : Fr [] W0 W1) (en : EnK es k W0 W1 v) :
    (Code.region 24 #[{ dst := some 14, op := Op.alloc 50, type := 0, pos := "exact.go:135", after := #[], guard := none }, { dst := none, op := Op.store 50 (Operand.tmp 14) (Operand.tmp 139), type := 0, pos := "exact.go:135", after := #[{ on := 0, ground := Ground.data }, { on := 0, ground := Ground.phase }], guard := none }] false).wpIn (Fence.wide.inRound l) 3 Try.prog
      (Exit.then (fun a' W' => KeepsFrom w.heap.size W1 W' ∧ AxP w p es 12 14 k a' W') (fun _ _ _ => False)) { tmps := ((#[139] : Array Tmp).zip #[v]).foldl (fun t (p, v) => t.setIfInBounds p v) t, defers := [] } W1 := by
  obtain ⟨e, kv, vv, he, rfl, kt⟩ := en
  obtain ⟨v, g⟩ := g
  obtain ⟨ka, kc, rfl, _⟩ := ownsRow_slice kt.ok
  obtain ⟨va, vc, rfl, _⟩ := ownsRow_slice kt.ov
  obtain ⟨a0, ha0⟩ : ∃ a0 : Act, a0 = { tmps := ((#[139] : Array Tmp).zip #[Value.agg #[.slice ka e.key.length kc, .slice va e.val.length vc]]).foldl (fun t (p, v) => t.setIfInBounds p v) t, defers := [] } := ⟨_, rfl⟩
  have hs0 : a0.tmps.size = 168 := by rw [ha0]; simp [hs]
  have e0 : a0.eval (.tmp 139) = .agg #[.slice ka e.key.length kc, .slice va e.val.length vc] := by
    rw [ha0]; simp [Act.eval, Array.getD_eq_getD_getElem?, hs]
  have e1 : a0.eval (.tmp 12) = .pointer (some ⟨p, 0, none⟩) := by
    rw [ha0, ← hp []]; simp [Act.eval, Array.getD_eq_getD_getElem?]
  rw [← ha0]
  clear ha0
  refine wpIn_reg (fun ⟨_, _, h⟩ => h) rfl ?_
  refine wpList_val (v := .pointer (some ⟨W1.heap.size, 0, none⟩)) (w' := W1.alloc (.cells #[.slice none 0 0, .slice none 0 0] 50)) rfl (by go_simp) ?_
  have e2 : (a0.put (some 14) (.pointer (some ⟨W1.heap.size, 0, none⟩))).eval (.tmp 14) = .pointer (some ⟨W1.heap.size, 0, none⟩) := ev_same (by rw [hs0]; decide)
  have e3 : (a0.put (some 14) (.pointer (some ⟨W1.heap.size, 0, none⟩))).eval (.tmp 139) = .agg #[.slice ka e.key.length kc, .slice va e.val.length vc] := (ev_ne (by decide)).trans e0
  have e4 : (a0.put (some 14) (.pointer (some ⟨W1.heap.size, 0, none⟩))).eval (.tmp 12) = .pointer (some ⟨p, 0, none⟩) := (ev_ne (by decide)).trans e1
  have hs1 : (a0.put (some 14) (.pointer (some ⟨W1.heap.size, 0, none⟩))).tmps.size = 168 := ev_size.trans hs0
  dsimp only
  generalize a0.put (some 14) (.pointer (some ⟨W1.heap.size, 0, none⟩)) = a1 at *
  refine wpList_skip (w' := W1.alloc (.cells #[.slice ka e.key.length kc, .slice va e.val.length vc] 50)) rfl rfl (by simp only [execOp, e2, e3]; go_simp) ?_
  refine ⟨⟨by simp, fun q o _ hq _ => by rw [blk_old _ _ (blk_lt hq)]; exact hq⟩, hs1, v, W1.heap.size, .slice ka e.key.length kc, .slice va e.val.length vc, e, ?_⟩
  have f1 : Fr [] W1 (W1.alloc (.cells #[.slice ka e.key.length kc, .slice va e.val.length vc] 50)) := (Fr.refl _ _).alloc _
  refine ⟨(g.fr' f).fr' f1, he, blk_new _ _, ownsRow_of_block (ownsRow_base kt.ok (Nat.zero_le _)) fun q hq => f1.block q (kt.ok.lt q hq).2 (by simp), ownsRow_of_block (ownsRow_base kt.ov (Nat.zero_le _)) fun q hq => f1.block q (kt.ov.lt q hq).2 (by simp), ?_, ?_⟩
  · exact e4
  · exact e2

set_option maxRecDepth 20000 in
theorem body_a {w W : World} {p l k : Nat} {es : List E} {a : Act} {Jx : Code → World → Prop} (hn : es.length ≤ 100000) (hby : ∀ e ∈ es, By e.key ∧ By e.val) (A : AxP w p es 12 14 k a W) :
    (Code.block 5 (Code.region 25 #[{ dst := some 140, op := Op.load 59 (Operand.tmp 12), type := 59, pos := "exact.go:136", after := #[], guard := none }, { dst := some 141, op := Op.load 50 (Operand.tmp 14), type := 50, pos := "exact.go:136", after := #[], guard := none },
      { dst := some 142, op := Op.buildSlice 59 1 #[(0, Operand.tmp 141)], type := 59, pos := "exact.go:136", after := #[{ on := 1, ground := Ground.data }], guard := none },
      { dst := some 143, op := Op.call { callee := Callee.builtin Builtin.append, args := #[Operand.tmp 140, Operand.tmp 142], argTypes := #[59, 59] }, type := 59, pos := "exact.go:136", after := #[{ on := 0, ground := Ground.data }, { on := 2, ground := Ground.data }], guard := none },
      { dst := none, op := Op.store 59 (Operand.tmp 12) (Operand.tmp 143), type := 0, pos := "exact.go:136", after := #[{ on := 3, ground := Ground.data }, { on := 3, ground := Ground.chain }, { on := 0, ground := Ground.phase }, { on := 1, ground := Ground.phase }, { on := 2, ground := Ground.phase }, { on := 3, ground := Ground.phase }], guard := none }] false)).wpIn (Fence.wide.inRound l) 3 Try.prog
      (rPost w.heap.size (fun W => ∃ v, Gt w W p v ((prs es).take (k + 1))) Jx W) a W := by
  obtain ⟨hs, v, Eb, kv, vv, e, A⟩ := A
  have hp := A.tp'
  have hE := A.te'
  obtain ⟨ka, kc, rfl, _⟩ := ownsRow_slice A.ok
  obtain ⟨va, vc, rfl, _⟩ := ownsRow_slice A.ov
  obtain ⟨cs, o, hc⟩ := A.g.col
  have hb := A.g.box
  have hL2 : ((prs es).take k).length ≤ 100000 := by rw [List.length_take]; unfold prs; rw [List.length_map]; omega
  have HA := hid A
  have HC := hid hc
  have HO := hid o
  have HRL : Hid (∀ v' w2, w2.ownsRow w.heap.size 50 2 v' (((prs es).take k).length + 1) (cs ++ [.slice ka e.key.length kc, .slice va e.val.length vc]) → (W.alloc (.cells #[.slice ka e.key.length kc, .slice va e.val.length vc] 50)).grownBy w2 v.ownBlock → KeepsFrom w.heap.size W (w2.setCell ⟨p, 0, none⟩ v') ∧ Gt w (w2.setCell ⟨p, 0, none⟩ v') p v' ((prs es).take (k + 1))) := fun v' w2 o2 hg2 =>
    round_left HA.out (hby e (List.mem_of_getElem? HA.out.at')) HO.out HC.out o2 hg2
  obtain ⟨L, hL⟩ : ∃ L, ((prs es).take k).length = L := ⟨_, rfl⟩
  rw [hL] at HO HRL hL2
  obtain ⟨ba, bc, rfl, _⟩ := ownsRow_slice HO.out
  have hbx := blk_cell hb 0
  have he0 := blk_cell A.eb 0
  have he1 := blk_cell A.eb 1
  simp at hbx he0 he1
  have HB := hid hb
  clear A hc o hb hL
  refine wpIn_block (wpIn_reg (fun ⟨_, _, h⟩ => h) rfl ?_)
  refine wpList_val (v := .slice ba L bc) (w' := W) rfl (by simp only [execOp, hp]; go_simp) ?_
  dsimp only
  have hs1 : (a.put (some 140) (.slice ba L bc)).tmps.size = 168 := ev_size.trans hs
  have x0 : (a.put (some 140) (.slice ba L bc)).eval (.tmp 140) = .slice ba L bc := ev_same (by rw [hs]; decide)
  have x1 : (a.put (some 140) (.slice ba L bc)).eval (.tmp 14) = .pointer (some ⟨Eb, 0, none⟩) := (ev_ne (by decide)).trans hE
  have x2 : (a.put (some 140) (.slice ba L bc)).eval (.tmp 12) = .pointer (some ⟨p, 0, none⟩) := (ev_ne (by decide)).trans hp
  generalize a.put (some 140) (.slice ba L bc) = a1 at *
  refine wpList_val (v := .agg #[.slice ka e.key.length kc, .slice va e.val.length vc]) (w' := W) rfl (by simp only [execOp, x1]; go_simp) ?_
  dsimp only
  have hs2 : (a1.put (some 141) (.agg #[.slice ka e.key.length kc, .slice va e.val.length vc])).tmps.size = 168 := ev_size.trans hs1
  have y0 : (a1.put (some 141) (.agg #[.slice ka e.key.length kc, .slice va e.val.length vc])).eval (.tmp 140) = .slice ba L bc := (ev_ne (by decide)).trans x0
  have y1 : (a1.put (some 141) (.agg #[.slice ka e.key.length kc, .slice va e.val.length vc])).eval (.tmp 141) = .agg #[.slice ka e.key.length kc, .slice va e.val.length vc] := ev_same (by rw [hs1]; decide)
  have y2 : (a1.put (some 141) (.agg #[.slice ka e.key.length kc, .slice va e.val.length vc])).eval (.tmp 12) = .pointer (some ⟨p, 0, none⟩) := (ev_ne (by decide)).trans x2
  generalize a1.put (some 141) (.agg #[.slice ka e.key.length kc, .slice va e.val.length vc]) = a2 at *
  refine wpList_val (v := .slice (some ⟨W.heap.size, 0, none⟩) 1 1) (w' := W.alloc (.cells #[.slice ka e.key.length kc, .slice va e.val.length vc] 50)) rfl (by simp [execOp, y1]; go_simp) ?_
  dsimp only
  have hs3 : (a2.put (some 142) (.slice (some ⟨W.heap.size, 0, none⟩) 1 1)).tmps.size = 168 := ev_size.trans hs2
  have z0 : (a2.put (some 142) (.slice (some ⟨W.heap.size, 0, none⟩) 1 1)).eval (.tmp 140) = .slice ba L bc := (ev_ne (by decide)).trans y0
  have z1 : (a2.put (some 142) (.slice (some ⟨W.heap.size, 0, none⟩) 1 1)).eval (.tmp 142) = .slice (some ⟨W.heap.size, 0, none⟩) 1 1 := ev_same (by rw [hs2]; decide)
  have z2 : (a2.put (some 142) (.slice (some ⟨W.heap.size, 0, none⟩) 1 1)).eval (.tmp 12) = .pointer (some ⟨p, 0, none⟩) := (ev_ne (by decide)).trans y2
  generalize a2.put (some 142) (.slice (some ⟨W.heap.size, 0, none⟩) 1 1) = a3 at *
  refine wpList_append_kv rfl _ _ rfl w.heap.size (Nat.le_trans HA.out.g.fr.size (by simp)) (.slice ba L bc) L cs z0 (ownsRow_of_block HO.out fun q hq => blk_old _ _ (HO.out.lt q hq).2) W.heap.size z1 (blk_new _ _) (by omega) ?_
  intro v' w2 o2 hg2 _
  have hfin := HRL.out v' w2 o2 hg2
  have hbx2 : w2.heap[p]? = some (.cells #[.slice ba L bc] 59 (0, 0)) := by
    rw [hg2.block p (Nat.lt_of_lt_of_le (blk_lt HB.out) (by simp)) (fun e => by have := (HO.out.lt p e.symm).1; have := HA.out.g.lt; omega), blk_old _ _ (blk_lt HB.out)]
    exact HB.out
  obtain ⟨ba', bc', rfl, _⟩ := ownsRow_slice o2
  have hb2 := blk_cell hbx2 0
  have hf2 := blk_frozen hbx2 0
  simp at hb2
  dsimp only
  have u1 : (a3.put (some 143) (.slice ba' (L + 1) bc')).eval (.tmp 143) = .slice ba' (L + 1) bc' := ev_same (by rw [hs3]; decide)
  have u2 : (a3.put (some 143) (.slice ba' (L + 1) bc')).eval (.tmp 12) = .pointer (some ⟨p, 0, none⟩) := (ev_ne (by decide)).trans z2
  generalize a3.put (some 143) (.slice ba' (L + 1) bc') = a4 at *
  refine wpList_skip (w' := w2.setCell ⟨p, 0, none⟩ (.slice ba' (L + 1) bc')) rfl rfl (by simp only [execOp, u1, u2]; go_simp) ?_
  exact ⟨hfin.1, _, hfin.2⟩

set_option maxRecDepth 20000 in
theorem assign_b {w W0 W1 : World} {p l k : Nat} {es : List E} {v : Value} {t : Array Value} (hs : t.size = 168) (hp : ∀ d, Act.eval ⟨t, d⟩ (.tmp 13) = .pointer (some ⟨p, 0, none⟩)) (g : ∃ v, Gt w W0 p v ((prs es).take k)) (f : Fr [] W0 W1) (en : EnK es k W0 W1 v) :
    (Code.region 27 #[{ dst := some 15, op := Op.alloc 50, type := 0, pos := "exact.go:138", after := #[], guard := none }, { dst := none, op := Op.store 50 (Operand.tmp 15) (Operand.tmp 146), type := 0, pos := "exact.go:138", after := #[{ on := 0, ground := Ground.data }, { on := 0, ground := Ground.phase }], guard := none }] false).wpIn (Fence.wide.inRound l) 3 Try.prog
      (Exit.then (fun a' W' => KeepsFrom w.heap.size W1 W' ∧ AxP w p es 13 15 k a' W') (fun _ _ _ => False)) { tmps := ((#[146] : Array Tmp).zip #[v]).foldl (fun t (p, v) => t.setIfInBounds p v) t, defers := [] } W1 := by
  obtain ⟨e, kv, vv, he, rfl, kt⟩ := en
  obtain ⟨v, g⟩ := g
  obtain ⟨ka, kc, rfl, _⟩ := ownsRow_slice kt.ok
  obtain ⟨va, vc, rfl, _⟩ := ownsRow_slice kt.ov
  obtain ⟨a0, ha0⟩ : ∃ a0 : Act, a0 = { tmps := ((#[146] : Array Tmp).zip #[Value.agg #[.slice ka e.key.length kc, .slice va e.val.length vc]]).foldl (fun t (p, v) => t.setIfInBounds p v) t, defers := [] } := ⟨_, rfl⟩
  have hs0 : a0.tmps.size = 168 := by rw [ha0]; simp [hs]
  have e0 : a0.eval (.tmp 146) = .agg #[.slice ka e.key.length kc, .slice va e.val.length vc] := by
    rw [ha0]; simp [Act.eval, Array.getD_eq_getD_getElem?, hs]
  have e1 : a0.eval (.tmp 13) = .pointer (some ⟨p, 0, none⟩) := by
    rw [ha0, ← hp []]; simp [Act.eval, Array.getD_eq_getD_getElem?]
  rw [← ha0]
  clear ha0
  refine wpIn_reg (fun ⟨_, _, h⟩ => h) rfl ?_
  refine wpList_val (v := .pointer (some ⟨W1.heap.size, 0, none⟩)) (w' := W1.alloc (.cells #[.slice none 0 0, .slice none 0 0] 50)) rfl (by go_simp) ?_
  have e2 : (a0.put (some 15) (.pointer (some ⟨W1.heap.size, 0, none⟩))).eval (.tmp 15) = .pointer (some ⟨W1.heap.size, 0, none⟩) := ev_same (by rw [hs0]; decide)
  have e3 : (a0.put (some 15) (.pointer (some ⟨W1.heap.size, 0, none⟩))).eval (.tmp 146) = .agg #[.slice ka e.key.length kc, .slice va e.val.length vc] := (ev_ne (by decide)).trans e0
  have e4 : (a0.put (some 15) (.pointer (some ⟨W1.heap.size, 0, none⟩))).eval (.tmp 13) = .pointer (some ⟨p, 0, none⟩) := (ev_ne (by decide)).trans e1
  have hs1 : (a0.put (some 15) (.pointer (some ⟨W1.heap.size, 0, none⟩))).tmps.size = 168 := ev_size.trans hs0
  dsimp only
  generalize a0.put (some 15) (.pointer (some ⟨W1.heap.size, 0, none⟩)) = a1 at *
  refine wpList_skip (w' := W1.alloc (.cells #[.slice ka e.key.length kc, .slice va e.val.length vc] 50)) rfl rfl (by simp only [execOp, e2, e3]; go_simp) ?_
  refine ⟨⟨by simp, fun q o _ hq _ => by rw [blk_old _ _ (blk_lt hq)]; exact hq⟩, hs1, v, W1.heap.size, .slice ka e.key.length kc, .slice va e.val.length vc, e, ?_⟩
  have f1 : Fr [] W1 (W1.alloc (.cells #[.slice ka e.key.length kc, .slice va e.val.length vc] 50)) := (Fr.refl _ _).alloc _
  refine ⟨(g.fr' f).fr' f1, he, blk_new _ _, ownsRow_of_block (ownsRow_base kt.ok (Nat.zero_le _)) fun q hq => f1.block q (kt.ok.lt q hq).2 (by simp), ownsRow_of_block (ownsRow_base kt.ov (Nat.zero_le _)) fun q hq => f1.block q (kt.ov.lt q hq).2 (by simp), ?_, ?_⟩
  · exact e4
  · exact e2

set_option maxRecDepth 20000 in
theorem body_b {w W : World} {p l k : Nat} {es : List E} {a : Act} {Jx : Code → World → Prop} (hn : es.length ≤ 100000) (hby : ∀ e ∈ es, By e.key ∧ By e.val) (A : AxP w p es 13 15 k a W) :
    (Code.block 7 (Code.region 28 #[{ dst := some 147, op := Op.load 59 (Operand.tmp 13), type := 59, pos := "exact.go:139", after := #[], guard := none }, { dst := some 148, op := Op.load 50 (Operand.tmp 15), type := 50, pos := "exact.go:139", after := #[], guard := none },
      { dst := some 149, op := Op.buildSlice 59 1 #[(0, Operand.tmp 148)], type := 59, pos := "exact.go:139", after := #[{ on := 1, ground := Ground.data }], guard := none },
      { dst := some 150, op := Op.call { callee := Callee.builtin Builtin.append, args := #[Operand.tmp 147, Operand.tmp 149], argTypes := #[59, 59] }, type := 59, pos := "exact.go:139", after := #[{ on := 0, ground := Ground.data }, { on := 2, ground := Ground.data }], guard := none },
      { dst := none, op := Op.store 59 (Operand.tmp 13) (Operand.tmp 150), type := 0, pos := "exact.go:139", after := #[{ on := 3, ground := Ground.data }, { on := 3, ground := Ground.chain }, { on := 0, ground := Ground.phase }, { on := 1, ground := Ground.phase }, { on := 2, ground := Ground.phase }, { on := 3, ground := Ground.phase }], guard := none }] false)).wpIn (Fence.wide.inRound l) 3 Try.prog
      (rPost w.heap.size (fun W => ∃ v, Gt w W p v ((prs es).take (k + 1))) Jx W) a W := by
  obtain ⟨hs, v, Eb, kv, vv, e, A⟩ := A
  have hp := A.tp'
  have hE := A.te'
  obtain ⟨ka, kc, rfl, _⟩ := ownsRow_slice A.ok
  obtain ⟨va, vc, rfl, _⟩ := ownsRow_slice A.ov
  obtain ⟨cs, o, hc⟩ := A.g.col
  have hb := A.g.box
  have hL2 : ((prs es).take k).length ≤ 100000 := by rw [List.length_take]; unfold prs; rw [List.length_map]; omega
  have HA := hid A
  have HC := hid hc
  have HO := hid o
  have HRL : Hid (∀ v' w2, w2.ownsRow w.heap.size 50 2 v' (((prs es).take k).length + 1) (cs ++ [.slice ka e.key.length kc, .slice va e.val.length vc]) → (W.alloc (.cells #[.slice ka e.key.length kc, .slice va e.val.length vc] 50)).grownBy w2 v.ownBlock → KeepsFrom w.heap.size W (w2.setCell ⟨p, 0, none⟩ v') ∧ Gt w (w2.setCell ⟨p, 0, none⟩ v') p v' ((prs es).take (k + 1))) := fun v' w2 o2 hg2 =>
    round_left HA.out (hby e (List.mem_of_getElem? HA.out.at')) HO.out HC.out o2 hg2
  obtain ⟨L, hL⟩ : ∃ L, ((prs es).take k).length = L := ⟨_, rfl⟩
  rw [hL] at HO HRL hL2
  obtain ⟨ba, bc, rfl, _⟩ := ownsRow_slice HO.out
  have hbx := blk_cell hb 0
  have he0 := blk_cell A.eb 0
  have he1 := blk_cell A.eb 1
  simp at hbx he0 he1
  have HB := hid hb
  clear A hc o hb hL
  refine wpIn_block (wpIn_reg (fun ⟨_, _, h⟩ => h) rfl ?_)
  refine wpList_val (v := .slice ba L bc) (w' := W) rfl (by simp only [execOp, hp]; go_simp) ?_
  dsimp only
  have hs1 : (a.put (some 147) (.slice ba L bc)).tmps.size = 168 := ev_size.trans hs
  have x0 : (a.put (some 147) (.slice ba L bc)).eval (.tmp 147) = .slice ba L bc := ev_same (by rw [hs]; decide)
  have x1 : (a.put (some 147) (.slice ba L bc)).eval (.tmp 15) = .pointer (some ⟨Eb, 0, none⟩) := (ev_ne (by decide)).trans hE
  have x2 : (a.put (some 147) (.slice ba L bc)).eval (.tmp 13) = .pointer (some ⟨p, 0, none⟩) := (ev_ne (by decide)).trans hp
  generalize a.put (some 147) (.slice ba L bc) = a1 at *
  refine wpList_val (v := .agg #[.slice ka e.key.length kc, .slice va e.val.length vc]) (w' := W) rfl (by simp only [execOp, x1]; go_simp) ?_
  dsimp only
  have hs2 : (a1.put (some 148) (.agg #[.slice ka e.key.length kc, .slice va e.val.length vc])).tmps.size = 168 := ev_size.trans hs1
  have y0 : (a1.put (some 148) (.agg #[.slice ka e.key.length kc, .slice va e.val.length vc])).eval (.tmp 147) = .slice ba L bc := (ev_ne (by decide)).trans x0
  have y1 : (a1.put (some 148) (.agg #[.slice ka e.key.length kc, .slice va e.val.length vc])).eval (.tmp 148) = .agg #[.slice ka e.key.length kc, .slice va e.val.length vc] := ev_same (by rw [hs1]; decide)
  have y2 : (a1.put (some 148) (.agg #[.slice ka e.key.length kc, .slice va e.val.length vc])).eval (.tmp 13) = .pointer (some ⟨p, 0, none⟩) := (ev_ne (by decide)).trans x2
  generalize a1.put (some 148) (.agg #[.slice ka e.key.length kc, .slice va e.val.length vc]) = a2 at *
  refine wpList_val (v := .slice (some ⟨W.heap.size, 0, none⟩) 1 1) (w' := W.alloc (.cells #[.slice ka e.key.length kc, .slice va e.val.length vc] 50)) rfl (by simp [execOp, y1]; go_simp) ?_
  dsimp only
  have hs3 : (a2.put (some 149) (.slice (some ⟨W.heap.size, 0, none⟩) 1 1)).tmps.size = 168 := ev_size.trans hs2
  have z0 : (a2.put (some 149) (.slice (some ⟨W.heap.size, 0, none⟩) 1 1)).eval (.tmp 147) = .slice ba L bc := (ev_ne (by decide)).trans y0
  have z1 : (a2.put (some 149) (.slice (some ⟨W.heap.size, 0, none⟩) 1 1)).eval (.tmp 149) = .slice (some ⟨W.heap.size, 0, none⟩) 1 1 := ev_same (by rw [hs2]; decide)
  have z2 : (a2.put (some 149) (.slice (some ⟨W.heap.size, 0, none⟩) 1 1)).eval (.tmp 13) = .pointer (some ⟨p, 0, none⟩) := (ev_ne (by decide)).trans y2
  generalize a2.put (some 149) (.slice (some ⟨W.heap.size, 0, none⟩) 1 1) = a3 at *
  refine wpList_append_kv rfl _ _ rfl w.heap.size (Nat.le_trans HA.out.g.fr.size (by simp)) (.slice ba L bc) L cs z0 (ownsRow_of_block HO.out fun q hq => blk_old _ _ (HO.out.lt q hq).2) W.heap.size z1 (blk_new _ _) (by omega) ?_
  intro v' w2 o2 hg2 _
  have hfin := HRL.out v' w2 o2 hg2
  have hbx2 : w2.heap[p]? = some (.cells #[.slice ba L bc] 59 (0, 0)) := by
    rw [hg2.block p (Nat.lt_of_lt_of_le (blk_lt HB.out) (by simp)) (fun e => by have := (HO.out.lt p e.symm).1; have := HA.out.g.lt; omega), blk_old _ _ (blk_lt HB.out)]
    exact HB.out
  obtain ⟨ba', bc', rfl, _⟩ := ownsRow_slice o2
  have hb2 := blk_cell hbx2 0
  have hf2 := blk_frozen hbx2 0
  simp at hb2
  dsimp only
  have u1 : (a3.put (some 150) (.slice ba' (L + 1) bc')).eval (.tmp 150) = .slice ba' (L + 1) bc' := ev_same (by rw [hs3]; decide)
  have u2 : (a3.put (some 150) (.slice ba' (L + 1) bc')).eval (.tmp 13) = .pointer (some ⟨p, 0, none⟩) := (ev_ne (by decide)).trans z2
  generalize a3.put (some 150) (.slice ba' (L + 1) bc') = a4 at *
  refine wpList_skip (w' := w2.setCell ⟨p, 0, none⟩ (.slice ba' (L + 1) bc')) rfl rfl (by simp only [execOp, u1, u2]; go_simp) ?_
  exact ⟨hfin.1, _, hfin.2⟩
end Go.Proofs.Ytldcjkddalmkcaa
