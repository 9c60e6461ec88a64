/-
  Rows of pairs of bytes of the call's own: entries, what is read of them, and rows that are put together of parts.
-/
import Derived.Test.YtmpfnglcmaollaaDoorJ04
import Derived.Test.YtmpfnglcmaollaaDoorJ07
import Derived.Test.YtmpfnglcmaollaaDoorJ32
import Derived.Test.YtmpfnglcmaollaaDoorJ01
import Derived.Deep.Light
import Derived.Test.YtmpfnglcmaollaaDoorJ34
namespace Go.Proofs.YtmpfnglcmaollaaDoor
open Go.ChangeShapes Go.WideShapes Go.ChangeAt Go.RowKit

/-- Does a block hold a byte? -/
def U8 (w : World) (k : Nat) : Prop := ∃ p n, p.block = k ∧ w.cell? p = some (.int .u8 n)
theorem U8.lt {w : World} {k : Nat} (h : U8 w k) : k < w.heap.size := by
  obtain ⟨p, n, rfl, h⟩ := h
  exact World.block_lt_of_cell? w _ h
theorem Rd.keep {w w' : World} {v : Value} {ns : List Nat} (h : Rd w v (bv ns)) (hk : ∀ k, U8 w k → w'.heap[k]? = w.heap[k]?) : Rd w' v (bv ns) := by
  rcases h with h | ⟨a, c, rfl, h4, h5⟩
  · exact .inl h
  · refine .inr ⟨a, c, rfl, h4, fun j u hj => ?_⟩
    have h6 := h5 j u hj
    have hu : ∃ n : Int, u = .int .u8 n := by
      obtain ⟨n, _, rfl⟩ := List.mem_map.1 (List.mem_of_getElem? hj)
      exact ⟨_, rfl⟩
    obtain ⟨n, rfl⟩ := hu
    rw [World.cell?_of_block (w := w) (hk _ ⟨_, _, rfl, h6⟩)]; exact h6
theorem infoP : (Tryd.prog.info? 61).map (fun i => (i.zero, i.size, i.bytes)) = some (some (.agg #[.slice none 0 0, .slice none 0 0]), 2, 48) := by kernel_rfl
theorem own_keepF {W W' : World} {B s n : Nat} {e : TypeId} {v : Value} {xs : List Value} {S : List Nat} (o : W.ownsRow B e s v n xs) (f : Fr S W W') (hS : ∀ k, v.ownBlock = some k → k ∉ S) : W'.ownsRow B e s v n xs :=
  ownsRow_of_block o fun k hk => f.block k (o.lt k hk).2 (hS k hk)
/-- An entry: the slice of its key, that of its value, and both. -/
structure En where
  kv : Value
  vv : Value
  k : List Nat
  v : List Nat
def En.c2 (e : En) : List Value := [e.kv, e.vv]
def En.p (e : En) : List Nat × List Nat := (e.k, e.v)
structure EnO (W : World) (B : Nat) (e : En) : Prop where
  ok : W.ownsRow B 5 1 e.kv e.k.length (bv e.k)
  ov : W.ownsRow B 5 1 e.vv e.v.length (bv e.v)
  bk : By e.k
  bv' : By e.v
  lk : e.k.length ≤ 64
  lv : e.v.length ≤ 1024
theorem EnO.keep {W W' : World} {B : Nat} {e : En} {S : List Nat} (h : EnO W B e) (f : Fr S W W') (hS : ∀ k ∈ S, k < B) : EnO W' B e :=
  ⟨own_keepF h.ok f (fun k hk hm => by have := (h.ok.lt k hk).1; have := hS k hm; omega), own_keepF h.ov f (fun k hk hm => by have := (h.ov.lt k hk).1; have := hS k hm; omega), h.bk, h.bv', h.lk, h.lv⟩
/-- A row of entries of the call's own. -/
def EsO (W : World) (B : Nat) (v : Value) (es : List En) : Prop := W.ownsRow B 61 2 v es.length (es.flatMap En.c2) ∧ ∀ e ∈ es, EnO W B e
theorem EsO.nil (W : World) (B : Nat) : EsO W B (.slice none 0 0) [] := ⟨World.ownsRow_nil _ _ _ _, fun e h => by cases h⟩
theorem EsO.keep {W W' : World} {B : Nat} {v : Value} {es : List En} {S : List Nat} (h : EsO W B v es) (f : Fr S W W') (hS : ∀ k ∈ S, k < B) : EsO W' B v es :=
  ⟨own_keepF h.1 f (fun k hk hm => by have := (h.1.lt k hk).1; have := hS k hm; omega), fun e he => (h.2 e he).keep f hS⟩
theorem EsO.fr {W W' : World} {B : Nat} {v : Value} {es : List En} (h : EsO W B v es) (f : Fr [] W W') : EsO W' B v es := h.keep f (fun k hk => by cases hk)
theorem c2_len : ∀ (es : List En), (es.flatMap En.c2).length = es.length * 2
  | [] => rfl
  | e :: es => by rw [List.flatMap_cons, List.length_append, c2_len es, List.length_cons]; show 2 + _ = _; omega
theorem c2_at : ∀ {es : List En} {i : Nat} {e : En}, es[i]? = some e → (es.flatMap En.c2)[i * 2]? = some e.kv ∧ (es.flatMap En.c2)[i * 2 + 1]? = some e.vv
  | [], i, e, h => by simp at h
  | x :: es, 0, e, h => by simp at h; subst h; exact ⟨rfl, rfl⟩
  | x :: es, i + 1, e, h => by
    have ih := c2_at (es := es) (i := i) (by simpa using h)
    rw [show (i + 1) * 2 = i * 2 + 1 + 1 by omega]
    exact ih
theorem c2_take : ∀ (es : List En) (i : Nat), (es.flatMap En.c2).take (i * 2) = (es.take i).flatMap En.c2
  | [], i => by simp
  | e :: es, 0 => rfl
  | e :: es, i + 1 => by
    rw [show (i + 1) * 2 = i * 2 + 1 + 1 by omega]
    show e.kv :: e.vv :: (es.flatMap En.c2).take (i * 2) = e.kv :: e.vv :: (es.take i).flatMap En.c2
    rw [c2_take es i]
theorem c2_drop : ∀ (es : List En) (i : Nat), (es.flatMap En.c2).drop (i * 2) = (es.drop i).flatMap En.c2
  | [], i => by simp
  | e :: es, 0 => rfl
  | e :: es, i + 1 => by
    rw [show (i + 1) * 2 = i * 2 + 1 + 1 by omega]
    show (es.flatMap En.c2).drop (i * 2) = (es.drop i).flatMap En.c2
    rw [c2_drop es i]
theorem c2_one {es : List En} : ∀ u ∈ es.flatMap En.c2, ∀ {W : World} {B : Nat}, (∀ e ∈ es, EnO W B e) → u.oneCell' = true := by
  intro u hu W B h
  obtain ⟨e, he, hm⟩ := List.mem_flatMap.1 hu
  obtain ⟨a, c, e1, _⟩ := ownsRow_slice (h e he).ok
  obtain ⟨a', c', e2, _⟩ := ownsRow_slice (h e he).ov
  unfold En.c2 at hm
  rw [e1, e2] at hm
  simp at hm
  rcases hm with rfl | rfl <;> rfl
/-- One entry of a row: where it stands. -/
theorem EsO.at' {W : World} {B : Nat} {v : Value} {es : List En} (h : EsO W B v es) {i : Nat} {e : En} (hi : es[i]? = some e) : ∃ g c, v = .slice (some ⟨g, 0, none⟩) es.length c ∧ W.cell? ⟨g, i * 2, none⟩ = some e.kv ∧ W.cell? ⟨g, i * 2 + 1, none⟩ = some e.vv ∧ EnO W B e := by
  obtain ⟨c0, c1⟩ := c2_at hi
  have hil := (List.getElem?_eq_some_iff.1 hi).1
  rcases h.1.2 with ⟨rfl, h0⟩ | ⟨g, cap, cur, e0, _⟩
  · omega
  · subst e0
    have d0 := h.1.cells rfl _ _ c0
    have d1 := h.1.cells rfl _ _ c1
    rw [Addr.add_lit, Nat.zero_add] at d0 d1
    exact ⟨g, cap, rfl, d0, d1, h.2 e (List.mem_of_getElem? hi)⟩
theorem wpList_appKV {w : World} {ops : Array Oper} {rest : List Oper} {o : Oper} {a : Act} {Q : Exit → Act → World → Prop} (hgd : o.guard = none) (s x : Operand)
    (ho : o.op = .call { callee := .builtin .append, args := #[s, x], argTypes := #[30, 30] }) (base : Nat) (hbase : base ≤ w.heap.size) (v : Value) (n : Nat) (xs : List Value) (hs : a.eval s = v) (hown : w.ownsRow base 61 2 v n xs) (G : Nat) (hx : a.eval x = .slice (some ⟨G, 0, none⟩) 1 1) {u0 u1 : Value} {T : TypeId} (hG : w.heap[G]? = some (.cells #[u0, u1] T (0, 0)))
    (hu : ∀ u ∈ [u0, u1], u.oneCell' = true) (hl : n ≤ 1000000000)
    (h : ∀ v' w', w'.ownsRow base 61 2 v' (n + 1) (xs ++ [u0, u1]) → w.grownBy w' v.ownBlock → wpList Tryd.prog ops Q rest (a.put o.dst v') w') :
    wpList Tryd.prog ops Q (o :: rest) a w := by
  obtain ⟨i0, hi, hz0, hz1, hz2⟩ := info_parts infoP
  exact wpList_append_own_at w hgd s x 30 ho base 61 i0 _ 2 48 Tryd.underlying30 hi hz0 hz1 hz2 rfl (by decide) v n xs hs hown ⟨G, 0, none⟩ 1 1 [u0, u1] hx rfl (fun j u hj => by rw [Addr.add_lit, Nat.zero_add, blk_cell hG, ← Array.getElem?_toList]; exact hj) hu (by unfold maxLen; omega) (by omega) hbase fun v' w' h1 h2 _ _ => h v' w' h1 h2
theorem EnO.lower {W : World} {B B' : Nat} {e : En} (h : EnO W B' e) (hb : B ≤ B') : EnO W B e := ⟨ownsRow_base h.ok hb, ownsRow_base h.ov hb, h.bk, h.bv', h.lk, h.lv⟩
theorem EnO.fr {W W' : World} {B : Nat} {e : En} (h : EnO W B e) (f : Fr [] W W') : EnO W' B e := h.keep f (fun k hk => by cases hk)
/-- The first entries of a row, at their places; those behind them. -/
theorem EsO.front {W : World} {B g n c : Nat} {es : List En} (h : EsO W B (.slice (some ⟨g, 0, none⟩) n c) es) (i : Nat) : ∀ j u, ((es.take i).flatMap En.c2)[j]? = some u → W.cell? ⟨g, 0 + j, none⟩ = some u := fun j u hj => by
  rw [← c2_take] at hj
  have hlt := (List.getElem?_eq_some_iff.1 hj).1
  rw [List.length_take] at hlt
  rw [List.getElem?_take_of_lt (by omega)] at hj
  have h1 := h.1
  rcases h1.2 with ⟨e, _⟩ | ⟨g', cap, cur, e, _⟩
  · simp at e
  · simp only [Value.slice.injEq, Option.some.injEq, Addr.mk.injEq, and_true] at e
    obtain ⟨rfl, rfl, rfl⟩ := e
    have := h1.cells rfl j u hj
    rw [Addr.add_lit] at this
    exact this
theorem EsO.behind {W : World} {B g n c : Nat} {es : List En} (h : EsO W B (.slice (some ⟨g, 0, none⟩) n c) es) (i : Nat) : ∀ j u, ((es.drop i).flatMap En.c2)[j]? = some u → W.cell? ⟨g, i * 2 + j, none⟩ = some u := fun j u hj => by
  rw [← c2_drop, List.getElem?_drop] at hj
  have h1 := h.1
  rcases h1.2 with ⟨e, _⟩ | ⟨g', cap, cur, e, _⟩
  · simp at e
  · simp only [Value.slice.injEq, Option.some.injEq, Addr.mk.injEq, and_true] at e
    obtain ⟨rfl, rfl, rfl⟩ := e
    have := h1.cells rfl _ u hj
    rw [Addr.add_lit, Nat.zero_add] at this
    exact this
/-- A row of entries grows: bytes that stand in rows of their own don't change. -/
theorem own_grownE {W W' : World} {B B' n n7 : Nat} {u v7 : Value} {xs ys : List Value} (hu : W.ownsRow B 5 1 u n xs) (h7 : W.ownsRow B' 61 2 v7 n7 ys) (g : W.grownBy W' v7.ownBlock) : W'.ownsRow B 5 1 u n xs := by
  refine ownsRow_of_block hu fun k hk => ?_
  rcases hu.2 with ⟨rfl, _⟩ | ⟨g', cap, cur, rfl, _, h3, _⟩
  · simp [Value.ownBlock] at hk
  · simp only [Value.ownBlock, Option.some.injEq] at hk
    subst hk
    refine g.block _ (hu.lt _ rfl).2 (fun e' => ?_)
    rcases h7.2 with ⟨rfl, _⟩ | ⟨g2, cap2, cur2, rfl, _, h4, _⟩
    · simp [Value.ownBlock] at e'
    · simp only [Value.ownBlock, Option.some.injEq] at e'
      subst e'
      rw [h3] at h4
      simp at h4
theorem EnO.grownE {W W' : World} {B B' n7 : Nat} {e : En} {v7 : Value} {ys : List Value} (h : EnO W B e) (h7 : W.ownsRow B' 61 2 v7 n7 ys) (g : W.grownBy W' v7.ownBlock) : EnO W' B e :=
  ⟨own_grownE h.ok h7 g, own_grownE h.ov h7 g, h.bk, h.bv', h.lk, h.lv⟩
/-- Entries stay as they are. -/
def EnK (W W' : World) : Prop := ∀ (B : Nat) (e : En), EnO W B e → EnO W' B e
/-- append(own, l...): entries of a place behind those of the call's own. -/
theorem wpList_appEs {w : World} {ops : Array Oper} {rest : List Oper} {o : Oper} {a : Act} {Q : Exit → Act → World → Prop} (hgd : o.guard = none) (s x : Operand)
    (ho : o.op = .call { callee := .builtin .append, args := #[s, x], argTypes := #[30, 30] }) {base : Nat} (hbase : base ≤ w.heap.size) {v : Value} {es fs : List En} {mb moff mc m n : Nat} (h1 : w.ownsRow base 61 2 v n (es.flatMap En.c2)) (hn : es.length = n) (hs : a.eval s = v) (hm : fs.length = m) (hx : a.eval x = .slice (some ⟨mb, moff, none⟩) m mc)
    (hc : ∀ j u, (fs.flatMap En.c2)[j]? = some u → w.cell? ⟨mb, moff + j, none⟩ = some u) {w0 : World} {B : Nat} (hf : ∀ e ∈ fs, EnO w0 B e) (hl1 : n ≤ 1000000) (hl2 : m ≤ 1000000) {wz : World} (hz : Fr [] wz w) (hzb : wz.heap.size ≤ base)
    (h : ∀ v' w', w'.ownsRow base 61 2 v' (n + m) ((es ++ fs).flatMap En.c2) → Fr [] wz w' → EnK w w' → wpList Tryd.prog ops Q rest (a.put o.dst v') w') :
    wpList Tryd.prog ops Q (o :: rest) a w := by
  obtain ⟨i0, hi, hz0, hz1, hz2⟩ := info_parts infoP
  subst hm hn
  refine wpList_append_own_at w hgd s x 30 ho base 61 i0 _ 2 48 Tryd.underlying30 hi hz0 hz1 hz2 rfl (by decide) v es.length (es.flatMap En.c2) hs h1 ⟨mb, moff, none⟩ fs.length mc (fs.flatMap En.c2) hx (by rw [c2_len]) (fun j u hj => ?_) (fun u hu => c2_one u hu hf) (by unfold maxLen; omega) (by omega) hbase fun v' w' o' g' _ _ => h v' w' (by rw [List.flatMap_append]; exact o') (hz.grown g' (fun k hk => .inr (Nat.le_trans hzb (h1.lt k hk).1))) (fun _ _ he => he.grownE h1 g')
  rw [Addr.add_lit]
  exact hc j u hj
/-- append(own, x). -/
theorem wpList_appE1 {w : World} {ops : Array Oper} {rest : List Oper} {o : Oper} {a : Act} {Q : Exit → Act → World → Prop} (hgd : o.guard = none) (s x : Operand)
    (ho : o.op = .call { callee := .builtin .append, args := #[s, x], argTypes := #[30, 30] }) {base : Nat} (hbase : base ≤ w.heap.size) {v : Value} {es : List En} {n : Nat} (h1 : w.ownsRow base 61 2 v n (es.flatMap En.c2)) (hn : es.length = n) (hs : a.eval s = v) {G : Nat} (hx : a.eval x = .slice (some ⟨G, 0, none⟩) 1 1) {T : TypeId} (e : En) (hG : w.heap[G]? = some (.cells #[e.kv, e.vv] T (0, 0))) {w0 : World} {B : Nat} (he : EnO w0 B e) (hl1 : n ≤ 1000000) {wz : World} (hz : Fr [] wz w) (hzb : wz.heap.size ≤ base)
    (h : ∀ v' w', w'.ownsRow base 61 2 v' (n + 1) ((es ++ [e]).flatMap En.c2) → Fr [] wz w' → EnK w w' → wpList Tryd.prog ops Q rest (a.put o.dst v') w') :
    wpList Tryd.prog ops Q (o :: rest) a w :=
  wpList_appKV hgd s x ho base hbase v n _ hs h1 G hx hG (fun u hu => c2_one (es := [e]) u (by simpa [En.c2] using hu) (fun e' he' => by rw [List.mem_singleton.1 he']; exact he)) (by omega) fun v' w' o' g' => h v' w' (by rw [List.flatMap_append]; exact o') (hz.grown g' (fun k hk => .inr (Nat.le_trans hzb (h1.lt k hk).1))) (fun _ _ he => he.grownE h1 g')
end Go.Proofs.YtmpfnglcmaollaaDoor
namespace Go.Proofs.YtmpfnglcmaollaaDoor
open Go.ChangeShapes Go.WideShapes Go.ChangeAt Go.RowKit

theorem leaf_len {p x : List Nat} (h : okN 128 (.leaf p x)) : (encN (.leaf p x)).length ≤ 4000 := by
  have h1 := packF_le h.2.1 true
  have h2 := (strL_len x).2.1
  have h3 := h.2.2.2.2
  have h4 := (lstF_len (strL (packF p true) ++ strL x)).2
  rw [List.length_append] at h4
  show (lstF _).length ≤ 4000
  omega
/-- A node's cells: its hash, and the slice of its bytes. -/
def n33 (f : Nat → Nat) (v : Value) : Array Value := (bvals 32 f).push v
theorem bldNode (f : Nat → Nat) (a : Option Addr) (n c : Nat) (w : World) : (Instr.build 41 #[(0, .agg (bvals 32 f)), (1, .slice a n c)]).run Tryd.prog w = .ok (.agg (n33 f (.slice a n c))) w := by kernel_rfl
theorem bldNodes (f : Nat → Nat) (a : Option Addr) (n c : Nat) (w : World) : (Instr.buildSlice 36 1 #[(0, .agg (n33 f (.slice a n c)))]).run Tryd.prog w = .ok (.slice (some ⟨w.heap.size, 0, none⟩) 1 1) (w.alloc (.cells (n33 f (.slice a n c)) 41)) := by kernel_rfl
theorem n33_size (f : Nat → Nat) (v : Value) : (n33 f v).size = 33 := by unfold n33; rw [Array.size_push, bvals_size]
theorem infoNode : (Tryd.prog.info? 41).map (fun i => (i.zero, i.size, i.bytes)) = some (some (.agg (n33 (fun _ => 0) (.slice none 0 0))), 33, 56) := by kernel_rfl
theorem n33_one (f : Nat → Nat) (a : Option Addr) (n c : Nat) : ∀ u ∈ (n33 f (.slice a n c)).toList, u.oneCell' = true := by
  intro u hu
  have h : (n33 f (.slice a n c)).all (·.oneCell') = true := by kernel_rfl
  rw [Array.all_eq_true'] at h
  exact h u (by simpa using hu)
/-- A node of a list, at a place. -/
def NodeAt (w : World) (q : Nat) (y : List Nat) : Prop := Rd w (.slice (some ⟨q, 0, none⟩) 32 32) (bv (hshF y)) ∧ ∃ v, w.cell? ⟨q, 32, none⟩ = some v ∧ Rd w v (bv y)
set_option maxRecDepth 20000 in
set_option maxHeartbeats 12800000 in
theorem tellLeaf_c (w : World) {S : Nat → Prop} {p x : List Nat} {v gp : Value} {Fl Lc m c d : Nat} {T1 T2 : TypeId} (HT : Tabs w) (hi : InS S w) (hN : NdV S w (.leaf p x) v) (hok : okN 128 (.leaf p x)) {G : Nat → Nat} (hG : G = hashOf (encN (.leaf p x))) (hF : w.heap[Fl]? = some (.cells #[.map (some m)] T1 (0, 0))) (hM : w.heap[m]? = some (.map #[⟨.agg (bvals 32 G), v, c⟩] d)) (hL : w.heap[Lc]? = some (.cells #[.slice none 0 0] T2 (0, 0))) (h1 : Fl ≠ m) (h2 : Lc ≠ m) (h3 : ¬ S m) :
    Calls Tryd.prog 44 #[.agg (bvals 32 G), .pointer (some ⟨Fl, 0, none⟩), gp, .pointer (some ⟨Lc, 0, none⟩)] w fun e w' => (∃ u, e = .returned u) ∧ (∃ q, (∃ k, w'.heap[Lc]? = some (.cells #[.slice (some ⟨q, 0, none⟩) 1 k] T2 (0, 0))) ∧ NodeAt w' q (encN (.leaf p x))) ∧ Fr [m, Lc] w w' := by
  obtain ⟨b, r0, r1, r2, pv, vv, e1, hb, hB, hp, hx, _⟩ := hN
  subst e1
  obtain ⟨W, hW⟩ : ∃ W, W = w.alloc (.cells (bvals 32 G) 28) := ⟨_, rfl⟩
  have FW : Hid (Fr [] w W) := hid (by rw [hW]; exact (Fr.refl _ _).alloc _)
  have B0 : Hid (W.heap[w.heap.size]? = some (.cells (bvals 32 G) 28 (0, 0))) := hid (by rw [hW]; exact blk_new _ _)
  have c0 := blk_cell (blk_frT hF FW.out) 0
  simp at c0
  have hlk := look_one (blk_frT hM FW.out)
  have hd := fun T => del_one (blk_frT hM FW.out) T
  have HMW := hid (blk_frT hM FW.out)
  have HLW := hid (blk_frT hL FW.out)
  have HG := hid hG
  have ML := hid (Array.getElem?_eq_some_iff.1 hM).1
  have H1 := hid h1
  have H2 := hid h2
  have AG := hid (fun (w' : World) (f : Fr [m] w w') => (fun k hk => f.block k (hi k hk) (fun h => h3 (by rw [← List.mem_singleton.1 h]; exact hk)) : Agr S w w'))
  have IT := hid (fun (w' : World) (a : Agr S w w') => itemLeaf_c w' (b := b) (by rw [a b hb]; exact hB) (hp w' a) (okP_of hok.1 hok.2.1) (hx w' a) hok.2.2.1 (by have := hok.2.2.2.2; omega) 18)
  have HX := hid hx
  have HTT := hid HT
  have HI := hid hi
  have HLEN := hid (leaf_len hok)
  clear hF hM hL h1 h2 h3 hB hp hx hok hi HT hG
  go_enter Tryd.func44, Tryd.ntmps44
  go_upto_region 1 with fail
  rw [← hW]
  clear hW
  apply wp_region_lit
  refine wpList_val (v := .map (some m)) (w' := W) rfl (by go_simp) ?_
  refine wpList_ldH rfl (.tmp 4) rfl B0.out (by simp [Act.eval, Act.put]) ?_
  simp only [Act.put]
  go_upto_region 3 with fail
  apply wp_region_lit
  refine wpList_val (v := .map (some m)) (w' := W) rfl (by go_simp) ?_
  refine wpList_ldH rfl (.tmp 4) rfl B0.out (by simp [Act.eval, Act.put]) ?_
  simp only [Act.put]
  have F3 : Hid (Fr [m] w (ChangeMaps.setBlock W m (.map #[] d))) := hid (sb_frT (FW.out.mono (by simp)) _ (.inl (by simp)))
  have B3 : Hid ((ChangeMaps.setBlock W m (.map #[] d)).heap[w.heap.size]? = some (.cells (bvals 32 G) 28 (0, 0))) := hid (by rw [sb_neT _ _ (by have := (Array.getElem?_eq_some_iff.1 HMW.out).1; have := ML.out; omega)]; exact B0.out)
  have L3 : Hid ((ChangeMaps.setBlock W m (.map #[] d)).heap[Lc]? = some (.cells #[.slice none 0 0] T2 (0, 0))) := hid (by rw [sb_neT _ _ H2.out]; exact HLW.out)
  go_upto_region 4 with fail
  generalize ChangeMaps.setBlock W m (.map #[] d) = W3 at F3 B3 L3 ⊢
  clear hd hlk c0
  go_wp2_with (go_at_call 45; refine (partsLeaf_c _ b).mono ?_; rintro e w5 ⟨rfl, f5⟩; have F5 := hid (F3.out.trans (f5.mono (show ∀ k ∈ ([] : List Nat), k ∈ [m] by simp))); have B5 := hid (blk_frT B3.out f5); have L5 := hid (blk_frT L3.out f5); clear f5)
  refine wp_loop_rounds 1 ?_
  rw [rounds_succ]
  go_wp2_with (go_at_call 48; refine (IT.out _ (AG.out _ F5.out)).mono ?_; rintro e w6 ⟨iv, rfl, hit, ⟨l, b1, m1, d1, b2, m2, d2, rfl⟩, f6⟩; have IT6 := hid hit; have F6 := hid (F5.out.trans (f6.mono (show ∀ k ∈ ([] : List Nat), k ∈ [m] by simp))); have B6 := hid (blk_frT B5.out f6); have L6 := hid (blk_frT L5.out f6); have F56 := hid f6; clear f6 hit)
  have FA : Fr [] w6 (w6.alloc (.cells #[.bool l, .slice b1 m1 d1, .slice b2 m2 d2] 77)) := (Fr.refl _ _).alloc _
  have F7 := hid (F6.out.trans (FA.mono (show ∀ k ∈ ([] : List Nat), k ∈ [m] by simp)))
  have B7 := hid (blk_frT B6.out FA)
  have L7 := hid (blk_frT L6.out FA)
  have I7 := IT6.out (w6.alloc (.cells #[.bool l, .slice b1 m1 d1, .slice b2 m2 d2] 77)) (fun k _ hk => FA.block k hk (by simp)) (HX.out _ (AG.out _ F7.out))
  have EC := hid (encIt_c _ I7 (by omega) (by omega) HLEN.out)
  clear FA I7 IT6
  generalize w6.alloc (.cells #[.bool l, .slice b1 m1 d1, .slice b2 m2 d2] 77) = w7 at F7 B7 L7 EC ⊢
  refine (EC.out.2).mono ?_
  rintro e w8 ⟨ev, rfl, O8, f8⟩
  obtain ⟨a8, c8, rfl, _⟩ := ownsRow_slice O8
  have R8 := hid (Rd.ownB O8)
  have F8 := hid (F7.out.trans (f8.mono (show ∀ k ∈ ([] : List Nat), k ∈ [m] by simp)))
  have B8 := hid (blk_frT B7.out f8)
  have L8 := hid (blk_frT L7.out f8)
  clear f8 O8 EC
  obtain ⟨n8, hn8⟩ : ∃ n, n = (lstF (strL (packF p true) ++ strL x)).length := ⟨_, rfl⟩
  have HN8 := hid hn8
  rw [← hn8] at R8 ⊢
  clear hn8
  have l0 := blk_cell L8.out 0
  simp at l0
  go_upto_region 12 with fail
  apply wp_region_lit
  refine wpList_val (v := .slice none 0 0) (w' := w8) rfl (by go_simp) ?_
  refine wpList_ldH rfl (.tmp 4) rfl B8.out (by simp [Act.eval, Act.put]) ?_
  simp only [Act.put]
  have bn := bldNode G a8 n8 c8
  have bs := bldNodes G a8 n8 c8
  refine wpList_val (v := .slice a8 n8 c8) (w' := w8) rfl (by go_simp) ?_
  refine wpList_val (v := .agg (n33 G (.slice a8 n8 c8))) (w' := w8) rfl (by simp [execOp, Act.eval, Act.put, bn, Result.andThen]) ?_
  refine wpList_val (v := .slice (some ⟨w8.heap.size, 0, none⟩) 1 1) (w' := w8.alloc (.cells (n33 G (.slice a8 n8 c8)) 41)) rfl (by simp [execOp, Act.eval, Act.put, bs, Result.andThen]) ?_
  have FQ : Fr [] w8 (w8.alloc (.cells (n33 G (.slice a8 n8 c8)) 41)) := (Fr.refl _ _).alloc _
  have BQ : Hid ((w8.alloc (.cells (n33 G (.slice a8 n8 c8)) 41)).heap[w8.heap.size]? = some (.cells (n33 G (.slice a8 n8 c8)) 41 (0, 0))) := hid (blk_new _ _)
  have F9 := hid (F8.out.trans (FQ.mono (show ∀ k ∈ ([] : List Nat), k ∈ [m] by simp)))
  have L9 := hid (blk_frT L8.out FQ)
  have R9 := hid (R8.out.fr FQ)
  have HQ := hid (show w.heap.size ≤ w8.heap.size from F8.out.size)
  clear FQ bn bs
  generalize w8.alloc (.cells (n33 G (.slice a8 n8 c8)) 41) = w9 at BQ F9 L9 R9 ⊢
  obtain ⟨i0, hi0, hz0, hz1, hz2⟩ := info_parts infoNode
  refine wpList_append_own_at w9 rfl (.tmp 48) (.tmp 52) 36 rfl w9.heap.size 41 i0 _ 33 56 Tryd.underlying36 hi0 hz0 hz1 hz2 (by show (n33 _ _).size = 33; exact n33_size _ _) (by decide) (.slice none 0 0) 0 [] (by simp [Act.eval, Act.put]) (World.ownsRow_nil _ _ _ _) ⟨w8.heap.size, 0, none⟩ 1 1 (n33 G (.slice a8 n8 c8)).toList (by simp [Act.eval, Act.put]) (by rw [Array.length_toList, n33_size]) (fun j u hj => by rw [Addr.add_lit, Nat.zero_add, blk_cell BQ.out, ← Array.getElem?_toList]; exact hj) (n33_one _ _ _ _) (by unfold maxLen; omega) (by omega) (Nat.le_refl _) ?_
  intro v10 w10 o10 g10 _ _
  have f10 : Fr [] w9 w10 := (Fr.refl _ _).grown g10 (by simp [Value.ownBlock])
  rw [List.nil_append, Nat.zero_add] at o10
  rcases o10.2 with ⟨_, h0⟩ | ⟨q, k, cur, rfl, hq9, hqb, _, _⟩
  · omega
  have F10 := hid (F9.out.trans (f10.mono (show ∀ k ∈ ([] : List Nat), k ∈ [m] by simp)))
  have L10 := hid (blk_frT L9.out f10)
  have R10 := hid (R9.out.fr f10)
  have O10 := hid o10
  have y0 := blk_cell L10.out 0
  have z0 := blk_frozen L10.out 0
  simp at y0
  have HQ9 := hid hq9
  have LLT := hid (Array.getElem?_eq_some_iff.1 L9.out).1
  clear f10 g10 o10 l0 hqb hq9
  have FE : Hid (Fr [m, Lc] w (w10.setCell ⟨Lc, 0, none⟩ (.slice (some ⟨q, 0, none⟩) 1 k))) := hid (by
    have f := F10.out.mono (show ∀ k ∈ [m], k ∈ [m, Lc] by simp)
    exact f.set 0 _ (.inl (by simp)))
  have LE : Hid ((w10.setCell ⟨Lc, 0, none⟩ (.slice (some ⟨q, 0, none⟩) 1 k)).heap[Lc]? = some (.cells #[.slice (some ⟨q, 0, none⟩) 1 k] T2 (0, 0))) := hid (by
    have := blk_set L10.out 0 (.slice (some ⟨q, 0, none⟩) 1 k)
    simpa using this)
  have hqL : q ≠ Lc := by have := HQ9.out; have := LLT.out; omega
  have SQ : ∀ j u, (n33 G (.slice a8 n8 c8)).toList[j]? = some u → (w10.setCell ⟨Lc, 0, none⟩ (.slice (some ⟨q, 0, none⟩) 1 k)).cell? ⟨q, j, none⟩ = some u := fun j u hj => by
    have h0 := O10.out.cells rfl j u hj
    rw [Addr.add_lit, Nat.zero_add] at h0
    rw [World.cell?_of_block (w := w10) (((Fr.refl [Lc] w10).set 0 _ (.inl (by simp))).block q (World.block_lt_of_cell? _ _ h0) (by intro h; exact hqL (List.mem_singleton.1 h)))]
    exact h0
  have RE := Rd.keep R10.out (w' := w10.setCell ⟨Lc, 0, none⟩ (.slice (some ⟨q, 0, none⟩) 1 k)) (fun j hj => ((Fr.refl [Lc] w10).set 0 _ (.inl (by simp))).block j hj.lt (by
    intro h
    have hjl := List.mem_singleton.1 h
    subst hjl
    obtain ⟨⟨pb, po, ps⟩, nn, rfl, hc⟩ := hj
    have hsp : ps = none := World.cell?_spot hc
    subst hsp
    rw [blk_cell L10.out] at hc
    cases po with
    | zero => simp at hc
    | succ po => simp at hc))
  have NE : Hid (NodeAt (w10.setCell ⟨Lc, 0, none⟩ (.slice (some ⟨q, 0, none⟩) 1 k)) q (encN (.leaf p x))) := hid ⟨.inr ⟨_, _, by rw [bv_len, hshF_len], by rw [bv_len, hshF_len]; exact Nat.le_refl _, fun j u hj => by
      rw [Addr.add_lit, Nat.zero_add]
      refine SQ j u ?_
      have hjl := (List.getElem?_eq_some_iff.1 hj).1
      rw [bv_len, hshF_len] at hjl
      have e := hash_bv (encN (.leaf p x))
      rw [← HG.out] at e
      unfold n33
      rw [Array.toList_push, List.getElem?_append_left (by rw [Array.length_toList, bvals_size]; exact hjl), Array.getElem?_toList, e, List.getElem?_toArray]
      exact hj⟩, _, SQ 32 (.slice a8 n8 c8) (by unfold n33; rw [Array.toList_push, List.getElem?_append_right (by rw [Array.length_toList, bvals_size]; exact Nat.le_refl _), Array.length_toList, bvals_size]; rfl), RE⟩
  clear SQ RE R10 O10 L10 hqL
  go_wp2
  go_end0
  exact ⟨⟨_, rfl⟩, ⟨q, ⟨k, LE.out⟩, NE.out⟩, FE.out⟩
end Go.Proofs.YtmpfnglcmaollaaDoor
