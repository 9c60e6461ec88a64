/-
  A table of package mem in memory: its block, its entries' blocks, what they hold.
-/
import Derived.Test.YtldcjkddalmkcaaMN
namespace Go.Proofs.Ytldcjkddalmkcaa
open Go.ChangeShapes Go.WideShapes Go.ChangeAt Go.RowKit

/-- Does a block hold a byte? -/
def U8 (w : World) (k : Nat) : Prop := ∃ p n, p.block = k ∧ w.cell? p = some (.int .u8 n)
theorem Rd.keep {w w' : World} {v : Value} {ns : List Nat} (h : Rd w v (bv ns)) (hk : ∀ k, U8 w k → w'.heap[k]? = w.heap[k]?) : Rd w' v (bv ns) := by
  rcases h with h | ⟨a, c, rfl, h4, h5⟩
  · exact .inl h
  · refine .inr ⟨a, c, rfl, h4, fun j u hj => ?_⟩
    have h6 := h5 j u hj
    have hu : ∃ n : Int, u = .int .u8 n := by
      obtain ⟨n, _, rfl⟩ := List.mem_map.1 (List.mem_of_getElem? hj)
      exact ⟨_, rfl⟩
    obtain ⟨n, rfl⟩ := hu
    rw [World.cell?_of_block (w := w) (hk _ ⟨_, _, rfl, h6⟩)]; exact h6
theorem noU8 {w : World} {b : Nat} {cs : List Value} {T : TypeId} (h : w.heap[b]? = some (.cells cs.toArray T (0, 0))) (hc : ∀ c ∈ cs, ∀ n, c ≠ .int .u8 n) : ¬ U8 w b := by
  rintro ⟨⟨_, o, sp⟩, n, rfl, hn⟩
  have hsp : sp = none := World.cell?_spot hn
  subst hsp
  rw [blk_cell h, List.getElem?_toArray] at hn
  exact hc _ (List.mem_of_getElem? hn) n rfl
theorem lk_ptr : ∀ (es : List E) (i : Nat), ∃ p, lk es i = .pointer p
  | [], _ => ⟨_, rfl⟩
  | e :: es, i => by
    show ∃ p, (if i < e.h then pt (e.b, 0) else lk es i) = .pointer p
    split
    · exact ⟨_, rfl⟩
    · exact lk_ptr es i
theorem nx_ptr (h : Nat) (es : List E) (i : Nat) : ∃ p, nx h es i = .pointer p := by
  unfold nx
  split
  · exact lk_ptr es i
  · exact ⟨_, rfl⟩
theorem tow_ptr {h : Nat} {es : List E} {v : Value} (hv : v ∈ tow h es) : ∃ p, v = .pointer p := by
  unfold tow at hv
  obtain ⟨i, _, rfl⟩ := List.mem_map.1 hv
  exact nx_ptr h es i

/-- The cells of an entry, rest behind it. -/
def eCs (e : E) (rest : List E) : List Value := [e.kv, e.uv, .int .i64 ((tailN e.key % 256 : Nat) : Int), e.vv] ++ tow e.h rest
/-- The cells of a table. -/
def tCs (hv : Value) (es : List E) (c z : Nat) : List Value := [hv, .slice none 0 0, .slice none 0 0, .int .i64 0, .slice none 0 0] ++ tow 12 es ++ [.int .i64 (c : Int), .int .i64 (z : Int)]
/-- An entry's block, and what it holds; rest: the entries behind it. -/
structure EntB (w : World) (B : Nat) (e : E) (rest : List E) : Prop where
  blk : w.heap[e.b]? = some (.cells (eCs e rest).toArray 70 (0, 0))
  base : B ≤ e.b
  isk : isK e.key = true
  rk : Rd w e.kv (bv e.key)
  ru : Rd w e.uv (bv (userL e.key))
  rv : Rd w e.vv (bv e.val)
  byk : By e.key
  byv : By e.val
  vl : e.val.length ≤ 16384
def Chain (w : World) (B : Nat) : List E → Prop
  | [] => True
  | e :: es => EntB w B e es ∧ Chain w B es
/-- A table's blocks. -/
structure Mm (w : World) (B t : Nat) (hv : Value) (es : List E) (c z : Nat) : Prop where
  tab : w.heap[t]? = some (.cells (tCs hv es c z).toArray 72 (0, 0))
  hs : ∃ a n k, hv = .slice a n k
  bt : B ≤ t
  ch : Chain w B es
  nd : (es.map E.b).Nodup

theorem Chain.mid {w : World} {B : Nat} : ∀ {l r : List E} {e : E}, Chain w B (l ++ e :: r) → EntB w B e r
  | [], _, _, h => h.1
  | _ :: _, _, _, h => Chain.mid h.2
theorem Chain.of {w : World} {B : Nat} : ∀ {es : List E}, Chain w B es → ∀ e ∈ es, ∃ r, EntB w B e r
  | [], _, e, he => by cases he
  | x :: es, h, e, he => by
    rcases List.mem_cons.1 he with rfl | he
    · exact ⟨es, h.1⟩
    · exact Chain.of h.2 e he
theorem EntB.no {w : World} {B : Nat} {e : E} {r : List E} (h : EntB w B e r) : ¬ U8 w e.b := by
  refine noU8 h.blk fun c hc n => ?_
  obtain ⟨a1, c1, e1⟩ := h.rk.form
  obtain ⟨a2, c2, e2⟩ := h.ru.form
  obtain ⟨a3, c3, e3⟩ := h.rv.form
  unfold eCs at hc
  simp only [List.cons_append, List.nil_append, List.mem_cons] at hc
  rcases hc with rfl | rfl | rfl | rfl | hc
  · rw [e1]; simp
  · rw [e2]; simp
  · simp
  · rw [e3]; simp
  · obtain ⟨p, rfl⟩ := tow_ptr hc; simp
theorem Mm.noT {w : World} {B t : Nat} {hv : Value} {es : List E} {c z : Nat} (h : Mm w B t hv es c z) : ¬ U8 w t := by
  refine noU8 h.tab fun x hx n => ?_
  obtain ⟨a, m, k, rfl⟩ := h.hs
  unfold tCs at hx
  simp only [List.cons_append, List.nil_append, List.mem_cons, List.mem_append, List.not_mem_nil, or_false] at hx
  rcases hx with rfl | rfl | rfl | rfl | rfl | hx | rfl | rfl
  · simp
  · simp
  · simp
  · simp
  · simp
  · obtain ⟨p, rfl⟩ := tow_ptr hx; simp
  · simp
  · simp
theorem Mm.ne {w : World} {B t : Nat} {hv : Value} {es : List E} {c z : Nat} (h : Mm w B t hv es c z) : ∀ e ∈ es, e.b ≠ t := fun e he hb => by
  obtain ⟨r, k⟩ := h.ch.of e he
  have h1 := k.blk
  rw [hb, h.tab] at h1
  simp at h1
/-- The blocks of a table. -/
def bks (t : Nat) (es : List E) : List Nat := t :: es.map E.b
theorem Mm.no {w : World} {B t : Nat} {hv : Value} {es : List E} {c z : Nat} (h : Mm w B t hv es c z) : ∀ k ∈ bks t es, ¬ U8 w k := fun k hk => by
  rcases List.mem_cons.1 hk with rfl | hk
  · exact h.noT
  · obtain ⟨e, he, rfl⟩ := List.mem_map.1 hk
    obtain ⟨r, g⟩ := h.ch.of e he
    exact g.no
theorem Mm.lt {w : World} {B t : Nat} {hv : Value} {es : List E} {c z : Nat} (h : Mm w B t hv es c z) : ∀ k ∈ bks t es, B ≤ k ∧ k < w.heap.size := fun k hk => by
  rcases List.mem_cons.1 hk with rfl | hk
  · exact ⟨h.bt, blk_lt h.tab⟩
  · obtain ⟨e, he, rfl⟩ := List.mem_map.1 hk
    obtain ⟨r, g⟩ := h.ch.of e he
    exact ⟨g.base, blk_lt g.blk⟩
theorem U8.lt {w : World} {k : Nat} (h : U8 w k) : k < w.heap.size := by
  obtain ⟨p, n, rfl, h⟩ := h
  exact World.block_lt_of_cell? w _ h
/-- Bytes outlive a change of a table's blocks. -/
theorem Mm.rd {w w' : World} {B t : Nat} {hv : Value} {es : List E} {c z : Nat} (h : Mm w B t hv es c z) (f : Fr (bks t es) w w') {v : Value} {ns : List Nat} (r : Rd w v (bv ns)) : Rd w' v (bv ns) :=
  r.keep fun k hk => f.block k hk.lt fun hm => h.no k hm hk
theorem EntB.step {w w' : World} {B : Nat} {e : E} {r : List E} (h : EntB w B e r) (h1 : w'.heap[e.b]? = w.heap[e.b]?) (h2 : ∀ k, U8 w k → w'.heap[k]? = w.heap[k]?) : EntB w' B e r :=
  ⟨by rw [h1]; exact h.blk, h.base, h.isk, h.rk.keep h2, h.ru.keep h2, h.rv.keep h2, h.byk, h.byv, h.vl⟩
theorem Chain.step {w w' : World} {B : Nat} : ∀ {es : List E}, Chain w B es → (∀ e ∈ es, w'.heap[e.b]? = w.heap[e.b]?) → (∀ k, U8 w k → w'.heap[k]? = w.heap[k]?) → Chain w' B es
  | [], _, _, _ => trivial
  | e :: es, h, h1, h2 => ⟨h.1.step (h1 e (by simp)) h2, Chain.step h.2 (fun x hx => h1 x (List.mem_cons_of_mem _ hx)) h2⟩
theorem Mm.step {w w' : World} {B t : Nat} {hv : Value} {es : List E} {c z : Nat} (h : Mm w B t hv es c z) (h1 : ∀ k ∈ bks t es, w'.heap[k]? = w.heap[k]?) (h2 : ∀ k, U8 w k → w'.heap[k]? = w.heap[k]?) : Mm w' B t hv es c z :=
  ⟨by rw [h1 t (by simp [bks])]; exact h.tab, h.hs, h.bt, h.ch.step (fun e he => h1 _ (List.mem_cons_of_mem _ (List.mem_map.2 ⟨e, he, rfl⟩))) h2, h.nd⟩
theorem Mm.fr {w w' : World} {B t : Nat} {hv : Value} {es : List E} {c z : Nat} (h : Mm w B t hv es c z) (f : Fr [] w w') : Mm w' B t hv es c z :=
  h.step (fun k hk => f.block k (h.lt k hk).2 (by simp)) (fun k hk => f.block k hk.lt (by simp))

theorem eCs_len (e : E) (r : List E) : (eCs e r).length = 16 := by unfold eCs; rw [List.length_append, tow_len]; rfl
theorem tCs_len (hv : Value) (es : List E) (c z : Nat) : (tCs hv es c z).length = 19 := by unfold tCs; rw [List.length_append, List.length_append, tow_len]; rfl
theorem eCs_tow (e : E) (r : List E) {i : Nat} (hi : i < 12) : (eCs e r)[4 + i]? = some (nx e.h r i) := by
  unfold eCs
  rw [List.getElem?_append_right (by simp), ← tow_at _ _ hi]
  congr 1
  simp
theorem tCs_tow (hv : Value) (es : List E) (c z : Nat) {i : Nat} (hi : i < 12) : (tCs hv es c z)[5 + i]? = some (lk es i) := by
  unfold tCs
  rw [List.getElem?_append_left (by rw [List.length_append, tow_len]; simp; omega), List.getElem?_append_right (by simp)]
  have := tow_at 12 es hi
  unfold nx at this
  rw [if_pos hi] at this
  rw [← this]
  congr 1
  simp
theorem eCs_set {e : E} {r r' : List E} {h' : Nat} {k : Nat} {v : Value} (H : (tow e.h r).set k v = tow h' r') : (eCs e r).set (4 + k) v = eCs (up h' e) r' := by
  unfold eCs
  rw [List.set_append_right _ _ (by simp)]
  congr 1
  show (tow e.h r).set (4 + k - 4) v = tow h' r'
  rw [show 4 + k - 4 = k from by omega]; exact H
theorem tCs_set {hv : Value} {es es' : List E} {c z : Nat} {k : Nat} {v : Value} (hk : k < 12) (H : (tow 12 es).set k v = tow 12 es') : (tCs hv es c z).set (5 + k) v = tCs hv es' c z := by
  unfold tCs
  rw [List.set_append_left _ _ (by rw [List.length_append, tow_len]; simp; omega), List.set_append_right _ _ (by simp)]
  congr 2
  show (tow 12 es).set (5 + k - 5) v = tow 12 es'
  rw [show 5 + k - 5 = k from by omega]; exact H
/-- A block of which one cell is written. -/
theorem lst_set {w : World} {b : Nat} {cs : List Value} {T : TypeId} (h : w.heap[b]? = some (.cells cs.toArray T (0, 0))) (i : Nat) (v : Value) : (w.setCell ⟨b, i, none⟩ v).heap[b]? = some (.cells (cs.set i v).toArray T (0, 0)) := by
  rw [blk_set h, List.setIfInBounds_toArray]
theorem lst_cell {w : World} {b : Nat} {cs : List Value} {T : TypeId} (h : w.heap[b]? = some (.cells cs.toArray T (0, 0))) (i : Nat) : w.cell? ⟨b, i, none⟩ = cs[i]? := by
  rw [blk_cell h, List.getElem?_toArray]

/-- A place from which the table is gone through: the links up to height k are those of the list behind it. -/
structure At (w : World) (p : Nat × Nat) (es : List E) (k : Nat) : Prop where
  cell : ∀ i, i < k → w.cell? ⟨p.1, p.2 + 4 + i, none⟩ = some (lk es i)
theorem Mm.atHead {w : World} {B t : Nat} {hv : Value} {es : List E} {c z : Nat} (h : Mm w B t hv es c z) : At w (t, 1) es 12 :=
  ⟨fun i hi => by show w.cell? ⟨t, 1 + 4 + i, none⟩ = _; rw [show 1 + 4 + i = 5 + i from by omega, lst_cell h.tab, tCs_tow _ _ _ _ hi]⟩
theorem EntB.at {w : World} {B : Nat} {e : E} {r : List E} (h : EntB w B e r) {k : Nat} (hk : k ≤ e.h) (hk' : k ≤ 12) : At w (e.b, 0) r k :=
  ⟨fun i hi => by
    show w.cell? ⟨e.b, 0 + 4 + i, none⟩ = _
    rw [show 0 + 4 + i = 4 + i from by omega, lst_cell h.blk, eCs_tow _ _ (by omega)]
    unfold nx; rw [if_pos (by omega)]⟩
theorem At.fr {w w' : World} {p : Nat × Nat} {es : List E} {k : Nat} (h : At w p es k) (f : Fr [] w w') : At w' p es k :=
  ⟨fun i hi => by
    have h6 := h.cell i hi
    rw [World.cell?_of_block (w := w) (f.block _ (World.block_lt_of_cell? w _ h6) (by simp))]; exact h6⟩
theorem At.mono {w : World} {p : Nat × Nat} {es : List E} {k k' : Nat} (h : At w p es k) (hk : k' ≤ k) : At w p es k' := ⟨fun i hi => h.cell i (by omega)⟩
end Go.Proofs.Ytldcjkddalmkcaa
