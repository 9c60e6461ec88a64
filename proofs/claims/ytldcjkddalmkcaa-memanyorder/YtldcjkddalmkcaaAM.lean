/-
  Rows of entries in a statement's own memory; two tables beside one another.
-/
import Derived.Test.YtldcjkddalmkcaaAN
namespace Go.Proofs.Ytldcjkddalmkcaa
open Go.ChangeShapes Go.WideShapes Go.ChangeAt Go.RowKit

/-- An entry with its slices. -/
structure Le where
  x : Ar
  uv : Value
  vv : Value
structure LeOk (w : World) (e : Le) : Prop where
  ru : Rd w e.uv (bv e.x.u)
  rv : Rd w e.vv (bv e.x.v)
  bu : By e.x.u
  bw : By e.x.v
def flatE (l : List Le) : List Value := l.flatMap fun e => [e.uv, e.vv, .int .u64 (e.x.s : Int), .int .i64 e.x.k]
theorem flatE_len (l : List Le) : (flatE l).length = 4 * l.length := by
  induction l with
  | nil => rfl
  | cons e l ih => unfold flatE at ih ⊢; rw [List.flatMap_cons, List.length_append, ih, List.length_cons]; simp; omega
theorem flatE_app (a b : List Le) : flatE (a ++ b) = flatE a ++ flatE b := by unfold flatE; rw [List.flatMap_append]
theorem flatE_cons (e : Le) (l : List Le) : flatE (e :: l) = [e.uv, e.vv, .int .u64 (e.x.s : Int), .int .i64 e.x.k] ++ flatE l := rfl
theorem flatE_at {l : List Le} {j : Nat} {e : Le} (h : l[j]? = some e) (i : Nat) (hi : i < 4) : (flatE l)[j * 4 + i]? = [e.uv, e.vv, .int .u64 (e.x.s : Int), .int .i64 e.x.k][i]? := by
  obtain ⟨hl, he⟩ := List.getElem?_eq_some_iff.1 h
  have hs : l = l.take j ++ e :: l.drop (j + 1) := by rw [← he, ← List.drop_eq_getElem_cons hl, List.take_append_drop]
  have hlen : (flatE (l.take j)).length = j * 4 := by rw [flatE_len, List.length_take]; omega
  rw [hs, flatE_app, List.getElem?_append_right (by rw [hlen]; omega), hlen, flatE_cons, List.getElem?_append_left (by simp; omega)]
  congr 1; omega
/-- A row of entries of the statement's own. -/
structure Left (w : World) (v : Value) (l : List Le) (g c : Nat) (cur : Array Value) : Prop where
  val : v = .slice (some ⟨g, 0, none⟩) l.length c
  cap : l.length ≤ c
  cmx : c ≤ 9223372036854775807
  blk : w.heap[g]? = some (.cells cur 33 (0, 0))
  fit : 4 * l.length ≤ cur.size
  row : cur.toList.take (4 * l.length) = flatE l
theorem Left.cell {w : World} {v : Value} {l : List Le} {g c : Nat} {cur : Array Value} (h : Left w v l g c cur) {j : Nat} {e : Le} (he : l[j]? = some e) {i : Nat} (hi : i < 4) : w.cell? ⟨g, j * 4 + i, none⟩ = [e.uv, e.vv, .int .u64 (e.x.s : Int), .int .i64 e.x.k][i]? := by
  have hl := (List.getElem?_eq_some_iff.1 he).1
  rw [blk_cell h.blk, ← flatE_at he i hi, ← h.row, List.getElem?_take, if_pos (by omega), Array.getElem?_toList]
theorem Left.step {w w' : World} {v : Value} {l : List Le} {g c : Nat} {cur : Array Value} (h : Left w v l g c cur) (hg : w'.heap[g]? = w.heap[g]?) : Left w' v l g c cur := ⟨h.val, h.cap, h.cmx, by rw [hg]; exact h.blk, h.fit, h.row⟩
theorem Left.fr {w w' : World} {v : Value} {l : List Le} {g c : Nat} {cur : Array Value} (h : Left w v l g c cur) (f : Fr [] w w') : Left w' v l g c cur := h.step (f.block _ (blk_lt h.blk) (by simp))
/-- A row of entries isn't one of a table's blocks. -/
theorem Tb.notEntry {w : World} {B t : Nat} {H : List Nat} {es : List E} (T : Tb w B t H es) {g : Nat} {cur : Array Value} (hg : w.heap[g]? = some (.cells cur 33 (0, 0))) : g ∉ bks t es := fun hm => by
  obtain ⟨⟨hv, M, _⟩, _⟩ := T
  rcases List.mem_cons.1 hm with e | hm
  · rw [e, M.tab] at hg; simp at hg
  · obtain ⟨x, hx, e⟩ := List.mem_map.1 hm
    obtain ⟨r, k⟩ := M.ent hx
    rw [← e, k.blk] at hg; simp at hg
/-- A table beside which another one changes. -/
theorem Tb.other {w w' : World} {B t B' t' : Nat} {H H' : List Nat} {es es' : List E} (T : Tb w B t H es) (T' : Tb w B' t' H' es') (hd : ∀ k ∈ bks t es, k ∉ bks t' es') (f : Fr (bks t' es') w w') : Tb w' B t H es := by
  obtain ⟨⟨hv, M, O⟩, h2, h3, h4⟩ := T
  obtain ⟨⟨hv', M', O'⟩, _⟩ := T'
  refine ⟨⟨hv, M.step (fun k hk => f.block k (M.lt k hk).2 (hd k hk)) (fun k hk => f.block k hk.lt fun hm => M'.no k hm hk), ?_⟩, h2, h3, h4⟩
  refine ownsRow_of_block O fun k hk => f.block k (O.lt k hk).2 fun hm => ?_
  rcases List.mem_cons.1 hm with e | hm
  · exact own_not O M'.tab (by decide) (by rw [hk, e])
  · obtain ⟨x, hx, e⟩ := List.mem_map.1 hm
    obtain ⟨r, g⟩ := M'.ent hx
    exact own_not O g.blk (by decide) (by rw [hk, ← e])
/-- Two tables, and what was put into each. -/
structure Two (w wr : World) (B ta tb : Nat) (Ha Hb : List Nat) (ea eb : List E) (m : Nat) : Prop where
  a : Tb wr B ta Ha ea
  b : Tb wr B tb Hb eb
  dis : ∀ k ∈ bks ta ea, k ∉ bks tb eb
  la : ea.length ≤ m
  lb : eb.length ≤ m
  fr : Fr [] w wr
theorem Two.fr' {w wr w2 : World} {B ta tb : Nat} {Ha Hb : List Nat} {ea eb : List E} {m : Nat} (h : Two w wr B ta tb Ha Hb ea eb m) (f : Fr [] wr w2) : Two w w2 B ta tb Ha Hb ea eb m := ⟨h.a.fr f, h.b.fr f, h.dis, h.la, h.lb, h.fr.trans f⟩
theorem PutR.bks {b0 : Nat} {H : List Nat} {es es' : List E} {u : List Nat} {s : Nat} {k : Int} {v : List Nat} (R : PutR b0 H es es' u s k v) {t j : Nat} (hj : j ∈ bks t es') : j ∈ bks t es ∨ b0 ≤ j := by
  rcases R with ⟨_, e⟩ | ⟨_, pre, post, n, C, _, e, _, _, _, hb⟩
  · rw [e] at hj; exact .inl hj
  · rw [e] at hj
    unfold Go.Proofs.Ytldcjkddalmkcaa.bks at hj ⊢
    rw [C.eq]
    simp only [List.map_append, List.map_cons, List.mem_cons, List.mem_append] at hj ⊢
    rcases hj with h | h | h | h
    · exact .inl (.inl h)
    · exact .inl (.inr (.inl h))
    · exact .inr (by omega)
    · exact .inl (.inr (.inr h))
theorem Two.putB {w wr w2 : World} {B ta tb : Nat} {Ha Hb : List Nat} {ea eb eb' : List E} {m : Nat} {u : List Nat} {s : Nat} {k : Int} {v : List Nat} (h : Two w wr B ta tb Ha Hb ea eb m) (hB : w.heap.size ≤ B) (f : Fr (bks tb eb) wr w2) (T : Tb w2 B tb Hb eb') (R : PutR wr.heap.size Hb eb eb' u s k v) : Two w w2 B ta tb Ha Hb ea eb' (m + 1) :=
  ⟨h.a.other h.b h.dis f, T, fun j hj hm => by
    rcases R.bks hm with x | x
    · exact h.dis j hj x
    · have := (h.a.lt j hj).2; omega, by have := h.la; omega, by have := R.len; have := h.lb; omega, h.b.shed hB h.fr f⟩
theorem Two.putA {w wr w2 : World} {B ta tb : Nat} {Ha Hb : List Nat} {ea eb ea' : List E} {m : Nat} {u : List Nat} {s : Nat} {k : Int} {v : List Nat} (h : Two w wr B ta tb Ha Hb ea eb m) (hB : w.heap.size ≤ B) (f : Fr (bks ta ea) wr w2) (T : Tb w2 B ta Ha ea') (R : PutR wr.heap.size Ha ea ea' u s k v) : Two w w2 B ta tb Ha Hb ea' eb (m + 1) :=
  ⟨T, h.b.other h.a (fun j hj hm => h.dis j hm hj) f, fun j hj hm => by
    rcases R.bks hj with x | x
    · exact h.dis j x hm
    · have := (h.b.lt j hm).2; omega, by have := R.len; have := h.la; omega, by have := h.lb; omega, h.a.shed hB h.fr f⟩
theorem infoE : (Try.prog.info? 33).map (fun i => (i.zero, i.size, i.bytes)) = some (some (.agg #[.slice none 0 0, .slice none 0 0, .int .u64 0, .int .i64 0]), 4, 64) := by kernel_rfl
end Go.Proofs.Ytldcjkddalmkcaa
