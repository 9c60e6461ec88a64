/-
  Lists of tables of the call's own, in a version of the call's own.
-/
import Derived.Test.YtegbngbhmgbocaaGreatDoorJ38
import Derived.Test.YtegbngbhmgbocaaGreatDoorVZ
import Derived.Laws.CopyRow
namespace Go.Proofs.YtegbngbhmgbocaaGreatDoor
open Go.ChangeShapes Go.WideShapes Go.ChangeAt Go.RowKit

/-- A row of tables in a block of the call's own; where it is full the block may hold more. -/
structure OwnP (W : World) (B : Nat) (a : Option Addr) (n c : Nat) (xs : List Value) : Prop where
  len : xs.length = n * 4
  row : (a = none ∧ n = 0 ∧ c = 0) ∨ ∃ g cur, a = some ⟨g, 0, none⟩ ∧ B ≤ g ∧ W.heap[g]? = some (.cells cur 62 (0, 0)) ∧ n ≤ c ∧ c ≤ maxLen ∧ c * 4 ≤ cur.size ∧ (n < c → cur.size = c * 4) ∧ cur.toList.take (n * 4) = xs
theorem OwnP.of {W : World} {B : Nat} {a : Option Addr} {n c : Nat} {xs : List Value} (o : W.ownsRow B 62 4 (.slice a n c) n xs) : OwnP W B a n c xs := by
  refine ⟨o.1, ?_⟩
  rcases o.2 with ⟨h, _⟩ | ⟨g, cap, cur, h1, h2, h3, h4, h5, h6, h7⟩
  · simp only [Value.slice.injEq] at h; exact .inl h
  · simp only [Value.slice.injEq] at h1
    obtain ⟨rfl, _, rfl⟩ := h1
    exact .inr ⟨g, cur, rfl, h2, h3, h4, h5, by omega, fun _ => h6, h7⟩
theorem OwnP.own {W : World} {B : Nat} {a : Option Addr} {n c : Nat} {xs : List Value} (h : OwnP W B a n c xs) (hc : n < c ∨ a = none) : W.ownsRow B 62 4 (.slice a n c) n xs := by
  refine ⟨h.len, ?_⟩
  rcases h.row with ⟨rfl, rfl, rfl⟩ | ⟨g, cur, rfl, h2, h3, h4, h5, h6, h7, h8⟩
  · exact .inl ⟨rfl, rfl⟩
  · rcases hc with hc | hc
    · exact .inr ⟨g, c, cur, rfl, h2, h3, h4, h5, h7 hc, h8⟩
    · cases hc
theorem OwnP.block {W W' : World} {B : Nat} {a : Option Addr} {n c : Nat} {xs : List Value} (h : OwnP W B a n c xs) (hb : ∀ k, (Value.slice a n c).ownBlock = some k → W'.heap[k]? = W.heap[k]?) : OwnP W' B a n c xs := by
  refine ⟨h.len, ?_⟩
  rcases h.row with h1 | ⟨g, cur, rfl, h2, h3, h4⟩
  · exact .inl h1
  · exact .inr ⟨g, cur, rfl, h2, by rw [hb g rfl]; exact h3, h4⟩
theorem OwnP.lt {W : World} {B : Nat} {a : Option Addr} {n c : Nat} {xs : List Value} (h : OwnP W B a n c xs) {k : Nat} (hk : (Value.slice a n c).ownBlock = some k) : k < W.heap.size ∧ B ≤ k := by
  rcases h.row with ⟨rfl, _⟩ | ⟨g, cur, rfl, h2, h3, _⟩
  · simp [Value.ownBlock] at hk
  · simp [Value.ownBlock] at hk
    subst hk
    exact ⟨blk_lt h3, h2⟩
theorem OwnP.not {W : World} {B : Nat} {a : Option Addr} {n c : Nat} {xs : List Value} (h : OwnP W B a n c xs) {k : Nat} {cs : Array Value} {T : TypeId} (hk : W.heap[k]? = some (.cells cs T (0, 0))) (hT : T ≠ 62) : (Value.slice a n c).ownBlock ≠ some k := by
  intro e
  rcases h.row with ⟨rfl, _⟩ | ⟨g, cur, rfl, _, h3, _⟩
  · simp [Value.ownBlock] at e
  · simp [Value.ownBlock] at e
    subst e
    rw [h3] at hk
    simp at hk
    exact hT hk.2.symm
theorem OwnP.fr {W W' : World} {B : Nat} {a : Option Addr} {n c : Nat} {xs : List Value} (h : OwnP W B a n c xs) (f : Fr [] W W') : OwnP W' B a n c xs :=
  h.block fun k hk => f.block k (h.lt hk).1 (by simp)
theorem OwnP.cells {W : World} {B : Nat} {g off : Nat} {n c : Nat} {xs : List Value} (h : OwnP W B (some ⟨g, off, none⟩) n c xs) : ∀ j u, xs[j]? = some u → W.cell? ((⟨g, 0, none⟩ : Addr).add j) = some u := by
  intro j u hj
  rcases h.row with ⟨h1, _⟩ | ⟨g', cur, h1, h2, h3, h4, h5, h6, h7, h8⟩
  · cases h1
  · simp only [Option.some.injEq, Addr.mk.injEq] at h1
    obtain ⟨rfl, _⟩ := h1
    rw [Addr.add_lit, Nat.zero_add, blk_cell h3, ← Array.getElem?_toList]
    rw [← h8, List.getElem?_take] at hj
    split at hj
    · exact hj
    · cases hj
/-- A row in a block that was just made. -/
theorem grown_row (W : World) {B : Nat} (hB : B ≤ W.heap.size) {xs news : List Value} {n m old : Nat} (hx : xs.length = n * 4) (hm : news.length = m * 4) (hl : n + m ≤ 10000000) (z : Value) (hz : z.cells.size = 4) :
    (W.drew.alloc (.cells (xs.toArray ++ news.toArray ++ Builtin.zeroCells z.cells (grownCap W (n + m) old 62 - (n + m))) 62)).ownsRow B 62 4 (.slice (some ⟨W.heap.size, 0, none⟩) (n + m) (grownCap W (n + m) old 62)) (n + m) (xs ++ news) ∧
      ∀ row, W.grownBy (W.drew.alloc (.cells (xs.toArray ++ news.toArray ++ Builtin.zeroCells z.cells (grownCap W (n + m) old 62 - (n + m))) 62)) row := by
  have hlen : (xs ++ news).length = (n + m) * 4 := by rw [List.length_append, hx, hm, Nat.add_mul]
  have hge := grownCap_ge W (n + m) old 62
  have hcm : grownCap W (n + m) old 62 ≤ maxLen := grownCap_le_maxLen W (n + m) old 62 (by unfold maxLen; omega)
  refine ⟨⟨hlen, .inr ⟨W.heap.size, _, _, rfl, hB, heap_alloc_new W.drew _, hge, hcm, ?_, ?_⟩⟩, fun row => ⟨rfl, rfl, rfl, by simp, fun k hk _ => blk_old W.drew _ hk⟩⟩
  · simp only [Array.size_append, List.size_toArray, size_zeroCells, hz, hx, hm]
    omega
  · simp only [Array.toList_append, List.append_assoc]
    rw [← List.append_assoc, ← hlen]
    exact List.take_left
/-- append(l, x). -/
theorem run_appP {W : World} {B : Nat} {a : Option Addr} {n c : Nat} {xs : List Value} (h : OwnP W B a n c xs) {G : Nat} {v0 v1 v2 v3 : Value} {T : TypeId} (hG : W.heap[G]? = some (.cells #[v0, v1, v2, v3] T (0, 0))) (h1 : ∀ u ∈ [v0, v1, v2, v3], u.oneCell' = true) (hl : n ≤ 1000000) (hB : B ≤ W.heap.size) (ty : TypeId) :
    ∃ a' c' w', (Builtin.append_ #[25, 25] ty #[.slice a n c, .slice (some ⟨G, 0, none⟩) 1 1]).run Tryz.prog W = .ok (.slice a' (n + 1) c') w' ∧ w'.ownsRow B 62 4 (.slice a' (n + 1) c') (n + 1) (xs ++ [v0, v1, v2, v3]) ∧ W.grownBy w' (Value.slice a n c).ownBlock ∧ ((Value.slice a' (n + 1) c').ownBlock = (Value.slice a n c).ownBlock ∨ (Value.slice a' (n + 1) c').ownBlock = some W.heap.size) := by
  obtain ⟨i0, hi0, hz0, hz1, hz2⟩ := info_parts9 infoFile
  have hn : ∀ j u, [v0, v1, v2, v3][j]? = some u → W.cell? ((⟨G, 0, none⟩ : Addr).add j) = some u := fun j u hj => by
    rw [Addr.add_lit, Nat.zero_add, blk_cell hG, ← Array.getElem?_toList]; exact hj
  by_cases hc : n < c ∨ a = none
  · obtain ⟨v', w', hr, h2, h3, _, h5⟩ := run_append_own_at (P := Tryz.prog) W B 25 ty 62 i0 _ 4 64 Tryz.underlying25 hi0 hz0 hz1 hz2 rfl (by decide) _ n xs (h.own hc) ⟨G, 0, none⟩ 1 1 [v0, v1, v2, v3] rfl hn h1 (by unfold maxLen; omega) (by omega) hB
    obtain ⟨a', c', rfl, _⟩ := ownsRow_slice h2
    exact ⟨a', c', w', hr, h2, h3, h5⟩
  · rcases h.row with ⟨h1', _⟩ | ⟨g, cur, rfl, k2, k3, k4, k5, k6, k7, k8⟩
    · exact absurd (.inr h1') hc
    · have hnc : ¬ n < c := fun e => hc (.inl e)
      have hr := run_append_grow (P := Tryz.prog) W 25 ty 62 i0 _ Tryz.underlying25 hi0 hz0 ⟨g, 0, none⟩ n c xs (by rw [hz1]; exact h.len) h.cells ⟨G, 0, none⟩ 1 1 [v0, v1, v2, v3] (by rw [hz1]; rfl) hn (by omega) (by omega) (growslice_fits (by omega) (by rw [hz2]; omega))
      obtain ⟨q1, q2⟩ := grown_row W hB (old := c) h.len (news := [v0, v1, v2, v3]) (m := 1) rfl (by omega) (.agg #[.int .i64 0, .int .i64 0, .slice none 0 0, .slice none 0 0]) rfl
      exact ⟨_, _, _, hr, q1, q2 _, .inr rfl⟩
/-- append(l[:k:k], l[k+1:]...). -/
theorem run_delP {W : World} {B : Nat} {g off : Nat} {n c : Nat} {xs : List Value} (h : OwnP W B (some ⟨g, off, none⟩) n c xs) {k : Nat} (hk : k < n) {A : Addr} {c2 : Nat} (hA : k + 1 < n → A = ⟨g, (k + 1) * 4, none⟩) (hl : n ≤ 1000000) (hB : B ≤ W.heap.size) (ty : TypeId) :
    ∃ a' c' w', (Builtin.append_ #[25, 25] ty #[.slice (some ⟨g, off, none⟩) k k, .slice (some A) (n - (k + 1)) c2]).run Tryz.prog W = .ok (.slice a' (n - 1) c') w' ∧ OwnP w' B a' (n - 1) c' (xs.take (k * 4) ++ xs.drop ((k + 1) * 4)) ∧ W.grownBy w' none ∧ ((Value.slice a' (n - 1) c').ownBlock = some g ∨ (Value.slice a' (n - 1) c').ownBlock = some W.heap.size) := by
  obtain ⟨i0, hi0, hz0, hz1, hz2⟩ := info_parts9 infoFile
  have hcl := h.cells
  have hxl := h.len
  rcases h.row with ⟨h1', _⟩ | ⟨g', cur, h1', k2, k3, k4, k5, k6, k7, k8⟩
  · cases h1'
  simp only [Option.some.injEq, Addr.mk.injEq] at h1'
  obtain ⟨rfl, rfl, _⟩ := h1'
  have ho : ∀ j u, (xs.take (k * 4))[j]? = some u → W.cell? ((⟨g, 0, none⟩ : Addr).add j) = some u := fun j u hj => by
    rw [List.getElem?_take] at hj
    split at hj
    · exact hcl j u hj
    · cases hj
  have hol : (xs.take (k * 4)).length = k * 4 := by rw [List.length_take]; omega
  have hdl : (xs.drop ((k + 1) * 4)).length = (n - (k + 1)) * 4 := by rw [List.length_drop]; omega
  by_cases hm : k + 1 < n
  · have ha := hA hm
    subst ha
    have hn : ∀ j u, (xs.drop ((k + 1) * 4))[j]? = some u → W.cell? ((⟨g, (k + 1) * 4, none⟩ : Addr).add j) = some u := fun j u hj => by
      rw [List.getElem?_drop] at hj
      have := hcl _ u hj
      rw [Addr.add_lit, Nat.zero_add] at this
      rw [Addr.add_lit]
      exact this
    have hr := run_append_grow (P := Tryz.prog) W 25 ty 62 i0 _ Tryz.underlying25 hi0 hz0 ⟨g, 0, none⟩ k k (xs.take (k * 4)) (by rw [hz1]; exact hol) ho ⟨g, (k + 1) * 4, none⟩ (n - (k + 1)) c2 (xs.drop ((k + 1) * 4)) (by rw [hz1]; exact hdl) hn (by omega) (by omega) (growslice_fits (by omega) (by rw [hz2]; omega))
    obtain ⟨q1, q2⟩ := grown_row W hB (old := k) hol hdl (by omega) (.agg #[.int .i64 0, .int .i64 0, .slice none 0 0, .slice none 0 0]) rfl
    have e : k + (n - (k + 1)) = n - 1 := by omega
    rw [e] at hr q1 q2
    exact ⟨_, _, _, hr, OwnP.of q1, q2 _, .inr rfl⟩
  · have e : n - (k + 1) = 0 := by omega
    have e2 : n - 1 = k := by omega
    have e3 : xs.drop ((k + 1) * 4) = [] := List.eq_nil_of_length_eq_zero (by rw [hdl, e])
    rw [e, e2, e3, List.append_nil]
    refine ⟨some ⟨g, 0, none⟩, k, W, ?_, ⟨hol, .inr ⟨g, cur, rfl, k2, k3, Nat.le_refl _, by omega, by omega, fun h => absurd h (Nat.lt_irrefl _), ?_⟩⟩, ⟨rfl, rfl, rfl, Nat.le_refl _, fun _ _ _ => rfl⟩, .inl rfl⟩
    · simp [Builtin.append_, run_underlying Tryz.underlying25, sizeOf, typeInfo, hi0, Builtin.lenOf, Builtin.firstCells, loadCells, loadCellsFrom, storeCells]
    · rw [← k8, List.take_take, Nat.min_eq_left (by omega)]
theorem flat4_take (xs : List Fx) (k : Nat) : (xs.flatMap encX).take (k * 4) = (xs.take k).flatMap encX := by
  induction k generalizing xs with
  | zero => simp
  | succ k ih =>
    cases xs with
    | nil => rfl
    | cons x xs => rw [List.flatMap_cons, List.take_succ_cons, List.flatMap_cons, ← ih xs, show (k + 1) * 4 = k * 4 + 1 + 1 + 1 + 1 from by omega]; rfl
theorem flat4_drop (xs : List Fx) (k : Nat) : (xs.flatMap encX).drop (k * 4) = (xs.drop k).flatMap encX := by
  induction k generalizing xs with
  | zero => simp
  | succ k ih =>
    cases xs with
    | nil => rfl
    | cons x xs => rw [List.flatMap_cons, List.drop_succ_cons, ← ih xs, show (k + 1) * 4 = k * 4 + 1 + 1 + 1 + 1 from by omega]; rfl
def Bys (f : Fl) : Prop := By f.least ∧ By f.most ∧ f.least.length ≤ 140737488355328 ∧ f.most.length ≤ 140737488355328
theorem eight_set (c0 c1 c2 : Value) (ad : Nat → Option Addr) (ln cp : Nat → Nat) {i : Nat} (h : i < 5) (a : Option Addr) (n c : Nat) : (#[c0, c1, c2, .slice (ad 0) (ln 0) (cp 0), .slice (ad 1) (ln 1) (cp 1), .slice (ad 2) (ln 2) (cp 2), .slice (ad 3) (ln 3) (cp 3), .slice (ad 4) (ln 4) (cp 4)] : Array Value).setIfInBounds (3 + i) (.slice a n c) = #[c0, c1, c2, .slice ((upA ad i a) 0) ((upA ln i n) 0) ((upA cp i c) 0), .slice ((upA ad i a) 1) ((upA ln i n) 1) ((upA cp i c) 1), .slice ((upA ad i a) 2) ((upA ln i n) 2) ((upA cp i c) 2), .slice ((upA ad i a) 3) ((upA ln i n) 3) ((upA cp i c) 3), .slice ((upA ad i a) 4) ((upA ln i n) 4) ((upA cp i c) 4)] := by
  rcases (show i = 0 ∨ i = 1 ∨ i = 2 ∨ i = 3 ∨ i = 4 from by omega) with rfl | rfl | rfl | rfl | rfl <;> rfl
/-- A version of the call's own: its lists, its tables' keys. -/
structure LvV (wb W : World) (K : Nat) (a b c : Int) (X : Nat → List Fx) (ad : Nat → Option Addr) (ln cp : Nat → Nat) : Prop where
  blk : W.heap[K]? = some (.cells #[.int .i64 a, .int .i64 b, .int .u64 c, .slice (ad 0) (ln 0) (cp 0), .slice (ad 1) (ln 1) (cp 1), .slice (ad 2) (ln 2) (cp 2), .slice (ad 3) (ln 3) (cp 3), .slice (ad 4) (ln 4) (cp 4)] 28 (0, 0))
  len : ∀ i, i < 5 → ln i = (X i).length
  own : ∀ i, i < 5 → OwnP W wb.heap.size (ad i) (ln i) (cp i) ((X i).flatMap encX)
  apart : ∀ i j, i < 5 → j < 5 → i ≠ j → ∀ g, (Value.slice (ad i) (ln i) (cp i)).ownBlock = some g → (Value.slice (ad j) (ln j) (cp j)).ownBlock ≠ some g
  fr : Fr [] wb W
  ge : wb.heap.size ≤ K
  xo : ∀ i, i < 5 → ∀ x ∈ X i, XO wb.heap.size W x.f x.la x.lc x.ma x.mc
  bys : ∀ i, i < 5 → ∀ x ∈ X i, Bys x.f
theorem LvV.fr' {wb W W' : World} {K : Nat} {a b c : Int} {X : Nat → List Fx} {ad : Nat → Option Addr} {ln cp : Nat → Nat} (h : LvV wb W K a b c X ad ln cp) (f : Fr [] W W') : LvV wb W' K a b c X ad ln cp :=
  ⟨f.at h.blk (by simp), h.len, fun i hi => (h.own i hi).fr f, h.apart, h.fr.trans f, h.ge, fun i hi x hx => (h.xo i hi x hx).fr f, h.bys⟩
theorem LvV.cell {wb W : World} {K : Nat} {a b c : Int} {X : Nat → List Fx} {ad : Nat → Option Addr} {ln cp : Nat → Nat} (h : LvV wb W K a b c X ad ln cp) {i : Nat} (hi : i < 5) : W.cell? ⟨K, 3 + i, none⟩ = some (.slice (ad i) (ln i) (cp i)) := vn_cell h.blk hi
theorem LvV.place {wb W : World} {K : Nat} {a b c : Int} {X : Nat → List Fx} {ad : Nat → Option Addr} {ln cp : Nat → Nat} (h : LvV wb W K a b c X ad ln cp) {i : Nat} (hi : i < 5) (h0 : 0 < ln i) : ∃ g off, ad i = some ⟨g, off, none⟩ ∧ off = 0 := by
  rcases (h.own i hi).row with ⟨_, h2, _⟩ | ⟨g, cur, h1, _⟩
  · omega
  · exact ⟨g, 0, h1, rfl⟩
theorem LvV.nil {wb W : World} {K : Nat} {a b c : Int} {X : Nat → List Fx} {ad : Nat → Option Addr} {ln cp : Nat → Nat} (h : LvV wb W K a b c X ad ln cp) : ∀ i, i < 5 → ad i = none → ln i = 0 ∧ cp i = 0 := by
  intro i hi e
  rcases (h.own i hi).row with ⟨_, h2, h3⟩ | ⟨g, cur, h1, _⟩
  · exact ⟨h2, h3⟩
  · rw [e] at h1; cases h1
/-- A list of it is another one. -/
theorem LvV.upd {wb W W' : World} {K : Nat} {a b c : Int} {X : Nat → List Fx} {ad : Nat → Option Addr} {ln cp : Nat → Nat} (h : LvV wb W K a b c X ad ln cp) {i : Nat} (hi : i < 5) {ys : List Fx} {a' : Option Addr} {n' c' : Nat} (hn : n' = ys.length) (o : OwnP W' wb.heap.size a' n' c' (ys.flatMap encX)) (fw : Fr [] wb W')
    (sb : ∀ k, k < W.heap.size → (Value.slice (ad i) (ln i) (cp i)).ownBlock ≠ some k → W'.heap[k]? = W.heap[k]?) (q : (Value.slice a' n' c').ownBlock = (Value.slice (ad i) (ln i) (cp i)).ownBlock ∨ ∃ k, (Value.slice a' n' c').ownBlock = some k ∧ W.heap.size ≤ k)
    (hx : ∀ x ∈ ys, x ∈ X i ∨ (XO wb.heap.size W' x.f x.la x.lc x.ma x.mc ∧ Bys x.f)) :
    W'.heap[K]? = some (.cells #[.int .i64 a, .int .i64 b, .int .u64 c, .slice (ad 0) (ln 0) (cp 0), .slice (ad 1) (ln 1) (cp 1), .slice (ad 2) (ln 2) (cp 2), .slice (ad 3) (ln 3) (cp 3), .slice (ad 4) (ln 4) (cp 4)] 28 (0, 0)) ∧ LvV wb (W'.setCell ⟨K, 3 + i, none⟩ (.slice a' n' c')) K a b c (upA X i ys) (upA ad i a') (upA ln i n') (upA cp i c') := by
  have hK : W'.heap[K]? = some (.cells #[.int .i64 a, .int .i64 b, .int .u64 c, .slice (ad 0) (ln 0) (cp 0), .slice (ad 1) (ln 1) (cp 1), .slice (ad 2) (ln 2) (cp 2), .slice (ad 3) (ln 3) (cp 3), .slice (ad 4) (ln 4) (cp 4)] 28 (0, 0)) := by
    rw [sb K (blk_lt h.blk) ((h.own i hi).not h.blk (by decide))]; exact h.blk
  have hge := h.ge
  have sx : ∀ k, k ≠ K → (W'.setCell ⟨K, 3 + i, none⟩ (.slice a' n' c')).heap[k]? = W'.heap[k]? := fun k hk => blk_setne _ _ _ hk
  have sO : ∀ {a2 : Option Addr} {n2 c2 : Nat} {xs : List Value}, OwnP W' wb.heap.size a2 n2 c2 xs → OwnP (W'.setCell ⟨K, 3 + i, none⟩ (.slice a' n' c')) wb.heap.size a2 n2 c2 xs := fun {a2 n2 c2 xs} oo => oo.block fun k hk => sx k (fun e => by subst e; exact oo.not hK (by decide) hk)
  have sX : ∀ {f : Fl} {la ma : Option Addr} {lc mc : Nat}, XO wb.heap.size W' f la lc ma mc → XO wb.heap.size (W'.setCell ⟨K, 3 + i, none⟩ (.slice a' n' c')) f la lc ma mc := fun {f la ma lc mc} xo => xo.setO hK (by decide) _ _
  have rowW : ∀ {v : Value} {n : Nat} {xs : List Value}, W.ownsRow wb.heap.size 5 1 v n xs → W'.ownsRow wb.heap.size 5 1 v n xs := fun {v n xs} oo => ownsRow_of_block oo fun k hk => by
    rcases oo.2 with ⟨h1, _⟩ | ⟨g', cap, cur, h1, _, h3, _⟩
    · rw [h1] at hk; simp [Value.ownBlock] at hk
    · rw [h1] at hk
      simp [Value.ownBlock] at hk
      subst hk
      exact sb _ (blk_lt h3) ((h.own i hi).not h3 (by decide))
  refine ⟨hK, ?_, ?_, ?_, ?_, fw.set _ _ (.inr hge), hge, ?_, ?_⟩
  · rw [blk_set hK, eight_set _ _ _ _ _ _ hi]
  · intro k hk
    by_cases e : k = i
    · subst e; rw [upA_same, upA_same, hn]
    · rw [upA_ne _ _ e, upA_ne _ _ e]; exact h.len k hk
  · intro k hk
    by_cases e : k = i
    · subst e; rw [upA_same, upA_same, upA_same, upA_same]; exact sO o
    · rw [upA_ne _ _ e, upA_ne _ _ e, upA_ne _ _ e, upA_ne _ _ e]
      exact sO ((h.own k hk).block fun b hb => sb b ((h.own k hk).lt hb).1 (fun e2 => h.apart i k hi hk (fun e3 => e e3.symm) b e2 hb))
  · intro j k hj hk hjk b hb
    by_cases e1 : j = i
    · subst e1
      rw [upA_same, upA_same, upA_same] at hb
      rw [upA_ne _ _ (Ne.symm hjk), upA_ne _ _ (Ne.symm hjk), upA_ne _ _ (Ne.symm hjk)]
      rcases q with q | ⟨m, q, qm⟩
      · exact h.apart j k hj hk hjk b (q ▸ hb)
      · rw [q] at hb
        cases hb
        intro e3
        have := ((h.own k hk).lt e3).1
        omega
    · rw [upA_ne _ _ e1, upA_ne _ _ e1, upA_ne _ _ e1] at hb
      by_cases e2 : k = i
      · subst e2
        rw [upA_same, upA_same, upA_same]
        rcases q with q | ⟨m, q, qm⟩
        · rw [q]
          exact h.apart j k hj hk hjk b hb
        · rw [q]
          intro e3
          cases e3
          have := ((h.own j hj).lt hb).1
          omega
      · rw [upA_ne _ _ e2, upA_ne _ _ e2, upA_ne _ _ e2]
        exact h.apart j k hj hk hjk b hb
  · intro k hk x hxm
    by_cases e : k = i
    · subst e
      rw [upA_same] at hxm
      rcases hx x hxm with h1 | ⟨h1, _⟩
      · exact sX ⟨rowW (h.xo k hk x h1).ol, rowW (h.xo k hk x h1).om⟩
      · exact sX h1
    · rw [upA_ne _ _ e] at hxm
      exact sX ⟨rowW (h.xo k hk x hxm).ol, rowW (h.xo k hk x hxm).om⟩
  · intro k hk x hxm
    by_cases e : k = i
    · subst e
      rw [upA_same] at hxm
      rcases hx x hxm with h1 | ⟨_, h1⟩
      · exact h.bys k hk x h1
      · exact h1
    · rw [upA_ne _ _ e] at hxm
      exact h.bys k hk x hxm
theorem LvV.at4 {wb W : World} {K : Nat} {a b c : Int} {X : Nat → List Fx} {ad : Nat → Option Addr} {ln cp : Nat → Nat} (h : LvV wb W K a b c X ad ln cp) {i j g off : Nat} (hi : i < 5) (h0 : off = 0) (ha : ad i = some ⟨g, off, none⟩) {x : Fx} (hj : (X i)[j]? = some x) :
    FAt W g (off + j * 4) x.f x.la x.lc x.ma x.mc := by
  subst h0
  have o := h.own i hi
  rw [ha] at o
  have hjl := (List.getElem?_eq_some_iff.1 hj).1
  have cell : ∀ c, c < 4 → W.cell? ⟨g, 0 + j * 4 + c, none⟩ = (encX x)[c]? := fun c hc => by
    have e2 := flat4_at (X i) (j * 4 + c) x (by rw [show (j * 4 + c) / 4 = j from by omega]; exact hj)
    rw [show (j * 4 + c) % 4 = c from by omega] at e2
    have e3 : (encX x)[c]? = some ((encX x)[c]'hc) := List.getElem?_eq_getElem hc
    rw [e3] at e2 ⊢
    have := o.cells _ _ e2
    rw [Addr.add_lit, Nat.zero_add] at this
    rw [show 0 + j * 4 + c = j * 4 + c from by omega]
    exact this
  have hm := List.mem_of_getElem? hj
  obtain ⟨b1, b2, b3, b4⟩ := h.bys i hi x hm
  exact ⟨by have := cell 0 (by omega); simpa [encX] using this, by have := cell 1 (by omega); simpa [encX] using this, by have := cell 2 (by omega); simpa [encX] using this, by have := cell 3 (by omega); simpa [encX] using this, (h.xo i hi x hm).frd b1 b2 b3 b4⟩
theorem LvV.vat {wb W : World} {K : Nat} {a b c : Int} {X : Nat → List Fx} {ad : Nat → Option Addr} {ln cp : Nat → Nat} (h : LvV wb W K a b c X ad ln cp) {U : Nat → List Fl} (hU : ∀ i, i < 5 → (X i).map Fx.f = U i) (hl : ∀ i, i < 5 → ln i ≤ 1000000) : VAt W U ad ln cp := by
  refine ⟨fun i hi => by rw [h.len i hi, ← hU i hi, List.length_map], fun i hi => by have := hl i hi; omega, fun i hi h0 => ?_⟩
  obtain ⟨g, off, e, h00⟩ := h.place hi h0
  refine ⟨g, off, e, fun j f hj => ?_⟩
  obtain ⟨x, hx, rfl⟩ := map_at (hU i hi) hj
  exact ⟨x.la, x.lc, x.ma, x.mc, h.at4 hi h00 e hx⟩
end Go.Proofs.YtegbngbhmgbocaaGreatDoor
namespace Go.Proofs.YtegbngbhmgbocaaGreatDoor
open Go.ChangeShapes Go.WideShapes Go.ChangeAt Go.RowKit

theorem set4 (C R : List Value) (x0 x1 x2 x3 a b c d : Value) : ((((C ++ x0 :: x1 :: x2 :: x3 :: R).set C.length a).set (C.length + 1) b).set (C.length + 2) c).set (C.length + 3) d = C ++ a :: b :: c :: d :: R := by
  induction C with
  | nil => rfl
  | cons y C ih => simp only [List.cons_append, List.length_cons, List.set_cons_succ, Nat.add_right_comm _ 1, ih]
/-- The row behind the copy. -/
def cur4 (cur : Array Value) (n p : Nat) : Array Value := (cur.toList.take ((p + 1) * 4) ++ (cur.toList.drop (p * 4)).take ((n - p) * 4) ++ cur.toList.drop ((p + 1) * 4 + (n - p) * 4)).toArray
theorem cur4_eq {cur : Array Value} {cs z : List Value} {n p : Nat} (hcs : cs.length = n * 4) (hz : z.length = 4) (ht : cur.toList.take ((n + 1) * 4) = cs ++ z) (hp : p ≤ n) :
    ∃ x0 x1 x2 x3, (cur4 cur n p).toList = cs.take (p * 4) ++ x0 :: x1 :: x2 :: x3 :: (cs.drop (p * 4) ++ cur.toList.drop ((n + 1) * 4)) := by
  have hsplit : cur.toList = cs.take (p * 4) ++ (cs.drop (p * 4) ++ z) ++ cur.toList.drop ((n + 1) * 4) := by
    rw [← List.append_assoc, List.take_append_drop, ← ht, List.take_append_drop]
  have hC : (cs.take (p * 4)).length = p * 4 := by rw [List.length_take]; omega
  have hD : (cs.drop (p * 4)).length = (n - p) * 4 := by rw [List.length_drop]; omega
  generalize hr : cur.toList.drop ((n + 1) * 4) = R at hsplit
  generalize cs.take (p * 4) = C at *
  generalize cs.drop (p * 4) = D at *
  obtain ⟨X, X', hX, hXl⟩ : ∃ X X', D ++ z = X ++ X' ∧ X.length = 4 := ⟨(D ++ z).take 4, (D ++ z).drop 4, (List.take_append_drop _ _).symm, by rw [List.length_take, List.length_append]; omega⟩
  match X, hXl with
  | [x0, x1, x2, x3], _ =>
    refine ⟨x0, x1, x2, x3, ?_⟩
    have h1 : cur.toList.take ((p + 1) * 4) = C ++ [x0, x1, x2, x3] := by
      rw [hsplit, hX, show C ++ ([x0, x1, x2, x3] ++ X') ++ R = (C ++ [x0, x1, x2, x3]) ++ (X' ++ R) from by simp, List.take_left' (by rw [List.length_append, hC]; simp; omega)]
    have h2 : (cur.toList.drop (p * 4)).take ((n - p) * 4) = D := by
      rw [hsplit, List.append_assoc, List.drop_left' hC, List.append_assoc, List.take_left' hD]
    have h3 : cur.toList.drop ((p + 1) * 4 + (n - p) * 4) = R := by
      rw [show (p + 1) * 4 + (n - p) * 4 = (n + 1) * 4 from by omega]; exact hr
    unfold cur4
    rw [h1, h2, h3]
    simp
theorem ins_row4 {cur : Array Value} {cs z : List Value} {n p cap : Nat} (hcs : cs.length = n * 4) (hz : z.length = 4) (ht : cur.toList.take ((n + 1) * 4) = cs ++ z) (hp : p ≤ n) (hsz : cur.size = cap * 4) (hcap : n + 1 ≤ cap) (a b c d : Value) :
    ((((((cur4 cur n p).setIfInBounds (p * 4) a).setIfInBounds (p * 4 + 1) b).setIfInBounds (p * 4 + 2) c).setIfInBounds (p * 4 + 3) d).size = cap * 4) ∧ (((((cur4 cur n p).setIfInBounds (p * 4) a).setIfInBounds (p * 4 + 1) b).setIfInBounds (p * 4 + 2) c).setIfInBounds (p * 4 + 3) d).toList.take ((n + 1) * 4) = cs.take (p * 4) ++ [a, b, c, d] ++ cs.drop (p * 4) := by
  obtain ⟨x0, x1, x2, x3, h1⟩ := cur4_eq hcs hz ht hp
  have hC : (cs.take (p * 4)).length = p * 4 := by rw [List.length_take]; omega
  have hD : (cs.drop (p * 4)).length = (n - p) * 4 := by rw [List.length_drop]; omega
  have hR : (cur.toList.drop ((n + 1) * 4)).length = cap * 4 - (n + 1) * 4 := by rw [List.length_drop, Array.length_toList, hsz]
  constructor
  · rw [Array.size_setIfInBounds, Array.size_setIfInBounds, Array.size_setIfInBounds, Array.size_setIfInBounds, ← Array.length_toList, h1, List.length_append, List.length_cons, List.length_cons, List.length_cons, List.length_cons, List.length_append, hC, hD, hR]
    omega
  · rw [Array.toList_setIfInBounds, Array.toList_setIfInBounds, Array.toList_setIfInBounds, Array.toList_setIfInBounds, h1]
    have h2 := set4 (cs.take (p * 4)) (cs.drop (p * 4) ++ cur.toList.drop ((n + 1) * 4)) x0 x1 x2 x3 a b c d
    rw [hC] at h2
    rw [h2, show cs.take (p * 4) ++ a :: b :: c :: d :: (cs.drop (p * 4) ++ cur.toList.drop ((n + 1) * 4)) = (cs.take (p * 4) ++ [a, b, c, d] ++ cs.drop (p * 4)) ++ cur.toList.drop ((n + 1) * 4) from by simp]
    rw [List.take_left']
    rw [List.length_append, List.length_append, hC, hD]; simp; omega
/-- copy(l[p+1:], l[p:]). -/
theorem copy4 {w : World} {g n p c1 c2 : Nat} {cur : Array Value} {T : TypeId} (hg : w.heap[g]? = some (.cells cur T (0, 0))) (hsz : (n + 1) * 4 ≤ cur.size) (ha : p ≤ n) (A : Addr) (hA : p < n → A = ⟨g, (p + 1) * 4, none⟩) (h1 : ∀ x ∈ cur.toList.take ((n + 1) * 4), x.oneCell' = true) :
    ∀ ty, (Builtin.copy_ #[25, 25] ty #[.slice (some A) (n - p) c1, .slice (some ⟨g, p * 4, none⟩) (n + 1 - p) c2]).run Tryz.prog w = .ok (goInt ((n - p) : Nat)) (w.setRow g (cur4 cur n p)) := by
  intro ty
  obtain ⟨i0, hi, hz0, hz1, hz2⟩ := info_parts9 infoFile
  have hmin : Nat.min (n + 1 - p) (n - p) = n - p := Nat.min_eq_right (by omega)
  unfold cur4
  by_cases hlt : p < n
  · rw [hA hlt]
    obtain ⟨cs, hcs⟩ : ∃ cs, cs = (cur.toList.drop (p * 4)).take ((n - p) * 4) := ⟨_, rfl⟩
    have hcl : cs.length = (n - p) * 4 := by rw [hcs, List.length_take, List.length_drop, Array.length_toList]; omega
    have hsrc : ∀ j v, cs[j]? = some v → w.cell? ((⟨g, p * 4, none⟩ : Addr).add j) = some v := fun j v hj => by
      rw [Addr.add_lit, blk_cell hg, ← Array.getElem?_toList]
      rw [hcs, List.getElem?_take] at hj
      split at hj
      · rw [List.getElem?_drop] at hj; exact hj
      · cases hj
    have h1' : ∀ v ∈ cs, v.oneCell' = true := fun v hv => by
      obtain ⟨j, hj⟩ := List.getElem?_of_mem hv
      have hjl := (List.getElem?_eq_some_iff.1 hj).1
      rw [hcs, List.getElem?_take] at hj
      split at hj
      · rw [List.getElem?_drop] at hj
        refine h1 v (List.mem_of_getElem? (i := p * 4 + j) ?_)
        rw [List.getElem?_take, if_pos (by omega)]; exact hj
      · cases hj
    have hl := run_loadCells_list (P := Tryz.prog) w ⟨g, p * 4, none⟩ cs hsrc
    have hst := run_storeCells_at Tryz.prog g ((p + 1) * 4) T cs 0 cur w hg (by omega) h1'
    rw [← hcs]
    rw [hcl] at hl
    rw [Nat.add_zero, hcl] at hst
    simp [Builtin.copy_, run_underlying Tryz.underlying25, Builtin.lenOf, Builtin.firstCells, sizeOf, typeInfo, hi, hz1, hmin, hl, hst]
  · have he : n - p = 0 := by omega
    have hz : (cur.toList.take ((p + 1) * 4) ++ (cur.toList.drop (p * 4)).take ((n - p) * 4) ++ cur.toList.drop ((p + 1) * 4 + (n - p) * 4)).toArray = cur := by
      rw [he]; simp
    rw [hz, setRow_self w g cur T (0, 0) hg, he]
    have hl0 : (loadCells ⟨g, p * 4, none⟩ 0).run Tryz.prog w = .ok #[] w := run_loadCells_list (P := Tryz.prog) w ⟨g, p * 4, none⟩ [] (fun j v h => by simp at h)
    simp [Builtin.copy_, run_underlying Tryz.underlying25, Builtin.lenOf, Builtin.firstCells, sizeOf, typeInfo, hi, hl0, storeCells]
theorem step_copyF {ops : Array Oper} {o : Oper} {a : Act} {w w' : World} {K : Act → World → Prop} {Q : Exit → Act → World → Prop} {E : Prop} {vs vx v' : Value} (hg : o.guard = none) (s x : Operand) (hop : o.op = Op.call { callee := Callee.builtin Builtin.copy, args := #[s, x], argTypes := #[25, 25] }) (hs : a.eval s = vs) (hx : a.eval x = vx)
    (hrun : ∀ ty, (Builtin.copy_ #[25, 25] ty #[vs, vx]).run Tryz.prog w = .ok v' w') (hK : K (a.put o.dst v') w') :
    if Region.wanted o (yielded ops a.tmps) = true then Oper.wp Tryz.prog o a w K Q else E := by
  have hw : Region.wanted o (yielded ops a.tmps) = true := by simp [Region.wanted, hg]
  rw [if_pos hw]
  unfold Oper.wp
  simp [execOp, hop, resolve, invoke, builtin, hs, hx, hrun, Result.andThen]
  exact hK
/-- append at an operation within a region that draws. -/
theorem step_appR {ops : Array Oper} {o : Oper} {a : Act} {w : World} {K : Act → World → Prop} {Q : Exit → Act → World → Prop} {E : Prop} {vs vx v' : Value} {w' : World} (hg : o.guard = none) (s x : Operand) (hop : o.op = Op.call { callee := Callee.builtin Builtin.append, args := #[s, x], argTypes := #[25, 25] }) (hs : a.eval s = vs) (hx : a.eval x = vx)
    (hrun : (Builtin.append_ #[25, 25] o.type #[vs, vx]).run Tryz.prog w = .ok v' w') (hK : K (a.put o.dst v') w') :
    if Region.wanted o (yielded ops a.tmps) = true then Oper.wp Tryz.prog o a w K Q else E := by
  have hw : Region.wanted o (yielded ops a.tmps) = true := by simp [Region.wanted, hg]
  rw [if_pos hw]
  unfold Oper.wp
  simp [execOp, hop, resolve, invoke, builtin, hs, hx, hrun, Result.andThen]
  exact hK
theorem wpList_appR {w w' : World} {ops : Array Oper} {rest : List Oper} {o : Oper} {a : Act} {Q : Exit → Act → World → Prop} {vs vx v' : Value} (hgd : o.guard = none) (s x : Operand) (ho : o.op = .call { callee := .builtin .append, args := #[s, x], argTypes := #[25, 25] }) (hs : a.eval s = vs) (hx : a.eval x = vx)
    (hrun : (Builtin.append_ #[25, 25] o.type #[vs, vx]).run Tryz.prog w = .ok v' w') (h : wpList Tryz.prog ops Q rest (a.put o.dst v') w') : wpList Tryz.prog ops Q (o :: rest) a w := by
  refine wpList_plain hgd fun K hK => ?_
  unfold Oper.wp execOp
  simp only [ho, resolve, invoke, builtin, Sem.run_bind, Sem.run_pure, Result.andThen_ok, List.map_toArray, List.map_cons, List.map_nil, hs, hx, hrun]
  exact hK _ _ h
theorem Fr.row4 {S : List Nat} {a b : World} (h : Fr S a b) {p : Nat} (c : Array Value) (hp : p ∈ S ∨ a.heap.size ≤ p) : Fr S a (b.setRow p c) :=
  ⟨h.os, h.tape, h.output, by simpa using h.size, fun k hk hn => by
    rw [setRow_other b p k c (fun e => by subst e; rcases hp with hp | hp; exact hn hp; omega)]
    exact h.block k hk hn⟩
/-- The row behind append, copy and store. -/
theorem ins_own {W2 : World} {B g n p cap : Nat} {cur : Array Value} {ys : List Fx} {z : List Value} {x : Fx} (hB : B ≤ g) (hy : ys.length = n) (hz : z.length = 4) (ht : cur.toList.take ((n + 1) * 4) = ys.flatMap encX ++ z) (hp : p ≤ n) (hsz : cur.size = cap * 4) (hcap : n + 1 ≤ cap) (hm : cap ≤ maxLen) (h2 : W2.heap[g]? = some (.cells (cur4 cur n p) 62 (0, 0))) :
    ((((W2.setCell ⟨g, p * 4, none⟩ (.int .i64 x.f.num)).setCell ⟨g, p * 4 + 1, none⟩ (.int .i64 x.f.size)).setCell ⟨g, p * 4 + 2, none⟩ (.slice x.la x.f.least.length x.lc)).setCell ⟨g, p * 4 + 3, none⟩ (.slice x.ma x.f.most.length x.mc)).ownsRow B 62 4 (.slice (some ⟨g, 0, none⟩) (n + 1) cap) (n + 1) ((ys.take p ++ x :: ys.drop p).flatMap encX) := by
  obtain ⟨q1, q2⟩ := ins_row4 (cs := ys.flatMap encX) (by rw [flat4_len, hy]) hz ht hp hsz hcap (.int .i64 x.f.num) (.int .i64 x.f.size) (.slice x.la x.f.least.length x.lc) (.slice x.ma x.f.most.length x.mc)
  refine ⟨?_, .inr ⟨g, cap, _, rfl, hB, blk_set (blk_set (blk_set (blk_set h2 _ _) _ _) _ _) _ _, hcap, hm, q1, ?_⟩⟩
  · rw [flat4_len, List.length_append, List.length_cons, List.length_take, List.length_drop]; omega
  · rw [q2, flat4_take, flat4_drop, List.flatMap_append, List.flatMap_cons, List.append_assoc]
    rfl
end Go.Proofs.YtegbngbhmgbocaaGreatDoor
