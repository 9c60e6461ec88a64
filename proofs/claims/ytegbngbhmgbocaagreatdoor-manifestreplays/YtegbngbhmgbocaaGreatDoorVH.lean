/-
  Five lists of tables of the call's own.
-/
import Derived.Test.YtegbngbhmgbocaaGreatDoorJ17
import Derived.Test.YtegbngbhmgbocaaGreatDoorJ11
import Derived.Test.YtegbngbhmgbocaaGreatDoorDM4
namespace Go.Proofs.YtegbngbhmgbocaaGreatDoor
open Go.ChangeShapes Go.WideShapes Go.ChangeAt Go.RowKit

def upA {α : Type} (f : Nat → α) (i : Nat) (a : α) : Nat → α := fun k => if k = i then a else f k
theorem upA_same {α : Type} (f : Nat → α) (i : Nat) (a : α) : upA f i a i = a := if_pos rfl
theorem upA_ne {α : Type} (f : Nat → α) {i k : Nat} (a : α) (h : k ≠ i) : upA f i a k = f k := if_neg h
/-- Five lists. -/
def five (ad : Nat → Option Addr) (ln cp : Nat → Nat) : Array Value := #[.slice (ad 0) (ln 0) (cp 0), .slice (ad 1) (ln 1) (cp 1), .slice (ad 2) (ln 2) (cp 2), .slice (ad 3) (ln 3) (cp 3), .slice (ad 4) (ln 4) (cp 4)]
theorem five_at (ad : Nat → Option Addr) (ln cp : Nat → Nat) {i : Nat} (h : i < 5) : (five ad ln cp)[i]? = some (.slice (ad i) (ln i) (cp i)) := by
  rcases (show i = 0 ∨ i = 1 ∨ i = 2 ∨ i = 3 ∨ i = 4 from by omega) with rfl | rfl | rfl | rfl | rfl <;> rfl
theorem five_set (ad : Nat → Option Addr) (ln cp : Nat → Nat) {i : Nat} (h : i < 5) (a : Option Addr) (n c : Nat) : (five ad ln cp).setIfInBounds i (.slice a n c) = five (upA ad i a) (upA ln i n) (upA cp i c) := by
  rcases (show i = 0 ∨ i = 1 ∨ i = 2 ∨ i = 3 ∨ i = 4 from by omega) with rfl | rfl | rfl | rfl | rfl <;> rfl
theorem infoFile : (Tryz.prog.info? 62).map (fun i => (i.zero, i.size, i.bytes)) = some (some (.agg #[.int .i64 0, .int .i64 0, .slice none 0 0, .slice none 0 0]), 4, 64) := by kernel_rfl
theorem step_buildF {ops : Array Oper} {o : Oper} {a : Act} {w : World} {K : Act → World → Prop} {Q : Exit → Act → World → Prop} {E : Prop} (hg : o.guard = none) (y : Operand) (hop : o.op = Op.buildSlice 25 1 #[(0, y)]) {x : Fx} (hx : a.eval y = .agg #[.int .i64 x.f.num, .int .i64 x.f.size, .slice x.la x.f.least.length x.lc, .slice x.ma x.f.most.length x.mc])
    (hK : K (a.put o.dst (.slice (some ⟨w.heap.size, 0, none⟩) 1 1)) (w.alloc (.cells #[.int .i64 x.f.num, .int .i64 x.f.size, .slice x.la x.f.least.length x.lc, .slice x.ma x.f.most.length x.mc] 62))) :
    if Region.wanted o (yielded ops a.tmps) = true then Oper.wp Tryz.prog o a w K Q else E := by
  have hw : Region.wanted o (yielded ops a.tmps) = true := by simp [Region.wanted, hg]
  rw [if_pos hw]
  unfold Oper.wp
  simp [execOp, hop, hx]
  go_simp
  exact hK
theorem step_appF {ops : Array Oper} {o : Oper} {a : Act} {w : World} {K : Act → World → Prop} {Q : Exit → Act → World → Prop} {E : Prop} (hg : o.guard = none) (s y : Operand) (hop : o.op = Op.call { callee := Callee.builtin Builtin.append, args := #[s, y], argTypes := #[25, 25] }) (base : Nat) {ad : Option Addr} {n c : Nat} {xs : List Value} (hs : a.eval s = .slice ad n c) (hown : w.ownsRow base 62 4 (.slice ad n c) n xs) {G : Nat} (hx : a.eval y = .slice (some ⟨G, 0, none⟩) 1 1) {x : Fx} (hG : w.heap[G]? = some (.cells #[.int .i64 x.f.num, .int .i64 x.f.size, .slice x.la x.f.least.length x.lc, .slice x.ma x.f.most.length x.mc] 62 (0, 0)))
    (hl : n ≤ 1000000) (hbase : base ≤ w.heap.size)
    (hK : ∀ a' c' w', w'.ownsRow base 62 4 (.slice a' (n + 1) c') (n + 1) (xs ++ encX x) → w.grownBy w' (Value.slice ad n c).ownBlock → ((Value.slice a' (n + 1) c').ownBlock = (Value.slice ad n c).ownBlock ∨ (Value.slice a' (n + 1) c').ownBlock = some w.heap.size) → K (a.put o.dst (.slice a' (n + 1) c')) w') :
    if Region.wanted o (yielded ops a.tmps) = true then Oper.wp Tryz.prog o a w K Q else E := by
  obtain ⟨i0, hi0, hz0, hz1, hz2⟩ := info_parts9 infoFile
  refine step_append_own hg s y 25 hop base 62 i0 _ 4 64 Tryz.underlying25 hi0 hz0 hz1 hz2 rfl (by decide) _ n xs hs hown ⟨G, 0, none⟩ 1 1 (encX x) hx rfl (fun j u hj => by rw [Addr.add_lit, Nat.zero_add, blk_cell hG, ← Array.getElem?_toList]; exact hj) (encX_one x) (by unfold maxLen; omega) (by omega) hbase (fun v' w' o' g' q' => ?_)
  obtain ⟨a', c', rfl, _⟩ := ownsRow_slice o'
  exact hK a' c' w' o' g' q'
/-- Five lists of the call's own, in a block. -/
structure LvS (wb W : World) (K : Nat) (X : Nat → List Fx) (ad : Nat → Option Addr) (ln cp : Nat → Nat) : Prop where
  blk : W.heap[K]? = some (.cells (five ad ln cp) 26 (0, 0))
  len : ∀ i, i < 5 → ln i = (X i).length
  own : ∀ i, i < 5 → W.ownsRow wb.heap.size 62 4 (.slice (ad i) (ln i) (cp i)) (X i).length ((X i).flatMap encX)
  apart : ∀ i j, i < 5 → j < 5 → i ≠ j → ∀ g, (Value.slice (ad i) (ln i) (cp i)).ownBlock = some g → (Value.slice (ad j) (ln j) (cp j)).ownBlock ≠ some g
  fr : Fr [] wb W
  ge : wb.heap.size ≤ K
theorem LvS.fr' {wb W W' : World} {K : Nat} {X : Nat → List Fx} {ad : Nat → Option Addr} {ln cp : Nat → Nat} (h : LvS wb W K X ad ln cp) (f : Fr [] W W') : LvS wb W' K X ad ln cp :=
  ⟨f.at h.blk (by simp), h.len, fun i hi => ownsRow_fr (h.own i hi) f, h.apart, h.fr.trans f, h.ge⟩
theorem LvS.cell {wb W : World} {K : Nat} {X : Nat → List Fx} {ad : Nat → Option Addr} {ln cp : Nat → Nat} (h : LvS wb W K X ad ln cp) {i : Nat} (hi : i < 5) : W.cell? ⟨K, i, none⟩ = some (.slice (ad i) (ln i) (cp i)) := by
  rw [blk_cell h.blk]; exact five_at _ _ _ hi
/-- A row's block is not another's. -/
theorem LvS.ne {wb W : World} {K : Nat} {X : Nat → List Fx} {ad : Nat → Option Addr} {ln cp : Nat → Nat} (h : LvS wb W K X ad ln cp) {i : Nat} (hi : i < 5) {k : Nat} (hk : W.heap.size ≤ k) : (Value.slice (ad i) (ln i) (cp i)).ownBlock ≠ some k := by
  intro e
  rcases (h.own i hi).2 with ⟨h1, _⟩ | ⟨g, cap, cur, h1, _, h3, _⟩
  · rw [h1] at e; simp [Value.ownBlock] at e
  · rw [h1] at e
    simp [Value.ownBlock] at e
    have := blk_lt h3
    omega
theorem LvS.app {wb W W' : World} {K : Nat} {X : Nat → List Fx} {ad : Nat → Option Addr} {ln cp : Nat → Nat} (h : LvS wb W K X ad ln cp) {i : Nat} (hi : i < 5) {x : Fx} {a' : Option Addr} {n' c' : Nat} (hn : n' = (X i).length + 1)
    (o : W'.ownsRow wb.heap.size 62 4 (.slice a' n' c') ((X i).length + 1) ((X i).flatMap encX ++ encX x)) (g : W.grownBy W' (Value.slice (ad i) (ln i) (cp i)).ownBlock) (q : (Value.slice a' n' c').ownBlock = (Value.slice (ad i) (ln i) (cp i)).ownBlock ∨ (Value.slice a' n' c').ownBlock = some W.heap.size) :
    LvS wb (W'.setCell ⟨K, i, none⟩ (.slice a' n' c')) K (upA X i (X i ++ [x])) (upA ad i a') (upA ln i n') (upA cp i c') := by
  have hK : W'.heap[K]? = some (.cells (five ad ln cp) 26 (0, 0)) := by
    rw [g.block K (blk_lt h.blk) (fun e => own_not (h.own i hi) h.blk (by decide) e.symm)]; exact h.blk
  have hge := h.ge
  have fw : Fr [] wb W' := h.fr.grown g (fun k e => by
    rcases (h.own i hi).2 with ⟨h1, _⟩ | ⟨g', cap, cur, h1, h2, h3, _⟩
    · rw [h1] at e; simp [Value.ownBlock] at e
    · rw [h1] at e; simp [Value.ownBlock] at e; subst e; exact .inr h2)
  have sb : ∀ k, k ≠ K → (W'.setCell ⟨K, i, none⟩ (.slice a' n' c')).heap[k]? = W'.heap[k]? := fun k hk => blk_setne _ _ _ hk
  have setO : ∀ {v : Value} {n : Nat} {xs : List Value}, W'.ownsRow wb.heap.size 62 4 v n xs → (W'.setCell ⟨K, i, none⟩ (.slice a' n' c')).ownsRow wb.heap.size 62 4 v n xs := fun {v n xs} oo => by
    refine ownsRow_of_block oo fun k hk => sb k ?_
    intro e
    subst e
    exact own_not oo hK (by decide) hk
  refine ⟨?_, ?_, ?_, ?_, fw.set _ _ (.inr hge), hge⟩
  · rw [blk_set hK, five_set _ _ _ hi]
  · intro k hk
    by_cases e : k = i
    · subst e; rw [upA_same, upA_same, hn]; simp
    · rw [upA_ne _ _ e, upA_ne _ _ e]; exact h.len k hk
  · intro k hk
    by_cases e : k = i
    · subst e
      rw [upA_same, upA_same, upA_same, upA_same, List.flatMap_append, List.length_append]
      refine setO ?_
      simpa using o
    · rw [upA_ne _ _ e, upA_ne _ _ e, upA_ne _ _ e, upA_ne _ _ e]
      refine setO (ownsRow_of_block (h.own k hk) fun b hb => ?_)
      refine g.block b ?_ (fun e2 => h.apart i k hi hk (fun e3 => e e3.symm) b e2.symm hb)
      rcases (h.own k hk).2 with ⟨h1, _⟩ | ⟨g', cap, cur, h1, h2, h3, _⟩
      · rw [h1] at hb; simp [Value.ownBlock] at hb
      · rw [h1] at hb; simp [Value.ownBlock] at hb; subst hb; exact blk_lt h3
  · intro j k hj hk hjk b hb
    by_cases e1 : j = i
    · subst e1
      rw [upA_same, upA_same, upA_same] at hb
      rw [upA_ne _ _ (Ne.symm hjk), upA_ne _ _ (Ne.symm hjk), upA_ne _ _ (Ne.symm hjk)]
      rcases q with q | q
      · exact h.apart j k hj hk hjk b (q ▸ hb)
      · rw [q] at hb
        cases hb
        exact h.ne hk (Nat.le_refl _)
    · rw [upA_ne _ _ e1, upA_ne _ _ e1, upA_ne _ _ e1] at hb
      by_cases e2 : k = i
      · subst e2
        rw [upA_same, upA_same, upA_same]
        rcases q with q | q
        · rw [q]
          exact h.apart j k hj hk hjk b hb
        · rw [q]
          intro e3
          cases e3
          exact h.ne hj (Nat.le_refl _) hb
      · rw [upA_ne _ _ e2, upA_ne _ _ e2, upA_ne _ _ e2]
        exact h.apart j k hj hk hjk b hb
end Go.Proofs.YtegbngbhmgbocaaGreatDoor
