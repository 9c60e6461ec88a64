/-
  Items in memory whose blocks lie between two bounds.
-/
import Derived.Test.YtbpnnchapfpamaaIt
namespace Go.Proofs.Ytbpnnchapfpamaa
open Go.ChangeShapes Go.WideShapes Go.ChangeAt Go.RowKit

/-- An item all of whose blocks lie from B on, ahead of E. -/
def IsF (w : World) (B E : Nat) : (n : Nat) → Value → Tr n → Prop
  | 0, v, _ => ∃ l a1 n1 c1 a2 n2 c2, v = .agg #[.bool l, .slice a1 n1 c1, .slice a2 n2 c2]
  | n + 1, v, t => ∃ bs ka kc, v = .agg #[.bool (tL t), bs, .slice ka (tK t).length kc] ∧ Rd w bs (bv (tB t)) ∧ (∀ k, bs.ownBlock = some k → B ≤ k ∧ k < E) ∧ By (tB t) ∧ (tB t).length ≤ 140737488355328 ∧ (tK t).length ≤ kc ∧ (tK t).length ≤ 140737488355328 ∧
      (0 < (tK t).length → ∃ kb ko, ka = some ⟨kb, ko, none⟩ ∧ B ≤ kb ∧ kb < E ∧ ∀ (j : Nat) (k : Tr n), (tK t)[j]? = some k → ∃ l bs' is', w.cell? ⟨kb, ko + j * 3, none⟩ = some (.bool l) ∧ w.cell? ⟨kb, ko + j * 3 + 1, none⟩ = some bs' ∧ w.cell? ⟨kb, ko + j * 3 + 2, none⟩ = some is' ∧ IsF w B E n (.agg #[.bool l, bs', is']) k)

theorem IsF.isV : ∀ {n : Nat} {w : World} {B E : Nat} {v : Value} {t : Tr n}, IsF w B E n v t → IsV w n v t
  | 0, _, _, _, _, _, h => h
  | n + 1, w, B, E, v, t, h => by
    obtain ⟨bs, ka, kc, h1, h2, _, h3, h4, h5, h5', h6⟩ := h
    refine ⟨bs, ka, kc, h1, h2, h3, h4, h5, h5', fun h0 => ?_⟩
    obtain ⟨kb, ko, e, _, _, h7⟩ := h6 h0
    refine ⟨kb, ko, e, fun j k hj => ?_⟩
    obtain ⟨l, b', i', c1, c2, c3, c4⟩ := h7 j k hj
    exact ⟨l, b', i', c1, c2, c3, c4.isV⟩
theorem Rd.step {w w' : World} {v : Value} {xs : List Value} (h : Rd w v xs) (hb : ∀ k, v.ownBlock = some k → w'.heap[k]? = w.heap[k]?) : Rd w' v xs := by
  rcases h with h | ⟨a, c, rfl, h4, h5⟩
  · exact .inl h
  · refine .inr ⟨a, c, rfl, h4, fun j u hj => ?_⟩
    rw [World.cell?_of_block (w := w) (by rw [add_block]; exact hb _ rfl)]; exact h5 j u hj
theorem IsF.step : ∀ {n : Nat} {w w' : World} {B E : Nat} {v : Value} {t : Tr n}, IsF w B E n v t → (∀ k, B ≤ k → k < E → w'.heap[k]? = w.heap[k]?) → IsF w' B E n v t
  | 0, _, _, _, _, _, _, h, _ => h
  | n + 1, w, w', B, E, v, t, h, f => by
    obtain ⟨bs, ka, kc, h1, h2, h2', h3, h4, h5, h5', h6⟩ := h
    refine ⟨bs, ka, kc, h1, h2.step (fun k hk => f k (h2' k hk).1 (h2' k hk).2), h2', h3, h4, h5, h5', fun h0 => ?_⟩
    obtain ⟨kb, ko, e, b1, b2, h7⟩ := h6 h0
    refine ⟨kb, ko, e, b1, b2, fun j k hj => ?_⟩
    obtain ⟨l, b', i', c1, c2, c3, c4⟩ := h7 j k hj
    have hk : ∀ o, w'.cell? ⟨kb, o, none⟩ = w.cell? ⟨kb, o, none⟩ := fun o => World.cell?_of_block (f kb b1 b2)
    exact ⟨l, b', i', by rw [hk]; exact c1, by rw [hk]; exact c2, by rw [hk]; exact c3, c4.step f⟩
theorem IsF.wide : ∀ {n : Nat} {w : World} {B E B' E' : Nat} {v : Value} {t : Tr n}, IsF w B E n v t → B' ≤ B → E ≤ E' → IsF w B' E' n v t
  | 0, _, _, _, _, _, _, _, h, _, _ => h
  | n + 1, w, B, E, B', E', v, t, h, hB, hE => by
    obtain ⟨bs, ka, kc, h1, h2, h2', h3, h4, h5, h5', h6⟩ := h
    refine ⟨bs, ka, kc, h1, h2, fun k hk => ⟨Nat.le_trans hB (h2' k hk).1, Nat.lt_of_lt_of_le (h2' k hk).2 hE⟩, h3, h4, h5, h5', fun h0 => ?_⟩
    obtain ⟨kb, ko, e, b1, b2, h7⟩ := h6 h0
    refine ⟨kb, ko, e, by omega, by omega, fun j k hj => ?_⟩
    obtain ⟨l, b', i', c1, c2, c3, c4⟩ := h7 j k hj
    exact ⟨l, b', i', c1, c2, c3, c4.wide hB hE⟩
theorem IsF.cells {n : Nat} {w : World} {B E : Nat} {l : Bool} {bs is : Value} {t : Tr n} (h : IsF w B E n (.agg #[.bool l, bs, is]) t) : ∃ a1 n1 c1 a2 n2 c2, bs = .slice a1 n1 c1 ∧ is = .slice a2 n2 c2 := h.isV.cells

/-- Items in a row of cells, none of which lies in the row's own block. -/
def KidsF (w : World) (X : Nat) (q : Option Nat) (n : Nat) (ts : List (Tr n)) (cs : List Value) : Prop :=
  cs.length = ts.length * 3 ∧ ∀ (j : Nat) (t : Tr n), ts[j]? = some t → ∃ l bs is B E, cs[j * 3]? = some (.bool l) ∧ cs[j * 3 + 1]? = some bs ∧ cs[j * 3 + 2]? = some is ∧ X < B ∧ E ≤ w.heap.size ∧ (∀ k, q = some k → k < B ∨ E ≤ k) ∧ IsF w B E n (.agg #[.bool l, bs, is]) t
theorem KidsF.nil (w : World) (X : Nat) (q : Option Nat) (n : Nat) : KidsF w X q n [] [] := ⟨rfl, fun j t h => by simp at h⟩
/-- Blocks from X on stay but for the row's own; the row's own may be a new one. -/
theorem KidsF.step {w w' : World} {X : Nat} {q q' : Option Nat} {n : Nat} {ts : List (Tr n)} {cs : List Value} (h : KidsF w X q n ts cs) (hs : w.heap.size ≤ w'.heap.size) (hf : ∀ k, X < k → k < w.heap.size → q ≠ some k → w'.heap[k]? = w.heap[k]?) (hq : q' = q ∨ ∀ k, q' = some k → w.heap.size ≤ k) : KidsF w' X q' n ts cs := by
  refine ⟨h.1, fun j t hj => ?_⟩
  obtain ⟨l, bs, is, B, E, c1, c2, c3, b1, b2, b3, b4⟩ := h.2 j t hj
  refine ⟨l, bs, is, B, E, c1, c2, c3, b1, by omega, ?_, b4.step fun k k1 k2 => hf k (by omega) (by omega) fun e => ?_⟩
  · rcases hq with rfl | hq
    · exact b3
    · intro k hk; have := hq k hk; omega
  · have := b3 k e; omega
theorem KidsF.snoc {w : World} {X : Nat} {q : Option Nat} {n : Nat} {ts : List (Tr n)} {cs : List Value} (h : KidsF w X q n ts cs) {t : Tr n} {l : Bool} {bs is : Value} {B E : Nat} (b1 : X < B) (b2 : E ≤ w.heap.size) (b3 : ∀ k, q = some k → k < B ∨ E ≤ k) (b4 : IsF w B E n (.agg #[.bool l, bs, is]) t) : KidsF w X q n (ts ++ [t]) (cs ++ [.bool l, bs, is]) := by
  refine ⟨by rw [List.length_append, List.length_append, h.1]; simp; omega, fun j t' hj => ?_⟩
  by_cases hjl : j < ts.length
  · rw [List.getElem?_append_left hjl] at hj
    obtain ⟨l', bs', is', B', E', c1, c2, c3, rest⟩ := h.2 j t' hj
    have hl := h.1
    exact ⟨l', bs', is', B', E', by rw [List.getElem?_append_left (by omega)]; exact c1, by rw [List.getElem?_append_left (by omega)]; exact c2, by rw [List.getElem?_append_left (by omega)]; exact c3, rest⟩
  · have hje : j = ts.length := by
      rcases Nat.lt_or_ge j (ts.length + 1) with h' | h'
      · omega
      · rw [List.getElem?_eq_none (by simp; omega)] at hj; cases hj
    subst hje
    have hl := h.1
    rw [List.getElem?_append_right (Nat.le_refl _), Nat.sub_self] at hj
    simp at hj
    subst hj
    refine ⟨l, bs, is, B, E, ?_, ?_, ?_, b1, b2, b3, b4⟩
    · rw [List.getElem?_append_right (by omega), hl, Nat.sub_self]; rfl
    · rw [List.getElem?_append_right (by omega), hl, Nat.add_sub_cancel_left]; rfl
    · rw [List.getElem?_append_right (by omega), hl, Nat.add_sub_cancel_left]; rfl
/-- A list of them is an item. -/
theorem IsF.list {w : World} {X n base : Nat} {ts : List (Tr n)} {cs : List Value} {ao : Option Addr} {m c : Nat} (h : KidsF w X (Value.slice ao m c).ownBlock n ts cs) (o : w.ownsRow base 25 3 (.slice ao m c) ts.length cs) (hb : X < base) (hl : ts.length ≤ 140737488355328) : IsF w (X + 1) w.heap.size (n + 1) (.agg #[.bool true, .slice none 0 0, .slice ao m c]) (mkT true [] ts) := by
  rcases o.2 with ⟨h1, h2⟩ | ⟨g, cap, cur, h1, h2, h3, h4, h5, h6, h7⟩
  · cases h1
    have : ts = [] := List.eq_nil_of_length_eq_zero h2
    subst this
    exact ⟨_, none, 0, rfl, .inl ⟨rfl, rfl⟩, fun k hk => (by simp [Value.ownBlock] at hk), fun x hx => (by cases hx), Nat.zero_le _, Nat.le_refl _, hl, fun h0 => (by cases h0)⟩
  · cases h1
    refine ⟨_, _, _, rfl, .inl ⟨rfl, rfl⟩, fun k hk => (by simp [Value.ownBlock] at hk), fun x hx => (by cases hx), Nat.zero_le _, h4, hl, fun _ => ⟨g, 0, rfl, by omega, blk_lt h3, fun j t hj => ?_⟩⟩
    obtain ⟨l, bs, is, B, E, c1, c2, c3, b1, b2, b3, b4⟩ := h.2 j t hj
    have hc := o.cells rfl
    refine ⟨l, bs, is, ?_, ?_, ?_, b4.wide (by omega) b2⟩
    · have := hc _ _ c1; rw [Addr.add_lit] at this; exact this
    · have := hc _ _ c2; rw [Addr.add_lit] at this; rw [Nat.add_assoc]; exact this
    · have := hc _ _ c3; rw [Addr.add_lit] at this; rw [Nat.add_assoc]; exact this
end Go.Proofs.Ytbpnnchapfpamaa
