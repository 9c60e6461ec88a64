/-
  What find of package rlp answers, in general.
-/
import Derived.Test.YtldhcdmoenoopaaFi3
import Derived.Test.YtldhcdmoenoopaaJ06
namespace Go.Proofs.Ytldhcdmoenoopaa
open Go.ChangeShapes Go.WideShapes Go.ChangeAt Go.RowKit

theorem found_er {w w' : World} {h : Except Nat (Bool × Nat × Nat)} {k : Nat} (e : h = .error k) {r : Ending} (hr : r = .returned (.tuple #[.agg #[.bool false, .int .i64 0, .int .i64 0], .int .i64 (k : Int)]) ∧ Fr [] w w') : Found h r ∧ Fr [] w w' := by
  subst e; exact hr
theorem found_ok {w w' : World} {h : Except Nat (Bool × Nat × Nat)} {l : Bool} {s e : Nat} (he : h = .ok (l, s, e)) {r : Ending} {s' e' : Int} (hs : s' = (s : Int)) (hee : e' = (e : Int)) (hr : r = .returned (.tuple #[.agg #[.bool l, .int .i64 s', .int .i64 e'], .int .i64 0]) ∧ Fr [] w w') : Found h r ∧ Fr [] w w' := by
  subst he; subst hs; subst hee; exact hr

theorem find_M (w : World) {v : Value} {b : List Nat} (hr : Rd w v (bv b)) (hb : By b) {x : Nat} (hx0 : b[0]? = some x) {l : Bool} {m : Nat} (hm : m < 64) (hos : m ≤ 55 → Opens x l 1 0 m) (hol : ∀ k, m = 55 + k → 1 ≤ k → Opens x l 1 k (55 + k)) (hl : b.length ≤ 100000) :
    Calls Try.prog 26 #[v] w fun r w' => Found (hdrM b l m) r ∧ Fr [] w w' := by
  by_cases h55 : m ≤ 55
  · have e1 : hdrM b l m = hdrF b l 1 m := by unfold hdrM; rw [if_pos h55]
    rw [e1]
    have ho := hos h55
    by_cases hs : b.length < 1 + m
    · have e2 : hdrF b l 1 m = .error 41 := by unfold hdrF; rw [if_pos hs]
      rcases l with _ | _
      · exact (find_s1_false w hr hx0 h55 hs ho hl).mono fun r w' h => found_er e2 h
      · exact (find_s1_true w hr hx0 h55 hs ho hl).mono fun r w' h => found_er e2 h
    · rcases l with _ | _
      · by_cases h1 : m = 1
        · subst h1
          obtain ⟨y, hy⟩ : ∃ y, b[1]? = some y := ⟨_, List.getElem?_eq_getElem (by omega)⟩
          have hg : b.getD 1 0 = y := by rw [List.getD_eq_getElem?_getD, hy]; rfl
          by_cases hy1 : y < 128
          · have e2 : hdrF b false 1 1 = .error 40 := by unfold hdrF; rw [if_neg hs, if_pos ⟨rfl, rfl, by rw [hg]; exact hy1⟩]
            exact (find_s2 w hr hx0 hy hy1 (by omega) ho hl).mono fun r w' h => found_er e2 h
          · have e2 : hdrF b false 1 1 = .ok (false, 1, 2) := by unfold hdrF; rw [if_neg hs, if_neg (by rw [hg]; rintro ⟨_, _, h⟩; exact hy1 h)]
            exact (find_s3 w hr hx0 hy (by omega) (by omega) ho hl).mono fun r w' h => found_ok e2 rfl rfl h
        · have e2 : hdrF b false 1 m = .ok (false, 1, 1 + m) := by unfold hdrF; rw [if_neg hs, if_neg (by rintro ⟨_, h, _⟩; exact h1 h)]
          exact (find_s4 w hr hx0 h55 h1 (by omega) ho hl).mono fun r w' h => found_ok e2 rfl (by omega) h
      · have e2 : hdrF b true 1 m = .ok (true, 1, 1 + m) := by unfold hdrF; rw [if_neg hs, if_neg (by rintro ⟨h, _⟩; cases h)]
        exact (find_s5 w hr hx0 h55 (by omega) ho hl).mono fun r w' h => found_ok e2 rfl (by omega) h
  · obtain ⟨k, hk⟩ : ∃ k, m = 55 + k := ⟨m - 55, by omega⟩
    have ho := hol k hk (by omega)
    have hmk : m - 55 = k := by omega
    have e1 : hdrM b l m = if b.length < 1 + k then .error 41 else if b.getD 1 0 = 0 ∨ big ((b.drop 1).take k) ≤ 55 ∨ 2147483648 < big ((b.drop 1).take k) then .error 40 else hdrF b l (1 + k) (big ((b.drop 1).take k)) := by
      unfold hdrM; rw [if_neg h55, hmk]
    by_cases hs : b.length < 1 + k
    · exact (find_l1 w hr hx0 (by omega) (by omega) hs ho hl).mono fun r w' h => found_er (by rw [e1, if_pos hs]) h
    · rw [if_neg hs] at e1
      obtain ⟨y, hy⟩ : ∃ y, b[1]? = some y := ⟨_, List.getElem?_eq_getElem (by omega)⟩
      have hg : b.getD 1 0 = y := by rw [List.getD_eq_getElem?_getD, hy]; rfl
      have hy2 : y < 256 := hb.at hy
      rw [hg] at e1
      obtain ⟨n, hn⟩ : ∃ n, n = big ((b.drop 1).take k) := ⟨_, rfl⟩
      have hn2 : n < 18446744073709551616 := by
        have h := big_lt _ ((hb.drop 1).take k)
        rw [← hn] at h
        have h2 : (256 : Nat) ^ ((b.drop 1).take k).length ≤ 256 ^ 8 := Nat.pow_le_pow_right (by omega) (by rw [List.length_take]; omega)
        omega
      rw [← hn] at e1
      by_cases hy0 : y = 0
      · exact (find_l2 w hr hx0 hb (by omega) (by omega) (by omega) hy hy2 hn hn2 hy0 ho hl).mono fun r w' h => found_er (by rw [e1, if_pos (.inl hy0)]) h
      · by_cases hn3 : n ≤ 55 ∨ 2147483648 < n
        · exact (find_l3 w hr hx0 hb (by omega) (by omega) (by omega) hy hy2 hn hn2 hy0 hn3 ho hl).mono fun r w' h => found_er (by rw [e1, if_pos (.inr hn3)]) h
        · rw [if_neg (by omega)] at e1
          by_cases hs2 : b.length < 1 + k + n
          · exact (find_l4 w hr hx0 hb (by omega) (by omega) (by omega) hy hy2 hn hn2 hy0 (by omega) (by omega) hs2 ho hl).mono fun r w' h => found_er (by rw [e1]; unfold hdrF; rw [if_pos hs2]) h
          · have e2 : hdrM b l m = .ok (l, 1 + k, 1 + k + n) := by rw [e1]; unfold hdrF; rw [if_neg hs2, if_neg (by omega)]
            rcases l with _ | _
            · exact (find_l5_false w hr hx0 hb (by omega) (by omega) (by omega) hy hy2 hn hn2 hy0 (by omega) (by omega) (by omega) ho hl).mono fun r w' h => found_ok e2 (by omega) (by omega) h
            · exact (find_l5_true w hr hx0 hb (by omega) (by omega) (by omega) hy hy2 hn hn2 hy0 (by omega) (by omega) (by omega) ho hl).mono fun r w' h => found_ok e2 (by omega) (by omega) h

theorem find_c (w : World) {v : Value} {b : List Nat} (hr : Rd w v (bv b)) (hb : By b) (h0 : b ≠ []) (hl : b.length ≤ 100000) :
    Calls Try.prog 26 #[v] w fun r w' => Found (hdr b) r ∧ Fr [] w w' := by
  obtain ⟨x, hx0⟩ : ∃ x, b[0]? = some x := ⟨_, List.getElem?_eq_getElem (List.length_pos_iff.2 h0)⟩
  have hg : b.getD 0 0 = x := by rw [List.getD_eq_getElem?_getD, hx0]; rfl
  have hx : x < 256 := hb.at hx0
  by_cases h1 : x < 128
  · have e : hdr b = .ok (false, 0, 1) := by unfold hdr; rw [hg, if_pos h1]
    exact (find_a w hr hx0 (opened_a x h1) hl).mono fun r w' h => found_ok e rfl rfl h
  · by_cases h2 : x < 192
    · have e : hdr b = hdrM b false (x - 128) := by unfold hdr; rw [hg, if_neg h1, if_pos h2]
      rw [e]
      exact find_M w hr hb hx0 (by omega) (fun h => opened_b x (x - 128) (by omega) h) (fun k hk hk1 => opened_c x k (by omega) hk1 (by omega)) hl
    · have e : hdr b = hdrM b true (x - 192) := by unfold hdr; rw [hg, if_neg h1, if_neg h2]
      rw [e]
      exact find_M w hr hb hx0 (by omega) (fun h => opened_d x (x - 192) (by omega) h) (fun k hk hk1 => opened_e x k (by omega) hk1 (by omega)) hl
end Go.Proofs.Ytldhcdmoenoopaa
namespace Go.Proofs.Ytldhcdmoenoopaa
open Go.ChangeShapes Go.WideShapes Go.ChangeAt Go.RowKit

/-- An item all of whose blocks lie from B on, ahead of E. -/
def IsF (w : World) (B E : Nat) : (n : Nat) → Value → Tr n → Prop
  | 0, v, _ => ∃ l a1 n1 c1 a2 n2 c2, v = .agg #[.bool l, .slice a1 n1 c1, .slice a2 n2 c2]
  | n + 1, v, t => ∃ bs ka kc, v = .agg #[.bool (tL t), bs, .slice ka (tK t).length kc] ∧ Rd w bs (bv (tB t)) ∧ (∀ k, bs.ownBlock = some k → B ≤ k ∧ k < E) ∧ By (tB t) ∧ (tB t).length ≤ 140737488355328 ∧ (tK t).length ≤ kc ∧ (tK t).length ≤ 140737488355328 ∧
      (0 < (tK t).length → ∃ kb ko, ka = some ⟨kb, ko, none⟩ ∧ B ≤ kb ∧ kb < E ∧ ∀ (j : Nat) (k : Tr n), (tK t)[j]? = some k → ∃ l bs' is', w.cell? ⟨kb, ko + j * 3, none⟩ = some (.bool l) ∧ w.cell? ⟨kb, ko + j * 3 + 1, none⟩ = some bs' ∧ w.cell? ⟨kb, ko + j * 3 + 2, none⟩ = some is' ∧ IsF w B E n (.agg #[.bool l, bs', is']) k)

theorem IsF.isV : ∀ {n : Nat} {w : World} {B E : Nat} {v : Value} {t : Tr n}, IsF w B E n v t → IsV w n v t
  | 0, _, _, _, _, _, h => h
  | n + 1, w, B, E, v, t, h => by
    obtain ⟨bs, ka, kc, h1, h2, _, h3, h4, h5, h5', h6⟩ := h
    refine ⟨bs, ka, kc, h1, h2, h3, h4, h5, h5', fun h0 => ?_⟩
    obtain ⟨kb, ko, e, _, _, h7⟩ := h6 h0
    refine ⟨kb, ko, e, fun j k hj => ?_⟩
    obtain ⟨l, b', i', c1, c2, c3, c4⟩ := h7 j k hj
    exact ⟨l, b', i', c1, c2, c3, c4.isV⟩
theorem Rd.step {w w' : World} {v : Value} {xs : List Value} (h : Rd w v xs) (hb : ∀ k, v.ownBlock = some k → w'.heap[k]? = w.heap[k]?) : Rd w' v xs := by
  rcases h with h | ⟨a, c, rfl, h4, h5⟩
  · exact .inl h
  · refine .inr ⟨a, c, rfl, h4, fun j u hj => ?_⟩
    rw [World.cell?_of_block (w := w) (by rw [add_block]; exact hb _ rfl)]; exact h5 j u hj
theorem IsF.step : ∀ {n : Nat} {w w' : World} {B E : Nat} {v : Value} {t : Tr n}, IsF w B E n v t → (∀ k, B ≤ k → k < E → w'.heap[k]? = w.heap[k]?) → IsF w' B E n v t
  | 0, _, _, _, _, _, _, h, _ => h
  | n + 1, w, w', B, E, v, t, h, f => by
    obtain ⟨bs, ka, kc, h1, h2, h2', h3, h4, h5, h5', h6⟩ := h
    refine ⟨bs, ka, kc, h1, h2.step (fun k hk => f k (h2' k hk).1 (h2' k hk).2), h2', h3, h4, h5, h5', fun h0 => ?_⟩
    obtain ⟨kb, ko, e, b1, b2, h7⟩ := h6 h0
    refine ⟨kb, ko, e, b1, b2, fun j k hj => ?_⟩
    obtain ⟨l, b', i', c1, c2, c3, c4⟩ := h7 j k hj
    have hk : ∀ o, w'.cell? ⟨kb, o, none⟩ = w.cell? ⟨kb, o, none⟩ := fun o => World.cell?_of_block (f kb b1 b2)
    exact ⟨l, b', i', by rw [hk]; exact c1, by rw [hk]; exact c2, by rw [hk]; exact c3, c4.step f⟩
theorem IsF.wide : ∀ {n : Nat} {w : World} {B E B' E' : Nat} {v : Value} {t : Tr n}, IsF w B E n v t → B' ≤ B → E ≤ E' → IsF w B' E' n v t
  | 0, _, _, _, _, _, _, _, h, _, _ => h
  | n + 1, w, B, E, B', E', v, t, h, hB, hE => by
    obtain ⟨bs, ka, kc, h1, h2, h2', h3, h4, h5, h5', h6⟩ := h
    refine ⟨bs, ka, kc, h1, h2, fun k hk => ⟨Nat.le_trans hB (h2' k hk).1, Nat.lt_of_lt_of_le (h2' k hk).2 hE⟩, h3, h4, h5, h5', fun h0 => ?_⟩
    obtain ⟨kb, ko, e, b1, b2, h7⟩ := h6 h0
    refine ⟨kb, ko, e, by omega, by omega, fun j k hj => ?_⟩
    obtain ⟨l, b', i', c1, c2, c3, c4⟩ := h7 j k hj
    exact ⟨l, b', i', c1, c2, c3, c4.wide hB hE⟩
theorem IsF.cells {n : Nat} {w : World} {B E : Nat} {l : Bool} {bs is : Value} {t : Tr n} (h : IsF w B E n (.agg #[.bool l, bs, is]) t) : ∃ a1 n1 c1 a2 n2 c2, bs = .slice a1 n1 c1 ∧ is = .slice a2 n2 c2 := h.isV.cells

/-- Items in a row of cells, none of which lies in the row's own block. -/
def KidsF (w : World) (X : Nat) (q : Option Nat) (n : Nat) (ts : List (Tr n)) (cs : List Value) : Prop :=
  cs.length = ts.length * 3 ∧ ∀ (j : Nat) (t : Tr n), ts[j]? = some t → ∃ l bs is B E, cs[j * 3]? = some (.bool l) ∧ cs[j * 3 + 1]? = some bs ∧ cs[j * 3 + 2]? = some is ∧ X < B ∧ E ≤ w.heap.size ∧ (∀ k, q = some k → k < B ∨ E ≤ k) ∧ IsF w B E n (.agg #[.bool l, bs, is]) t
theorem KidsF.nil (w : World) (X : Nat) (q : Option Nat) (n : Nat) : KidsF w X q n [] [] := ⟨rfl, fun j t h => by simp at h⟩
/-- Blocks from X on stay but for the row's own; the row's own may be a new one. -/
theorem KidsF.step {w w' : World} {X : Nat} {q q' : Option Nat} {n : Nat} {ts : List (Tr n)} {cs : List Value} (h : KidsF w X q n ts cs) (hs : w.heap.size ≤ w'.heap.size) (hf : ∀ k, X < k → k < w.heap.size → q ≠ some k → w'.heap[k]? = w.heap[k]?) (hq : q' = q ∨ ∀ k, q' = some k → w.heap.size ≤ k) : KidsF w' X q' n ts cs := by
  refine ⟨h.1, fun j t hj => ?_⟩
  obtain ⟨l, bs, is, B, E, c1, c2, c3, b1, b2, b3, b4⟩ := h.2 j t hj
  refine ⟨l, bs, is, B, E, c1, c2, c3, b1, by omega, ?_, b4.step fun k k1 k2 => hf k (by omega) (by omega) fun e => ?_⟩
  · rcases hq with rfl | hq
    · exact b3
    · intro k hk; have := hq k hk; omega
  · have := b3 k e; omega
theorem KidsF.snoc {w : World} {X : Nat} {q : Option Nat} {n : Nat} {ts : List (Tr n)} {cs : List Value} (h : KidsF w X q n ts cs) {t : Tr n} {l : Bool} {bs is : Value} {B E : Nat} (b1 : X < B) (b2 : E ≤ w.heap.size) (b3 : ∀ k, q = some k → k < B ∨ E ≤ k) (b4 : IsF w B E n (.agg #[.bool l, bs, is]) t) : KidsF w X q n (ts ++ [t]) (cs ++ [.bool l, bs, is]) := by
  refine ⟨by rw [List.length_append, List.length_append, h.1]; simp; omega, fun j t' hj => ?_⟩
  by_cases hjl : j < ts.length
  · rw [List.getElem?_append_left hjl] at hj
    obtain ⟨l', bs', is', B', E', c1, c2, c3, rest⟩ := h.2 j t' hj
    have hl := h.1
    exact ⟨l', bs', is', B', E', by rw [List.getElem?_append_left (by omega)]; exact c1, by rw [List.getElem?_append_left (by omega)]; exact c2, by rw [List.getElem?_append_left (by omega)]; exact c3, rest⟩
  · have hje : j = ts.length := by
      rcases Nat.lt_or_ge j (ts.length + 1) with h' | h'
      · omega
      · rw [List.getElem?_eq_none (by simp; omega)] at hj; cases hj
    subst hje
    have hl := h.1
    rw [List.getElem?_append_right (Nat.le_refl _), Nat.sub_self] at hj
    simp at hj
    subst hj
    refine ⟨l, bs, is, B, E, ?_, ?_, ?_, b1, b2, b3, b4⟩
    · rw [List.getElem?_append_right (by omega), hl, Nat.sub_self]; rfl
    · rw [List.getElem?_append_right (by omega), hl, Nat.add_sub_cancel_left]; rfl
    · rw [List.getElem?_append_right (by omega), hl, Nat.add_sub_cancel_left]; rfl
/-- A list of them is an item. -/
theorem IsF.list {w : World} {X n base : Nat} {ts : List (Tr n)} {cs : List Value} {ao : Option Addr} {m c : Nat} (h : KidsF w X (Value.slice ao m c).ownBlock n ts cs) (o : w.ownsRow base 25 3 (.slice ao m c) ts.length cs) (hb : X < base) (hl : ts.length ≤ 140737488355328) : IsF w (X + 1) w.heap.size (n + 1) (.agg #[.bool true, .slice none 0 0, .slice ao m c]) (mkT true [] ts) := by
  rcases o.2 with ⟨h1, h2⟩ | ⟨g, cap, cur, h1, h2, h3, h4, h5, h6, h7⟩
  · cases h1
    have : ts = [] := List.eq_nil_of_length_eq_zero h2
    subst this
    exact ⟨_, none, 0, rfl, .inl ⟨rfl, rfl⟩, fun k hk => (by simp [Value.ownBlock] at hk), fun x hx => (by cases hx), Nat.zero_le _, Nat.le_refl _, hl, fun h0 => (by cases h0)⟩
  · cases h1
    refine ⟨_, _, _, rfl, .inl ⟨rfl, rfl⟩, fun k hk => (by simp [Value.ownBlock] at hk), fun x hx => (by cases hx), Nat.zero_le _, h4, hl, fun _ => ⟨g, 0, rfl, by omega, blk_lt h3, fun j t hj => ?_⟩⟩
    obtain ⟨l, bs, is, B, E, c1, c2, c3, b1, b2, b3, b4⟩ := h.2 j t hj
    have hc := o.cells rfl
    refine ⟨l, bs, is, ?_, ?_, ?_, b4.wide (by omega) b2⟩
    · have := hc _ _ c1; rw [Addr.add_lit] at this; exact this
    · have := hc _ _ c2; rw [Addr.add_lit] at this; rw [Nat.add_assoc]; exact this
    · have := hc _ _ c3; rw [Addr.add_lit] at this; rw [Nat.add_assoc]; exact this
end Go.Proofs.Ytldhcdmoenoopaa
