/-
  What measure of package rlp answers.
-/
import Derived.Test.YtbbaaegfbbjnjaaDoorMe3
import Derived.Laws.EntriesVeiled
import Derived.Test.YtbbaaegfbbjnjaaDoorIt
namespace Go.Proofs.YtbbaaegfbbjnjaaDoor
open Go.ChangeShapes Go.WideShapes Go.ChangeAt Go.RowKit

theorem enc_list {n : Nat} {t : Tr (n + 1)} (h : tL t = true) : enc (n + 1) t = headL 192 ((tK t).flatMap (enc n)).length ++ (tK t).flatMap (enc n) := by
  unfold enc; rw [if_pos h]
theorem enc_str {n : Nat} {t : Tr (n + 1)} (h : tL t = false) : enc (n + 1) t = strL (tB t) := by
  unfold enc; rw [if_neg (by rw [h]; simp)]
theorem cnt_eq {n : Nat} (t : Tr (n + 1)) : cnt (n + 1) t = 1 + ((tK t).map (cnt n)).sum := rfl
theorem bad_list {n d : Nat} {t : Tr (n + 1)} (hd : d ≤ 16) (hl : tL t = true) (hb : tB t = []) : bad (n + 1) d t = firstBad (bad n (d + 1)) (tK t) := by
  unfold bad; rw [if_neg (by omega), if_neg (by rw [hl, hb]; simp)]
theorem bad_str {n d : Nat} {t : Tr (n + 1)} (hd : d ≤ 16) (hl : tL t = false) (hk : tK t = []) : bad (n + 1) d t = 0 := by
  unfold bad; rw [if_neg (by omega), if_neg (by rw [hl, hk]; simp), hk]; rfl

theorem walk_c {T g e k : Nat} : ∀ (n : Nat) (w0 : World) (t : Tr n) (d : Nat) (w : World) (v : Value) (c : Nat), IsV w0 n v t → Fr [] w0 w → w0.heap.size ≤ g → Clo w 36 T g e k c → 16 < d + n → d ≤ 17 → c + cnt n t ≤ 4096 → (enc n t).length ≤ 1000000 →
    Calls Tryd.prog 36 #[v, .int .i64 (d : Int), .pointer (some ⟨e, 0, none⟩), .pointer (some ⟨k, 0, none⟩)] w fun r w' => Told n d t g c r w' ∧ Fr [g] w w'
  | 0, w0, t, d, w, v, c, hv, hf, hg, C, hd, hd2, hc, he => by
    obtain ⟨l, a1, n1, c1, a2, n2, c2, rfl⟩ := hv.agg
    refine (walk_deep w C l _ _ (by omega) (by omega)).mono ?_
    rintro r w' ⟨rfl, f⟩
    exact ⟨.inr ⟨by simp [bad], rfl⟩, f⟩
  | n + 1, w0, t, d, w, v, c, hv, hf, hg, C, hd, hd2, hc, he => by
    by_cases h16 : 16 < d
    · obtain ⟨l, a1, n1, c1, a2, n2, c2, rfl⟩ := hv.agg
      refine (walk_deep w C l _ _ (by omega) (by omega)).mono ?_
      rintro r w' ⟨rfl, f⟩
      have hb := bad_deep (n + 1) t h16
      exact ⟨.inr ⟨by rw [hb]; simp, by rw [hb]; rfl⟩, f⟩
    · have hd16 : d ≤ 16 := by omega
      rw [cnt_eq] at hc
      obtain ⟨bs, ka, kc, rfl, h2, h3, h4, h5, h5', h6⟩ := hv
      rcases hl : tL t with _ | _
      · by_cases hk : tK t = []
        · have hb := bad_str hd16 hl hk
          rw [hk] at hc ⊢
          refine (walk_str w0 w C hf hg h2 h3 h4 ka kc hd16 (by simp at hc; omega)).mono ?_
          rintro r w' ⟨rfl, h, f⟩
          refine ⟨.inl ⟨hb, by rw [enc_str hl], ?_⟩, f⟩
          rw [cnt_eq, hk]; exact h
        · have hb := bad_form (d := d) hd16 (.inr ⟨hl, hk⟩)
          refine (walk_form2 w C bs hd16 (by omega) (List.length_pos_iff.2 hk)).mono ?_
          rintro r w' ⟨rfl, f⟩
          exact ⟨.inr ⟨by rw [hb]; simp, by rw [hb]; rfl⟩, f⟩
      · by_cases hbb : tB t = []
        · obtain ⟨ba, bc, hbs⟩ := h2.form
          rw [bv_len, hbb] at hbs
          subst hbs
          rw [enc_list hl, List.length_append] at he
          refine (walk_list w0 w C hf hg ba bc (ks := tK t) (by omega) h6 ?_ hd16 (by omega) (by omega)).mono ?_
          · intro x hx w2 v2 c2 hv2 hf2 C2 hc2
            refine walk_c n w0 x (d + 1) w2 v2 c2 hv2 hf2 hg C2 (by omega) (by omega) hc2 ?_
            have := sum_mem (f := fun y => (enc n y).length) hx
            rw [← flatMap_len] at this
            omega
          · rintro r w' ⟨h, f⟩
            refine ⟨?_, f⟩
            have hb := bad_list (d := d) hd16 hl hbb
            rcases h with ⟨h1, rfl, h3⟩ | ⟨h1, rfl⟩
            · refine .inl ⟨hb.trans h1, by rw [enc_list hl, List.length_append, Int.natCast_add], ?_⟩
              rw [cnt_eq, ← Nat.add_assoc]; exact h3
            · exact .inr ⟨by rw [hb]; exact h1, by rw [hb]⟩
        · have hb := bad_form (d := d) hd16 (.inl ⟨hl, hbb⟩)
          obtain ⟨ba, bc, hbs⟩ := h2.form
          rw [bv_len] at hbs
          subst hbs
          refine (walk_form1 w C _ hd16 (by omega) (List.length_pos_iff.2 hbb)).mono ?_
          rintro r w' ⟨rfl, f⟩
          exact ⟨.inr ⟨by rw [hb]; simp, by rw [hb]; rfl⟩, f⟩

set_option maxRecDepth 20000 in
theorem gate_c (w : World) : Calls Tryd.prog 35 #[] w fun r w' => r = .returned (.func (.func 45) #[] #[.pointer (some ⟨w.heap.size, 0, none⟩)]) ∧ w' = w.alloc (.cells #[.int .i64 0] 3) := by
  have hmf : ∀ (fn : Fn) (first cap : Array Value) (w : World), (Instr.makeFunc fn first cap).run Tryd.prog w = .ok (.func fn first cap) w := fun _ _ _ _ => rfl
  go_enter Tryd.func35, Tryd.ntmps35
  go_wp2
  go_ret
  exact ⟨rfl, rfl⟩

theorem clo_new (W : World) (F T : Nat) {g : Nat} (hg : g = W.heap.size) : Clo (((W.alloc (.cells #[.int .i64 0] 3)).alloc (.cells #[.func (.func 45) #[] #[.pointer (some ⟨g, 0, none⟩)]] 72)).alloc (.cells #[.func (.func F) #[] #[.pointer (some ⟨g + 1, 0, none⟩), .pointer (some ⟨g + 1 + 1, 0, none⟩)]] T)) F T g (g + 1) (g + 1 + 1) 0 := by
  refine ⟨?_, ?_, ?_, by omega, by omega⟩
  · rw [blk_old _ _ (by simp; omega), blk_old _ _ (by simp; omega)]; exact new_at W _ hg
  · rw [blk_old _ _ (by simp; omega)]; exact new_at _ _ (by simp; omega)
  · exact new_at _ _ (by simp; omega)

set_option maxRecDepth 20000 in
set_option maxHeartbeats 400000 in
theorem measure_c (w : World) {v : Value} {n : Nat} {t : Tr n} (hv : IsV w n v t) (hn : 16 ≤ n) (hc : cnt n t ≤ 4096) (he : (enc n t).length ≤ 1000000) :
    Calls Tryd.prog 24 #[v] w fun r w' => ((bad n 1 t = 0 ∧ r = .returned (.tuple #[.int .i64 ((enc n t).length : Int), .int .i64 0])) ∨ (bad n 1 t ≠ 0 ∧ r = .returned (.tuple #[.int .i64 0, .int .i64 (bad n 1 t : Int)]))) ∧ Fr [] w w' := by
  have hmf : ∀ (fn : Fn) (first cap : Array Value) (w : World), (Instr.makeFunc fn first cap).run Tryd.prog w = .ok (.func fn first cap) w := fun _ _ _ _ => rfl
  obtain ⟨l, a1, n1, c1, a2, n2, c2, rfl⟩ := hv.agg
  have HV := hid hv
  obtain ⟨E, hE⟩ : ∃ E, E = (enc n t).length := ⟨_, rfl⟩
  obtain ⟨B, hB⟩ : ∃ B, B = bad n 1 t := ⟨_, rfl⟩
  rw [← hE, ← hB]
  have HE := hid hE
  have HB := hid hB
  clear hv hE hB
  go_enter Tryd.func24, Tryd.ntmps24
  go_wp2_with fail
  refine (gate_c _).mono ?_
  rintro r w1 ⟨rfl, rfl⟩
  go_wp2_with fail
  refine (walk_c n w t 1 _ _ 0 HV.out (((((Fr.refl [] w).alloc _).alloc _).alloc _).alloc _) (g := w.heap.size + 1) (by omega) (clo_new _ _ _ (by simp)) (by omega) (by omega) (by omega) he).mono ?_
  rintro r w1 ⟨hT, f1⟩
  have F1 : Hid (Fr [] w w1) := ((((((Fr.refl [] w).alloc _).alloc _).alloc _).alloc _).mono (S' := [w.heap.size + 1]) (by simp)).trans f1 |>.shed (fun x hx hlt => by simp at hx; omega)
  unfold Told at hT
  rw [← HE.out, ← HB.out] at hT
  clear f1
  rcases hT with ⟨t1, rfl, _⟩ | ⟨t1, rfl⟩
  · have T1 := hid t1
    clear t1
    go_wp2
    go_ret2
    exact ⟨.inl ⟨T1.out, rfl⟩, F1.out⟩
  · have T1 := hid t1
    clear t1
    go_wp2
    go_ret2
    exact ⟨.inr ⟨T1.out, rfl⟩, F1.out⟩
end Go.Proofs.YtbbaaegfbbjnjaaDoor
namespace Go.Proofs.YtbbaaegfbbjnjaaDoor
open Go.ChangeShapes Go.WideShapes Go.ChangeAt Go.RowKit

/-- An item all of whose blocks lie from B on, ahead of E. -/
def IsF (w : World) (B E : Nat) : (n : Nat) → Value → Tr n → Prop
  | 0, v, _ => ∃ l a1 n1 c1 a2 n2 c2, v = .agg #[.bool l, .slice a1 n1 c1, .slice a2 n2 c2]
  | n + 1, v, t => ∃ bs ka kc, v = .agg #[.bool (tL t), bs, .slice ka (tK t).length kc] ∧ Rd w bs (bv (tB t)) ∧ (∀ k, bs.ownBlock = some k → B ≤ k ∧ k < E) ∧ By (tB t) ∧ (tB t).length ≤ 140737488355328 ∧ (tK t).length ≤ kc ∧ (tK t).length ≤ 140737488355328 ∧
      (0 < (tK t).length → ∃ kb ko, ka = some ⟨kb, ko, none⟩ ∧ B ≤ kb ∧ kb < E ∧ ∀ (j : Nat) (k : Tr n), (tK t)[j]? = some k → ∃ l bs' is', w.cell? ⟨kb, ko + j * 3, none⟩ = some (.bool l) ∧ w.cell? ⟨kb, ko + j * 3 + 1, none⟩ = some bs' ∧ w.cell? ⟨kb, ko + j * 3 + 2, none⟩ = some is' ∧ IsF w B E n (.agg #[.bool l, bs', is']) k)

theorem IsF.isV : ∀ {n : Nat} {w : World} {B E : Nat} {v : Value} {t : Tr n}, IsF w B E n v t → IsV w n v t
  | 0, _, _, _, _, _, h => h
  | n + 1, w, B, E, v, t, h => by
    obtain ⟨bs, ka, kc, h1, h2, _, h3, h4, h5, h5', h6⟩ := h
    refine ⟨bs, ka, kc, h1, h2, h3, h4, h5, h5', fun h0 => ?_⟩
    obtain ⟨kb, ko, e, _, _, h7⟩ := h6 h0
    refine ⟨kb, ko, e, fun j k hj => ?_⟩
    obtain ⟨l, b', i', c1, c2, c3, c4⟩ := h7 j k hj
    exact ⟨l, b', i', c1, c2, c3, c4.isV⟩
theorem Rd.step {w w' : World} {v : Value} {xs : List Value} (h : Rd w v xs) (hb : ∀ k, v.ownBlock = some k → w'.heap[k]? = w.heap[k]?) : Rd w' v xs := by
  rcases h with h | ⟨a, c, rfl, h4, h5⟩
  · exact .inl h
  · refine .inr ⟨a, c, rfl, h4, fun j u hj => ?_⟩
    rw [World.cell?_of_block (w := w) (by rw [add_block]; exact hb _ rfl)]; exact h5 j u hj
theorem IsF.step : ∀ {n : Nat} {w w' : World} {B E : Nat} {v : Value} {t : Tr n}, IsF w B E n v t → (∀ k, B ≤ k → k < E → w'.heap[k]? = w.heap[k]?) → IsF w' B E n v t
  | 0, _, _, _, _, _, _, h, _ => h
  | n + 1, w, w', B, E, v, t, h, f => by
    obtain ⟨bs, ka, kc, h1, h2, h2', h3, h4, h5, h5', h6⟩ := h
    refine ⟨bs, ka, kc, h1, h2.step (fun k hk => f k (h2' k hk).1 (h2' k hk).2), h2', h3, h4, h5, h5', fun h0 => ?_⟩
    obtain ⟨kb, ko, e, b1, b2, h7⟩ := h6 h0
    refine ⟨kb, ko, e, b1, b2, fun j k hj => ?_⟩
    obtain ⟨l, b', i', c1, c2, c3, c4⟩ := h7 j k hj
    have hk : ∀ o, w'.cell? ⟨kb, o, none⟩ = w.cell? ⟨kb, o, none⟩ := fun o => World.cell?_of_block (f kb b1 b2)
    exact ⟨l, b', i', by rw [hk]; exact c1, by rw [hk]; exact c2, by rw [hk]; exact c3, c4.step f⟩
theorem IsF.wide : ∀ {n : Nat} {w : World} {B E B' E' : Nat} {v : Value} {t : Tr n}, IsF w B E n v t → B' ≤ B → E ≤ E' → IsF w B' E' n v t
  | 0, _, _, _, _, _, _, _, h, _, _ => h
  | n + 1, w, B, E, B', E', v, t, h, hB, hE => by
    obtain ⟨bs, ka, kc, h1, h2, h2', h3, h4, h5, h5', h6⟩ := h
    refine ⟨bs, ka, kc, h1, h2, fun k hk => ⟨Nat.le_trans hB (h2' k hk).1, Nat.lt_of_lt_of_le (h2' k hk).2 hE⟩, h3, h4, h5, h5', fun h0 => ?_⟩
    obtain ⟨kb, ko, e, b1, b2, h7⟩ := h6 h0
    refine ⟨kb, ko, e, by omega, by omega, fun j k hj => ?_⟩
    obtain ⟨l, b', i', c1, c2, c3, c4⟩ := h7 j k hj
    exact ⟨l, b', i', c1, c2, c3, c4.wide hB hE⟩
theorem IsF.cells {n : Nat} {w : World} {B E : Nat} {l : Bool} {bs is : Value} {t : Tr n} (h : IsF w B E n (.agg #[.bool l, bs, is]) t) : ∃ a1 n1 c1 a2 n2 c2, bs = .slice a1 n1 c1 ∧ is = .slice a2 n2 c2 := h.isV.cells

/-- Items in a row of cells, none of which lies in the row's own block. -/
def KidsF (w : World) (X : Nat) (q : Option Nat) (n : Nat) (ts : List (Tr n)) (cs : List Value) : Prop :=
  cs.length = ts.length * 3 ∧ ∀ (j : Nat) (t : Tr n), ts[j]? = some t → ∃ l bs is B E, cs[j * 3]? = some (.bool l) ∧ cs[j * 3 + 1]? = some bs ∧ cs[j * 3 + 2]? = some is ∧ X < B ∧ E ≤ w.heap.size ∧ (∀ k, q = some k → k < B ∨ E ≤ k) ∧ IsF w B E n (.agg #[.bool l, bs, is]) t
theorem KidsF.nil (w : World) (X : Nat) (q : Option Nat) (n : Nat) : KidsF w X q n [] [] := ⟨rfl, fun j t h => by simp at h⟩
/-- Blocks from X on stay but for the row's own; the row's own may be a new one. -/
theorem KidsF.step {w w' : World} {X : Nat} {q q' : Option Nat} {n : Nat} {ts : List (Tr n)} {cs : List Value} (h : KidsF w X q n ts cs) (hs : w.heap.size ≤ w'.heap.size) (hf : ∀ k, X < k → k < w.heap.size → q ≠ some k → w'.heap[k]? = w.heap[k]?) (hq : q' = q ∨ ∀ k, q' = some k → w.heap.size ≤ k) : KidsF w' X q' n ts cs := by
  refine ⟨h.1, fun j t hj => ?_⟩
  obtain ⟨l, bs, is, B, E, c1, c2, c3, b1, b2, b3, b4⟩ := h.2 j t hj
  refine ⟨l, bs, is, B, E, c1, c2, c3, b1, by omega, ?_, b4.step fun k k1 k2 => hf k (by omega) (by omega) fun e => ?_⟩
  · rcases hq with rfl | hq
    · exact b3
    · intro k hk; have := hq k hk; omega
  · have := b3 k e; omega
theorem KidsF.snoc {w : World} {X : Nat} {q : Option Nat} {n : Nat} {ts : List (Tr n)} {cs : List Value} (h : KidsF w X q n ts cs) {t : Tr n} {l : Bool} {bs is : Value} {B E : Nat} (b1 : X < B) (b2 : E ≤ w.heap.size) (b3 : ∀ k, q = some k → k < B ∨ E ≤ k) (b4 : IsF w B E n (.agg #[.bool l, bs, is]) t) : KidsF w X q n (ts ++ [t]) (cs ++ [.bool l, bs, is]) := by
  refine ⟨by rw [List.length_append, List.length_append, h.1]; simp; omega, fun j t' hj => ?_⟩
  by_cases hjl : j < ts.length
  · rw [List.getElem?_append_left hjl] at hj
    obtain ⟨l', bs', is', B', E', c1, c2, c3, rest⟩ := h.2 j t' hj
    have hl := h.1
    exact ⟨l', bs', is', B', E', by rw [List.getElem?_append_left (by omega)]; exact c1, by rw [List.getElem?_append_left (by omega)]; exact c2, by rw [List.getElem?_append_left (by omega)]; exact c3, rest⟩
  · have hje : j = ts.length := by
      rcases Nat.lt_or_ge j (ts.length + 1) with h' | h'
      · omega
      · rw [List.getElem?_eq_none (by simp; omega)] at hj; cases hj
    subst hje
    have hl := h.1
    rw [List.getElem?_append_right (Nat.le_refl _), Nat.sub_self] at hj
    simp at hj
    subst hj
    refine ⟨l, bs, is, B, E, ?_, ?_, ?_, b1, b2, b3, b4⟩
    · rw [List.getElem?_append_right (by omega), hl, Nat.sub_self]; rfl
    · rw [List.getElem?_append_right (by omega), hl, Nat.add_sub_cancel_left]; rfl
    · rw [List.getElem?_append_right (by omega), hl, Nat.add_sub_cancel_left]; rfl
/-- A list of them is an item. -/
theorem IsF.list {w : World} {X n base : Nat} {ts : List (Tr n)} {cs : List Value} {ao : Option Addr} {m c : Nat} (h : KidsF w X (Value.slice ao m c).ownBlock n ts cs) (o : w.ownsRow base 44 3 (.slice ao m c) ts.length cs) (hb : X < base) (hl : ts.length ≤ 140737488355328) : IsF w (X + 1) w.heap.size (n + 1) (.agg #[.bool true, .slice none 0 0, .slice ao m c]) (mkT true [] ts) := by
  rcases o.2 with ⟨h1, h2⟩ | ⟨g, cap, cur, h1, h2, h3, h4, h5, h6, h7⟩
  · cases h1
    have : ts = [] := List.eq_nil_of_length_eq_zero h2
    subst this
    exact ⟨_, none, 0, rfl, .inl ⟨rfl, rfl⟩, fun k hk => (by simp [Value.ownBlock] at hk), fun x hx => (by cases hx), Nat.zero_le _, Nat.le_refl _, hl, fun h0 => (by cases h0)⟩
  · cases h1
    refine ⟨_, _, _, rfl, .inl ⟨rfl, rfl⟩, fun k hk => (by simp [Value.ownBlock] at hk), fun x hx => (by cases hx), Nat.zero_le _, h4, hl, fun _ => ⟨g, 0, rfl, by omega, blk_lt h3, fun j t hj => ?_⟩⟩
    obtain ⟨l, bs, is, B, E, c1, c2, c3, b1, b2, b3, b4⟩ := h.2 j t hj
    have hc := o.cells rfl
    refine ⟨l, bs, is, ?_, ?_, ?_, b4.wide (by omega) b2⟩
    · have := hc _ _ c1; rw [Addr.add_lit] at this; exact this
    · have := hc _ _ c2; rw [Addr.add_lit] at this; rw [Nat.add_assoc]; exact this
    · have := hc _ _ c3; rw [Addr.add_lit] at this; rw [Nat.add_assoc]; exact this
end Go.Proofs.YtbbaaegfbbjnjaaDoor
