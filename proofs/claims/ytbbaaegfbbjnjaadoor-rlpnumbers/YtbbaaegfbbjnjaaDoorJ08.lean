/-
  What is read is written so, without the program; no encoding begins like another one.
-/
import Derived.Test.YtbbaaegfbbjnjaaDoorTD
import Derived.Test.YtbbaaegfbbjnjaaDoorIt
import Derived.Laws.ResultCell
namespace Go.Proofs.YtbbaaegfbbjnjaaDoor

theorem take_split (b : List Nat) {s e : Nat} (h : s ≤ e) : b.take e = b.take s ++ (b.take e).drop s := by
  have := List.take_append_drop s (b.take e)
  rw [List.take_take, Nat.min_eq_left h] at this
  exact this.symm
theorem mid_len (b : List Nat) {s e : Nat} (he : e ≤ b.length) : ((b.take e).drop s).length = e - s := by
  rw [List.length_drop, List.length_take, Nat.min_eq_left he]
theorem mid_head (b : List Nat) {s e : Nat} (h : s < e) (he : e ≤ b.length) : ((b.take e).drop s).headD 0 = b.getD s 0 := by
  have hs : s < b.length := by omega
  rw [List.headD_eq_head?_getD, List.head?_drop, List.getElem?_take, if_pos h, List.getD_eq_getElem?_getD]

theorem hdrM_inv {b : List Nat} (hb : By b) {m base x : Nat} {q : List Nat} (hbq : b = x :: q) (hx : x = base + m) {s n : Nat} (h : s + n ≤ b.length) (h1 : (m ≤ 55 ∧ s = 1 ∧ n = m) ∨ (55 < m ∧ s = 1 + (m - 55) ∧ n = big ((b.drop 1).take (m - 55)) ∧ b.getD 1 0 ≠ 0 ∧ 55 < n)) (hm : m < 64) : b.take s = headL base n := by
  subst hbq
  rcases h1 with ⟨g1, rfl, rfl⟩ | ⟨g1, rfl, g3, g4, g5⟩
  · unfold headL; rw [if_pos g1, hx]; rfl
  · have hd : digs n = q.take (m - 55) := by
      rw [g3]
      refine digF_of_big 8 _ ((hb.drop 1).take _) ?_ ?_
      · rw [List.length_take]; omega
      · intro y r e
        simp only [List.drop_succ_cons, List.drop_zero] at e
        rcases q with _ | ⟨z, q'⟩
        · simp at e
        · obtain ⟨j, hj⟩ : ∃ j, m - 55 = j + 1 := ⟨m - 56, by omega⟩
          rw [hj, List.take_succ_cons] at e
          simp only [List.cons.injEq] at e
          simp at g4
          rw [← e.1]; exact g4
    unfold headL
    have hl : (q.take (m - 55)).length = m - 55 := by rw [List.length_take]; simp at h; omega
    rw [if_neg (by omega), hd, hl, show 1 + (m - 55) = (m - 55) + 1 by omega, List.take_succ_cons, hx]
    congr 1; omega

theorem hdr_inv {b : List Nat} (hb : By b) (h0 : b ≠ []) {l : Bool} {s e : Nat} (h : hdr b = .ok (l, s, e)) :
    b.take e = if l = true then headL 192 ((b.take e).drop s).length ++ (b.take e).drop s else strL ((b.take e).drop s) := by
  obtain ⟨x, q, hbq⟩ : ∃ x q, b = x :: q := by
    rcases b with _ | ⟨x, q⟩
    · exact absurd rfl h0
    · exact ⟨x, q, rfl⟩
  have hg : b.getD 0 0 = x := by rw [hbq]; rfl
  have hx : x < 256 := hb x (by rw [hbq]; simp)
  unfold hdr at h
  rw [hg] at h
  split at h
  · rename_i hlt
    simp only [Except.ok.injEq, Prod.mk.injEq] at h
    obtain ⟨rfl, rfl, rfl⟩ := h
    rw [hbq]
    simp [strL, hlt]
  · rename_i hge
    split at h
    · obtain ⟨s', n, h1, h2, h3, h4, h5, h6, h7⟩ := hdrM_ok h (by omega)
      simp only [Prod.mk.injEq] at h1
      obtain ⟨rfl, rfl, rfl⟩ := h1
      have hi := hdrM_inv hb (base := 128) hbq (by omega) h4 h7 (by omega)
      have hml := mid_len b (s := s) h4
      rw [if_neg (by simp)]
      unfold strL
      rw [if_neg, hml, show s + n - s = n by omega, ← hi, ← take_split b (by omega)]
      rintro ⟨g1, g2⟩
      rw [hml] at g1
      rw [mid_head b (by omega) h4] at g2
      exact h5 ⟨rfl, by omega, g2⟩
    · obtain ⟨s', n, h1, h2, h3, h4, h5, h6, h7⟩ := hdrM_ok h (by omega)
      simp only [Prod.mk.injEq] at h1
      obtain ⟨rfl, rfl, rfl⟩ := h1
      have hi := hdrM_inv hb (base := 192) hbq (by omega) h4 h7 (by omega)
      have hml := mid_len b (s := s) h4
      rw [if_pos rfl, hml, show s + n - s = n by omega, ← hi, ← take_split b (by omega)]

/-- What holds of an item that was read. -/
def Was (n : Nat) (b : List Nat) (c : Nat) (t : Tr n) (k c' d : Nat) : Prop :=
  enc n t = b.take k ∧ bad n d t = 0 ∧ 1 ≤ k ∧ k ≤ b.length ∧ c' = c + cnt n t ∧ c' ≤ 4096 ∧ byT n t

theorem itemsR_inv {n d : Nat} {f : List Nat → Nat → Except Nat (Tr n × Nat × Nat)} (hf : ∀ b c t k c', By b → b ≠ [] → c ≤ 4096 → f b c = .ok (t, k, c') → Was n b c t k c' d) :
    ∀ (g : Nat) (p : List Nat) (c : Nat) (ks : List (Tr n)) (c' : Nat), By p → c ≤ 4096 → itemsR f g p c = .ok (ks, c') → ks.flatMap (enc n) = p ∧ (∀ k ∈ ks, bad n d k = 0 ∧ byT n k) ∧ c' = c + (ks.map (cnt n)).sum ∧ c' ≤ 4096
  | g, [], c, ks, c', _, hc, h => by
    have : (Except.ok ([], c) : Except Nat (List (Tr n) × Nat)) = .ok (ks, c') := by cases g <;> exact h
    simp only [Except.ok.injEq, Prod.mk.injEq] at this
    obtain ⟨rfl, rfl⟩ := this
    exact ⟨rfl, fun k hk => (by cases hk), by simp, hc⟩
  | 0, x :: r, c, ks, c', _, _, h => by cases h
  | g + 1, x :: r, c, ks, c', hb, hc, h => by
    unfold itemsR at h
    rcases h1 : f (x :: r) c with e | ⟨t, k, c1⟩
    · rw [h1] at h; cases h
    · rw [h1] at h
      simp only at h
      obtain ⟨w1, w2, w3, w4, w5, w6, w7⟩ := hf _ _ _ _ _ hb (by simp) hc h1
      rcases h2 : itemsR f g ((x :: r).drop k) c1 with e | ⟨ts, c2⟩
      · rw [h2] at h; cases h
      · rw [h2] at h
        simp only [Except.ok.injEq, Prod.mk.injEq] at h
        obtain ⟨rfl, rfl⟩ := h
        obtain ⟨i1, i2, i3, i4⟩ := itemsR_inv hf g _ c1 ts c2 (hb.drop k) w6 h2
        refine ⟨?_, ?_, ?_, i4⟩
        · rw [List.flatMap_cons, i1, w1, List.take_append_drop]
        · intro k' hk'
          rcases List.mem_cons.1 hk' with rfl | hk'
          · exact ⟨w2, w7⟩
          · exact i2 k' hk'
        · simp only [List.map_cons, List.sum_cons]; omega

/-- What is read is written so. -/
theorem rdT_inv : ∀ (n : Nat) (b : List Nat) (c : Nat) (t : Tr (n + 3)) (k c' : Nat), n ≤ 16 → By b → b ≠ [] → c ≤ 4096 → rdT n b c = .ok (t, k, c') → Was (n + 3) b c t k c' (17 - n)
  | 0, b, c, t, k, c', _, _, _, _, h => by cases h
  | n + 1, b, c, t, k, c', hn, hb, h0, hc, h => by
    unfold rdT at h
    split at h
    · cases h
    · rename_i hc0
      rcases hh : hdr b with e | ⟨l, s, e⟩
      · rw [hh] at h; cases h
      · rw [hh] at h
        simp only at h
        obtain ⟨o1, o2, o3, o4, o5, o6, o7⟩ := hdr_ok hb hh h0
        have hi := hdr_inv hb h0 hh
        split at h
        · rename_i hl
          subst hl
          rcases h1 : itemsR (rdT n) (e - s) ((b.take e).drop s) (c + 1) with e' | ⟨ks, c1⟩
          · rw [h1] at h; cases h
          · rw [h1] at h
            simp only [Except.ok.injEq, Prod.mk.injEq] at h
            obtain ⟨rfl, rfl, rfl⟩ := h
            obtain ⟨i1, i2, i3, i4⟩ := itemsR_inv (n := n + 3) (d := 17 - n) (fun b' c0 t' k' c'' hb' h0' hc' h' => rdT_inv n b' c0 t' k' c'' (by omega) hb' h0' hc' h') _ _ (c + 1) ks c1 ((hb.take e).drop s) (by omega) h1
            refine ⟨?_, bad_of (n := n + 3) (by omega) (.inl ⟨rfl, rfl, fun k hk => ?_⟩), by omega, o3, ?_, i4, fun x hx => (by cases hx), fun k hk => (i2 k hk).2⟩
            · show (if true = true then headL 192 (ks.flatMap (enc (n + 3))).length ++ ks.flatMap (enc (n + 3)) else _) = _
              rw [if_pos rfl, i1]
              rw [if_pos rfl] at hi
              exact hi.symm
            · rw [show 17 - (n + 1) + 1 = 17 - n by omega]; exact (i2 k hk).1
            · show c1 = c + (1 + (ks.map (cnt (n + 3))).sum)
              omega
        · rename_i hl
          simp only [Except.ok.injEq, Prod.mk.injEq] at h
          obtain ⟨rfl, rfl, rfl⟩ := h
          rw [if_neg hl] at hi
          refine ⟨?_, bad_of (n := n + 3) (by omega) (.inr ⟨rfl, rfl⟩), by omega, o3, rfl, by omega, (hb.take e).drop s, fun k hk => (by cases hk)⟩
          show (if false = true then _ else strL _) = _
          rw [if_neg (by simp)]
          exact hi.symm

/-- The item at a list's beginning. -/
def firstL (b : List Nat) : Except Nat (Tr 19 × Nat × Nat) := if 65536 < b.length then .error 44 else if b = [] then .error 41 else rdT 16 b 0
theorem firstL_back {t : Tr 19} {more : List Nat} (h : bad 19 1 t = 0) (hc : cnt 19 t ≤ 4096) (hl : (enc 19 t).length + more.length ≤ 65536) : firstL (enc 19 t ++ more) = .ok (t, (enc 19 t).length, cnt 19 t) := by
  have hp : 1 ≤ (enc 19 t).length := enc_pos (n := 18) t
  unfold firstL
  rw [if_neg (by rw [List.length_append]; omega), if_neg, rdT_back 16 t more 0 h (by rw [Nat.zero_add]; exact hc) (show (enc 19 t).length ≤ 2147483648 by omega) (by omega), Nat.zero_add]
  intro e
  have := congrArg List.length e
  rw [List.length_append] at this
  simp only [List.length_nil] at this; omega
theorem firstL_inv {b : List Nat} (hb : By b) {t : Tr 19} {k c : Nat} (h : firstL b = .ok (t, k, c)) : Was 19 b 0 t k c 1 ∧ b.length ≤ 65536 := by
  unfold firstL at h
  split at h
  · cases h
  · split at h
    · cases h
    · exact ⟨rdT_inv 16 b 0 t k c (by omega) hb (by assumption) (by omega) h, by omega⟩
end Go.Proofs.YtbbaaegfbbjnjaaDoor
namespace Go.Proofs.YtbbaaegfbbjnjaaDoor
open Go.ChangeShapes Go.WideShapes Go.ChangeAt Go.RowKit

/-- What a first byte says. -/
def Opens (x : Nat) (l : Bool) (s k m : Nat) : Prop := ∀ w : World, Calls Tryd.prog 46 #[.int .u8 (x : Int)] w fun r w' => r = .returned (.agg #[.bool l, .int .i64 (s : Int), .int .i64 (k : Int), .int .i64 (m : Int)]) ∧ Fr [] w w'

set_option maxRecDepth 20000 in
set_option maxHeartbeats 400000 in
theorem opened_a (x : Nat) (hx : x < 128) : Opens x false 0 0 1 := by
  intro w
  go_enter Tryd.func46, Tryd.ntmps46
  go_wp2
  go_returns
  exact ⟨rfl, ((Fr.refl _ _).alloc _).alloc _⟩
set_option maxRecDepth 20000 in
set_option maxHeartbeats 400000 in
theorem opened_b (x m : Nat) (hx : x = 128 + m) (hm : m ≤ 55) : Opens x false 1 0 m := by
  intro w
  subst hx
  rw [show ((128 + m : Nat) : Int) = 128 + (m : Int) by omega]
  have hw2 : IntKind.u8.wrap (128 + (m : Int) - 128) = (m : Int) := by rw [IntKind.wrap_u8]; omega
  go_enter Tryd.func46, Tryd.ntmps46
  go_wp2
  all_goals go_returns
  all_goals refine ⟨?_, ((Fr.refl _ _).alloc _).alloc _⟩
  all_goals first | rfl | (rw [(show (m : Int) - 55 = 0 by omega)]; done) | (rw [(show (m : Int) - 55 = 0 by omega)]; rfl) | (exfalso; omega)
set_option maxRecDepth 20000 in
set_option maxHeartbeats 400000 in
theorem opened_c (x k : Nat) (hx : x = 183 + k) (hk : 1 ≤ k) (hk8 : k ≤ 8) : Opens x false 1 k (55 + k) := by
  intro w
  subst hx
  rw [show ((183 + k : Nat) : Int) = 183 + (k : Int) by omega]
  rw [show ((55 + k : Nat) : Int) = 55 + (k : Int) by omega]
  have hw2 : IntKind.u8.wrap (183 + (k : Int) - 128) = (55 + (k : Int)) := by rw [IntKind.wrap_u8]; omega
  go_enter Tryd.func46, Tryd.ntmps46
  go_wp2
  all_goals go_returns
  all_goals refine ⟨?_, ((Fr.refl _ _).alloc _).alloc _⟩
  all_goals first | rfl | (rw [(show 55 + (k : Int) - 55 = (k : Int) by omega)]; done) | (rw [(show 55 + (k : Int) - 55 = (k : Int) by omega)]; rfl) | (exfalso; omega)
set_option maxRecDepth 20000 in
set_option maxHeartbeats 400000 in
theorem opened_d (x m : Nat) (hx : x = 192 + m) (hm : m ≤ 55) : Opens x true 1 0 m := by
  intro w
  subst hx
  rw [show ((192 + m : Nat) : Int) = 192 + (m : Int) by omega]
  have hw3 : IntKind.u8.wrap (192 + (m : Int) - 64) = 128 + (m : Int) := by rw [IntKind.wrap_u8]; omega
  have hw2 : IntKind.u8.wrap (128 + (m : Int) - 128) = (m : Int) := by rw [IntKind.wrap_u8]; omega
  go_enter Tryd.func46, Tryd.ntmps46
  go_wp2
  all_goals go_returns
  all_goals refine ⟨?_, ((Fr.refl _ _).alloc _).alloc _⟩
  all_goals first | rfl | (rw [(show (m : Int) - 55 = 0 by omega)]; done) | (rw [(show (m : Int) - 55 = 0 by omega)]; rfl) | (exfalso; omega)
set_option maxRecDepth 20000 in
set_option maxHeartbeats 400000 in
theorem opened_e (x k : Nat) (hx : x = 247 + k) (hk : 1 ≤ k) (hk8 : k ≤ 8) : Opens x true 1 k (55 + k) := by
  intro w
  subst hx
  rw [show ((247 + k : Nat) : Int) = 247 + (k : Int) by omega]
  rw [show ((55 + k : Nat) : Int) = 55 + (k : Int) by omega]
  have hw3 : IntKind.u8.wrap (247 + (k : Int) - 64) = 183 + (k : Int) := by rw [IntKind.wrap_u8]; omega
  have hw2 : IntKind.u8.wrap (183 + (k : Int) - 128) = (55 + (k : Int)) := by rw [IntKind.wrap_u8]; omega
  go_enter Tryd.func46, Tryd.ntmps46
  go_wp2
  all_goals go_returns
  all_goals refine ⟨?_, ((Fr.refl _ _).alloc _).alloc _⟩
  all_goals first | rfl | (rw [(show 55 + (k : Int) - 55 = (k : Int) by omega)]; done) | (rw [(show 55 + (k : Int) - 55 = (k : Int) by omega)]; rfl) | (exfalso; omega)
end Go.Proofs.YtbbaaegfbbjnjaaDoor
namespace Go.Proofs.YtbbaaegfbbjnjaaDoor
open Go.ChangeShapes Go.WideShapes Go.ChangeAt Go.RowKit

theorem store3 {W : World} {g : Nat} {x y z a b c : Value} {T : TypeId} (h : W.heap[g]? = some (.cells #[x, y, z] T (0, 0))) : (((W.setCell ⟨g, 0, none⟩ a).setCell ⟨g, 1, none⟩ b).setCell ⟨g, 2, none⟩ c).heap[g]? = some (.cells #[a, b, c] T (0, 0)) := by
  rw [blk_set (blk_set (blk_set h 0 a) 1 b) 2 c]; rfl
theorem fr3 {w W : World} {g : Nat} (h : Fr [] w W) (hg : w.heap.size ≤ g) (a b c : Value) : Fr [] w (((W.setCell ⟨g, 0, none⟩ a).setCell ⟨g, 1, none⟩ b).setCell ⟨g, 2, none⟩ c) :=
  ((h.set _ _ (.inr hg)).set _ _ (.inr hg)).set _ _ (.inr hg)
theorem sizeItem : (Tryd.prog.info? 44).map (·.size) = some 3 := by kernel_rfl
theorem load_item {w : World} {g : Nat} {a b c : Value} {t : TypeId} (hg : w.heap[g]? = some (.cells #[a, b, c] t (0, 0))) : (loadVar 44 ⟨g, 0, none⟩).run Tryd.prog w = .ok (.agg #[a, b, c]) w :=
  run_loadVar_row w g t 44 #[a, b, c] (0, 0) _ hg Tryd.underlying44 rfl sizeItem
theorem sizePart : (Tryd.prog.info? 77).map (·.size) = some 3 := by kernel_rfl
theorem load_part {w : World} {g : Nat} {a b c : Value} {t : TypeId} (hg : w.heap[g]? = some (.cells #[a, b, c] t (0, 0))) : (loadVar 77 ⟨g, 0, none⟩).run Tryd.prog w = .ok (.agg #[a, b, c]) w :=
  run_loadVar_row w g t 77 #[a, b, c] (0, 0) _ hg Tryd.underlying77 rfl sizePart
theorem ret_ct {fn : Func} {p u : Tmp} {ty : TypeId} (h : fn.results = #[.cell p ty, .tmp u]) {tmps : Array Value} {w : World} {g : Nat} {cs : Array Value} (hp : tmps.getD p undef = .pointer (some ⟨g, 0, none⟩)) (hg : (loadVar ty ⟨g, 0, none⟩).run Tryd.prog w = .ok (.agg cs) w) :
    (results fn tmps).run Tryd.prog w = .ok (.tuple #[.agg cs, tmps.getD u undef]) w := by
  rw [results_cell_tmp h, hp]
  simp [asAddr, hg]
theorem ret_ctt {fn : Func} {p u v : Tmp} {ty : TypeId} (h : fn.results = #[.cell p ty, .tmp u, .tmp v]) {tmps : Array Value} {w : World} {g : Nat} {cs : Array Value} (hp : tmps.getD p undef = .pointer (some ⟨g, 0, none⟩)) (hg : (loadVar ty ⟨g, 0, none⟩).run Tryd.prog w = .ok (.agg cs) w) :
    (results fn tmps).run Tryd.prog w = .ok (.tuple #[.agg cs, tmps.getD u undef, tmps.getD v undef]) w := by
  have hp' : tmps[p]?.getD undef = .pointer (some ⟨g, 0, none⟩) := by simpa using hp
  simp [results, h, hp', asAddr, hg]
end Go.Proofs.YtbbaaegfbbjnjaaDoor
