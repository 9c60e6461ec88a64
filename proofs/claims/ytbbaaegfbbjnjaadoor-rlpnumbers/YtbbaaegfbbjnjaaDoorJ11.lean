/-
  What find of package rlp answers, in general.
-/
import Derived.Test.YtbbaaegfbbjnjaaDoorFi3
import Derived.Test.YtbbaaegfbbjnjaaDoorIt
namespace Go.Proofs.YtbbaaegfbbjnjaaDoor
open Go.ChangeShapes Go.WideShapes Go.ChangeAt Go.RowKit

theorem found_er {w w' : World} {h : Except Nat (Bool × Nat × Nat)} {k : Nat} (e : h = .error k) {r : Ending} (hr : r = .returned (.tuple #[.agg #[.bool false, .int .i64 0, .int .i64 0], .int .i64 (k : Int)]) ∧ Fr [] w w') : Found h r ∧ Fr [] w w' := by
  subst e; exact hr
theorem found_ok {w w' : World} {h : Except Nat (Bool × Nat × Nat)} {l : Bool} {s e : Nat} (he : h = .ok (l, s, e)) {r : Ending} {s' e' : Int} (hs : s' = (s : Int)) (hee : e' = (e : Int)) (hr : r = .returned (.tuple #[.agg #[.bool l, .int .i64 s', .int .i64 e'], .int .i64 0]) ∧ Fr [] w w') : Found h r ∧ Fr [] w w' := by
  subst he; subst hs; subst hee; exact hr

theorem find_M (w : World) {v : Value} {b : List Nat} (hr : Rd w v (bv b)) (hb : By b) {x : Nat} (hx0 : b[0]? = some x) {l : Bool} {m : Nat} (hm : m < 64) (hos : m ≤ 55 → Opens x l 1 0 m) (hol : ∀ k, m = 55 + k → 1 ≤ k → Opens x l 1 k (55 + k)) (hl : b.length ≤ 100000) :
    Calls Tryd.prog 38 #[v] w fun r w' => Found (hdrM b l m) r ∧ Fr [] w w' := by
  by_cases h55 : m ≤ 55
  · have e1 : hdrM b l m = hdrF b l 1 m := by unfold hdrM; rw [if_pos h55]
    rw [e1]
    have ho := hos h55
    by_cases hs : b.length < 1 + m
    · have e2 : hdrF b l 1 m = .error 41 := by unfold hdrF; rw [if_pos hs]
      rcases l with _ | _
      · exact (find_s1_false w hr hx0 h55 hs ho hl).mono fun r w' h => found_er e2 h
      · exact (find_s1_true w hr hx0 h55 hs ho hl).mono fun r w' h => found_er e2 h
    · rcases l with _ | _
      · by_cases h1 : m = 1
        · subst h1
          obtain ⟨y, hy⟩ : ∃ y, b[1]? = some y := ⟨_, List.getElem?_eq_getElem (by omega)⟩
          have hg : b.getD 1 0 = y := by rw [List.getD_eq_getElem?_getD, hy]; rfl
          by_cases hy1 : y < 128
          · have e2 : hdrF b false 1 1 = .error 40 := by unfold hdrF; rw [if_neg hs, if_pos ⟨rfl, rfl, by rw [hg]; exact hy1⟩]
            exact (find_s2 w hr hx0 hy hy1 (by omega) ho hl).mono fun r w' h => found_er e2 h
          · have e2 : hdrF b false 1 1 = .ok (false, 1, 2) := by unfold hdrF; rw [if_neg hs, if_neg (by rw [hg]; rintro ⟨_, _, h⟩; exact hy1 h)]
            exact (find_s3 w hr hx0 hy (by omega) (by omega) ho hl).mono fun r w' h => found_ok e2 rfl rfl h
        · have e2 : hdrF b false 1 m = .ok (false, 1, 1 + m) := by unfold hdrF; rw [if_neg hs, if_neg (by rintro ⟨_, h, _⟩; exact h1 h)]
          exact (find_s4 w hr hx0 h55 h1 (by omega) ho hl).mono fun r w' h => found_ok e2 rfl (by omega) h
      · have e2 : hdrF b true 1 m = .ok (true, 1, 1 + m) := by unfold hdrF; rw [if_neg hs, if_neg (by rintro ⟨h, _⟩; cases h)]
        exact (find_s5 w hr hx0 h55 (by omega) ho hl).mono fun r w' h => found_ok e2 rfl (by omega) h
  · obtain ⟨k, hk⟩ : ∃ k, m = 55 + k := ⟨m - 55, by omega⟩
    have ho := hol k hk (by omega)
    have hmk : m - 55 = k := by omega
    have e1 : hdrM b l m = if b.length < 1 + k then .error 41 else if b.getD 1 0 = 0 ∨ big ((b.drop 1).take k) ≤ 55 ∨ 2147483648 < big ((b.drop 1).take k) then .error 40 else hdrF b l (1 + k) (big ((b.drop 1).take k)) := by
      unfold hdrM; rw [if_neg h55, hmk]
    by_cases hs : b.length < 1 + k
    · exact (find_l1 w hr hx0 (by omega) (by omega) hs ho hl).mono fun r w' h => found_er (by rw [e1, if_pos hs]) h
    · rw [if_neg hs] at e1
      obtain ⟨y, hy⟩ : ∃ y, b[1]? = some y := ⟨_, List.getElem?_eq_getElem (by omega)⟩
      have hg : b.getD 1 0 = y := by rw [List.getD_eq_getElem?_getD, hy]; rfl
      have hy2 : y < 256 := hb.at hy
      rw [hg] at e1
      obtain ⟨n, hn⟩ : ∃ n, n = big ((b.drop 1).take k) := ⟨_, rfl⟩
      have hn2 : n < 18446744073709551616 := by
        have h := big_lt _ ((hb.drop 1).take k)
        rw [← hn] at h
        have h2 : (256 : Nat) ^ ((b.drop 1).take k).length ≤ 256 ^ 8 := Nat.pow_le_pow_right (by omega) (by rw [List.length_take]; omega)
        omega
      rw [← hn] at e1
      by_cases hy0 : y = 0
      · exact (find_l2 w hr hx0 hb (by omega) (by omega) (by omega) hy hy2 hn hn2 hy0 ho hl).mono fun r w' h => found_er (by rw [e1, if_pos (.inl hy0)]) h
      · by_cases hn3 : n ≤ 55 ∨ 2147483648 < n
        · exact (find_l3 w hr hx0 hb (by omega) (by omega) (by omega) hy hy2 hn hn2 hy0 hn3 ho hl).mono fun r w' h => found_er (by rw [e1, if_pos (.inr hn3)]) h
        · rw [if_neg (by omega)] at e1
          by_cases hs2 : b.length < 1 + k + n
          · exact (find_l4 w hr hx0 hb (by omega) (by omega) (by omega) hy hy2 hn hn2 hy0 (by omega) (by omega) hs2 ho hl).mono fun r w' h => found_er (by rw [e1]; unfold hdrF; rw [if_pos hs2]) h
          · have e2 : hdrM b l m = .ok (l, 1 + k, 1 + k + n) := by rw [e1]; unfold hdrF; rw [if_neg hs2, if_neg (by omega)]
            rcases l with _ | _
            · exact (find_l5_false w hr hx0 hb (by omega) (by omega) (by omega) hy hy2 hn hn2 hy0 (by omega) (by omega) (by omega) ho hl).mono fun r w' h => found_ok e2 (by omega) (by omega) h
            · exact (find_l5_true w hr hx0 hb (by omega) (by omega) (by omega) hy hy2 hn hn2 hy0 (by omega) (by omega) (by omega) ho hl).mono fun r w' h => found_ok e2 (by omega) (by omega) h

theorem find_c (w : World) {v : Value} {b : List Nat} (hr : Rd w v (bv b)) (hb : By b) (h0 : b ≠ []) (hl : b.length ≤ 100000) :
    Calls Tryd.prog 38 #[v] w fun r w' => Found (hdr b) r ∧ Fr [] w w' := by
  obtain ⟨x, hx0⟩ : ∃ x, b[0]? = some x := ⟨_, List.getElem?_eq_getElem (List.length_pos_iff.2 h0)⟩
  have hg : b.getD 0 0 = x := by rw [List.getD_eq_getElem?_getD, hx0]; rfl
  have hx : x < 256 := hb.at hx0
  by_cases h1 : x < 128
  · have e : hdr b = .ok (false, 0, 1) := by unfold hdr; rw [hg, if_pos h1]
    exact (find_a w hr hx0 (opened_a x h1) hl).mono fun r w' h => found_ok e rfl rfl h
  · by_cases h2 : x < 192
    · have e : hdr b = hdrM b false (x - 128) := by unfold hdr; rw [hg, if_neg h1, if_pos h2]
      rw [e]
      exact find_M w hr hb hx0 (by omega) (fun h => opened_b x (x - 128) (by omega) h) (fun k hk hk1 => opened_c x k (by omega) hk1 (by omega)) hl
    · have e : hdr b = hdrM b true (x - 192) := by unfold hdr; rw [hg, if_neg h1, if_neg h2]
      rw [e]
      exact find_M w hr hb hx0 (by omega) (fun h => opened_d x (x - 192) (by omega) h) (fun k hk hk1 => opened_e x k (by omega) hk1 (by omega)) hl
end Go.Proofs.YtbbaaegfbbjnjaaDoor
namespace Go.Proofs.YtbbaaegfbbjnjaaDoor
open Go.ChangeShapes Go.WideShapes Go.ChangeAt Go.RowKit

/-- The gate's counter and the two closures, in three blocks. -/
structure Clo (w : World) (F : Nat) (T : Nat) (g e k c : Nat) : Prop where
  cg : w.heap[g]? = some (.cells #[.int .i64 (c : Int)] 3 (0, 0))
  ce : w.heap[e]? = some (.cells #[.func (.func 45) #[] #[.pointer (some ⟨g, 0, none⟩)]] 72 (0, 0))
  ck : w.heap[k]? = some (.cells #[.func (.func F) #[] #[.pointer (some ⟨e, 0, none⟩), .pointer (some ⟨k, 0, none⟩)]] T (0, 0))
  eg : e ≠ g
  kg : k ≠ g
theorem Clo.step {w w' : World} {F T g e k c c' : Nat} (h : Clo w F T g e k c) (f : Fr [g] w w') (hg : w'.heap[g]? = some (.cells #[.int .i64 (c' : Int)] 3 (0, 0))) : Clo w' F T g e k c' :=
  ⟨hg, f.at h.ce (by simpa using h.eg), f.at h.ck (by simpa using h.kg), h.eg, h.kg⟩
theorem Clo.alloc {w : World} {F T g e k c : Nat} (h : Clo w F T g e k c) (o : Obj) : Clo (w.alloc o) F T g e k c :=
  ⟨by rw [blk_old w o (blk_lt h.cg)]; exact h.cg, by rw [blk_old w o (blk_lt h.ce)]; exact h.ce, by rw [blk_old w o (blk_lt h.ck)]; exact h.ck, h.eg, h.kg⟩

/-- What measure's closure tells. -/
def Told (n d : Nat) (t : Tr n) (g c : Nat) (r : Ending) (w' : World) : Prop :=
  (bad n d t = 0 ∧ r = .returned (.tuple #[.int .i64 ((enc n t).length : Int), .int .i64 0]) ∧ w'.heap[g]? = some (.cells #[.int .i64 ((c + cnt n t : Nat) : Int)] 3 (0, 0))) ∨
  (bad n d t ≠ 0 ∧ r = .returned (.tuple #[.int .i64 0, .int .i64 (bad n d t : Int)]))

theorem bad_le : ∀ (n d : Nat) (t : Tr n), bad n d t ≤ 43
  | 0, _, _ => by simp [bad]
  | n + 1, d, t => by
    unfold bad
    split
    · omega
    · split
      · omega
      · have : ∀ (l : List (Tr n)), firstBad (bad n (d + 1)) l ≤ 43 := by
          intro l
          induction l with
          | nil => simp [firstBad]
          | cons k r ih => unfold firstBad; split; exact ih; exact bad_le n (d + 1) k
        exact this _
theorem bad_deep (n : Nat) {d : Nat} (t : Tr n) (h : 16 < d) : bad n d t = 43 := by
  cases n with
  | zero => rfl
  | succ n => unfold bad; rw [if_pos h]
theorem bad_form {n d : Nat} {t : Tr (n + 1)} (h : d ≤ 16) (hf : (tL t = true ∧ tB t ≠ []) ∨ (tL t = false ∧ tK t ≠ [])) : bad (n + 1) d t = 40 := by
  unfold bad; rw [if_neg (by omega), if_pos hf]

set_option maxRecDepth 20000 in
set_option maxHeartbeats 400000 in
theorem walk_deep (w : World) {T g e k c d : Nat} (C : Clo w 36 T g e k c) (l : Bool) (bs is : Value) (hd : 16 < d) (hd2 : d ≤ 100000) :
    Calls Tryd.prog 36 #[.agg #[.bool l, bs, is], .int .i64 (d : Int), .pointer (some ⟨e, 0, none⟩), .pointer (some ⟨k, 0, none⟩)] w fun r w' => r = .returned (.tuple #[.int .i64 0, .int .i64 43]) ∧ Fr [g] w w' := by
  have C1 := C.alloc (.cells #[.bool l, bs, is] 44)
  have he := blk_cell C1.ce 0
  simp at he
  have HC := hid C1
  clear C C1
  go_enter Tryd.func36, Tryd.ntmps36
  go_wp2_with fail
  refine (gate_no _ HC.out.cg (.inl hd) hd2).mono ?_
  rintro r w1 ⟨rfl, rfl⟩
  go_wp2
  go_ret2
  exact ⟨rfl, (Fr.refl _ _).alloc _⟩
end Go.Proofs.YtbbaaegfbbjnjaaDoor
