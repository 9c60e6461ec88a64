/-
  How items are read from bytes, without the program; that they come back, and that what is read is written so.
-/
import Derived.Test.YtbbaaegfbbjnjaaDoorJ04
namespace Go.Proofs.YtbbaaegfbbjnjaaDoor

/-- What is asked of a payload of n bytes that begins at s. -/
def hdrF (b : List Nat) (l : Bool) (s n : Nat) : Except Nat (Bool × Nat × Nat) :=
  if b.length < s + n then .error 41 else if l = false ∧ n = 1 ∧ b.getD s 0 < 128 then .error 40 else .ok (l, s, s + n)
/-- Where the payload of the item at a list's beginning stands. -/
def hdrM (b : List Nat) (l : Bool) (m : Nat) : Except Nat (Bool × Nat × Nat) :=
  if m ≤ 55 then hdrF b l 1 m
  else if b.length < 1 + (m - 55) then .error 41
  else if b.getD 1 0 = 0 ∨ big ((b.drop 1).take (m - 55)) ≤ 55 ∨ 2147483648 < big ((b.drop 1).take (m - 55)) then .error 40
  else hdrF b l (1 + (m - 55)) (big ((b.drop 1).take (m - 55)))
def hdr (b : List Nat) : Except Nat (Bool × Nat × Nat) :=
  if b.getD 0 0 < 128 then .ok (false, 0, 1) else if b.getD 0 0 < 192 then hdrM b false (b.getD 0 0 - 128) else hdrM b true (b.getD 0 0 - 192)

theorem hdrF_ok {b : List Nat} {l : Bool} {s n : Nat} {r : Bool × Nat × Nat} (h : hdrF b l s n = .ok r) : r = (l, s, s + n) ∧ s + n ≤ b.length ∧ ¬ (l = false ∧ n = 1 ∧ b.getD s 0 < 128) := by
  unfold hdrF at h
  split at h
  · cases h
  · split at h
    · cases h
    · rename_i h1 h2; cases h; exact ⟨rfl, by omega, h2⟩
theorem hdrM_ok {b : List Nat} {l : Bool} {m : Nat} {r : Bool × Nat × Nat} (h : hdrM b l m = .ok r) (hm : m < 64) : ∃ s n, r = (l, s, s + n) ∧ 1 ≤ s ∧ s ≤ 9 ∧ s + n ≤ b.length ∧ ¬ (l = false ∧ n = 1 ∧ b.getD s 0 < 128) ∧ n ≤ 2147483648 ∧ ((m ≤ 55 ∧ s = 1 ∧ n = m) ∨ (55 < m ∧ s = 1 + (m - 55) ∧ n = big ((b.drop 1).take (m - 55)) ∧ b.getD 1 0 ≠ 0 ∧ 55 < n)) := by
  unfold hdrM at h
  split at h
  · obtain ⟨h1, h2, h3⟩ := hdrF_ok h
    exact ⟨1, m, h1, by omega, by omega, h2, h3, by omega, .inl ⟨by omega, rfl, rfl⟩⟩
  · split at h
    · cases h
    · split at h
      · cases h
      · rename_i g1 g2 g3
        obtain ⟨h1, h2, h3⟩ := hdrF_ok h
        refine ⟨_, _, h1, by omega, by omega, h2, h3, by omega, .inr ⟨by omega, rfl, rfl, by omega, by omega⟩⟩
theorem hdr_ok {b : List Nat} (hb : By b) {l : Bool} {s e : Nat} (h : hdr b = .ok (l, s, e)) (h0 : b ≠ []) : s ≤ 9 ∧ s ≤ e ∧ e ≤ b.length ∧ 1 ≤ e ∧ (l = false → s = 0 → e = 1) ∧ (l = true → 1 ≤ s) ∧ e ≤ s + 2147483648 := by
  have hx : b.getD 0 0 < 256 := by
    rcases b with _ | ⟨x, r⟩
    · exact absurd rfl h0
    · exact hb x (by simp)
  have hl : 0 < b.length := List.length_pos_iff.2 h0
  unfold hdr at h
  split at h
  · simp only [Except.ok.injEq, Prod.mk.injEq] at h
    obtain ⟨rfl, rfl, rfl⟩ := h
    refine ⟨by omega, by omega, by omega, by omega, fun _ _ => rfl, fun h => (by cases h), by omega⟩
  · split at h
    · obtain ⟨s', n, h1, h2, h3, h4, _, h6, _⟩ := hdrM_ok h (by omega)
      simp only [Prod.mk.injEq] at h1
      obtain ⟨rfl, rfl, rfl⟩ := h1
      refine ⟨by omega, by omega, h4, by omega, fun _ h => (by omega), fun h => (by cases h), by omega⟩
    · obtain ⟨s', n, h1, h2, h3, h4, _, h6, _⟩ := hdrM_ok h (by omega)
      simp only [Prod.mk.injEq] at h1
      obtain ⟨rfl, rfl, rfl⟩ := h1
      refine ⟨by omega, by omega, h4, by omega, fun h => (by cases h), fun _ => h2, by omega⟩

/-- Items one behind the other. -/
def itemsR {α : Type} (f : List Nat → Nat → Except Nat (α × Nat × Nat)) : Nat → List Nat → Nat → Except Nat (List α × Nat)
  | _, [], c => .ok ([], c)
  | 0, _ :: _, _ => .error 99
  | g + 1, x :: r, c => match f (x :: r) c with
    | .error e => .error e
    | .ok (t, k, c') => match itemsR f g ((x :: r).drop k) c' with
      | .error e => .error e
      | .ok (ts, c'') => .ok (t :: ts, c'')
/-- The item at a list's beginning, its bytes, and how many items were met. -/
def rdT : (n : Nat) → List Nat → Nat → Except Nat (Tr (n + 3) × Nat × Nat)
  | 0, _, _ => .error 43
  | n + 1, b, c => if c = 4096 then .error 43 else match hdr b with
    | .error e => .error e
    | .ok (l, s, e) => if l = true then (match itemsR (rdT n) (e - s) ((b.take e).drop s) (c + 1) with
        | .error e' => .error e'
        | .ok (ks, c') => .ok (mkT true [] ks, e, c'))
      else .ok (mkT false ((b.take e).drop s) [], e, c + 1)

theorem headL_dr {base n : Nat} {more : List Nat} (hn : n < 18446744073709551616) (h : 55 < n) : ∃ k, k = (digs n).length ∧ 1 ≤ k ∧ k ≤ 8 ∧ headL base n ++ more = (base + 55 + k) :: (digs n ++ more) ∧ (digs n ++ more).take k = digs n ∧ (digs n ++ more).drop k = more ∧ big (digs n) = n ∧ (digs n ++ more).getD 0 0 ≠ 0 := by
  refine ⟨_, rfl, digF_pos (f := 7) (by omega), digF_len 8 n, ?_, List.take_left' rfl, List.drop_left' rfl, digF_big 8 n (by omega), ?_⟩
  · unfold headL; rw [if_neg (by omega)]; rfl
  · rcases hd : digs n with _ | ⟨x, r⟩
    · have := digF_pos (f := 7) (n := n) (by omega)
      rw [show digF (7 + 1) n = digs n from rfl, hd] at this
      simp at this
    · have := digF_head 8 n x r (by omega) hd
      simpa using this

/-- A head ahead of its payload is read as it. -/
theorem hdrM_head {l : Bool} {p more : List Nat} {base : Nat} (hp : p.length ≤ 2147483648) (hb : base = if l = true then 192 else 128) (h1 : ¬ (l = false ∧ p.length = 1 ∧ p.headD 0 < 128)) :
    hdr (headL base p.length ++ (p ++ more)) = .ok (l, (headL base p.length).length, (headL base p.length).length + p.length) := by
  by_cases h55 : p.length ≤ 55
  · have e : headL base p.length ++ (p ++ more) = (base + p.length) :: (p ++ more) := by unfold headL; rw [if_pos h55]; rfl
    have el : (headL base p.length).length = 1 := by unfold headL; rw [if_pos h55]; rfl
    rw [e, el]
    have hm : hdrM ((base + p.length) :: (p ++ more)) l p.length = .ok (l, 1, 1 + p.length) := by
      unfold hdrM
      rw [if_pos h55]
      unfold hdrF
      rw [if_neg (by simp; omega), if_neg]
      rintro ⟨g1, g2, g3⟩
      refine h1 ⟨g1, g2, ?_⟩
      rcases p with _ | ⟨y, q⟩
      · simp at g2
      · simpa using g3
    unfold hdr
    rcases l with _ | _
    · simp only [Bool.false_eq_true, if_false] at hb
      subst hb
      rw [if_neg (by simp), if_pos (by simp; omega)]
      simp only [List.getD_cons_zero, Nat.add_sub_cancel_left]; exact hm
    · simp only [if_true] at hb
      subst hb
      rw [if_neg (by simp; omega), if_neg (by simp)]
      simp only [List.getD_cons_zero, Nat.add_sub_cancel_left]; exact hm
  · obtain ⟨k, hk, hk1, hk8, e1, e2, e3, e4, e5⟩ := headL_dr (base := base) (n := p.length) (more := p ++ more) (by omega) (by omega)
    have el : (headL base p.length).length = 1 + k := by unfold headL; rw [if_neg h55, hk]; simp; omega
    rw [e1, el]
    have hm : hdrM ((base + 55 + k) :: (digs p.length ++ (p ++ more))) l (55 + k) = .ok (l, 1 + k, 1 + k + p.length) := by
      unfold hdrM
      rw [if_neg (by omega), show 55 + k - 55 = k by omega, if_neg (by simp; omega)]
      simp only [List.drop_succ_cons, List.drop_zero, e2, e4]
      rw [if_neg]
      · unfold hdrF
        rw [if_neg (by simp; omega), if_neg (by omega)]
      · rintro (g | g | g)
        · exact e5 (by simpa using g)
        · omega
        · omega
    unfold hdr
    rcases l with _ | _
    · simp only [Bool.false_eq_true, if_false] at hb
      subst hb
      rw [if_neg (by simp; omega), if_pos (by simp; omega)]
      simp only [List.getD_cons_zero, show 128 + 55 + k - 128 = 55 + k by omega]; exact hm
    · simp only [if_true] at hb
      subst hb
      rw [if_neg (by simp; omega), if_neg (by simp; omega)]
      simp only [List.getD_cons_zero, show 192 + 55 + k - 192 = 55 + k by omega]; exact hm

theorem take_drop_mid {h p more : List Nat} : ((h ++ (p ++ more)).take (h.length + p.length)).drop h.length = p := by
  rw [← List.append_assoc, List.take_left' (by rw [List.length_append]), List.drop_left' rfl]

theorem itemsR_back {n : Nat} {f : List Nat → Nat → Except Nat (Tr (n + 1) × Nat × Nat)} : ∀ (ks : List (Tr (n + 1))) (g c : Nat), (∀ k ∈ ks, ∀ more c, c + cnt (n + 1) k ≤ 4096 → f (enc (n + 1) k ++ more) c = .ok (k, (enc (n + 1) k).length, c + cnt (n + 1) k)) → (ks.flatMap (enc (n + 1))).length ≤ g → c + (ks.map (cnt (n + 1))).sum ≤ 4096 →
    itemsR f g (ks.flatMap (enc (n + 1))) c = .ok (ks, c + (ks.map (cnt (n + 1))).sum)
  | [], g, c, _, _, _ => by cases g <;> rfl
  | k :: r, g, c, hf, hg, hc => by
    rw [List.flatMap_cons] at hg ⊢
    have hp := enc_pos k
    simp only [List.map_cons, List.sum_cons] at hc ⊢
    rw [List.length_append] at hg
    obtain ⟨g', rfl⟩ : ∃ g', g = g' + 1 := ⟨g - 1, by omega⟩
    have h1 := hf k (by simp) (r.flatMap (enc (n + 1))) c (by omega)
    rcases he : enc (n + 1) k with _ | ⟨x, q⟩
    · rw [he] at hp; simp at hp
    · rw [he] at h1 hg
      rw [List.cons_append] at h1 ⊢
      unfold itemsR
      rw [h1]
      simp only
      rw [← List.cons_append, List.drop_left' rfl, itemsR_back r g' (c + cnt (n + 1) k) (fun k' hk' => hf k' (by simp [hk'])) (by rw [List.length_cons] at hg; omega) (by omega)]
      simp only
      rw [Nat.add_assoc]

/-- An item comes back from its bytes, whatever stands behind. -/
theorem rdT_back : ∀ (n : Nat) (t : Tr (n + 3)) (more : List Nat) (c : Nat), bad (n + 3) (17 - n) t = 0 → c + cnt (n + 3) t ≤ 4096 → (enc (n + 3) t).length ≤ 2147483648 → n ≤ 16 →
    rdT n (enc (n + 3) t ++ more) c = .ok (t, (enc (n + 3) t).length, c + cnt (n + 3) t)
  | 0, t, _, _, h, _, _, _ => absurd (bad_cases (n := 2) h).1 (by omega)
  | n + 1, t, more, c, h, hc, hl, hn => by
    have hcn : cnt (n + 1 + 3) t = 1 + ((tK (n := n + 3) t).map (cnt (n + 3))).sum := rfl
    unfold rdT
    rw [if_neg (by omega)]
    rcases (bad_cases (n := n + 3) h).2 with ⟨h1, h2, h3⟩ | ⟨h1, h2⟩
    · have he : enc (n + 1 + 3) t = headL 192 ((tK (n := n + 3) t).flatMap (enc (n + 3))).length ++ (tK (n := n + 3) t).flatMap (enc (n + 3)) := by
        show (if tL (n := n + 3) t = true then _ else _) = _
        rw [if_pos h1]
      rw [he, List.length_append] at hl
      rw [he, List.append_assoc, hdrM_head (l := true) (base := 192) (by omega) (by simp) (by simp)]
      simp only [if_true]
      rw [take_drop_mid]
      have hk : ∀ k ∈ tK (n := n + 3) t, (enc (n + 3) k).length ≤ 2147483648 := fun k hk => by
        have := sum_mem (f := fun x => (enc (n + 3) x).length) hk
        rw [← flatMap_len] at this; omega
      rw [itemsR_back (n := n + 2) (tK (n := n + 3) t) _ (c + 1) (fun k hk' more' c' hc' => rdT_back n k more' c' (by have := h3 k hk'; rwa [show 17 - (n + 1) + 1 = 17 - n by omega] at this) hc' (hk k hk') (by omega)) (by rw [Nat.add_sub_cancel_left]; exact Nat.le_refl _) (by rw [hcn] at hc; show c + 1 + ((tK (n := n + 3) t).map (cnt (n + 3))).sum ≤ 4096; omega)]
      simp only
      have ht : mkT true [] (tK (n := n + 3) t) = t := by rw [← h1, ← h2]; rfl
      rw [ht, List.length_append, hcn, ← Nat.add_assoc]
    · have he : enc (n + 1 + 3) t = strL (tB (n := n + 3) t) := by
        show (if tL (n := n + 3) t = true then _ else _) = _
        rw [if_neg (by rw [h1]; simp)]
      have ht : mkT false (tB (n := n + 3) t) [] = t := by rw [← h1, ← h2]; rfl
      have hc1 : cnt (n + 1 + 3) t = 1 := by rw [hcn, h2]; rfl
      rw [he] at hl ⊢
      by_cases hs : (tB (n := n + 3) t).length = 1 ∧ (tB (n := n + 3) t).headD 0 < 128
      · rw [show strL (tB (n := n + 3) t) = tB (n := n + 3) t by unfold strL; rw [if_pos hs]]
        generalize tB (n := n + 3) t = b at hs ht
        rcases b with _ | ⟨x, _ | ⟨y, q⟩⟩
        · simp at hs
        · simp only [List.headD_cons] at hs
          have : hdr ([x] ++ more) = .ok (false, 0, 1) := by unfold hdr; rw [if_pos (by simpa using hs.2)]
          rw [this]
          simp only [Bool.false_eq_true, if_false]
          simp only [List.singleton_append, List.take_succ_cons, List.take_zero, List.drop_zero]
          rw [ht, hc1]
          simp
        · simp at hs
      · rw [show strL (tB (n := n + 3) t) = headL 128 (tB (n := n + 3) t).length ++ tB (n := n + 3) t by unfold strL; rw [if_neg hs]] at hl ⊢
        rw [List.length_append] at hl
        rw [List.append_assoc, hdrM_head (l := false) (base := 128) (by omega) (by simp) (by simpa using hs)]
        simp only [Bool.false_eq_true, if_false]
        rw [take_drop_mid, ht, List.length_append, hc1]
end Go.Proofs.YtbbaaegfbbjnjaaDoor
