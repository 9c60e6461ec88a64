/-
  What the reference's Is, Order and Compare answer.
-/
import Derived.Test.YtbiohbaoeobccaaJ23
import Derived.Test.YtbiohbaoeobccaaJ06
import Derived.Test.YtbiohbaoeobccaaNum
namespace Go.Proofs.Ytbiohbaoeobccaa
open Go.ChangeShapes Go.WideShapes Go.ChangeAt Go.RowKit

set_option maxRecDepth 20000 in
set_option maxHeartbeats 800000 in
theorem is_c (w : World) {v : Value} {b : List Nat} (hr : Rd w v (bv b)) (hb : By b) (hl : b.length ≤ 140737488355328) :
    Calls Try.prog 71 #[v] w fun e w' => e = .returned (.bool (isK b)) ∧ w' = w := by
  rcases hk : isK b with _ | _
  · have HS := hid (refsplit_no w hr hb hl hk)
    obtain ⟨a, c, hv⟩ := hr.form
    subst hv
    clear hr hb hk
    go_enter Try.func71, Try.ntmps71
    go_wp2_with fail
    refine HS.out.mono ?_
    rintro e w1 ⟨rfl, rfl⟩
    go_wp2
    go_ret
    exact ⟨rfl, rfl⟩
  · have hkl := isK_len hk
    obtain ⟨q, off, c, hv, hc⟩ := hr.place (by omega)
    subst hv
    have HS := hid (refsplit_yes w hr hb hc hk)
    clear hr hb hk
    go_enter Try.func71, Try.ntmps71
    go_wp2_with fail
    refine HS.out.mono ?_
    rintro e w1 ⟨rfl, rfl⟩
    go_wp2
    go_ret
    exact ⟨rfl, rfl⟩

theorem ordP_ne {u v : List Nat} {s t k l x : Int} (hx : x = cmpN u v) (h : ¬ x = 0) : ordP u v s t k l = x := by unfold ordP; rw [← hx, if_neg h]
theorem ordP_s1 {u v : List Nat} {s t k l x : Int} (hx : x = cmpN u v) (h : x = 0) (hs : t < s) : ordP u v s t k l = -1 := by
  unfold ordP; rw [← hx, if_pos h]; unfold cmpI; rw [if_pos hs]; rfl
theorem ordP_s2 {u v : List Nat} {s t k l x : Int} (hx : x = cmpN u v) (h : x = 0) (hs : s < t) : ordP u v s t k l = 1 := by
  unfold ordP; rw [← hx, if_pos h]; unfold cmpI; rw [if_neg (show ¬ t < s by omega), if_pos hs]; rfl
theorem ordP_k {u v : List Nat} {s t k l x : Int} (hx : x = cmpN u v) (h : x = 0) (hs : s = t) : ordP u v s t k l = cmpI l k := by
  unfold ordP; rw [← hx, if_pos h]; subst hs; rw [if_pos (show cmpI s s = 0 by unfold cmpI; simp)]

set_option maxRecDepth 20000 in
set_option maxHeartbeats 4000000 in
theorem order_c (w : World) {v1 v2 : Value} {a b : List Nat} (h1 : Rd w v1 (bv a)) (ha : By a) (h : isK a = true) (h2 : Rd w v2 (bv b)) (hb : By b) (hk : isK b = true) :
    Calls Try.prog 38 #[v1, v2] w fun e w' => e = .returned (.int .i64 (ordK a b)) ∧ Fr [] w w' := by
  have hka := isK_len h
  have hkb := isK_len hk
  obtain ⟨q, off, c, hv1, hc⟩ := h1.place (by omega)
  obtain ⟨q2, off2, c2, hv2, hc2⟩ := h2.place (by omega)
  subst hv1
  subst hv2
  have HS1 := hid (refsplit_yes w h1 ha hc h)
  have HS2 := hid (refsplit_yes w h2 hb hc2 hk)
  have HC := hid (refbytes_c (h1.front (q := a.length - 8) (by omega)) (h2.front (q := b.length - 8) (by omega)) (ha.take _) (hb.take _) (by rw [List.length_take]; omega) (by rw [List.length_take]; omega))
  unfold ordK
  generalize ((tailN a / 256 : Nat) : Int) = s at HS1 ⊢
  generalize ((tailN a % 256 : Nat) : Int) = k at HS1 ⊢
  generalize ((tailN b / 256 : Nat) : Int) = t at HS2 ⊢
  generalize ((tailN b % 256 : Nat) : Int) = l at HS2 ⊢
  obtain ⟨x, hx⟩ : ∃ x, x = cmpN (userL a) (userL b) := ⟨_, rfl⟩
  rw [show cmpN (a.take (a.length - 8)) (b.take (b.length - 8)) = x from hx.symm] at HC
  clear h1 ha h h2 hb hk
  by_cases h0 : ¬ x = 0
  · rw [ordP_ne hx h0]
    have e0 : (x == 0) = false := by simpa using h0
    clear hx h0
    go_enter Try.func38, Try.ntmps38
    go_wp2_with fail
    refine HS1.out.mono ?_
    rintro e w1 ⟨rfl, rfl⟩
    go_wp2_with fail
    refine HS2.out.mono ?_
    rintro e w2 ⟨rfl, rfl⟩
    go_wp2_with fail
    refine HC.out.mono ?_
    rintro e w3 ⟨rfl, f3⟩
    have F3 := hid f3
    clear f3
    go_wp2
    go_ret
    exact ⟨rfl, F3.out⟩
  have h0' := Decidable.not_not.1 h0
  have e0 : (x == 0) = true := by simpa using h0'
  rcases (show t < s ∨ s < t ∨ s = t from by omega) with hs | hs | hs
  · rw [ordP_s1 hx h0' hs]
    have e1 : decide (t < s) = true := by simpa using hs
    clear hx h0 h0'
    go_enter Try.func38, Try.ntmps38
    go_wp2_with fail
    refine HS1.out.mono ?_
    rintro e w1 ⟨rfl, rfl⟩
    go_wp2_with fail
    refine HS2.out.mono ?_
    rintro e w2 ⟨rfl, rfl⟩
    go_wp2_with fail
    refine HC.out.mono ?_
    rintro e w3 ⟨rfl, f3⟩
    have F3 := hid f3
    clear f3
    go_wp2
    go_ret
    exact ⟨rfl, F3.out⟩
  · rw [ordP_s2 hx h0' hs]
    have e1 : decide (t < s) = false := by simp; omega
    have e2 : (s == t) = false := by simp; omega
    clear hx h0 h0'
    go_enter Try.func38, Try.ntmps38
    go_wp2_with fail
    refine HS1.out.mono ?_
    rintro e w1 ⟨rfl, rfl⟩
    go_wp2_with fail
    refine HS2.out.mono ?_
    rintro e w2 ⟨rfl, rfl⟩
    go_wp2_with fail
    refine HC.out.mono ?_
    rintro e w3 ⟨rfl, f3⟩
    have F3 := hid f3
    clear f3
    go_wp2
    go_ret
    exact ⟨rfl, F3.out⟩
  · rw [ordP_k hx h0' hs]
    have e1 : decide (t < s) = false := by simp; omega
    have e1' : decide (s < t) = false := by simp; omega
    have e2 : (s == t) = true := by simpa using hs
    clear hx h0 h0' hs
    unfold cmpI
    rcases (show l < k ∨ k < l ∨ k = l from by omega) with hl | hl | hl
    · rw [if_pos hl]
      go_enter Try.func38, Try.ntmps38
      go_wp2_with fail
      refine HS1.out.mono ?_
      rintro e w1 ⟨rfl, rfl⟩
      go_wp2_with fail
      refine HS2.out.mono ?_
      rintro e w2 ⟨rfl, rfl⟩
      go_wp2_with fail
      refine HC.out.mono ?_
      rintro e w3 ⟨rfl, f3⟩
      have F3 := hid f3
      clear f3
      go_wp2
      go_ret
      exact ⟨rfl, F3.out⟩
    · rw [if_neg (by omega), if_pos hl]
      have e3 : decide (l < k) = false := by simp; omega
      go_enter Try.func38, Try.ntmps38
      go_wp2_with fail
      refine HS1.out.mono ?_
      rintro e w1 ⟨rfl, rfl⟩
      go_wp2_with fail
      refine HS2.out.mono ?_
      rintro e w2 ⟨rfl, rfl⟩
      go_wp2_with fail
      refine HC.out.mono ?_
      rintro e w3 ⟨rfl, f3⟩
      have F3 := hid f3
      clear f3
      go_wp2
      go_ret
      exact ⟨rfl, F3.out⟩
    · rw [if_neg (by omega), if_neg (by omega)]
      have e3 : decide (l < k) = false := by simp; omega
      have e4 : decide (k < l) = false := by simp; omega
      clear hl
      go_enter Try.func38, Try.ntmps38
      go_wp2_with fail
      refine HS1.out.mono ?_
      rintro e w1 ⟨rfl, rfl⟩
      go_wp2_with fail
      refine HS2.out.mono ?_
      rintro e w2 ⟨rfl, rfl⟩
      go_wp2_with fail
      refine HC.out.mono ?_
      rintro e w3 ⟨rfl, f3⟩
      have F3 := hid f3
      clear f3
      go_wp2
      go_ret
      exact ⟨rfl, F3.out⟩

end Go.Proofs.Ytbiohbaoeobccaa
namespace Go.Proofs.Ytbiohbaoeobccaa
open Go.ChangeShapes Go.WideShapes Go.ChangeAt Go.RowKit

/-- Of the same user key: the greater moment ahead. -/
def ord2 (s t k l : Int) : Int := if cmpI t s = 0 then cmpI l k else cmpI t s
theorem cmpI_cases (x y : Int) : (x < y ∧ cmpI x y = -1) ∨ (y < x ∧ cmpI x y = 1) ∨ (x = y ∧ cmpI x y = 0) := by
  unfold cmpI
  rcases (show x < y ∨ y < x ∨ x = y from by omega) with h | h | h
  · exact .inl ⟨h, by rw [if_pos h]⟩
  · exact .inr (.inl ⟨h, by rw [if_neg (by omega), if_pos h]⟩)
  · exact .inr (.inr ⟨h, by rw [if_neg (by omega), if_neg (by omega)]⟩)
theorem ord2_cases (s t k l : Int) : ((t < s ∨ s = t ∧ l < k) ∧ ord2 s t k l = -1) ∨ ((s < t ∨ s = t ∧ k < l) ∧ ord2 s t k l = 1) ∨ (s = t ∧ k = l ∧ ord2 s t k l = 0) := by
  unfold ord2
  rcases cmpI_cases t s with ⟨h, e⟩ | ⟨h, e⟩ | ⟨h, e⟩
  · rw [e, if_neg (by omega)]; exact .inl ⟨.inl h, rfl⟩
  · rw [e, if_neg (by omega)]; exact .inr (.inl ⟨.inl h, rfl⟩)
  · rw [e, if_pos rfl]
    rcases cmpI_cases l k with ⟨g, f⟩ | ⟨g, f⟩ | ⟨g, f⟩
    · exact .inl ⟨.inr ⟨h.symm, g⟩, f⟩
    · exact .inr (.inl ⟨.inr ⟨h.symm, g⟩, f⟩)
    · exact .inr (.inr ⟨h.symm, g.symm, f⟩)
theorem ordP_def (u v : List Nat) (s t k l : Int) : ordP u v s t k l = if cmpN u v = 0 then ord2 s t k l else cmpN u v := rfl
theorem ordP_val (u v : List Nat) (s t k l : Int) : -1 ≤ ordP u v s t k l ∧ ordP u v s t k l ≤ 1 := by
  rw [ordP_def]
  have h1 := cmpN_val u v
  have h2 := ord2_cases s t k l
  split <;> omega
theorem ordP_neg (u v : List Nat) (s t k l : Int) : ordP v u t s l k = -ordP u v s t k l := by
  rw [ordP_def, ordP_def, cmpN_neg u v]
  have h1 := cmpN_val u v
  have h2 := ord2_cases s t k l
  have h3 := ord2_cases t s l k
  by_cases h : cmpN u v = 0
  · rw [if_pos (by omega), if_pos h]; omega
  · rw [if_neg (by omega), if_neg h]
theorem ordP_trans (u v z : List Nat) (s t r k l m : Int) (h1 : ordP u v s t k l ≤ 0) (h2 : ordP v z t r l m ≤ 0) : ordP u z s r k m ≤ 0 := by
  rw [ordP_def] at h1 h2 ⊢
  have c1 : cmpN u v ≤ 0 := by
    by_cases e : cmpN u v = 0
    · omega
    · rw [if_neg e] at h1; exact h1
  have c2 : cmpN v z ≤ 0 := by
    by_cases e : cmpN v z = 0
    · omega
    · rw [if_neg e] at h2; exact h2
  have c3 := cmpN_trans u v z c1 c2
  by_cases e : cmpN u z = 0
  · have euz := (cmpN_eq u z).1 e
    subst euz
    have c4 := cmpN_neg u v
    have e1 : cmpN u v = 0 := by omega
    have e2 : cmpN v u = 0 := by omega
    rw [if_pos e1] at h1
    rw [if_pos e2] at h2
    rw [if_pos e]
    have o1 := ord2_cases s t k l
    have o2 := ord2_cases t r l m
    have o3 := ord2_cases s r k m
    omega
  · rw [if_neg e]; exact c3

theorem ordK_val (a b : List Nat) : -1 ≤ ordK a b ∧ ordK a b ≤ 1 := ordP_val _ _ _ _ _ _
theorem ordK_neg (a b : List Nat) : ordK b a = -ordK a b := ordP_neg _ _ _ _ _ _
theorem ordK_trans (a b c : List Nat) (h1 : ordK a b ≤ 0) (h2 : ordK b c ≤ 0) : ordK a c ≤ 0 := ordP_trans _ _ _ _ _ _ _ _ _ h1 h2
theorem unf_inj' {a b : List Nat} (ha : By a) (hb : By b) (hl : a.length = b.length) (h : unf a = unf b) : a = b := by
  rw [← fixL_unf a ha, ← fixL_unf b hb, h, hl]
theorem ordK_eq {a b : List Nat} (ha : By a) (hb : By b) (ka : 8 ≤ a.length) (kb : 8 ≤ b.length) (h : ordK a b = 0) : a = b := by
  unfold ordK at h
  rw [ordP_def] at h
  have e : cmpN (userL a) (userL b) = 0 := by
    by_cases e : cmpN (userL a) (userL b) = 0
    · exact e
    · rw [if_neg e] at h; exact h
  rw [if_pos e] at h
  have eu := (cmpN_eq _ _).1 e
  have o := ord2_cases ((tailN a / 256 : Nat) : Int) ((tailN b / 256 : Nat) : Int) ((tailN a % 256 : Nat) : Int) ((tailN b % 256 : Nat) : Int)
  have et : tailN a = tailN b := by omega
  have ed : a.drop (a.length - 8) = b.drop (b.length - 8) := unf_inj' (ha.drop _) (hb.drop _) (by rw [List.length_drop, List.length_drop]; omega) et
  rw [← List.take_append_drop (a.length - 8) a, ← List.take_append_drop (b.length - 8) b, ed]
  have eu' : a.take (a.length - 8) = b.take (b.length - 8) := eu
  rw [eu']
end Go.Proofs.Ytbiohbaoeobccaa
