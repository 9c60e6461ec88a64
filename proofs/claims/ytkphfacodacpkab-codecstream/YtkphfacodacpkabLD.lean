/-
  The walk of CodecFrames.
-/
import Derived.Test.YtkphfacodacpkabQ
namespace Go.Proofs.Ytkphfacodacpkab
open Go.ChangeShapes Go.WideShapes Go.ChangeAt Go.RowKit

/-- What a frame's bytes are taken for. -/
theorem frame_parts {h b more : List Nat} (hh : h.length = 4) (hb : b.length < 18446744073709551616) :
    takeL ((h ++ putL b.length ++ b ++ more).drop 4) = (b.length, (putL b.length).length, 0) ∧ (((h ++ putL b.length ++ b ++ more).drop (4 + (putL b.length).length)).take b.length) = b ∧ (h ++ putL b.length ++ b ++ more).take 4 = h ∧ 4 + (putL b.length).length + b.length ≤ (h ++ putL b.length ++ b ++ more).length := by
  refine ⟨?_, ?_, ?_, ?_⟩
  · rw [List.append_assoc, List.append_assoc, List.drop_left' hh]
    exact takeL_put hb _
  · have e : (h ++ putL b.length).length = 4 + (putL b.length).length := by rw [List.length_append, hh]
    rw [List.append_assoc, List.drop_left' e, List.take_left' rfl]
  · rw [List.append_assoc, List.append_assoc, List.take_left' hh]
  · simp only [List.length_append, hh]; omega

theorem unf_inj {a b : List Nat} (ha : By a) (hb : By b) (hl : a.length = b.length) (h : unf a = unf b) : a = b := by
  rw [← fixL_unf a ha, ← fixL_unf b hb, h, hl]
theorem By.set {a : List Nat} (h : By a) {i x : Nat} (hx : x < 256) : By (a.set i x) := fun n hn => by
  rcases List.mem_or_eq_of_mem_set hn with e | e
  · exact h n e
  · omega
theorem xor_lt8 {a b : Nat} (ha : a < 256) (hb : b < 256) : a ^^^ b < 256 := Nat.xor_lt_two_pow (n := 8) ha hb
theorem xor_ne {a b : Nat} (h : b ≠ 0) : a ^^^ b ≠ a := fun e => h (xorL (a := a) (by rw [e, Nat.xor_zero]))
theorem set_ne {a : List Nat} {i x y : Nat} (h : a[i]? = some x) (hxy : y ≠ x) : a.set i y ≠ a := fun e => by
  have h1 : (a.set i y)[i]? = some y := by
    have hi : i < a.length := by
      rcases Nat.lt_or_ge i a.length with h2 | h2
      · exact h2
      · rw [List.getElem?_eq_none h2] at h; cases h
    rw [List.getElem?_set_self hi]
  rw [e, h] at h1
  cases h1; exact hxy rfl
theorem crc_set {a : List Nat} (ha : By a) {i x y : Nat} (h : a[i]? = some x) (hy : y < 256) (hxy : y ≠ x) : crc (a.set i y) ≠ crc a := by
  have hi : i < a.length := by
    rcases Nat.lt_or_ge i a.length with h2 | h2
    · exact h2
    · rw [List.getElem?_eq_none h2] at h; cases h
  have hx : x < 256 := ha.at h
  have e1 : a = a.take i ++ x :: a.drop (i + 1) := by
    have : a[i] = x := by rw [List.getElem?_eq_getElem hi] at h; exact Option.some.inj h
    rw [← this, ← List.drop_eq_getElem_cons hi, List.take_append_drop]
  have e2 : a.set i y = a.take i ++ y :: a.drop (i + 1) := List.set_eq_take_append_cons_drop ▸ by simp [hi]
  rw [e2]
  conv => rhs; rw [e1]
  exact crc_change (ha.take i) hy hx (ha.drop _) hxy

/-- A frame with one byte changed in its sum or in its body. -/
theorem frame_hurt {b : List Nat} (hb : By b) (hl : b.length < 18446744073709551616) {t y x : Nat} (ht : (frameL b)[t]? = some x) (hp : t < 4 ∨ 4 + (putL b.length).length ≤ t) (hy : y < 256) (hxy : y ≠ x) :
    takeL (((frameL b).set t y).drop 4) = (b.length, (putL b.length).length, 0) ∧ 4 + (putL b.length).length + b.length ≤ ((frameL b).set t y).length ∧ crc ((((frameL b).set t y).drop (4 + (putL b.length).length)).take b.length) ≠ unf (((frameL b).set t y).take 4) := by
  have h4 := fixL_len 4 (crc b)
  have hcl := crc_lt hb
  rcases hp with hp | hp
  · have e : (frameL b).set t y = (fixL (crc b) 4).set t y ++ putL b.length ++ b ++ [] := by
      unfold frameL
      rw [List.append_nil, List.append_assoc, List.set_append, if_pos (by rw [h4]; exact hp), List.append_assoc]
    obtain ⟨p1, p2, p3, p4⟩ := frame_parts (h := (fixL (crc b) 4).set t y) (b := b) (more := []) (by rw [List.length_set, h4]) hl
    rw [e]
    refine ⟨p1, p4, ?_⟩
    rw [p2, p3]
    intro he
    have hx : (fixL (crc b) 4)[t]? = some x := by
      unfold frameL at ht
      rw [List.append_assoc, List.getElem?_append, if_pos (by rw [h4]; exact hp)] at ht
      exact ht
    refine set_ne hx hxy (unf_inj ((fixL_by 4 _).set hy) (fixL_by 4 _) (by rw [List.length_set]) ?_)
    rw [← he, unf_fixL, Nat.mod_eq_of_lt (show crc b < 256 ^ 4 from hcl)]
  · have hk : (fixL (crc b) 4 ++ putL b.length).length = 4 + (putL b.length).length := by rw [List.length_append, h4]
    have e : (frameL b).set t y = fixL (crc b) 4 ++ putL (b.set (t - (4 + (putL b.length).length)) y).length ++ b.set (t - (4 + (putL b.length).length)) y ++ [] := by
      unfold frameL
      rw [List.append_nil, List.set_append, if_neg (by rw [hk]; omega), hk, List.length_set]
    obtain ⟨p1, p2, p3, p4⟩ := frame_parts (h := fixL (crc b) 4) (b := b.set (t - (4 + (putL b.length).length)) y) (more := []) h4 (by rw [List.length_set]; exact hl)
    rw [← e] at p1 p2 p3 p4
    rw [List.length_set] at p1 p2 p4
    refine ⟨p1, p4, ?_⟩
    rw [p2, p3, unf_fixL, Nat.mod_eq_of_lt (show crc b < 256 ^ 4 from hcl)]
    have hx : b[t - (4 + (putL b.length).length)]? = some x := by
      unfold frameL at ht
      rw [List.getElem?_append, if_neg (by rw [hk]; omega), hk] at ht
      exact ht
    exact crc_set hb hx hy hxy

end Go.Proofs.Ytkphfacodacpkab
