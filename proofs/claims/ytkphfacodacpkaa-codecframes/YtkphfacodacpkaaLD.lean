/-
  The walk of CodecFrames.
-/
import Derived.Test.YtkphfacodacpkaaQ
namespace Go.Proofs.Ytkphfacodacpkaa
open Go.ChangeShapes Go.WideShapes Go.ChangeAt Go.RowKit

/-- What a frame's bytes are taken for. -/
theorem frame_parts {h b more : List Nat} (hh : h.length = 4) (hb : b.length < 18446744073709551616) :
    takeL ((h ++ putL b.length ++ b ++ more).drop 4) = (b.length, (putL b.length).length, 0) ∧ (((h ++ putL b.length ++ b ++ more).drop (4 + (putL b.length).length)).take b.length) = b ∧ (h ++ putL b.length ++ b ++ more).take 4 = h ∧ 4 + (putL b.length).length + b.length ≤ (h ++ putL b.length ++ b ++ more).length := by
  refine ⟨?_, ?_, ?_, ?_⟩
  · rw [List.append_assoc, List.append_assoc, List.drop_left' hh]
    exact takeL_put hb _
  · have e : (h ++ putL b.length).length = 4 + (putL b.length).length := by rw [List.length_append, hh]
    rw [List.append_assoc, List.drop_left' e, List.take_left' rfl]
  · rw [List.append_assoc, List.append_assoc, List.take_left' hh]
  · simp only [List.length_append, hh]; omega

theorem unf_inj {a b : List Nat} (ha : By a) (hb : By b) (hl : a.length = b.length) (h : unf a = unf b) : a = b := by
  rw [← fixL_unf a ha, ← fixL_unf b hb, h, hl]
theorem By.set {a : List Nat} (h : By a) {i x : Nat} (hx : x < 256) : By (a.set i x) := fun n hn => by
  rcases List.mem_or_eq_of_mem_set hn with e | e
  · exact h n e
  · omega
theorem xor_lt8 {a b : Nat} (ha : a < 256) (hb : b < 256) : a ^^^ b < 256 := Nat.xor_lt_two_pow (n := 8) ha hb
theorem xor_ne {a b : Nat} (h : b ≠ 0) : a ^^^ b ≠ a := fun e => h (xorL (a := a) (by rw [e, Nat.xor_zero]))
theorem set_ne {a : List Nat} {i x y : Nat} (h : a[i]? = some x) (hxy : y ≠ x) : a.set i y ≠ a := fun e => by
  have h1 : (a.set i y)[i]? = some y := by
    have hi : i < a.length := by
      rcases Nat.lt_or_ge i a.length with h2 | h2
      · exact h2
      · rw [List.getElem?_eq_none h2] at h; cases h
    rw [List.getElem?_set_self hi]
  rw [e, h] at h1
  cases h1; exact hxy rfl
theorem crc_set {a : List Nat} (ha : By a) {i x y : Nat} (h : a[i]? = some x) (hy : y < 256) (hxy : y ≠ x) : crc (a.set i y) ≠ crc a := by
  have hi : i < a.length := by
    rcases Nat.lt_or_ge i a.length with h2 | h2
    · exact h2
    · rw [List.getElem?_eq_none h2] at h; cases h
  have hx : x < 256 := ha.at h
  have e1 : a = a.take i ++ x :: a.drop (i + 1) := by
    have : a[i] = x := by rw [List.getElem?_eq_getElem hi] at h; exact Option.some.inj h
    rw [← this, ← List.drop_eq_getElem_cons hi, List.take_append_drop]
  have e2 : a.set i y = a.take i ++ y :: a.drop (i + 1) := List.set_eq_take_append_cons_drop ▸ by simp [hi]
  rw [e2]
  conv => rhs; rw [e1]
  exact crc_change (ha.take i) hy hx (ha.drop _) hxy

/-- A frame with one byte changed in its sum or in its body. -/
theorem frame_hurt {b : List Nat} (hb : By b) (hl : b.length < 18446744073709551616) {t y x : Nat} (ht : (frameL b)[t]? = some x) (hp : t < 4 ∨ 4 + (putL b.length).length ≤ t) (hy : y < 256) (hxy : y ≠ x) :
    takeL (((frameL b).set t y).drop 4) = (b.length, (putL b.length).length, 0) ∧ 4 + (putL b.length).length + b.length ≤ ((frameL b).set t y).length ∧ crc ((((frameL b).set t y).drop (4 + (putL b.length).length)).take b.length) ≠ unf (((frameL b).set t y).take 4) := by
  have h4 := fixL_len 4 (crc b)
  have hcl := crc_lt hb
  rcases hp with hp | hp
  · have e : (frameL b).set t y = (fixL (crc b) 4).set t y ++ putL b.length ++ b ++ [] := by
      unfold frameL
      rw [List.append_nil, List.append_assoc, List.set_append, if_pos (by rw [h4]; exact hp), List.append_assoc]
    obtain ⟨p1, p2, p3, p4⟩ := frame_parts (h := (fixL (crc b) 4).set t y) (b := b) (more := []) (by rw [List.length_set, h4]) hl
    rw [e]
    refine ⟨p1, p4, ?_⟩
    rw [p2, p3]
    intro he
    have hx : (fixL (crc b) 4)[t]? = some x := by
      unfold frameL at ht
      rw [List.append_assoc, List.getElem?_append, if_pos (by rw [h4]; exact hp)] at ht
      exact ht
    refine set_ne hx hxy (unf_inj ((fixL_by 4 _).set hy) (fixL_by 4 _) (by rw [List.length_set]) ?_)
    rw [← he, unf_fixL, Nat.mod_eq_of_lt (show crc b < 256 ^ 4 from hcl)]
  · have hk : (fixL (crc b) 4 ++ putL b.length).length = 4 + (putL b.length).length := by rw [List.length_append, h4]
    have e : (frameL b).set t y = fixL (crc b) 4 ++ putL (b.set (t - (4 + (putL b.length).length)) y).length ++ b.set (t - (4 + (putL b.length).length)) y ++ [] := by
      unfold frameL
      rw [List.append_nil, List.set_append, if_neg (by rw [hk]; omega), hk, List.length_set]
    obtain ⟨p1, p2, p3, p4⟩ := frame_parts (h := fixL (crc b) 4) (b := b.set (t - (4 + (putL b.length).length)) y) (more := []) h4 (by rw [List.length_set]; exact hl)
    rw [← e] at p1 p2 p3 p4
    rw [List.length_set] at p1 p2 p4
    refine ⟨p1, p4, ?_⟩
    rw [p2, p3, unf_fixL, Nat.mod_eq_of_lt (show crc b < 256 ^ 4 from hcl)]
    have hx : b[t - (4 + (putL b.length).length)]? = some x := by
      unfold frameL at ht
      rw [List.getElem?_append, if_neg (by rw [hk]; omega), hk] at ht
      exact ht
    exact crc_set hb hx hy hxy

set_option maxRecDepth 20000 in
set_option maxHeartbeats 4000000 in
theorem frames_c (w : World) {v v2 : Value} {b more : List Nat} (hr : Rd w v (bv b)) (hb : By b) (hl : b.length ≤ 140737488351232) (hr2 : Rd w v2 (bv more)) (hb2 : By more) (hl2 : more.length ≤ 140737488351232) (t : Int) (ht1 : -9223372036854775808 ≤ t) (ht2 : t ≤ 9223372036854775807) (y : Nat) (hy : y < 256) :
    Calls Try.prog 5 #[v, v2, .int .i64 t, .int .u8 (y : Int)] w fun e w' => e = .returned (.bool true) ∧ Fr [] w w' := by
  obtain ⟨a, c, hv⟩ := hr.form
  obtain ⟨a2, c2, hv2⟩ := hr2.form
  rw [bv_len] at hv hv2
  subst hv
  subst hv2
  have HR := hid hr
  have HB := hid hb
  have HR2 := hid hr2
  have HB2 := hid hb2
  clear hr hb hr2 hb2
  by_cases h3 : 3000 < b.length
  · go_enter Try.func5, Try.ntmps5
    go_wp2_with fail
    refine (known_c w).mono ?_
    rintro e w1 ⟨rfl, f1⟩
    go_wp2
    go_ret
    exact ⟨rfl, f1⟩
  have hpl := putL_len10 (n := b.length) (by omega)
  have hkp := putL_pos b.length
  have hFL : (frameL b).length = 4 + (putL b.length).length + b.length := by unfold frameL; simp only [List.length_append, fixL_len]
  have HP := hid (frame_parts (h := fixL (crc b) 4) (b := b) (more := more) (fixL_len 4 _) (by omega))
  have HBF : Hid (By (frameL b)) := ((fixL_by 4 _).append (putL_by _)).append HB.out
  have hfm : (frameL b).length + more.length ≤ 140737488355328 := by omega
  have hf0 : (frameL b).length ≤ 140737488355328 := by omega
  obtain ⟨L, hL⟩ : ∃ L, L = (frameL b).length := ⟨_, rfl⟩
  obtain ⟨k, hk⟩ : ∃ k, k = (putL b.length).length := ⟨_, rfl⟩
  have HL := hid hL
  have HK := hid hk
  have hL1 : L ≤ 4 + k + b.length := by omega
  have hL2 : 4 + k + b.length ≤ L := by omega
  have hk1 : k ≤ 10 := by omega
  have hk2 : 0 < k := by omega
  have hfm' : L + more.length ≤ 140737488355328 := by omega
  have HFM := hid hfm
  have HF0 := hid hf0
  have HFL := hid hFL
  obtain ⟨s, hs⟩ : ∃ s, s = crc b := ⟨_, rfl⟩
  have HS := hid hs
  have HU : Hid (∀ (w : World) (v : Value), Rd w v (bv (frameL b ++ more)) → Calls Try.prog 25 #[v] w fun e' w' => ∃ v', e' = .returned (.tuple #[v', .int .i64 (L : Int), .int .i64 0]) ∧ w'.ownsRow w.heap.size 5 1 v' b.length (bv b) ∧ Fr [] w w') := fun w v hv => by
    obtain ⟨p1, p2, p3, p4⟩ := HP.out
    have hc : crc (((frameL b ++ more).drop (4 + (putL b.length).length)).take b.length) = unf ((frameL b ++ more).take 4) := by
      unfold frameL
      rw [p2, p3, unf_fixL, Nat.mod_eq_of_lt (show crc b < 256 ^ 4 from crc_lt HB.out)]
    refine (unframe_ok w hv (HBF.out.append HB2.out) (by rw [List.length_append]; omega) (by rw [List.length_append]; omega) p1 (by omega) p4 hc).mono ?_
    rintro e' w' ⟨v', rfl, o, f⟩
    refine ⟨v', ?_, ?_, f⟩
    · rw [hL, hFL]
    · have p2' : ((frameL b ++ more).drop (4 + (putL b.length).length)).take b.length = b := p2
      rw [p2'] at o; exact o
  clear hpl hkp hFL hfm hf0 hL hk hs
  go_enter Try.func5, Try.ntmps5
  go_wp2_with fail
  refine (known_c w).mono ?_
  rintro e w1 ⟨rfl, f1⟩
  have R1 := hid (HR.out.fr f1)
  have F1 := hid f1
  clear f1
  go_wp2_with fail
  refine (frame_ok w1 R1.out HB.out (by omega)).mono ?_
  rintro e w2 ⟨v2, rfl, o2, f2⟩
  rw [← HL.out] at o2
  obtain ⟨g, fc, hv2, hgc, hgb⟩ : ∃ g fc, v2 = .slice (some ⟨g, 0, none⟩) L fc ∧ L ≤ fc ∧ w1.heap.size ≤ g := by
    rcases o2.2 with ⟨_, e⟩ | ⟨g, cap, cur, e1, e2, _, e3, _⟩
    · omega
    · exact ⟨g, cap, e1, e3, e2⟩
  subst hv2
  have O2 := hid o2
  have F2 := hid (F1.out.trans f2)
  have R2 := hid (R1.out.fr f2)
  have hgw : w.heap.size ≤ g := Nat.le_trans F1.out.size hgb
  clear o2 f2 R1 hgb
  go_wp2_with fail
  refine (refframe_ok w2 R2.out HB.out (by omega)).mono ?_
  rintro e w3 ⟨v3, rfl, o3, f3⟩
  rw [← HL.out] at o3
  obtain ⟨a3, c3, rfl, _⟩ := ownsRow_slice o3
  have P3 := hid (Rd.ownN o3 HL.out)
  have O3 := hid (ownsRow_fr O2.out f3)
  have F3 := hid (F2.out.trans f3)
  have R3 := hid (R2.out.fr f3)
  clear o3 f3 O2 F2 R2
  go_wp2_with fail
  refine (bytes_c (Rd.ownN O3.out HL.out) P3.out HBF.out HBF.out).mono ?_
  rintro e w4 ⟨rfl, rfl⟩
  rw [decide_eq_true rfl]
  go_wp2_with fail
  refine (sum_c R3.out HB.out (by omega)).mono ?_
  rintro e w5 ⟨rfl, rfl⟩
  rw [← HS.out]
  go_wp2_with fail
  refine (refsum_c R3.out HB.out (by omega)).mono ?_
  rintro e w6 ⟨rfl, rfl⟩
  rw [← HS.out]
  have Q3 := hid (HR2.out.fr F3.out)
  have W3 := hid (Rd.ownN O3.out HL.out)
  go_wp2_with (at_builtin; first | (refine wpList_append_nil rfl _ _ rfl rfl (Fr.refl _ _) _ W3.out rfl HF0.out ?_; intro v7 w7 o7 f7 _; have O7 := hid o7; have F7 := hid f7; clear o7 f7) | (refine wpList_append_bv rfl _ _ rfl O7.out rfl F7.out (Nat.le_refl _) F7.out.size _ (Q3.out.fr F7.out) rfl HFM.out ?_; intro v8 w8 o8 f8; rw [← HL.out] at o8; obtain ⟨a8, c8, rfl, _⟩ := ownsRow_slice o8; have O8 := hid (Rd.ownN o8 (by rw [List.length_append, HL.out])); have F8 := hid f8; clear o8 f8))
  refine (HU.out _ _ O8.out).mono ?_
  rintro e w9 ⟨v9, rfl, o9, f9⟩
  obtain ⟨a9, c9, rfl, _⟩ := ownsRow_slice o9
  have P9 := hid (Rd.ownB o9)
  have F9 := hid ((F3.out.trans F8.out).trans f9)
  have R9 := hid (HR.out.fr F9.out)
  have O9 := hid (ownsRow_fr O3.out (F8.out.trans f9))
  clear o9 f9 O8 F8 O7 F7 W3 Q3 R3 P3 O3 F3
  go_wp2_with fail
  refine (bytes_c R9.out P9.out HB.out HB.out).mono ?_
  rintro e w10 ⟨rfl, rfl⟩
  rw [decide_eq_true rfl]
  clear P9 R9 HR HR2 HU
  rcases (show t < 0 ∨ (0 ≤ t ∧ (L : Int) ≤ t) ∨ (0 ≤ t ∧ t < L ∧ 4 ≤ t ∧ t < (L : Int) - b.length) ∨ (0 ≤ t ∧ t < L ∧ t < 4 ∧ y < 1) ∨ (0 ≤ t ∧ t < L ∧ 4 ≤ t ∧ (L : Int) - b.length ≤ t ∧ y < 1) ∨ (0 ≤ t ∧ t < L ∧ t < 4 ∧ 0 < y) ∨ (0 ≤ t ∧ t < L ∧ 4 ≤ t ∧ (L : Int) - b.length ≤ t ∧ 0 < y) from by omega) with q1 | ⟨q1, q2⟩ | ⟨q1, q2, q3, q4⟩ | ⟨q1, q2, q3, q4⟩ | ⟨q1, q2, q3, q4, q5⟩ | ⟨q1, q2, q3, q4⟩ | ⟨q1, q2, q3, q4, q5⟩
  · go_wp2
    go_ret
    exact ⟨rfl, F9.out⟩
  · go_wp2
    go_ret
    exact ⟨rfl, F9.out⟩
  · go_wp2
    go_ret
    exact ⟨rfl, F9.out⟩
  · have e0 : ((y : Int) == 0) = true := by simp; omega
    go_wp2
    go_ret
    exact ⟨rfl, F9.out⟩
  · have e0 : ((y : Int) == 0) = true := by simp; omega
    go_wp2
    go_ret
    exact ⟨rfl, F9.out⟩
  · obtain ⟨tn, rfl⟩ : ∃ tn : Nat, t = (tn : Int) := ⟨t.toNat, by omega⟩
    obtain ⟨x, hx⟩ : ∃ x, (frameL b)[tn]? = some x := ⟨_, List.getElem?_eq_getElem (by rw [← HL.out]; omega)⟩
    have hx1 : x < 256 := HBF.out.at hx
    have hcell : w10.cell? ⟨g, tn, none⟩ = some (.int .u8 (x : Int)) := by rw [O9.out.cellAt tn (by omega)]; exact bv_at hx
    have hfz := O9.out.frozenAt tn
    have hxr := u8_xor_nat x y hx1 hy
    obtain ⟨z, hz⟩ : ∃ z, z = x ^^^ y := ⟨_, rfl⟩
    have hz1 : z < 256 := by rw [hz]; exact xor_lt8 hx1 hy
    have hzx : z ≠ x := by rw [hz]; exact xor_ne (by omega)
    rw [← hz] at hxr
    have e0 : ((y : Int) == 0) = false := by simp; omega
    have HH := hid (frame_hurt HB.out (by omega) hx (by rw [← HK.out]; omega) hz1 hzx)
    have S := O9.out.stored tn (.int .u8 (z : Int))
    rw [show (bv (frameL b)).set tn (.int .u8 (z : Int)) = bv ((frameL b).set tn z) from (List.map_set).symm] at S
    have S1 := hid (Rd.ownN S.1 (by rw [List.length_set]; exact HL.out))
    have F10 : Hid (Fr [] w (w10.setCell ⟨g, tn, none⟩ (.int .u8 (z : Int)))) := F9.out.set _ _ (.inr hgw)
    clear hx hz hzx S
    go_wp2_with fail
    refine (unframe_sum _ S1.out (HBF.out.set hz1) (by rw [List.length_set, ← HL.out]; omega) (by rw [List.length_set, ← HL.out]; omega) HH.out.1 (by omega) HH.out.2.1 HH.out.2.2).mono ?_
    rintro e w11 ⟨rfl, rfl⟩
    go_wp2
    go_ret
    exact ⟨rfl, F10.out⟩
  · obtain ⟨tn, rfl⟩ : ∃ tn : Nat, t = (tn : Int) := ⟨t.toNat, by omega⟩
    obtain ⟨x, hx⟩ : ∃ x, (frameL b)[tn]? = some x := ⟨_, List.getElem?_eq_getElem (by rw [← HL.out]; omega)⟩
    have hx1 : x < 256 := HBF.out.at hx
    have hcell : w10.cell? ⟨g, tn, none⟩ = some (.int .u8 (x : Int)) := by rw [O9.out.cellAt tn (by omega)]; exact bv_at hx
    have hfz := O9.out.frozenAt tn
    have hxr := u8_xor_nat x y hx1 hy
    obtain ⟨z, hz⟩ : ∃ z, z = x ^^^ y := ⟨_, rfl⟩
    have hz1 : z < 256 := by rw [hz]; exact xor_lt8 hx1 hy
    have hzx : z ≠ x := by rw [hz]; exact xor_ne (by omega)
    rw [← hz] at hxr
    have e0 : ((y : Int) == 0) = false := by simp; omega
    have HH := hid (frame_hurt HB.out (by omega) hx (by rw [← HK.out]; omega) hz1 hzx)
    have S := O9.out.stored tn (.int .u8 (z : Int))
    rw [show (bv (frameL b)).set tn (.int .u8 (z : Int)) = bv ((frameL b).set tn z) from (List.map_set).symm] at S
    have S1 := hid (Rd.ownN S.1 (by rw [List.length_set]; exact HL.out))
    have F10 : Hid (Fr [] w (w10.setCell ⟨g, tn, none⟩ (.int .u8 (z : Int)))) := F9.out.set _ _ (.inr hgw)
    clear hx hz hzx S
    go_wp2_with fail
    refine (unframe_sum _ S1.out (HBF.out.set hz1) (by rw [List.length_set, ← HL.out]; omega) (by rw [List.length_set, ← HL.out]; omega) HH.out.1 (by omega) HH.out.2.1 HH.out.2.2).mono ?_
    rintro e w11 ⟨rfl, rfl⟩
    go_wp2
    go_ret
    exact ⟨rfl, F10.out⟩
end Go.Proofs.Ytkphfacodacpkaa
