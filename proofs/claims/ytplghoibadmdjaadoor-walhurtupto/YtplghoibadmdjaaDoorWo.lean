/-
  The walk of WalHurt.
-/
import Derived.Test.YtplghoibadmdjaaDoorWn
namespace Go.Proofs.YtplghoibadmdjaaDoor
open Go.ChangeShapes Go.WideShapes Go.ChangeAt Go.RowKit

theorem xor_ne {x y : Nat} (h : y ≠ 0) : x ^^^ y ≠ x := fun e => h (xorL (a := x) (by rw [e, Nat.xor_zero]))

set_option maxRecDepth 20000 in
set_option maxHeartbeats 3200000 in
theorem hurt_c (w : World) {a : Option Addr} {n c : Nat} {rs : List (List Nat)} (h : RdL w (.slice a n c) rs) (hl : rs.length ≤ 9223372036854775807) (hc : n ≤ c) (z : Int) (y : Nat) (hy : y < 256) :
    Calls Tryd.prog 6 #[.slice a n c, .int .i64 z, .int .u8 (y : Int)] w fun e w' => e = .returned (.bool true) ∧ Fr [] w w' := by
  have hnl : n = rs.length := by obtain ⟨a', c', e, _⟩ := h; simp only [Value.slice.injEq] at e; exact e.2.1
  subst hnl
  have HB := hid h.by
  have H := hid h
  clear h
  go_enter Tryd.func6, Tryd.ntmps6
  go_wp2_with fail
  refine (known_c w).mono ?_
  rintro e w1 ⟨rfl, f1⟩
  have F1 := hid f1
  clear f1
  go_wp2_with fail
  refine (few_c (H.out.fr F1.out) hl).mono ?_
  rintro e w2 ⟨⟨fb, rfl, hfb⟩, rfl⟩
  cases fb
  · go_wp2
    go_ret
    exact ⟨rfl, F1.out⟩
  obtain ⟨h30, h3⟩ := hfb rfl
  clear hfb
  by_cases hy0 : y = 0
  · subst hy0
    go_wp2
    go_ret
    exact ⟨rfl, F1.out⟩
  have hy0' : ((y : Int) == 0) = false := beq_eq_false_iff_ne.2 (by omega)
  have hbl := logL_len_le rs 0
  have hbl' : (logL 0 rs).length ≤ 100000 := by unfold sz at h3; omega
  go_wp2_with fail
  refine (log_c (H.out.fr F1.out) (by omega) (by omega)).mono ?_
  rintro e w3 ⟨v1, v2, rfl, o1, o2, f3⟩
  have hby := logL_by rs 0 HB.out
  obtain ⟨a1, c1, hv1, hc1⟩ := ownsRow_slice o1
  subst hv1
  obtain ⟨a2, c2, hv2, _⟩ := ownsRow_slice o2
  subst hv2
  have P1 := hid (Rd.ownB o1)
  have O1 := hid o1
  have O2 := hid o2
  have F3 := hid (F1.out.trans f3)
  have HE := hid (fun k e => endsL_at rs 0 k e)
  have HEL := hid (endsL_len rs 0)
  have HBY := hid hby
  have RH := hid (fun p x yy (h1 : (logL 0 rs)[p]? = some x) (h2 : yy ≠ x) (h3 : yy < 256) h4 => read_hurt (p := p) (x := x) (y := yy) HB.out h1 h2 h3 h4)
  have HA1 := hid (fun p => ahd_cnt p rs 0)
  have HA2 := hid (fun p => ahd_end p rs 0)
  obtain ⟨X, hX⟩ : ∃ X, X = logL 0 rs := ⟨_, rfl⟩
  rw [← hX] at RH P1 O1 hbl' hc1 HBY
  rw [← hX]
  clear o1 o2 f3 hbl hby hX
  by_cases hz : 0 ≤ z ∧ z < (X.length : Int)
  rotate_left
  · have hz' : z < 0 ∨ (0 ≤ z ∧ (X.length : Int) ≤ z) := by omega
    rcases hz' with q | ⟨q1, q2⟩
    all_goals
      go_wp2
      go_ret
      exact ⟨rfl, F3.out⟩
  obtain ⟨hz1, hz2⟩ := hz
  obtain ⟨p, rfl⟩ : ∃ p : Nat, z = (p : Int) := ⟨z.toNat, by omega⟩
  have hp : p < X.length := by omega
  go_wp2_with fail
  refine (lengths_c w3 P1.out HBY.out (by omega)).mono ?_
  rintro e w4 ⟨v4, L, rfl, o4, hLl, hLm, f4⟩
  have hLp := hLm p hp
  obtain ⟨bl, hbl⟩ : ∃ bl, L[p]? = some bl := ⟨_, List.getElem?_eq_getElem (by omega)⟩
  have hbe : bl = mks X (X.length + 1) 0 p := by rw [← hLp]; simp [List.getD, hbl]
  rcases o4.2 with ⟨_, h0⟩ | ⟨g4, c4, cur4, hv4, _, _, hc4, _⟩
  · omega
  subst hv4
  have c4p := o4.cells rfl p _ (ov_at hbl)
  rw [Addr.add_lit, Nat.zero_add] at c4p
  have O14 := hid (ownsRow_fr O1.out f4)
  have O24 := hid (ownsRow_fr O2.out f4)
  have F4 := hid (F3.out.trans f4)
  have HBE := hid hbe
  clear o4 hLm f4 hLp hbl hbe
  cases bl
  rotate_left
  · go_wp2
    go_ret
    exact ⟨rfl, F4.out⟩
  obtain ⟨x, hx⟩ : ∃ x, X[p]? = some x := ⟨_, List.getElem?_eq_getElem hp⟩
  have hx256 := HBY.out.at hx
  have hxr := u8_xor_nat x y hx256 hy
  have hq256 : x ^^^ y < 256 := Nat.xor_lt_two_pow (n := 8) hx256 hy
  have hqne : x ^^^ y ≠ x := xor_ne hy0
  have RC := RH.out p x (x ^^^ y) hx hqne hq256 HBE.out.symm
  have e1 := HA1.out p
  have e2 := HA2.out p
  have hcl := cntA_le p (endsL 0 rs)
  rw [HEL.out] at hcl
  rw [← RC] at e1 e2
  have CS := hid (cntA_step p (endsL 0 rs))
  obtain ⟨K, hK⟩ : ∃ K, K = cntA p (endsL 0 rs) := ⟨_, rfl⟩
  rw [← hK] at e1 e2 hcl
  rcases O14.out.2 with ⟨_, h0⟩ | ⟨g1, c1', cur1, hv1, hbg1, _, hc1', _⟩
  · omega
  simp only [Value.slice.injEq, true_and] at hv1
  obtain ⟨rfl, rfl⟩ := hv1
  have S1 := O14.out.stored p (.int .u8 ((x ^^^ y : Nat) : Int))
  have hset : (bv X).set p (.int .u8 ((x ^^^ y : Nat) : Int)) = bv (X.set p (x ^^^ y)) := by unfold bv; rw [List.map_set]
  rw [hset] at S1
  have hcp := O14.out.cells rfl p _ (bv_at hx)
  rw [Addr.add_lit, Nat.zero_add] at hcp
  have hzp := O14.out.frozenAt p
  have hO2 := ownsRow_of_block (w' := w4.setCell ⟨g1, p, none⟩ (.int .u8 ((x ^^^ y : Nat) : Int))) O24.out fun q hq => S1.2.block q (O24.out.lt q hq).2 (fun e => own_types O24.out O14.out (by decide) q hq e.symm)
  have F6 := hid (F4.out.grown S1.2 fun q hq => .inr (by cases hq; have := F1.out.size; omega))
  have P6 : Hid (Rd (w4.setCell ⟨g1, p, none⟩ (.int .u8 ((x ^^^ y : Nat) : Int))) (.slice (some ⟨g1, 0, none⟩) X.length c1) (bv (X.set p (x ^^^ y)))) := Rd.ownN S1.1 (by simp)
  have O5 := hid hO2
  have HBT := hid (HBY.out.set (p := p) hq256)
  have HCT : Hid ((X.set p (x ^^^ y)).length = X.length) := List.length_set
  have E1 := hid e1
  have E2 := hid e2
  have HK := hid hK
  clear RC e1 e2 hK RH HA1 HA2 S1 hset hO2 hx hqne
  generalize x ^^^ y = xy at *
  generalize hws : w4.setCell ⟨g1, p, none⟩ (.int .u8 (xy : Int)) = w5 at *
  go_wp2_with fail
  go_loop [10, 11] (fun v10 v11 => ∃ (k en : Nat), k ≤ K ∧ v10 = .int .i64 (k : Int) ∧ v11 = .int .i64 (en : Int) ∧ en = (logL 0 (rs.take k)).length) (fun v10 _ => rs.length + 1 - (intOf v10).toNat)
  case atStart => exact ⟨0, 0, Nat.zero_le _, rfl, rfl, by simp [logL]⟩
  case round =>
    obtain ⟨k, en, hk, rfl, rfl, hen⟩ := hrel
    have HEN := hid hen
    clear hen
    by_cases hkl : k < rs.length
    · obtain ⟨e, he⟩ : ∃ e, (endsL 0 rs)[k]? = some e := ⟨_, List.getElem?_eq_getElem (by rw [HEL.out]; exact hkl)⟩
      have hst := CS.out k e (by rw [← HK.out]; exact hk) he
      rw [← HK.out] at hst
      have hee := HE.out k e he
      rw [Nat.zero_add] at hee
      have HEE := hid hee
      obtain ⟨ga, ca, hga, hcell⟩ : ∃ g c', Value.slice a2 rs.length c2 = .slice (some ⟨g, 0, none⟩) rs.length c' ∧ w5.cell? ⟨g, 0 + k, none⟩ = some (.int .i64 (e : Int)) := by
        rcases O5.out.2 with ⟨_, h0⟩ | ⟨g, cap, cur, h1, _⟩
        · omega
        · exact ⟨g, cap, h1, by have := O5.out.cells (by rw [h1]; rfl) k _ (iv_at he); rwa [Addr.add_lit] at this⟩
      simp only [Value.slice.injEq, true_and] at hga
      obtain ⟨rfl, rfl⟩ := hga
      rw [Nat.zero_add] at hcell
      clear he hee
      by_cases hce : e ≤ p
      · have hk1 := hst.1 hce
        clear hst
        go_wp2
        go_round
        case rel => exact ⟨k + 1, e, by omega, by go_num, rfl, HEE.out⟩
        case measure => simp [intOf]; omega
      · have hkK : k = K := by
          have : ¬ (k + 1 ≤ K) := fun h => hce (hst.2 h)
          omega
        clear hst
        have HKK := hid hkK
        clear hkK
        go_wp2_with fail
        refine (read_c _ P6.out HBT.out (by rw [HCT.out]; omega)).mono ?_
        rintro e w7 ⟨v7, rfl, o7, f7⟩
        rw [E1.out] at o7
        rw [E2.out, Nat.zero_add]
        have L7 := hid o7.rd
        have F7 := hid (F6.out.trans f7)
        have H7 := hid ((H.out.fr F7.out).front (k := k) (by omega))
        have HEK : Hid (en = (logL 0 (rs.take K)).length) := by unfold Hid; rw [← HKK.out]; exact HEN.out
        clear o7 f7
        rw [← HEK.out]
        have hee : ((en : Int) == (en : Int)) = true := by simp
        have hkc : k ≤ c := by omega
        have HTK : Hid (rs.take K = rs.take k) := by unfold Hid; rw [HKK.out]
        go_wp2_with fail
        refine (lists_c L7.out H7.out (by rw [List.length_take]; omega)).mono ?_
        rintro e w8 ⟨rfl, f8⟩
        rw [decide_eq_true HTK.out]
        have F8 := hid (F7.out.trans f8)
        clear f8
        go_wp2
        go_ret
        exact ⟨by simp, F8.out⟩
    · have HKK : Hid (k = K) := by unfold Hid; omega
      go_wp2_with fail
      refine (read_c _ P6.out HBT.out (by rw [HCT.out]; omega)).mono ?_
      rintro e w7 ⟨v7, rfl, o7, f7⟩
      rw [E1.out] at o7
      rw [E2.out, Nat.zero_add]
      have L7 := hid o7.rd
      have F7 := hid (F6.out.trans f7)
      have H7 := hid ((H.out.fr F7.out).front (k := k) (by omega))
      have HEK : Hid (en = (logL 0 (rs.take K)).length) := by unfold Hid; rw [← HKK.out]; exact HEN.out
      clear o7 f7
      rw [← HEK.out]
      have hee : ((en : Int) == (en : Int)) = true := by simp
      have hkc : k ≤ c := by omega
      have HTK : Hid (rs.take K = rs.take k) := by unfold Hid; rw [HKK.out]
      go_wp2_with fail
      refine (lists_c L7.out H7.out (by rw [List.length_take]; omega)).mono ?_
      rintro e w8 ⟨rfl, f8⟩
      rw [decide_eq_true HTK.out]
      have F8 := hid (F7.out.trans f8)
      clear f8
      go_wp2
      go_ret
      exact ⟨by simp, F8.out⟩
end Go.Proofs.YtplghoibadmdjaaDoor
