/-
  How the reference compares bytes and internal keys.
-/
import Derived.Test.YthmlpjogbdpgiaaJ05
import Derived.Test.YthmlpjogbdpgiaaJ11
namespace Go.Proofs.Ythmlpjogbdpgiaa
open Go.ChangeShapes Go.WideShapes Go.ChangeAt Go.RowKit

set_option maxRecDepth 20000 in
set_option maxHeartbeats 1600000 in
theorem refbytes_c {w : World} {v1 v2 : Value} {a b : List Nat} (h1 : Rd w v1 (bv a)) (h2 : Rd w v2 (bv b)) (ha : By a) (hb : By b) (hl1 : a.length ≤ 140737488355328) (hl2 : b.length ≤ 140737488355328) :
    Calls Try.prog 21 #[v1, v2] w fun e w' => e = .returned (.int .i64 (cmpN a b)) ∧ Fr [] w w' := by
  have hlo : a = [] ∨ b = [] ∨ (0 < a.length ∧ 0 < b.length) := by
    cases a with
    | nil => exact .inl rfl
    | cons => cases b with
      | nil => exact .inr (.inl rfl)
      | cons => exact .inr (.inr (by simp))
  rcases hlo with rfl | rfl | ⟨p1, p2⟩
  · obtain ⟨a1, c1, hv1⟩ := h1.form
    obtain ⟨a2, c2, hv2⟩ := h2.form
    rw [bv_len] at hv1 hv2
    subst hv1
    subst hv2
    clear h1 h2 ha hb
    cases b with
    | nil =>
      go_enter Try.func21, Try.ntmps21
      go_wp2
      refine wp_loop_rounds 1 ?_
      rw [rounds_succ]
      go_wp2
      go_ret
      exact ⟨rfl, Fr.refl _ _⟩
    | cons y b =>
      have hc : cmpN [] (y :: b) = -1 := rfl
      rw [hc]
      have hp : 0 < (y :: b).length := by simp
      generalize (y :: b).length = n at *
      go_enter Try.func21, Try.ntmps21
      go_wp2
      refine wp_loop_rounds 1 ?_
      rw [rounds_succ]
      go_wp2
      go_ret
      exact ⟨rfl, Fr.refl _ _⟩
  · obtain ⟨a1, c1, hv1⟩ := h1.form
    obtain ⟨a2, c2, hv2⟩ := h2.form
    rw [bv_len] at hv1 hv2
    subst hv1
    subst hv2
    clear h1 h2 ha hb
    cases a with
    | nil =>
      go_enter Try.func21, Try.ntmps21
      go_wp2
      refine wp_loop_rounds 1 ?_
      rw [rounds_succ]
      go_wp2
      go_ret
      exact ⟨rfl, Fr.refl _ _⟩
    | cons y a =>
      have hc : cmpN (y :: a) [] = 1 := rfl
      rw [hc]
      have hp : 0 < (y :: a).length := by simp
      generalize (y :: a).length = n at *
      go_enter Try.func21, Try.ntmps21
      go_wp2
      refine wp_loop_rounds 1 ?_
      rw [rounds_succ]
      go_wp2
      go_ret
      exact ⟨rfl, Fr.refl _ _⟩
  · rcases h1.split with ⟨rfl, _⟩ | ⟨q, off, c, rfl, g1, _, hc⟩
    · simp at p1
    rcases h2.split with ⟨rfl, _⟩ | ⟨q2, off2, c2, rfl, g2, _, hc2⟩
    · simp at p2
    have HC := hid hc
    have HC2 := hid hc2
    clear h1 h2 ha hb hc hc2
    go_enter Try.func21, Try.ntmps21
    go_wp2
    go_loopw [5] (fun v5 wr => ∃ i : Nat, i ≤ a.length ∧ i ≤ b.length ∧ v5 = .int .i64 (i : Int) ∧ cmpN (a.drop i) (b.drop i) = cmpN a b ∧ Fr [] w wr) (fun v5 _ => a.length - (intOf v5).toNat)
    case atStart => exact ⟨0, by omega, by omega, rfl, rfl, Fr.refl _ _⟩
    case round =>
      obtain ⟨i, hi1, hi2, rfl, hcm, hf⟩ := hrel
      have HCM := hid hcm
      have HF := hid hf
      clear hcm hf
      by_cases hlt : i < a.length
      · by_cases hlt2 : i < b.length
        · obtain ⟨x, hx, hd⟩ := drop_at hlt
          obtain ⟨y, hy, hd2⟩ := drop_at hlt2
          have k1 : wr.cell? ⟨q, off + i, none⟩ = some (.int .u8 (x : Int)) := by
            have h6 := HC.out i x hx
            rw [World.cell?_of_block (w := w) (HF.out.block _ (World.block_lt_of_cell? w _ h6) (by simp))]; exact h6
          have k2 : wr.cell? ⟨q2, off2 + i, none⟩ = some (.int .u8 (y : Int)) := by
            have h6 := HC2.out i y hy
            rw [World.cell?_of_block (w := w) (HF.out.block _ (World.block_lt_of_cell? w _ h6) (by simp))]; exact h6
          have j1 : (i : Int) < (a.length : Int) := by omega
          have j2 : (i : Int) < (b.length : Int) := by omega
          have HD := hid hd
          have HD2 := hid hd2
          clear hd hd2 hx hy
          rcases Nat.lt_trichotomy x y with hxy | hxy | hxy
          · have e0 : ((x : Int) == (y : Int)) = false := by simp; omega
            have e1 : (x : Int) < (y : Int) := by omega
            have HR : Hid (cmpN a b = -1) := by unfold Hid; rw [← HCM.out, HD.out, HD2.out, cmpN, if_pos hxy]
            clear hxy
            go_wp2_with fail
            go_quiet (fail)
            go_wp2_with fail
            go_quiet (fail)
            go_wp2
            go_ret
            exact ⟨by rw [HR.out]; rfl, (HF.out.drewN _).drewN _⟩
          · have e0 : ((x : Int) == (y : Int)) = true := by simp; omega
            have HR : Hid (cmpN (a.drop (i + 1)) (b.drop (i + 1)) = cmpN a b) := by unfold Hid; rw [← HCM.out, HD.out, HD2.out, cmpN, if_neg (by omega), if_neg (by omega)]
            clear hxy
            go_wp2_with fail
            go_quiet (fail)
            go_wp2
            go_roundw
            case rel => exact ⟨i + 1, by omega, by omega, by go_num, HR.out, HF.out.drewN _⟩
            case measure => simp [intOf]; omega
          · have e0 : ((x : Int) == (y : Int)) = false := by simp; omega
            have e1 : decide ((x : Int) < (y : Int)) = false := by simp; omega
            have e2 : decide (x < y) = false := by simp; omega
            have HR : Hid (cmpN a b = 1) := by unfold Hid; rw [← HCM.out, HD.out, HD2.out, cmpN, if_neg (by omega), if_pos hxy]
            clear hxy
            go_wp2_with fail
            go_quiet (fail)
            go_wp2_with fail
            go_quiet (fail)
            go_wp2
            go_ret
            exact ⟨by rw [HR.out]; rfl, (HF.out.drewN _).drewN _⟩
        · have hib : i = b.length := by omega
          have HR : Hid (cmpN a b = 1) := by
            obtain ⟨x, hx, hd⟩ := drop_at hlt
            have hn : b.drop i = [] := List.drop_eq_nil_of_le (by omega)
            unfold Hid; rw [← HCM.out, hd, hn]; rfl
          have j1 : (i : Int) < (a.length : Int) := by omega
          have j2 : (b.length : Int) < (a.length : Int) := by omega
          go_wp2
          go_ret
          exact ⟨by rw [HR.out]; rfl, HF.out⟩
      · have hia : i = a.length := by omega
        by_cases hlt2 : i < b.length
        · have HR : Hid (cmpN a b = -1) := by
            obtain ⟨x, hx, hd⟩ := drop_at hlt2
            have hn : a.drop i = [] := List.drop_eq_nil_of_le (by omega)
            unfold Hid; rw [← HCM.out, hd, hn]; rfl
          have j2 : (a.length : Int) < (b.length : Int) := by omega
          go_wp2
          go_ret
          exact ⟨by rw [HR.out]; rfl, HF.out⟩
        · have HR : Hid (cmpN a b = 0) := by
            have hn : a.drop i = [] := List.drop_eq_nil_of_le (by omega)
            have hn2 : b.drop i = [] := List.drop_eq_nil_of_le (by omega)
            unfold Hid; rw [← HCM.out, hn, hn2]; rfl
          have j2 : b.length ≤ a.length := by omega
          have j3 : a.length ≤ b.length := by omega
          go_wp2
          go_ret
          exact ⟨by rw [HR.out]; rfl, HF.out⟩
end Go.Proofs.Ythmlpjogbdpgiaa
namespace Go.Proofs.Ythmlpjogbdpgiaa
open Go.ChangeShapes Go.WideShapes Go.ChangeAt Go.RowKit

set_option maxRecDepth 20000 in
set_option maxHeartbeats 800000 in
theorem is_c (w : World) {v : Value} {b : List Nat} (hr : Rd w v (bv b)) (hb : By b) (hl : b.length ≤ 140737488355328) :
    Calls Try.prog 37 #[v] w fun e w' => e = .returned (.bool (isK b)) ∧ w' = w := by
  rcases hk : isK b with _ | _
  · have HS := hid (refsplit_no w hr hb hl hk)
    obtain ⟨a, c, hv⟩ := hr.form
    subst hv
    clear hr hb hk
    go_enter Try.func37, Try.ntmps37
    go_wp2_with fail
    refine HS.out.mono ?_
    rintro e w1 ⟨rfl, rfl⟩
    go_wp2
    go_ret
    exact ⟨rfl, rfl⟩
  · have hkl := isK_len hk
    obtain ⟨q, off, c, hv, hc⟩ := hr.place (by omega)
    subst hv
    have HS := hid (refsplit_yes w hr hb hc hk)
    clear hr hb hk
    go_enter Try.func37, Try.ntmps37
    go_wp2_with fail
    refine HS.out.mono ?_
    rintro e w1 ⟨rfl, rfl⟩
    go_wp2
    go_ret
    exact ⟨rfl, rfl⟩

theorem ordP_ne {u v : List Nat} {s t k l x : Int} (hx : x = cmpN u v) (h : ¬ x = 0) : ordP u v s t k l = x := by unfold ordP; rw [← hx, if_neg h]
theorem ordP_s1 {u v : List Nat} {s t k l x : Int} (hx : x = cmpN u v) (h : x = 0) (hs : t < s) : ordP u v s t k l = -1 := by
  unfold ordP; rw [← hx, if_pos h]; unfold cmpI; rw [if_pos hs]; rfl
theorem ordP_s2 {u v : List Nat} {s t k l x : Int} (hx : x = cmpN u v) (h : x = 0) (hs : s < t) : ordP u v s t k l = 1 := by
  unfold ordP; rw [← hx, if_pos h]; unfold cmpI; rw [if_neg (show ¬ t < s by omega), if_pos hs]; rfl
theorem ordP_k {u v : List Nat} {s t k l x : Int} (hx : x = cmpN u v) (h : x = 0) (hs : s = t) : ordP u v s t k l = cmpI l k := by
  unfold ordP; rw [← hx, if_pos h]; subst hs; rw [if_pos (show cmpI s s = 0 by unfold cmpI; simp)]

set_option maxRecDepth 20000 in
set_option maxHeartbeats 4000000 in
theorem order_c (w : World) {v1 v2 : Value} {a b : List Nat} (h1 : Rd w v1 (bv a)) (ha : By a) (h : isK a = true) (h2 : Rd w v2 (bv b)) (hb : By b) (hk : isK b = true) :
    Calls Try.prog 34 #[v1, v2] w fun e w' => e = .returned (.int .i64 (ordK a b)) ∧ Fr [] w w' := by
  have hka := isK_len h
  have hkb := isK_len hk
  obtain ⟨q, off, c, hv1, hc⟩ := h1.place (by omega)
  obtain ⟨q2, off2, c2, hv2, hc2⟩ := h2.place (by omega)
  subst hv1
  subst hv2
  have HS1 := hid (refsplit_yes w h1 ha hc h)
  have HS2 := hid (refsplit_yes w h2 hb hc2 hk)
  have HC := hid (refbytes_c (h1.front (q := a.length - 8) (by omega)) (h2.front (q := b.length - 8) (by omega)) (ha.take _) (hb.take _) (by rw [List.length_take]; omega) (by rw [List.length_take]; omega))
  unfold ordK
  generalize ((tailN a / 256 : Nat) : Int) = s at HS1 ⊢
  generalize ((tailN a % 256 : Nat) : Int) = k at HS1 ⊢
  generalize ((tailN b / 256 : Nat) : Int) = t at HS2 ⊢
  generalize ((tailN b % 256 : Nat) : Int) = l at HS2 ⊢
  obtain ⟨x, hx⟩ : ∃ x, x = cmpN (userL a) (userL b) := ⟨_, rfl⟩
  rw [show cmpN (a.take (a.length - 8)) (b.take (b.length - 8)) = x from hx.symm] at HC
  clear h1 ha h h2 hb hk
  by_cases h0 : ¬ x = 0
  · rw [ordP_ne hx h0]
    have e0 : (x == 0) = false := by simpa using h0
    clear hx h0
    go_enter Try.func34, Try.ntmps34
    go_wp2_with fail
    refine HS1.out.mono ?_
    rintro e w1 ⟨rfl, rfl⟩
    go_wp2_with fail
    refine HS2.out.mono ?_
    rintro e w2 ⟨rfl, rfl⟩
    go_wp2_with fail
    refine HC.out.mono ?_
    rintro e w3 ⟨rfl, f3⟩
    have F3 := hid f3
    clear f3
    go_wp2
    go_ret
    exact ⟨rfl, F3.out⟩
  have h0' := Decidable.not_not.1 h0
  have e0 : (x == 0) = true := by simpa using h0'
  rcases (show t < s ∨ s < t ∨ s = t from by omega) with hs | hs | hs
  · rw [ordP_s1 hx h0' hs]
    have e1 : decide (t < s) = true := by simpa using hs
    clear hx h0 h0'
    go_enter Try.func34, Try.ntmps34
    go_wp2_with fail
    refine HS1.out.mono ?_
    rintro e w1 ⟨rfl, rfl⟩
    go_wp2_with fail
    refine HS2.out.mono ?_
    rintro e w2 ⟨rfl, rfl⟩
    go_wp2_with fail
    refine HC.out.mono ?_
    rintro e w3 ⟨rfl, f3⟩
    have F3 := hid f3
    clear f3
    go_wp2
    go_ret
    exact ⟨rfl, F3.out⟩
  · rw [ordP_s2 hx h0' hs]
    have e1 : decide (t < s) = false := by simp; omega
    have e2 : (s == t) = false := by simp; omega
    clear hx h0 h0'
    go_enter Try.func34, Try.ntmps34
    go_wp2_with fail
    refine HS1.out.mono ?_
    rintro e w1 ⟨rfl, rfl⟩
    go_wp2_with fail
    refine HS2.out.mono ?_
    rintro e w2 ⟨rfl, rfl⟩
    go_wp2_with fail
    refine HC.out.mono ?_
    rintro e w3 ⟨rfl, f3⟩
    have F3 := hid f3
    clear f3
    go_wp2
    go_ret
    exact ⟨rfl, F3.out⟩
  · rw [ordP_k hx h0' hs]
    have e1 : decide (t < s) = false := by simp; omega
    have e1' : decide (s < t) = false := by simp; omega
    have e2 : (s == t) = true := by simpa using hs
    clear hx h0 h0' hs
    unfold cmpI
    rcases (show l < k ∨ k < l ∨ k = l from by omega) with hl | hl | hl
    · rw [if_pos hl]
      go_enter Try.func34, Try.ntmps34
      go_wp2_with fail
      refine HS1.out.mono ?_
      rintro e w1 ⟨rfl, rfl⟩
      go_wp2_with fail
      refine HS2.out.mono ?_
      rintro e w2 ⟨rfl, rfl⟩
      go_wp2_with fail
      refine HC.out.mono ?_
      rintro e w3 ⟨rfl, f3⟩
      have F3 := hid f3
      clear f3
      go_wp2
      go_ret
      exact ⟨rfl, F3.out⟩
    · rw [if_neg (by omega), if_pos hl]
      have e3 : decide (l < k) = false := by simp; omega
      go_enter Try.func34, Try.ntmps34
      go_wp2_with fail
      refine HS1.out.mono ?_
      rintro e w1 ⟨rfl, rfl⟩
      go_wp2_with fail
      refine HS2.out.mono ?_
      rintro e w2 ⟨rfl, rfl⟩
      go_wp2_with fail
      refine HC.out.mono ?_
      rintro e w3 ⟨rfl, f3⟩
      have F3 := hid f3
      clear f3
      go_wp2
      go_ret
      exact ⟨rfl, F3.out⟩
    · rw [if_neg (by omega), if_neg (by omega)]
      have e3 : decide (l < k) = false := by simp; omega
      have e4 : decide (k < l) = false := by simp; omega
      clear hl
      go_enter Try.func34, Try.ntmps34
      go_wp2_with fail
      refine HS1.out.mono ?_
      rintro e w1 ⟨rfl, rfl⟩
      go_wp2_with fail
      refine HS2.out.mono ?_
      rintro e w2 ⟨rfl, rfl⟩
      go_wp2_with fail
      refine HC.out.mono ?_
      rintro e w3 ⟨rfl, f3⟩
      have F3 := hid f3
      clear f3
      go_wp2
      go_ret
      exact ⟨rfl, F3.out⟩

end Go.Proofs.Ythmlpjogbdpgiaa
