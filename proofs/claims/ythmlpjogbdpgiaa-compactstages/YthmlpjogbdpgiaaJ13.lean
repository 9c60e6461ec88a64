/-
  The document's Order, told to draw and nothing else.
-/
import Derived.Test.YthmlpjogbdpgiaaJ12
import Derived.Test.YthmlpjogbdpgiaaJ11
namespace Go.Proofs.Ythmlpjogbdpgiaa
open Go.ChangeShapes Go.WideShapes Go.ChangeAt Go.RowKit

theorem dq1 {w wr : World} (h : ∃ n, wr = w.drewN n) (m : Nat) : ∃ n, wr.drewN m = w.drewN n := by
  obtain ⟨n, rfl⟩ := h
  exact ⟨n + m, by rw [World.drewN_drewN]⟩
theorem dq2 {w wr : World} (h : ∃ n, wr = w.drewN n) (m k : Nat) : ∃ n, (wr.drewN m).drewN k = w.drewN n := dq1 (dq1 h m) k
set_option maxRecDepth 20000 in
set_option maxHeartbeats 1600000 in
theorem refbytes_q {w : World} {v1 v2 : Value} {a b : List Nat} (h1 : Rd w v1 (bv a)) (h2 : Rd w v2 (bv b)) (ha : By a) (hb : By b) (hl1 : a.length ≤ 140737488355328) (hl2 : b.length ≤ 140737488355328) :
    Calls Try.prog 21 #[v1, v2] w fun e w' => e = .returned (.int .i64 (cmpN a b)) ∧ ∃ n, w' = w.drewN n := by
  have hlo : a = [] ∨ b = [] ∨ (0 < a.length ∧ 0 < b.length) := by
    cases a with
    | nil => exact .inl rfl
    | cons => cases b with
      | nil => exact .inr (.inl rfl)
      | cons => exact .inr (.inr (by simp))
  rcases hlo with rfl | rfl | ⟨p1, p2⟩
  · obtain ⟨a1, c1, hv1⟩ := h1.form
    obtain ⟨a2, c2, hv2⟩ := h2.form
    rw [bv_len] at hv1 hv2
    subst hv1
    subst hv2
    clear h1 h2 ha hb
    cases b with
    | nil =>
      go_enter Try.func21, Try.ntmps21
      go_wp2
      refine wp_loop_rounds 1 ?_
      rw [rounds_succ]
      go_wp2
      go_ret
      exact ⟨rfl, 0, rfl⟩
    | cons y b =>
      have hc : cmpN [] (y :: b) = -1 := rfl
      rw [hc]
      have hp : 0 < (y :: b).length := by simp
      generalize (y :: b).length = n at *
      go_enter Try.func21, Try.ntmps21
      go_wp2
      refine wp_loop_rounds 1 ?_
      rw [rounds_succ]
      go_wp2
      go_ret
      exact ⟨rfl, 0, rfl⟩
  · obtain ⟨a1, c1, hv1⟩ := h1.form
    obtain ⟨a2, c2, hv2⟩ := h2.form
    rw [bv_len] at hv1 hv2
    subst hv1
    subst hv2
    clear h1 h2 ha hb
    cases a with
    | nil =>
      go_enter Try.func21, Try.ntmps21
      go_wp2
      refine wp_loop_rounds 1 ?_
      rw [rounds_succ]
      go_wp2
      go_ret
      exact ⟨rfl, 0, rfl⟩
    | cons y a =>
      have hc : cmpN (y :: a) [] = 1 := rfl
      rw [hc]
      have hp : 0 < (y :: a).length := by simp
      generalize (y :: a).length = n at *
      go_enter Try.func21, Try.ntmps21
      go_wp2
      refine wp_loop_rounds 1 ?_
      rw [rounds_succ]
      go_wp2
      go_ret
      exact ⟨rfl, 0, rfl⟩
  · rcases h1.split with ⟨rfl, _⟩ | ⟨q, off, c, rfl, g1, _, hc⟩
    · simp at p1
    rcases h2.split with ⟨rfl, _⟩ | ⟨q2, off2, c2, rfl, g2, _, hc2⟩
    · simp at p2
    have HC := hid hc
    have HC2 := hid hc2
    clear h1 h2 ha hb hc hc2
    go_enter Try.func21, Try.ntmps21
    go_wp2
    go_loopw [5] (fun v5 wr => ∃ i : Nat, i ≤ a.length ∧ i ≤ b.length ∧ v5 = .int .i64 (i : Int) ∧ cmpN (a.drop i) (b.drop i) = cmpN a b ∧ ∃ n, wr = w.drewN n) (fun v5 _ => a.length - (intOf v5).toNat)
    case atStart => exact ⟨0, by omega, by omega, rfl, rfl, 0, rfl⟩
    case round =>
      obtain ⟨i, hi1, hi2, rfl, hcm, hf⟩ := hrel
      have HCM := hid hcm
      have HF := hid hf
      clear hcm hf
      by_cases hlt : i < a.length
      · by_cases hlt2 : i < b.length
        · obtain ⟨x, hx, hd⟩ := drop_at hlt
          obtain ⟨y, hy, hd2⟩ := drop_at hlt2
          have k1 : wr.cell? ⟨q, off + i, none⟩ = some (.int .u8 (x : Int)) := by
            have h6 := HC.out i x hx
            obtain ⟨nn, hnn⟩ := HF.out; rw [hnn, World.cell?_of_block (w := w) (by rw [heap_drewN])]; exact h6
          have k2 : wr.cell? ⟨q2, off2 + i, none⟩ = some (.int .u8 (y : Int)) := by
            have h6 := HC2.out i y hy
            obtain ⟨nn, hnn⟩ := HF.out; rw [hnn, World.cell?_of_block (w := w) (by rw [heap_drewN])]; exact h6
          have j1 : (i : Int) < (a.length : Int) := by omega
          have j2 : (i : Int) < (b.length : Int) := by omega
          have HD := hid hd
          have HD2 := hid hd2
          clear hd hd2 hx hy
          rcases Nat.lt_trichotomy x y with hxy | hxy | hxy
          · have e0 : ((x : Int) == (y : Int)) = false := by simp; omega
            have e1 : (x : Int) < (y : Int) := by omega
            have HR : Hid (cmpN a b = -1) := by unfold Hid; rw [← HCM.out, HD.out, HD2.out, cmpN, if_pos hxy]
            clear hxy
            go_wp2_with fail
            go_quiet (fail)
            go_wp2_with fail
            go_quiet (fail)
            go_wp2
            go_ret
            exact ⟨by rw [HR.out]; rfl, dq2 HF.out _ _⟩
          · have e0 : ((x : Int) == (y : Int)) = true := by simp; omega
            have HR : Hid (cmpN (a.drop (i + 1)) (b.drop (i + 1)) = cmpN a b) := by unfold Hid; rw [← HCM.out, HD.out, HD2.out, cmpN, if_neg (by omega), if_neg (by omega)]
            clear hxy
            go_wp2_with fail
            go_quiet (fail)
            go_wp2
            go_roundw
            case rel => exact ⟨i + 1, by omega, by omega, by go_num, HR.out, dq1 HF.out _⟩
            case measure => simp [intOf]; omega
          · have e0 : ((x : Int) == (y : Int)) = false := by simp; omega
            have e1 : decide ((x : Int) < (y : Int)) = false := by simp; omega
            have e2 : decide (x < y) = false := by simp; omega
            have HR : Hid (cmpN a b = 1) := by unfold Hid; rw [← HCM.out, HD.out, HD2.out, cmpN, if_neg (by omega), if_pos hxy]
            clear hxy
            go_wp2_with fail
            go_quiet (fail)
            go_wp2_with fail
            go_quiet (fail)
            go_wp2
            go_ret
            exact ⟨by rw [HR.out]; rfl, dq2 HF.out _ _⟩
        · have hib : i = b.length := by omega
          have HR : Hid (cmpN a b = 1) := by
            obtain ⟨x, hx, hd⟩ := drop_at hlt
            have hn : b.drop i = [] := List.drop_eq_nil_of_le (by omega)
            unfold Hid; rw [← HCM.out, hd, hn]; rfl
          have j1 : (i : Int) < (a.length : Int) := by omega
          have j2 : (b.length : Int) < (a.length : Int) := by omega
          go_wp2
          go_ret
          exact ⟨by rw [HR.out]; rfl, HF.out⟩
      · have hia : i = a.length := by omega
        by_cases hlt2 : i < b.length
        · have HR : Hid (cmpN a b = -1) := by
            obtain ⟨x, hx, hd⟩ := drop_at hlt2
            have hn : a.drop i = [] := List.drop_eq_nil_of_le (by omega)
            unfold Hid; rw [← HCM.out, hd, hn]; rfl
          have j2 : (a.length : Int) < (b.length : Int) := by omega
          go_wp2
          go_ret
          exact ⟨by rw [HR.out]; rfl, HF.out⟩
        · have HR : Hid (cmpN a b = 0) := by
            have hn : a.drop i = [] := List.drop_eq_nil_of_le (by omega)
            have hn2 : b.drop i = [] := List.drop_eq_nil_of_le (by omega)
            unfold Hid; rw [← HCM.out, hn, hn2]; rfl
          have j2 : b.length ≤ a.length := by omega
          have j3 : a.length ≤ b.length := by omega
          go_wp2
          go_ret
          exact ⟨by rw [HR.out]; rfl, HF.out⟩
set_option maxRecDepth 20000 in
set_option maxHeartbeats 4000000 in
theorem order_q (w : World) {v1 v2 : Value} {a b : List Nat} (h1 : Rd w v1 (bv a)) (ha : By a) (h : isK a = true) (h2 : Rd w v2 (bv b)) (hb : By b) (hk : isK b = true) :
    Calls Try.prog 34 #[v1, v2] w fun e w' => e = .returned (.int .i64 (ordK a b)) ∧ ∃ m, w' = w.drewN m := by
  have hka := isK_len h
  have hkb := isK_len hk
  obtain ⟨q, off, c, hv1, hc⟩ := h1.place (by omega)
  obtain ⟨q2, off2, c2, hv2, hc2⟩ := h2.place (by omega)
  subst hv1
  subst hv2
  have HS1 := hid (refsplit_yes w h1 ha hc h)
  have HS2 := hid (refsplit_yes w h2 hb hc2 hk)
  have HC := hid (refbytes_q (h1.front (q := a.length - 8) (by omega)) (h2.front (q := b.length - 8) (by omega)) (ha.take _) (hb.take _) (by rw [List.length_take]; omega) (by rw [List.length_take]; omega))
  unfold ordK
  generalize ((tailN a / 256 : Nat) : Int) = s at HS1 ⊢
  generalize ((tailN a % 256 : Nat) : Int) = k at HS1 ⊢
  generalize ((tailN b / 256 : Nat) : Int) = t at HS2 ⊢
  generalize ((tailN b % 256 : Nat) : Int) = l at HS2 ⊢
  obtain ⟨x, hx⟩ : ∃ x, x = cmpN (userL a) (userL b) := ⟨_, rfl⟩
  rw [show cmpN (a.take (a.length - 8)) (b.take (b.length - 8)) = x from hx.symm] at HC
  clear h1 ha h h2 hb hk
  by_cases h0 : ¬ x = 0
  · rw [ordP_ne hx h0]
    have e0 : (x == 0) = false := by simpa using h0
    clear hx h0
    go_enter Try.func34, Try.ntmps34
    go_wp2_with fail
    refine HS1.out.mono ?_
    rintro e w1 ⟨rfl, rfl⟩
    go_wp2_with fail
    refine HS2.out.mono ?_
    rintro e w2 ⟨rfl, rfl⟩
    go_wp2_with fail
    refine HC.out.mono ?_
    rintro e w3 ⟨rfl, f3⟩
    have F3 := hid f3
    clear f3
    go_wp2
    go_ret
    exact ⟨rfl, F3.out⟩
  have h0' := Decidable.not_not.1 h0
  have e0 : (x == 0) = true := by simpa using h0'
  rcases (show t < s ∨ s < t ∨ s = t from by omega) with hs | hs | hs
  · rw [ordP_s1 hx h0' hs]
    have e1 : decide (t < s) = true := by simpa using hs
    clear hx h0 h0'
    go_enter Try.func34, Try.ntmps34
    go_wp2_with fail
    refine HS1.out.mono ?_
    rintro e w1 ⟨rfl, rfl⟩
    go_wp2_with fail
    refine HS2.out.mono ?_
    rintro e w2 ⟨rfl, rfl⟩
    go_wp2_with fail
    refine HC.out.mono ?_
    rintro e w3 ⟨rfl, f3⟩
    have F3 := hid f3
    clear f3
    go_wp2
    go_ret
    exact ⟨rfl, F3.out⟩
  · rw [ordP_s2 hx h0' hs]
    have e1 : decide (t < s) = false := by simp; omega
    have e2 : (s == t) = false := by simp; omega
    clear hx h0 h0'
    go_enter Try.func34, Try.ntmps34
    go_wp2_with fail
    refine HS1.out.mono ?_
    rintro e w1 ⟨rfl, rfl⟩
    go_wp2_with fail
    refine HS2.out.mono ?_
    rintro e w2 ⟨rfl, rfl⟩
    go_wp2_with fail
    refine HC.out.mono ?_
    rintro e w3 ⟨rfl, f3⟩
    have F3 := hid f3
    clear f3
    go_wp2
    go_ret
    exact ⟨rfl, F3.out⟩
  · rw [ordP_k hx h0' hs]
    have e1 : decide (t < s) = false := by simp; omega
    have e1' : decide (s < t) = false := by simp; omega
    have e2 : (s == t) = true := by simpa using hs
    clear hx h0 h0' hs
    unfold cmpI
    rcases (show l < k ∨ k < l ∨ k = l from by omega) with hl | hl | hl
    · rw [if_pos hl]
      go_enter Try.func34, Try.ntmps34
      go_wp2_with fail
      refine HS1.out.mono ?_
      rintro e w1 ⟨rfl, rfl⟩
      go_wp2_with fail
      refine HS2.out.mono ?_
      rintro e w2 ⟨rfl, rfl⟩
      go_wp2_with fail
      refine HC.out.mono ?_
      rintro e w3 ⟨rfl, f3⟩
      have F3 := hid f3
      clear f3
      go_wp2
      go_ret
      exact ⟨rfl, F3.out⟩
    · rw [if_neg (by omega), if_pos hl]
      have e3 : decide (l < k) = false := by simp; omega
      go_enter Try.func34, Try.ntmps34
      go_wp2_with fail
      refine HS1.out.mono ?_
      rintro e w1 ⟨rfl, rfl⟩
      go_wp2_with fail
      refine HS2.out.mono ?_
      rintro e w2 ⟨rfl, rfl⟩
      go_wp2_with fail
      refine HC.out.mono ?_
      rintro e w3 ⟨rfl, f3⟩
      have F3 := hid f3
      clear f3
      go_wp2
      go_ret
      exact ⟨rfl, F3.out⟩
    · rw [if_neg (by omega), if_neg (by omega)]
      have e3 : decide (l < k) = false := by simp; omega
      have e4 : decide (k < l) = false := by simp; omega
      clear hl
      go_enter Try.func34, Try.ntmps34
      go_wp2_with fail
      refine HS1.out.mono ?_
      rintro e w1 ⟨rfl, rfl⟩
      go_wp2_with fail
      refine HS2.out.mono ?_
      rintro e w2 ⟨rfl, rfl⟩
      go_wp2_with fail
      refine HC.out.mono ?_
      rintro e w3 ⟨rfl, f3⟩
      have F3 := hid f3
      clear f3
      go_wp2
      go_ret
      exact ⟨rfl, F3.out⟩

end Go.Proofs.Ythmlpjogbdpgiaa
namespace Go.Proofs.Ythmlpjogbdpgiaa
open Go.ChangeShapes Go.WideShapes Go.ChangeAt Go.RowKit

set_option maxRecDepth 20000 in
set_option maxHeartbeats 1600000 in
theorem rrises_c (w : World) {v : Value} {ps : Ps} (h : RdK w v ps) (hl : ps.length ≤ 1000000) :
    Calls Try.prog 23 #[v] w fun e w' => (e = .returned (.bool true) ∧ Rises ps ∨ e = .returned (.bool false) ∧ ¬ Rises ps) ∧ Fr [] w w' := by
  have HBY := hid h.by
  obtain ⟨a, c, rfl, hc, k1⟩ := h
  have H1 := hid k1
  clear k1
  obtain ⟨n, hn⟩ : ∃ n, n = ps.length := ⟨_, rfl⟩
  have HN := hid hn
  rw [← hn] at hl hc ⊢
  clear hn
  go_enter Try.func23, Try.ntmps23
  go_wp2_with fail
  go_loopw [3] (fun v3 wr => ∃ i : Nat, i ≤ n ∧ v3 = .int .i64 (i : Int) ∧ (∀ j, j < i → flw (ahd ps j) (kA ps j) = true) ∧ Fr [] w wr) (fun v3 _ => n - (intOf v3).toNat)
  case atStart => exact ⟨0, Nat.zero_le _, rfl, fun j h => by omega, Fr.refl _ _⟩
  case round =>
    obtain ⟨i, hi, rfl, hr, hf⟩ := hrel
    have HR := hid hr
    have HF := hid hf
    clear hr hf
    by_cases hlt : i < n
    · have hil : i < ps.length := by rw [← HN.out]; exact hlt
      obtain ⟨b, off, rfl, m1⟩ := H1.out (by omega)
      obtain ⟨ka, kc, va, vc, P⟩ := m1 i _ (ps_at hil)
      have z1 := cell_fr HF.out P.ck
      have HIS := hid (fun m : Nat => is_c (wr.drewN m) ((P.rk.fr HF.out).fr ((Fr.refl [] wr).drewN m)) P.bk P.lk)
      dsimp only at z1 HIS
      have HP := hid P
      clear P
      obtain ⟨lk, hlk⟩ : ∃ l, l = (kA ps i).length := ⟨_, rfl⟩
      rw [← hlk] at z1 HIS
      have HLK := hid hlk
      clear hlk
      rcases hk : isK (kA ps i) with _ | _
      · rw [hk] at HIS
        have HNO : Hid (¬ Rises ps) := hid (not_rises hil (by
          rcases hf : flw (ahd ps i) (kA ps i) with _ | _
          · rfl
          · rw [flw_isK hf] at hk; cases hk))
        clear m1 hil hk
        go_upto_region 4 with fail
        go_quiet ((go_at_call 37; exact Calls.quiet_of_same (HIS.out _)))
        go_wp2
        go_ret
        exact ⟨.inr ⟨rfl, HNO.out⟩, HF.out.drewN nq⟩
      rw [hk] at HIS
      by_cases h0 : i = 0
      · have HYS : Hid (∀ j, j < i + 1 → flw (ahd ps j) (kA ps j) = true) := hid fun j hj => by
          have : j = i := by omega
          subst this
          unfold flw ahd
          rw [if_pos h0, if_pos rfl]; exact hk
        have hd : decide (0 < i) = false := decide_eq_false (by omega)
        clear h0
        clear m1 hil hk
        go_upto_region 4 with fail
        go_quiet ((go_at_call 37; exact Calls.quiet_of_same (HIS.out _)))
        go_wp2
        go_roundw
        case rel => exact ⟨i + 1, by omega, by go_num, HYS.out, HF.out.drewN nq⟩
        case measure => simp [intOf]; omega
      obtain ⟨i', rfl⟩ : ∃ i', i = i' + 1 := ⟨i - 1, by omega⟩
      have hil' : i' < ps.length := by omega
      have hk' := flw_isK (HR.out i' (by omega))
      obtain ⟨ja, jc, ua, uc, P2⟩ := m1 i' _ (ps_at hil')
      have z2 := cell_fr HF.out P2.ck
      have HOR := hid (fun m : Nat => order_q (wr.drewN m) ((P2.rk.fr HF.out).fr ((Fr.refl [] wr).drewN m)) P2.bk hk' ((HP.out.rk.fr HF.out).fr ((Fr.refl [] wr).drewN m)) HP.out.bk hk)
      dsimp only at z2 HOR
      rw [← HLK.out] at HOR
      have hne : kA ps i' ≠ [] := fun e => by have := isK_len hk'; rw [e] at this; simp at this
      have HFL : Hid (flw (ahd ps (i' + 1)) (kA ps (i' + 1)) = decide (ordK (kA ps i') (kA ps (i' + 1)) < 0)) := hid (by
        rw [ahd_succ]; unfold flw; rw [if_neg hne, hk', hk]; rfl)
      generalize hod : ordK (kA ps i') (kA ps (i' + 1)) = od at *
      generalize (kA ps i').length = lj at *
      have hpos : decide ((0 : Int) < ((i' : Int) + 1)) = true := decide_eq_true (by omega)
      have hsub : IntKind.i64.wrap ((i' : Int) + 1 - 1) = (i' : Int) := by rw [IntKind.wrap_i64]; omega
      have hin : (i' : Int) < (n : Int) := by omega
      by_cases hneg : od < 0
      · have HYS : Hid (∀ j, j < i' + 1 + 1 → flw (ahd ps j) (kA ps j) = true) := hid fun j hj => by
          rcases Nat.lt_or_ge j (i' + 1) with h | h
          · exact HR.out j h
          · have : j = i' + 1 := by omega
            subst this; rw [HFL.out]; exact decide_eq_true hneg
        clear m1 hil hk hk' hod hil' P2 hne
        go_upto_region 4 with fail
        go_quiet (first | (go_at_call 37; exact Calls.quiet_of_same (HIS.out _)) | (go_at_call 34; exact Calls.quiet_of (HOR.out _)))
        go_wp2
        go_roundw
        case rel => exact ⟨i' + 1 + 1, by omega, by go_num, HYS.out, HF.out.drewN nq⟩
        case measure => simp [intOf]; omega
      · have HNO : Hid (¬ Rises ps) := hid (not_rises hil (by rw [HFL.out]; exact decide_eq_false hneg))
        clear m1 hil hk hk' hod hil' P2 hne
        go_upto_region 4 with fail
        go_quiet (first | (go_at_call 37; exact Calls.quiet_of_same (HIS.out _)) | (go_at_call 34; exact Calls.quiet_of (HOR.out _)))
        go_wp2
        go_ret
        exact ⟨.inr ⟨rfl, HNO.out⟩, HF.out.drewN nq⟩
    · have hie : i = n := by omega
      subst hie
      go_wp2
      go_ret
      exact ⟨.inl ⟨rfl, fun j hj => HR.out j (by rw [HN.out]; exact hj)⟩, HF.out⟩
end Go.Proofs.Ythmlpjogbdpgiaa
