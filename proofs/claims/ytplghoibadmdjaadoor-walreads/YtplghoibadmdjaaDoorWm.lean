/-
  The walk of WalWhole.
-/
import Derived.Test.YtplghoibadmdjaaDoorWl
namespace Go.Proofs.YtplghoibadmdjaaDoor
open Go.ChangeShapes Go.WideShapes Go.ChangeAt Go.RowKit

theorem Rd.upto {w : World} {a : Option Addr} {n c : Nat} {ns : List Nat} (h : Rd w (.slice a n c) (bv ns)) {k : Nat} (hk : k ≤ n) : Rd w (.slice a k c) (bv (ns.take k)) := by
  have hn := h.shape
  subst hn
  rcases h with ⟨h, h'⟩ | ⟨a', c', h, h4, h5⟩
  · simp only [Value.slice.injEq] at h
    obtain ⟨rfl, h0, rfl⟩ := h
    have : ns = [] := List.eq_nil_of_length_eq_zero h0
    subst this
    simp only [List.length_nil] at hk
    have : k = 0 := by omega
    subst this
    exact .inl ⟨rfl, rfl⟩
  · simp only [Value.slice.injEq, bv_len] at h
    obtain ⟨rfl, _, rfl⟩ := h
    refine .inr ⟨a', c, by rw [bv_len, List.length_take, Nat.min_eq_left hk], by rw [bv_len, List.length_take]; rw [bv_len] at h4; omega, fun j u hj => h5 j u ?_⟩
    rw [bv_take, List.getElem?_take] at hj
    split at hj
    · exact hj
    · cases hj
theorem iv_len (ns : List Nat) : (iv ns).length = ns.length := List.length_map _
theorem iv_at {ns : List Nat} {k n : Nat} (h : ns[k]? = some n) : (iv ns)[k]? = some (.int .i64 (n : Int)) := by unfold iv; rw [List.getElem?_map, h]; rfl

set_option maxRecDepth 20000 in
set_option maxHeartbeats 1600000 in
theorem whole_c (w : World) {a : Option Addr} {n c : Nat} {rs : List (List Nat)} (h : RdL w (.slice a n c) rs) (hl : rs.length ≤ 9223372036854775807) (hc : n ≤ c) (z : Int) :
    Calls Tryd.prog 5 #[.slice a n c, .int .i64 z] w fun e w' => e = .returned (.bool true) ∧ Fr [] w w' := by
  have hnl : n = rs.length := by obtain ⟨a', c', e, _⟩ := h; simp only [Value.slice.injEq] at e; exact e.2.1
  subst hnl
  have HB := hid h.by
  have H := hid h
  clear h
  go_enter Tryd.func5, Tryd.ntmps5
  go_wp2_with fail
  refine (known_c w).mono ?_
  rintro e w1 ⟨rfl, f1⟩
  have F1 := hid f1
  clear f1
  go_wp2_with fail
  refine (few_c (H.out.fr F1.out) hl).mono ?_
  rintro e w2 ⟨⟨fb, rfl, hfb⟩, rfl⟩
  cases fb
  · go_wp2
    go_ret
    exact ⟨rfl, F1.out⟩
  obtain ⟨h30, h3⟩ := hfb rfl
  clear hfb
  have hbl := logL_len_le rs 0
  have hbl' : (logL 0 rs).length ≤ 100000 := by unfold sz at h3; omega
  go_wp2_with fail
  refine (log_c (H.out.fr F1.out) (by omega) (by omega)).mono ?_
  rintro e w3 ⟨v1, v2, rfl, o1, o2, f3⟩
  have hby := logL_by rs 0 HB.out
  have hrd := read_log HB.out
  obtain ⟨a1, c1, hv1, hc1⟩ := ownsRow_slice o1
  subst hv1
  obtain ⟨a2, c2, hv2, _⟩ := ownsRow_slice o2
  subst hv2
  have P1 := hid (Rd.ownB o1)
  have O2 := hid o2
  have F3 := hid (F1.out.trans f3)
  have RCUT := hid (fun c h => read_cut (c := c) HB.out h)
  have HE := hid (fun k e => endsL_at rs 0 k e)
  have HEL := hid (endsL_len rs 0)
  have HA1 := hid (fun p => ahd_cnt p rs 0)
  have HA2 := hid (fun p => ahd_end p rs 0)
  obtain ⟨N, hN⟩ : ∃ N, N = (logL 0 rs).length := ⟨_, rfl⟩
  rw [← hN] at hbl' hc1 hrd P1
  have HNN := hid hN
  have HRD := hid hrd
  have HBY := hid hby
  clear o1 o2 f3 hbl hrd hby hN
  rw [← HNN.out]
  go_wp2_with fail
  refine (read_c w3 P1.out HBY.out (by rw [← HNN.out]; omega)).mono ?_
  rintro e w4 ⟨v4, rfl, o4, f4⟩
  rw [HRD.out] at o4 ⊢
  have L4 := hid o4.rd
  have F4 := hid (F3.out.trans f4)
  have P4 := hid (P1.out.fr f4)
  have O4 := hid (ownsRow_fr O2.out f4)
  clear o4 f4
  have hnn : ((N : Int) == (N : Int)) = true := by simp
  go_wp2_with fail
  refine (lists_c L4.out (H.out.fr F4.out) (by omega)).mono ?_
  rintro e w5 ⟨rfl, f5⟩
  rw [decide_eq_true rfl]
  have F5 := hid (F4.out.trans f5)
  have P5 := hid (P4.out.fr f5)
  have O5 := hid (ownsRow_fr O4.out f5)
  clear f5
  by_cases hz : 0 ≤ z ∧ z ≤ (N : Int)
  · obtain ⟨hz1, hz2⟩ := hz
    obtain ⟨ct, rfl⟩ : ∃ ct : Nat, z = (ct : Int) := ⟨z.toNat, by omega⟩
    have RC := RCUT.out ct (by rw [← HNN.out]; omega)
    have e1 := HA1.out ct
    have e2 := HA2.out ct
    have hcl := cntA_le ct (endsL 0 rs)
    rw [HEL.out] at hcl
    rw [← RC] at e1 e2
    have CS := hid (cntA_step ct (endsL 0 rs))
    obtain ⟨K, hK⟩ : ∃ K, K = cntA ct (endsL 0 rs) := ⟨_, rfl⟩
    rw [← hK] at e1 e2 hcl
    have E1 := hid e1
    have E2 := hid e2
    have HK := hid hK
    have RX := hid (P5.out.upto (k := ct) (by omega))
    have HBT := hid (HBY.out.take ct)
    have hctl : ((logL 0 rs).take ct).length = ct := by rw [List.length_take, ← HNN.out]; omega
    have HCT := hid hctl
    clear RC e1 e2 hctl hK RCUT HA1 HA2
    go_wp2_with fail
    go_loop [10, 11] (fun v10 v11 => ∃ (k en : Nat), k ≤ K ∧ v10 = .int .i64 (k : Int) ∧ v11 = .int .i64 (en : Int) ∧ en = (logL 0 (rs.take k)).length) (fun v10 _ => rs.length + 1 - (intOf v10).toNat)
    case atStart => exact ⟨0, 0, Nat.zero_le _, rfl, rfl, by simp [logL]⟩
    case round =>
      obtain ⟨k, en, hk, rfl, rfl, hen⟩ := hrel
      have HEN := hid hen
      clear hen
      by_cases hkl : k < rs.length
      · obtain ⟨e, he⟩ : ∃ e, (endsL 0 rs)[k]? = some e := ⟨_, List.getElem?_eq_getElem (by rw [HEL.out]; exact hkl)⟩
        have hst := CS.out k e (by rw [← HK.out]; exact hk) he
        rw [← HK.out] at hst
        have hee := HE.out k e he
        rw [Nat.zero_add] at hee
        have HEE := hid hee
        obtain ⟨ga, ca, hga, hcell⟩ : ∃ g c', Value.slice a2 rs.length c2 = .slice (some ⟨g, 0, none⟩) rs.length c' ∧ w5.cell? ⟨g, 0 + k, none⟩ = some (.int .i64 (e : Int)) := by
          rcases O5.out.2 with ⟨_, h0⟩ | ⟨g, cap, cur, h1, _⟩
          · omega
          · exact ⟨g, cap, h1, by have := O5.out.cells (by rw [h1]; rfl) k _ (iv_at he); rwa [Addr.add_lit] at this⟩
        simp only [Value.slice.injEq, true_and] at hga
        obtain ⟨rfl, rfl⟩ := hga
        rw [Nat.zero_add] at hcell
        clear he hee
        by_cases hce : e ≤ ct
        · have hk1 := hst.1 hce
          clear hst
          go_wp2
          go_round
          case rel => exact ⟨k + 1, e, by omega, by go_num, rfl, HEE.out⟩
          case measure => simp [intOf]; omega
        · have hkK : k = K := by
            have : ¬ (k + 1 ≤ K) := fun h => hce (hst.2 h)
            omega
          clear hst
          have HKK := hid hkK
          clear hkK
          go_wp2_with (at_builtin; refine wpList_append_nil rfl _ _ rfl rfl F5.out _ RX.out rfl (by rw [HCT.out]; omega) ?_; intro v6 w6 o6 f6 f60; have P6 := hid (Rd.ownB o6); have F6 := hid f60; clear o6 f6 f60)
          refine (read_c w6 P6.out HBT.out (by rw [HCT.out]; omega)).mono ?_
          rintro e w7 ⟨v7, rfl, o7, f7⟩
          rw [E1.out] at o7
          rw [E2.out, Nat.zero_add]
          have L7 := hid o7.rd
          have F7 := hid (F6.out.trans f7)
          have H7 := hid ((H.out.fr F7.out).front (k := k) (by omega))
          have HEK : Hid (en = (logL 0 (rs.take K)).length) := by unfold Hid; rw [← HKK.out]; exact HEN.out
          clear o7 f7
          rw [← HEK.out]
          have hee : ((en : Int) == (en : Int)) = true := by simp
          have hkc : k ≤ c := by omega
          have HTK : Hid (rs.take K = rs.take k) := by unfold Hid; rw [HKK.out]
          go_wp2_with fail
          refine (lists_c L7.out H7.out (by rw [List.length_take]; omega)).mono ?_
          rintro e w8 ⟨rfl, f8⟩
          rw [decide_eq_true HTK.out]
          have F8 := hid (F7.out.trans f8)
          clear f8
          go_wp2
          go_ret
          exact ⟨by simp, F8.out⟩
      · have HKK : Hid (k = K) := by unfold Hid; omega
        go_wp2_with (at_builtin; refine wpList_append_nil rfl _ _ rfl rfl F5.out _ RX.out rfl (by rw [HCT.out]; omega) ?_; intro v6 w6 o6 f6 f60; have P6 := hid (Rd.ownB o6); have F6 := hid f60; clear o6 f6 f60)
        refine (read_c w6 P6.out HBT.out (by rw [HCT.out]; omega)).mono ?_
        rintro e w7 ⟨v7, rfl, o7, f7⟩
        rw [E1.out] at o7
        rw [E2.out, Nat.zero_add]
        have L7 := hid o7.rd
        have F7 := hid (F6.out.trans f7)
        have H7 := hid ((H.out.fr F7.out).front (k := k) (by omega))
        have HEK : Hid (en = (logL 0 (rs.take K)).length) := by unfold Hid; rw [← HKK.out]; exact HEN.out
        clear o7 f7
        rw [← HEK.out]
        have hee : ((en : Int) == (en : Int)) = true := by simp
        have hkc : k ≤ c := by omega
        have HTK : Hid (rs.take K = rs.take k) := by unfold Hid; rw [HKK.out]
        go_wp2_with fail
        refine (lists_c L7.out H7.out (by rw [List.length_take]; omega)).mono ?_
        rintro e w8 ⟨rfl, f8⟩
        rw [decide_eq_true HTK.out]
        have F8 := hid (F7.out.trans f8)
        clear f8
        go_wp2
        go_ret
        exact ⟨by simp, F8.out⟩
  · have hz' : z < 0 ∨ (0 ≤ z ∧ (N : Int) < z) := by omega
    rcases hz' with q | ⟨q1, q2⟩
    all_goals
      go_wp2
      go_ret
      exact ⟨rfl, F5.out⟩
end Go.Proofs.YtplghoibadmdjaaDoor
