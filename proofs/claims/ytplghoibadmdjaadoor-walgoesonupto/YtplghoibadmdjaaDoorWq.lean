/-
  The walk of WalGoesOn.
-/
import Derived.Test.YtplghoibadmdjaaDoorWp
namespace Go.Proofs.YtplghoibadmdjaaDoor
open Go.ChangeShapes Go.WideShapes Go.ChangeAt Go.RowKit

theorem logL_front (rs : List (List Nat)) (k : Nat) : (logL 0 rs).take (logL 0 (rs.take k)).length = logL 0 (rs.take k) := by
  have h : logL 0 rs = logL 0 (rs.take k) ++ logL (0 + (logL 0 (rs.take k)).length) (rs.drop k) := by rw [← logL_append, List.take_append_drop]
  rw [h, List.take_left' rfl]
theorem logL_front_le (rs : List (List Nat)) (k : Nat) : (logL 0 (rs.take k)).length ≤ (logL 0 rs).length := by
  have := congrArg List.length (logL_front rs k)
  rw [List.length_take] at this
  omega
theorem logL_more {ps qs : List (List Nat)} {k : Nat} {r : List Nat} (h : qs[k]? = some r) : logL 0 (ps ++ qs.take (k + 1)) = logL 0 (ps ++ qs.take k) ++ appL (logL 0 (ps ++ qs.take k)).length r := by
  rw [List.take_add_one, h]
  show logL 0 (ps ++ (qs.take k ++ [r])) = _
  rw [← List.append_assoc, logL_snoc, Nat.zero_add]
theorem sz_append (a b : List (List Nat)) : sz (a ++ b) = sz a + sz b := by simp [sz]
theorem logL_small {ps : List (List Nat)} (h1 : ps.length ≤ 100) (h2 : sz ps ≤ 10000) : (logL 0 ps).length ≤ 1000000 := by
  have := logL_len_le ps 0
  unfold sz at h2
  omega

/-- A guarded operation that is wanted goes as one without a guard. -/
theorem wpList_wanted {P : Program} {w : World} {ops : Array Oper} {rest : List Oper} {o : Oper} {a : Act} {Q : Exit → Act → World → Prop} (h : Region.wanted o (yielded ops a.tmps) = true) (k : wpList P ops Q ({ o with guard := none } :: rest) a w) : wpList P ops Q (o :: rest) a w := by
  unfold wpList at k ⊢
  rw [if_pos h]
  rw [if_pos (by simp [Region.wanted])] at k
  exact k

set_option maxRecDepth 20000 in
set_option maxHeartbeats 3200000 in
theorem goesOn_c (w : World) {a : Option Addr} {n c : Nat} {rs : List (List Nat)} (h : RdL w (.slice a n c) rs) (hl : rs.length ≤ 9223372036854775807) {a3 : Option Addr} {n3 c3 : Nat} {qs : List (List Nat)} (h3 : RdL w (.slice a3 n3 c3) qs) (hl3 : qs.length ≤ 9223372036854775807) (hn3 : a3 = none → c3 = 0 ∧ n3 = 0) (z : Int) :
    Calls Tryd.prog 7 #[.slice a n c, .int .i64 z, .slice a3 n3 c3] w fun e w' => e = .returned (.bool true) ∧ Fr [] w w' := by
  have hnl : n = rs.length := by obtain ⟨a', c', e, _⟩ := h; simp only [Value.slice.injEq] at e; exact e.2.1
  subst hnl
  have hnl3 : n3 = qs.length := by obtain ⟨a', c', e, _⟩ := h3; simp only [Value.slice.injEq] at e; exact e.2.1
  subst hnl3
  have HB := hid h.by
  have HB3 := hid h3.by
  have H := hid h
  have H3 := hid h3
  have HN3 := hid hn3
  clear h h3 hn3
  go_enter Tryd.func7, Tryd.ntmps7
  go_wp2_with fail
  refine (known_c w).mono ?_
  rintro e w1 ⟨rfl, f1⟩
  have F1 := hid f1
  clear f1
  go_wp2_with fail
  refine (few_c (H.out.fr F1.out) hl).mono ?_
  rintro e w2 ⟨⟨fb, rfl, hfb⟩, rfl⟩
  cases fb
  · go_wp2
    go_ret
    exact ⟨rfl, F1.out⟩
  obtain ⟨h30, h3⟩ := hfb rfl
  clear hfb
  go_wp2_with fail
  refine (few_c (H3.out.fr F1.out) hl3).mono ?_
  rintro e w2' ⟨⟨fb, rfl, hfb⟩, rfl⟩
  cases fb
  · go_wp2
    go_ret
    exact ⟨rfl, F1.out⟩
  obtain ⟨h30', h3'⟩ := hfb rfl
  clear hfb
  have hbl' := logL_small (ps := rs) (by omega) (by omega)
  go_wp2_with fail
  refine (log_c (H.out.fr F1.out) (by omega) (by omega)).mono ?_
  rintro e w3 ⟨v1, v2, rfl, o1, o2, f3⟩
  have hby := logL_by rs 0 HB.out
  obtain ⟨a1, c1, hv1, hc1⟩ := ownsRow_slice o1
  subst hv1
  obtain ⟨a2, c2, hv2, _⟩ := ownsRow_slice o2
  subst hv2
  have P1 := hid (Rd.ownB o1)
  have F3 := hid (F1.out.trans f3)
  have HBY := hid hby
  have RCUT := hid (fun c h => read_cut (c := c) HB.out h)
  have HA1 := hid (fun p => ahd_cnt p rs 0)
  have HA2 := hid (fun p => ahd_end p rs 0)
  have HFR := hid (fun k => logL_front rs k)
  have HFL := hid (fun k => logL_front_le rs k)
  obtain ⟨X, hX⟩ : ∃ X, X = logL 0 rs := ⟨_, rfl⟩
  rw [← hX] at P1 hbl' hc1 HBY RCUT HFR HFL
  rw [← hX]
  clear o1 o2 f3 hby hX
  by_cases hz : 0 ≤ z ∧ z ≤ (X.length : Int)
  rotate_left
  · have hz' : z < 0 ∨ (0 ≤ z ∧ (X.length : Int) < z) := by omega
    rcases hz' with q | ⟨q1, q2⟩
    all_goals
      go_wp2
      go_ret
      exact ⟨rfl, F3.out⟩
  obtain ⟨hz1, hz2⟩ := hz
  obtain ⟨ct, rfl⟩ : ∃ ct : Nat, z = (ct : Int) := ⟨z.toNat, by omega⟩
  have RC := RCUT.out ct (by omega)
  have e1 := HA1.out ct
  have e2 := HA2.out ct
  rw [← RC] at e1 e2
  obtain ⟨K, hK⟩ : ∃ K, K = cntA ct (endsL 0 rs) := ⟨_, rfl⟩
  rw [← hK, Nat.zero_add] at e2
  rw [← hK] at e1
  have hf1 := HFR.out K
  have hf2 := HFL.out K
  have hbp : ∀ r ∈ rs.take K, By r := fun r hr => HB.out r (List.mem_of_mem_take hr)
  have hpl : (rs.take K).length ≤ 30 := by rw [List.length_take]; omega
  have hps : sz (rs.take K) ≤ 3000 := by have := sz_take_le rs K; omega
  generalize rs.take K = ps at *
  obtain ⟨en, hen⟩ : ∃ en, en = (logL 0 ps).length := ⟨_, rfl⟩
  rw [← hen] at e2 hf1 hf2
  have E1 := hid e1
  have E2 := hid e2
  have HEN := hid hen
  have HF1 := hid hf1
  have HBP := hid hbp
  have RX := hid (P1.out.upto (k := ct) (by omega))
  have HBT := hid (HBY.out.take ct)
  have HCT : Hid ((X.take ct).length = ct) := by unfold Hid; rw [List.length_take]; omega
  clear RC e1 e2 hK RCUT HA1 HA2 HFR HFL hen hf1 hbp
  go_wp2_with (at_builtin; refine wpList_append_nil rfl _ _ rfl rfl F3.out _ RX.out rfl (by rw [HCT.out]; omega) ?_; intro v4 w4 o4 f4 f40; have P4 := hid (Rd.ownB o4); have F4 := hid f40; have P14 := hid (P1.out.fr f4); clear o4 f4 f40)
  refine (read_c w4 P4.out HBT.out (by rw [HCT.out]; omega)).mono ?_
  rintro e w5 ⟨v5, rfl, o5, f5⟩
  rw [E1.out] at o5
  rw [E2.out]
  have L5 := hid o5.rd
  have F5 := hid (F4.out.trans f5)
  have P5 : Hid (Rd w5 (.slice a1 en c1) (bv (logL 0 ps))) := by
    have := (P14.out.fr f5).upto (k := en) (by omega)
    rw [HF1.out] at this
    exact this
  clear o5 f5 P4 RX
  have hlps := logL_small (ps := ps) (by omega) (by omega)
  have hec : en ≤ c1 := by omega
  go_wp2_with (at_builtin; refine wpList_append_nil rfl _ _ rfl rfl F5.out _ P5.out rfl (by omega) ?_; intro v6 w6 o6 f6 f60; have O6 := hid o6; have F6 := hid f6; clear o6 f6 f60)
  go_loopw [7, 12] (fun v7 v12 wr => ∃ k : Nat, k ≤ qs.length ∧ v12 = .int .i64 (k : Int) ∧ wr.ownsRow w5.heap.size 5 1 v7 (logL 0 (ps ++ qs.take k)).length (bv (logL 0 (ps ++ qs.take k))) ∧ Fr [] w5 wr) (fun _ v12 _ => qs.length - (intOf v12).toNat)
  case atStart => exact ⟨0, Nat.zero_le _, rfl, by rw [List.take_zero, List.append_nil]; exact O6.out, F6.out⟩
  case round =>
    obtain ⟨k, hk, rfl, ho, hf⟩ := hrel
    have RO := hid ho
    have RF := hid hf
    clear ho hf
    by_cases hlt : k < qs.length
    · obtain ⟨r, hr⟩ : ∃ r, qs[k]? = some r := ⟨_, List.getElem?_eq_getElem hlt⟩
      obtain ⟨_, _, hv3, m0⟩ := H3.out
      simp only [Value.slice.injEq, true_and] at hv3
      obtain ⟨rfl, rfl⟩ := hv3
      obtain ⟨b, off, rfl, m1⟩ := m0 (by omega)
      obtain ⟨x1, y1, e1, e2, e3, e4⟩ := m1 k r hr
      have d1 := cell_fr (cell_fr e1 F5.out) RF.out
      have D2 := hid ((e2.fr F5.out).fr RF.out)
      have hrl := sz_mem (List.mem_of_getElem? hr)
      have hszk := sz_take_le qs k
      have hll := logL_small (ps := ps ++ qs.take k) (by rw [List.length_append, List.length_take]; omega) (by rw [sz_append]; omega)
      have HLT := hid (logL_more (ps := ps) hr)
      have B3 := hid e3
      have hal' : (appL (logL 0 (ps ++ qs.take k)).length r).length ≤ 10000000 := by
        have := zr_le (logL 0 (ps ++ qs.take k)).length
        have := lf_ge (logL 0 (ps ++ qs.take k)).length
        rw [appL_len]; unfold nfr; omega
      obtain ⟨a7, c7, hv7, _⟩ := ownsRow_slice RO.out
      subst hv7
      generalize logL 0 (ps ++ qs.take k) = Y at *
      clear e1 e2 e3 m1 hr m0
      go_wp2_with fail
      refine (append_c wr (Y.length : Int) (by omega) D2.out B3.out (by omega)).mono ?_
      rintro e w8 ⟨v8, rfl, o8, f8⟩
      rw [Int.toNat_natCast] at o8
      have P8 := hid (Rd.ownB o8)
      have O8 := hid (ownsRow_fr RO.out f8)
      have F8 := hid (RF.out.trans f8)
      have HLA : Hid ((bv (appL Y.length r)).length = (appL Y.length r).length) := bv_len _
      clear o8 f8
      go_wp2_with (at_builtin; refine wpList_append_rd rfl _ _ rfl w5.heap.size F8.out.size _ _ _ rfl O8.out _ _ rfl P8.out bv_one (by rw [HLA.out]; omega) ?_; intro v9 w9 o9 g9 q9; rw [HLA.out, ← List.length_append, ← bv_append, ← HLT.out] at o9; have O9 := hid o9; have F9 := hid (F8.out.grew O8.out (Nat.le_refl _) g9); clear o9 g9 q9)
      exact ⟨⟨k + 1, by omega, by go_num, O9.out, F9.out⟩, by simp [intOf]; omega⟩
    · have : k = qs.length := by omega
      subst this
      rw [List.take_length] at RO
      have hbq : ∀ r ∈ ps ++ qs, By r := fun r hr => by
        rcases List.mem_append.1 hr with hr | hr
        · exact HBP.out r hr
        · exact HB3.out r hr
      have hrd := read_log hbq
      have hll := logL_small (ps := ps ++ qs) (by rw [List.length_append]; omega) (by rw [sz_append]; omega)
      have HBL := hid (logL_by _ 0 hbq)
      obtain ⟨a7, c7, hv7, _⟩ := ownsRow_slice RO.out
      subst hv7
      have P7 := hid (Rd.ownB RO.out)
      obtain ⟨Y, hY⟩ : ∃ Y, Y = logL 0 (ps ++ qs) := ⟨_, rfl⟩
      rw [← hY] at hrd hll HBL P7
      rw [← hY]
      have HRD := hid hrd
      have F7 := hid (F5.out.trans RF.out)
      have L7 := hid (L5.out.fr RF.out)
      clear hbq hrd RO hY
      go_wp2_with fail
      refine (read_c wr P7.out HBL.out (by omega)).mono ?_
      rintro e w8 ⟨v8, rfl, o8, f8⟩
      rw [HRD.out] at o8 ⊢
      have L8 := hid o8.rd
      have F8 := hid (F7.out.trans f8)
      have LW8 := hid (L7.out.fr f8)
      clear o8 f8
      have hyy : ((Y.length : Int) == (Y.length : Int)) = true := by simp
      go_wp2_with fail
      refine (copyLists_c LW8.out (by omega)).mono ?_
      rintro e w9 ⟨v9, rfl, o9, f9⟩
      have OL9 := hid o9
      have F9 := hid f9
      have H8 := hid (H3.out.fr F8.out)
      have HB9 : Hid (w8.heap.size ≤ w9.heap.size) := f9.size
      clear o9 f9
      go_wp2_with (at_builtin; refine wpList_wanted rfl ?_; refine wpList_append_lists rfl _ _ rfl (base := w8.heap.size) (Nat.le_refl _) HB9.out F9.out OL9.out rfl rfl H8.out HN3.out (by omega) (by omega) ?_; intro v10 w10 l10 f10; have L10 := hid l10; have F10 := hid f10; clear l10 f10)
      refine (lists_c (L8.out.fr F10.out) L10.out (by rw [List.length_append]; omega)).mono ?_
      rintro e w11 ⟨rfl, f11⟩
      rw [decide_eq_true rfl]
      have F11 := hid ((F8.out.trans F10.out).trans f11)
      clear f11
      go_wp2
      go_ret
      exact ⟨by simp, F11.out⟩
end Go.Proofs.YtplghoibadmdjaaDoor
