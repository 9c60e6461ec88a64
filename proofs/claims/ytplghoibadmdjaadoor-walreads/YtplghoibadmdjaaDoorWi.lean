/-
  The statements' own known example, and their comparison of lists.
-/
import Derived.Test.YtplghoibadmdjaaDoorWc
import Derived.Test.YtplghoibadmdjaaDoorWh
import Derived.Test.YtplghoibadmdjaaDoorK
import Derived.Lib.SlBytesConst
namespace Go.Proofs.YtplghoibadmdjaaDoor
open Go.ChangeShapes Go.WideShapes Go.ChangeAt Go.RowKit

theorem known_log : logL 0 [[97, 98]] = appL 0 [97, 98] := by simp [logL]
theorem known_len : (appL 0 [97, 98]).length = 9 := by rw [appL_len]; decide
theorem known_read : readL (appL 0 [97, 98]) = ([[97, 98]], 9) := by
  have h := read_log (rs := [[97, 98]]) (fun r hr => by simp at hr; subst hr; unfold By; decide)
  rw [known_log, known_len] at h
  exact h
theorem str_ab : strOf [97, 98] = ⟨#[97, 98]⟩ := by decide

set_option maxRecDepth 20000 in
set_option maxHeartbeats 800000 in
theorem known_c (w : World) : Calls Tryd.prog 9 #[] w fun e w' => e = .returned (.bool true) ∧ Fr [] w w' := by
  have kc := fun (w : World) (C : Array Value) (n c : Nat) => Lib.run_convert_bytes_const (P := Tryd.prog) w 22 5 C n c Tryd.underlying22 Tryd.underlying5
  go_enter Tryd.func9, Tryd.ntmps9
  go_wp2_with fail
  have R2 : Hid (Rd (w.alloc (.cells #[.int .u8 97, .int .u8 98] 5 (2, 3))) (.slice (some ⟨w.heap.size, 0, none⟩) 2 2) (bv [97, 98])) := by
    refine .inr ⟨_, _, rfl, by simp [bv], fun j u hj => ?_⟩
    rw [Addr.add_lit, Nat.zero_add, World.cell?_alloc_mark]
    rw [← Array.getElem?_toList]
    exact hj
  refine (append_c _ 0 (by omega) R2.out (by unfold By; decide) (by simp)).mono ?_
  rintro e w1 ⟨v1, rfl, o1, f1⟩
  have hb1 : By (appL 0 [97, 98]) := appL_by (by unfold By; decide)
  rw [show (0 : Int).toNat = 0 from rfl] at o1
  have P1 := hid (Rd.ownB o1)
  rw [known_len] at o1
  obtain ⟨a1, c1, rfl, _⟩ := ownsRow_slice o1
  have F1 := hid (((Fr.refl [] w).alloc (.cells #[.int .u8 97, .int .u8 98] 5 (2, 3))).trans f1)
  clear o1 f1 R2
  go_wp2_with fail
  refine (read_c w1 P1.out hb1 (by rw [known_len]; omega)).mono ?_
  rintro e w2 ⟨v2, rfl, o2, f2⟩
  rw [known_read] at o2 ⊢
  obtain ⟨a, c, rfl, h2⟩ := o2.rd
  obtain ⟨bq, off, rfl, h3⟩ := h2 (by simp)
  obtain ⟨a', c', k1, k2, _⟩ := h3 0 [97, 98] rfl
  rw [Nat.add_zero] at k1
  have hcv := run_conv k2
  rw [str_ab] at hcv
  have F2 := hid (F1.out.trans f2)
  clear o2 f2 h2 h3 k2
  simp only [List.length_cons, List.length_nil, Nat.zero_add] at k1 hcv ⊢
  go_wp2
  go_ret
  exact ⟨rfl, F2.out⟩

set_option maxRecDepth 20000 in
set_option maxHeartbeats 800000 in
theorem lists_c {w : World} {v1 v2 : Value} {rs qs : List (List Nat)} (h1 : RdL w v1 rs) (h2 : RdL w v2 qs) (hl : rs.length ≤ 9223372036854775807) :
    Calls Tryd.prog 17 #[v1, v2] w fun e w' => e = .returned (.bool (decide (rs = qs))) ∧ Fr [] w w' := by
  have B1 := hid h1.by
  have B2 := hid h2.by
  obtain ⟨a1, c1, rfl, k1⟩ := h1
  obtain ⟨a2, c2, rfl, k2⟩ := h2
  have H1 := hid k1
  have H2 := hid k2
  clear k1 k2
  by_cases hlen : rs.length = qs.length
  · have hlen' : ((rs.length : Int) == (qs.length : Int)) = true := by rw [hlen]; simp
    go_enter Tryd.func17, Tryd.ntmps17
    rw [← hlen]
    go_wp2_with fail
    go_loopw [5] (fun v5 wr => ∃ k : Nat, k ≤ rs.length ∧ v5 = .int .i64 (k : Int) ∧ (∀ j, j < k → rs[j]? = qs[j]?) ∧ Fr [] w wr) (fun v5 _ => rs.length - (intOf v5).toNat)
    case atStart => exact ⟨0, by omega, rfl, fun j hj => by omega, Fr.refl _ _⟩
    case round =>
      obtain ⟨k, hk, rfl, hj, hf⟩ := hrel
      have HJ := hid hj
      have HF := hid hf
      have HLEN := hid hlen
      clear hj hf
      by_cases hlt : k < rs.length
      · obtain ⟨r, hr⟩ : ∃ r, rs[k]? = some r := ⟨_, List.getElem?_eq_getElem hlt⟩
        obtain ⟨q, hq⟩ : ∃ q, qs[k]? = some q := ⟨_, List.getElem?_eq_getElem (by omega)⟩
        obtain ⟨b1, o1, rfl, m1⟩ := H1.out (by omega)
        obtain ⟨b2, o2, rfl, m2⟩ := H2.out (by omega)
        obtain ⟨x1, y1, e1, e2, _, _⟩ := m1 k r hr
        obtain ⟨x2, y2, f1, f2, _, _⟩ := m2 k q hq
        have hfd := HF.out.drew
        have d1 := cell_fr e1 hfd
        have d2 := cell_fr f1 hfd
        have g1 := run_conv (e2.fr hfd)
        have g2 := run_conv (f2.fr hfd)
        have hbr := B1.out r (List.mem_of_getElem? hr)
        have hbq := B2.out q (List.mem_of_getElem? hq)
        have HRQ : Hid (decide (strOf r = strOf q) = decide (r = q)) := by
          unfold Hid
          by_cases h : r = q
          · subst h; simp
          · have : strOf r ≠ strOf q := fun e => h (strOf_inj hbr hbq e)
            simp [this, h]
        have HR := hid hr
        have HQ := hid hq
        clear hr hq e1 e2 f1 f2 m1 m2 hlen hfd
        by_cases hrq : r = q
        · have hstr : ((strOf r).toList == (strOf q).toList) = true := by rw [beq_str, HRQ.out]; exact decide_eq_true hrq
          have HE : Hid (∀ j, j < k + 1 → rs[j]? = qs[j]?) := fun j hj => by
            rcases Nat.lt_or_ge j k with h | h
            · exact HJ.out j h
            · have : j = k := by omega
              subst this; rw [HR.out, HQ.out, hrq]
          clear hrq
          go_wp2_with fail
          go_region
          go_wp2
          go_roundw
          case rel => go_light; exact ⟨k + 1, by omega, by go_num, HE.out, HF.out.drew⟩
          case measure => go_light; simp [intOf]; omega
        · have hstr : ((strOf r).toList == (strOf q).toList) = false := by rw [beq_str, HRQ.out]; exact decide_eq_false hrq
          have HNE : Hid (decide (rs = qs) = false) := decide_eq_false fun e => hrq (by
            have := HR.out
            rw [e, HQ.out] at this
            simpa using this.symm)
          clear hrq
          go_wp2_with fail
          go_region
          go_wp2
          go_ret
          exact ⟨by rw [HNE.out]; rfl, HF.out.drew⟩
      · have hk' : k = rs.length := by omega
        have HEQ : Hid (decide (rs = qs) = true) := decide_eq_true (List.ext_getElem? fun j => by
          rcases Nat.lt_or_ge j k with h | h
          · exact HJ.out j h
          · rw [List.getElem?_eq_none (by omega), List.getElem?_eq_none (by omega)])
        clear hlen
        subst hk'
        go_wp2
        go_ret
        exact ⟨by rw [HEQ.out]; rfl, HF.out⟩
  · have hlen' : ((rs.length : Int) == (qs.length : Int)) = false := beq_eq_false_iff_ne.2 (by omega)
    go_enter Tryd.func17, Tryd.ntmps17
    go_wp2
    go_ret
    exact ⟨by rw [decide_eq_false (fun e => hlen (by rw [e]))]; rfl, Fr.refl _ _⟩
end Go.Proofs.YtplghoibadmdjaaDoor
