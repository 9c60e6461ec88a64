/-
  The walk of CodecUnframes.
-/
import Derived.Test.YtkphfacodacpkaaQ
import Derived.Test.YtkphfacodacpkaaQ2
namespace Go.Proofs.Ytkphfacodacpkaa
open Go.ChangeShapes Go.WideShapes Go.ChangeAt Go.RowKit

set_option maxRecDepth 20000 in
set_option maxHeartbeats 4000000 in
theorem unframes_c (w : World) {v : Value} {b : List Nat} (hr : Rd w v (bv b)) (hb : By b) (hl : b.length ≤ 140737488355328) :
    Calls Try.prog 6 #[v] w fun e w' => e = .returned (.bool true) ∧ Fr [] w w' := by
  obtain ⟨a, c, hv⟩ := hr.form
  rw [bv_len] at hv
  subst hv
  have HR := hid hr
  have HB := hid hb
  clear hr hb
  by_cases h4 : b.length < 4
  · clear HB
    go_enter Try.func6, Try.ntmps6
    go_wp2_with fail
    refine (known_c w).mono ?_
    rintro e w1 ⟨rfl, f1⟩
    have R1 := hid (HR.out.fr f1)
    have F1 := hid f1
    clear f1
    go_wp2_with fail
    refine (unframe_4 w1 R1.out h4).mono ?_
    rintro e w2 ⟨rfl, rfl⟩
    go_wp2_with fail
    refine (refunframe_4 _ R1.out h4).mono ?_
    rintro e w3 ⟨rfl, rfl⟩
    go_wp2_with fail
    refine (bytes_c (v1 := .slice none 0 0) (v2 := .slice none 0 0) (a := []) (b := []) (.inl ⟨rfl, rfl⟩) (.inl ⟨rfl, rfl⟩) (fun _ h => by simp at h) (fun _ h => by simp at h)).mono ?_
    rintro e w4 ⟨rfl, rfl⟩
    rw [decide_eq_true rfl]
    go_wp2
    go_ret
    exact ⟨rfl, F1.out⟩
  obtain ⟨n, k, x, ht⟩ : ∃ n k x, takeL (b.drop 4) = (n, k, x) := ⟨_, _, _, rfl⟩
  have HT := hid ht
  by_cases hx : ¬ x = 0
  · have HX := hid hx
    clear ht hx
    go_enter Try.func6, Try.ntmps6
    go_wp2_with fail
    refine (known_c w).mono ?_
    rintro e w1 ⟨rfl, f1⟩
    have R1 := hid (HR.out.fr f1)
    have F1 := hid f1
    clear f1
    go_wp2_with fail
    refine (unframe_e w1 R1.out HB.out (by omega) hl HT.out HX.out).mono ?_
    rintro e w2 ⟨rfl, rfl⟩
    go_wp2_with fail
    refine (refunframe_e _ R1.out HB.out (by omega) hl HT.out HX.out).mono ?_
    rintro e w3 ⟨rfl, rfl⟩
    go_wp2_with fail
    refine (bytes_c (v1 := .slice none 0 0) (v2 := .slice none 0 0) (a := []) (b := []) (.inl ⟨rfl, rfl⟩) (.inl ⟨rfl, rfl⟩) (fun _ h => by simp at h) (fun _ h => by simp at h)).mono ?_
    rintro e w4 ⟨rfl, rfl⟩
    rw [decide_eq_true rfl]
    go_wp2
    go_ret
    exact ⟨rfl, F1.out⟩
  replace hx := Decidable.not_not.1 hx
  subst hx
  clear ht
  by_cases hn : 1048576 < n
  · go_enter Try.func6, Try.ntmps6
    go_wp2_with fail
    refine (known_c w).mono ?_
    rintro e w1 ⟨rfl, f1⟩
    have R1 := hid (HR.out.fr f1)
    have F1 := hid f1
    clear f1
    go_wp2_with fail
    refine (unframe_big w1 R1.out HB.out (by omega) hl HT.out hn).mono ?_
    rintro e w2 ⟨rfl, rfl⟩
    go_wp2_with fail
    refine (refunframe_big _ R1.out HB.out (by omega) hl HT.out hn).mono ?_
    rintro e w3 ⟨rfl, rfl⟩
    go_wp2_with fail
    refine (bytes_c (v1 := .slice none 0 0) (v2 := .slice none 0 0) (a := []) (b := []) (.inl ⟨rfl, rfl⟩) (.inl ⟨rfl, rfl⟩) (fun _ h => by simp at h) (fun _ h => by simp at h)).mono ?_
    rintro e w4 ⟨rfl, rfl⟩
    rw [decide_eq_true rfl]
    go_wp2
    go_ret
    exact ⟨rfl, F1.out⟩
  by_cases hs : b.length < 4 + k + n
  · go_enter Try.func6, Try.ntmps6
    go_wp2_with fail
    refine (known_c w).mono ?_
    rintro e w1 ⟨rfl, f1⟩
    have R1 := hid (HR.out.fr f1)
    have F1 := hid f1
    clear f1
    go_wp2_with fail
    refine (unframe_short w1 R1.out HB.out (by omega) hl HT.out (by omega) hs).mono ?_
    rintro e w2 ⟨rfl, rfl⟩
    go_wp2_with fail
    refine (refunframe_short _ R1.out HB.out (by omega) hl HT.out (by omega) hs).mono ?_
    rintro e w3 ⟨rfl, rfl⟩
    go_wp2_with fail
    refine (bytes_c (v1 := .slice none 0 0) (v2 := .slice none 0 0) (a := []) (b := []) (.inl ⟨rfl, rfl⟩) (.inl ⟨rfl, rfl⟩) (fun _ h => by simp at h) (fun _ h => by simp at h)).mono ?_
    rintro e w4 ⟨rfl, rfl⟩
    rw [decide_eq_true rfl]
    go_wp2
    go_ret
    exact ⟨rfl, F1.out⟩
  by_cases hc : ¬ crc ((b.drop (4 + k)).take n) = unf (b.take 4)
  · have HX := hid hc
    clear hc
    go_enter Try.func6, Try.ntmps6
    go_wp2_with fail
    refine (known_c w).mono ?_
    rintro e w1 ⟨rfl, f1⟩
    have R1 := hid (HR.out.fr f1)
    have F1 := hid f1
    clear f1
    go_wp2_with fail
    refine (unframe_sum w1 R1.out HB.out (by omega) hl HT.out (by omega) (by omega) HX.out).mono ?_
    rintro e w2 ⟨rfl, rfl⟩
    go_wp2_with fail
    refine (refunframe_sum _ R1.out HB.out (by omega) hl HT.out (by omega) (by omega) HX.out).mono ?_
    rintro e w3 ⟨rfl, f3⟩
    go_wp2_with fail
    refine (bytes_c (v1 := .slice none 0 0) (v2 := .slice none 0 0) (a := []) (b := []) (.inl ⟨rfl, rfl⟩) (.inl ⟨rfl, rfl⟩) (fun _ h => by simp at h) (fun _ h => by simp at h)).mono ?_
    rintro e w4 ⟨rfl, rfl⟩
    rw [decide_eq_true rfl]
    go_wp2
    go_ret
    exact ⟨rfl, F1.out.trans f3⟩
  have HX := hid (Decidable.not_not.1 hc)
  clear hc
  have HBm := hid ((HB.out.drop (4 + k)).take n)
  go_enter Try.func6, Try.ntmps6
  go_wp2_with fail
  refine (known_c w).mono ?_
  rintro e w1 ⟨rfl, f1⟩
  have R1 := hid (HR.out.fr f1)
  have F1 := hid f1
  clear f1
  go_wp2_with fail
  refine (unframe_ok w1 R1.out HB.out (by omega) hl HT.out (by omega) (by omega) HX.out).mono ?_
  rintro e w2 ⟨v2, rfl, o2, f2⟩
  obtain ⟨a2, c2, rfl, _⟩ := ownsRow_slice o2
  have O2 := hid (Rd.ownN o2 (by rw [List.length_take, List.length_drop]; omega))
  have F2 := hid (F1.out.trans f2)
  have R2 := hid (R1.out.fr f2)
  clear o2 f2
  go_wp2_with fail
  refine (refunframe_ok w2 R2.out HB.out (by omega) hl HT.out (by omega) (by omega) HX.out).mono ?_
  rintro e w3 ⟨v3, rfl, r3, f3⟩
  obtain ⟨a3, c3, hv3⟩ := r3.form
  subst hv3
  have O3 := hid r3
  have P3 := hid (O2.out.fr f3)
  have F3 := hid (F2.out.trans f3)
  clear r3 f3
  go_wp2_with fail
  refine (bytes_c P3.out O3.out HBm.out HBm.out).mono ?_
  rintro e w4 ⟨rfl, rfl⟩
  rw [decide_eq_true rfl]
  go_wp2
  go_ret
  exact ⟨rfl, F3.out⟩
end Go.Proofs.Ytkphfacodacpkaa
