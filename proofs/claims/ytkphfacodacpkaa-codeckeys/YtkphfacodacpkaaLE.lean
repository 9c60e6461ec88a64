/-
  The walk of CodecKeys.
-/
import Derived.Test.YtkphfacodacpkaaM
import Derived.Test.YtkphfacodacpkaaM2
import Derived.Test.YtkphfacodacpkaaM3
import Derived.Test.YtkphfacodacpkaaK
namespace Go.Proofs.Ytkphfacodacpkaa
open Go.ChangeShapes Go.WideShapes Go.ChangeAt Go.RowKit

theorem keyL_len (u : List Nat) (s k : Nat) : (keyL u s k).length = u.length + 8 := by unfold keyL; rw [List.length_append, fixL_len]
theorem keyL_by {u : List Nat} (h : By u) (s k : Nat) : By (keyL u s k) := h.append (fixL_by 8 _)
theorem keyL_user (u : List Nat) (s k : Nat) : userL (keyL u s k) = u := by
  unfold userL; rw [keyL_len, Nat.add_sub_cancel]; unfold keyL; exact List.take_left' rfl
theorem keyL_tail (u : List Nat) {s k : Nat} (hs : s ≤ 72057594037927935) (hk : k ≤ 1) : tailN (keyL u s k) = 256 * s + k := by
  unfold tailN; rw [keyL_len, Nat.add_sub_cancel]; unfold keyL
  rw [List.drop_left' rfl, unf_fixL]
  exact Nat.mod_eq_of_lt (show 256 * s + k < 256 ^ 8 by omega)
theorem keyL_is {u : List Nat} (hu : u.length ≤ 128) {s k : Nat} (hs : s ≤ 72057594037927935) (hk : k ≤ 1) : isK (keyL u s k) = true := by
  have ht := keyL_tail u hs hk
  unfold isK
  rw [show unf ((keyL u s k).drop ((keyL u s k).length - 8)) = 256 * s + k from ht, keyL_len]
  simp only [Bool.and_eq_true, decide_eq_true_eq]
  omega

set_option maxRecDepth 20000 in
set_option maxHeartbeats 4000000 in
theorem keys_bad (w : World) {v v2 : Value} {u b : List Nat} (hr : Rd w v (bv u)) (hl : u.length ≤ 140737488351232) (s : Nat) (hs : s < 18446744073709551616) (k : Int) (hk1 : -9223372036854775808 ≤ k) (hk2 : k ≤ 9223372036854775807) (hr2 : Rd w v2 (bv b)) (hb2 : By b) (hl2 : b.length ≤ 140737488355328) (hv : vb u.length s k = false) :
    Calls Try.prog 7 #[v, .int .u64 (s : Int), .int .i64 k, v2] w fun e w' => e = .returned (.bool true) ∧ Fr [] w w' := by
  obtain ⟨a, c, hv1⟩ := hr.form
  rw [bv_len] at hv1
  subst hv1
  have HR := hid hr
  have HR2 := hid hr2
  have HB2 := hid hb2
  have HV := hid hv
  clear hr hb2 hv
  rcases hk : isK b with _ | _
  · obtain ⟨a2, c2, hv2⟩ := hr2.form
    rw [bv_len] at hv2
    subst hv2
    clear hr2
    go_enter Try.func7, Try.ntmps7
    go_wp2_with fail
    refine (known_c w).mono ?_
    rintro e w1 ⟨rfl, f1⟩
    have R1 := hid (HR.out.fr f1)
    have F1 := hid f1
    clear f1
    go_wp2_with fail
    refine (key_bad w1 R1.out s k HV.out).mono ?_
    rintro e w2 ⟨rfl, f2⟩
    have R2 := hid (R1.out.fr f2)
    have F2 := hid (F1.out.trans f2)
    clear f2
    go_wp2_with fail
    refine (refkey_bad w2 R2.out (by omega) s hs k hk1 hk2 HV.out).mono ?_
    rintro e w3 ⟨rfl, rfl⟩
    go_wp2_with fail
    refine (bytes_c (v1 := .slice none 0 0) (v2 := .slice none 0 0) (a := []) (b := []) (.inl ⟨rfl, rfl⟩) (.inl ⟨rfl, rfl⟩) (fun _ h => by simp at h) (fun _ h => by simp at h)).mono ?_
    rintro e w4 ⟨rfl, rfl⟩
    rw [decide_eq_true rfl]
    have FXX := hid F2.out
    have RBX := hid (HR2.out.fr F2.out)
    clear R2 F1 R1 F2
    go_wp2_with fail
    refine (Split_no _ RBX.out HB2.out hl2 hk).mono ?_
    rintro e wa ⟨rfl, fa⟩
    have FA := hid (FXX.out.trans fa)
    have RA := hid (RBX.out.fr fa)
    clear fa
    go_wp2_with fail
    refine (refsplit_no _ RA.out HB2.out hl2 hk).mono ?_
    rintro e wb ⟨rfl, rfl⟩
    go_wp2_with fail
    refine (bytes_c (v1 := .slice none 0 0) (v2 := .slice none 0 0) (a := []) (b := []) (.inl ⟨rfl, rfl⟩) (.inl ⟨rfl, rfl⟩) (fun _ h => by simp at h) (fun _ h => by simp at h)).mono ?_
    rintro e wc ⟨rfl, rfl⟩
    rw [decide_eq_true rfl]
    go_wp2
    go_ret
    exact ⟨rfl, FA.out⟩
  · have hkl := isK_len hk
    obtain ⟨q2, off2, c2, hv2, hcc⟩ := hr2.place (by omega)
    subst hv2
    clear hr2
    go_enter Try.func7, Try.ntmps7
    go_wp2_with fail
    refine (known_c w).mono ?_
    rintro e w1 ⟨rfl, f1⟩
    have R1 := hid (HR.out.fr f1)
    have F1 := hid f1
    clear f1
    go_wp2_with fail
    refine (key_bad w1 R1.out s k HV.out).mono ?_
    rintro e w2 ⟨rfl, f2⟩
    have R2 := hid (R1.out.fr f2)
    have F2 := hid (F1.out.trans f2)
    clear f2
    go_wp2_with fail
    refine (refkey_bad w2 R2.out (by omega) s hs k hk1 hk2 HV.out).mono ?_
    rintro e w3 ⟨rfl, rfl⟩
    go_wp2_with fail
    refine (bytes_c (v1 := .slice none 0 0) (v2 := .slice none 0 0) (a := []) (b := []) (.inl ⟨rfl, rfl⟩) (.inl ⟨rfl, rfl⟩) (fun _ h => by simp at h) (fun _ h => by simp at h)).mono ?_
    rintro e w4 ⟨rfl, rfl⟩
    rw [decide_eq_true rfl]
    have FXX := hid F2.out
    have RBX := hid (HR2.out.fr F2.out)
    clear R2 F1 R1 F2
    go_wp2_with fail
    refine (Split_yes _ RBX.out HB2.out hk).mono ?_
    rintro e wa ⟨va, rfl, oa, fa⟩
    obtain ⟨aa, ca, rfl, _⟩ := ownsRow_slice oa
    have PA := hid (Rd.ownB oa)
    have FA := hid (FXX.out.trans fa)
    have RA := hid (RBX.out.fr fa)
    clear oa fa
    go_wp2_with fail
    refine (refsplit_yes _ RA.out HB2.out hcc hk).mono ?_
    rintro e wb ⟨rfl, rfl⟩
    have RF := hid (RA.out.front (q := b.length - 8) (by omega))
    go_wp2_with fail
    refine (bytes_c PA.out RF.out (HB2.out.take _) (HB2.out.take _)).mono ?_
    rintro e wc ⟨rfl, rfl⟩
    rw [decide_eq_true (show userL b = b.take (b.length - 8) from rfl)]
    go_wp2
    go_ret
    exact ⟨rfl, FA.out⟩

set_option maxRecDepth 20000 in
set_option maxHeartbeats 4000000 in
theorem keys_ok (w : World) {v v2 : Value} {u b : List Nat} (hr : Rd w v (bv u)) (hb : By u) (hu : u.length ≤ 128) (s k : Nat) (hs1 : s ≤ 72057594037927935) (hk0 : k ≤ 1) (hr2 : Rd w v2 (bv b)) (hb2 : By b) (hl2 : b.length ≤ 140737488355328) :
    Calls Try.prog 7 #[v, .int .u64 (s : Int), .int .i64 (k : Int), v2] w fun e w' => e = .returned (.bool true) ∧ Fr [] w w' := by
  obtain ⟨a, c, hv1⟩ := hr.form
  rw [bv_len] at hv1
  subst hv1
  have HR := hid hr
  have HR2 := hid hr2
  have HB := hid hb
  have HB2 := hid hb2
  have HBK := hid (keyL_by hb s k)
  have HIS := hid (keyL_is hu hs1 hk0)
  have HUS := hid (keyL_user u s k)
  have HTS : Hid (tailN (keyL u s k) / 256 = s) := by unfold Hid; rw [keyL_tail u hs1 hk0]; omega
  have HTK : Hid (tailN (keyL u s k) % 256 = k) := by unfold Hid; rw [keyL_tail u hs1 hk0]; omega
  have hkl := keyL_len u s k
  have HKL := hid hkl
  clear hr hb hb2
  rcases hk : isK b with _ | _
  · obtain ⟨a2, c2, hv2⟩ := hr2.form
    rw [bv_len] at hv2
    subst hv2
    clear hr2
    go_enter Try.func7, Try.ntmps7
    go_wp2_with fail
    refine (known_c w).mono ?_
    rintro e w1 ⟨rfl, f1⟩
    have R1 := hid (HR.out.fr f1)
    have F1 := hid f1
    clear f1
    go_wp2_with fail
    refine (key_ok w1 R1.out hu s k hs1 hk0).mono ?_
    rintro e w2 ⟨v2, rfl, o2, f2⟩
    rw [hkl] at o2
    obtain ⟨a2, c2, rfl, _⟩ := ownsRow_slice o2
    have R2 := hid (R1.out.fr f2)
    have P2 := hid (Rd.ownN o2 HKL.out.symm)
    have F2 := hid (F1.out.trans f2)
    clear o2 f2
    go_wp2_with fail
    refine (refkey_ok w2 R2.out hu s k hs1 hk0).mono ?_
    rintro e w3 ⟨v3, rfl, o3, f3⟩
    rw [hkl] at o3
    obtain ⟨a3, c3, rfl, _⟩ := ownsRow_slice o3
    have P3 := hid (Rd.ownN o3 HKL.out.symm)
    have Q3 := hid (P2.out.fr f3)
    have R3 := hid (R2.out.fr f3)
    have F3 := hid (F2.out.trans f3)
    clear o3 f3
    go_wp2_with fail
    refine (bytes_c Q3.out P3.out HBK.out HBK.out).mono ?_
    rintro e w4 ⟨rfl, rfl⟩
    rw [decide_eq_true rfl]
    go_wp2_with fail
    refine (Split_yes _ Q3.out HBK.out HIS.out).mono ?_
    rintro e w5 ⟨v5, rfl, o5, f5⟩
    rw [HUS.out] at o5
    rw [HTS.out, HTK.out]
    obtain ⟨a5, c5, rfl, _⟩ := ownsRow_slice o5
    have P5 := hid (Rd.ownB o5)
    have R5 := hid (R3.out.fr f5)
    have F5 := hid (F3.out.trans f5)
    clear o5 f5
    go_wp2_with fail
    refine (bytes_c P5.out R5.out HB.out HB.out).mono ?_
    rintro e w6 ⟨rfl, rfl⟩
    rw [decide_eq_true rfl]
    have FXX := hid F5.out
    have RBX := hid (HR2.out.fr F5.out)
    clear F5 R5 P5 F3 R3 Q3 P3 F2 R2 P2 F1 R1
    go_wp2_with fail
    refine (Split_no _ RBX.out HB2.out hl2 hk).mono ?_
    rintro e wa ⟨rfl, fa⟩
    have FA := hid (FXX.out.trans fa)
    have RA := hid (RBX.out.fr fa)
    clear fa
    go_wp2_with fail
    refine (refsplit_no _ RA.out HB2.out hl2 hk).mono ?_
    rintro e wb ⟨rfl, rfl⟩
    go_wp2_with fail
    refine (bytes_c (v1 := .slice none 0 0) (v2 := .slice none 0 0) (a := []) (b := []) (.inl ⟨rfl, rfl⟩) (.inl ⟨rfl, rfl⟩) (fun _ h => by simp at h) (fun _ h => by simp at h)).mono ?_
    rintro e wc ⟨rfl, rfl⟩
    rw [decide_eq_true rfl]
    go_wp2
    go_ret
    exact ⟨rfl, FA.out⟩
  · have hkl2 := isK_len hk
    obtain ⟨q2, off2, c2, hv2, hcc⟩ := hr2.place (by omega)
    subst hv2
    clear hr2
    go_enter Try.func7, Try.ntmps7
    go_wp2_with fail
    refine (known_c w).mono ?_
    rintro e w1 ⟨rfl, f1⟩
    have R1 := hid (HR.out.fr f1)
    have F1 := hid f1
    clear f1
    go_wp2_with fail
    refine (key_ok w1 R1.out hu s k hs1 hk0).mono ?_
    rintro e w2 ⟨v2, rfl, o2, f2⟩
    rw [hkl] at o2
    obtain ⟨a2, c2, rfl, _⟩ := ownsRow_slice o2
    have R2 := hid (R1.out.fr f2)
    have P2 := hid (Rd.ownN o2 HKL.out.symm)
    have F2 := hid (F1.out.trans f2)
    clear o2 f2
    go_wp2_with fail
    refine (refkey_ok w2 R2.out hu s k hs1 hk0).mono ?_
    rintro e w3 ⟨v3, rfl, o3, f3⟩
    rw [hkl] at o3
    obtain ⟨a3, c3, rfl, _⟩ := ownsRow_slice o3
    have P3 := hid (Rd.ownN o3 HKL.out.symm)
    have Q3 := hid (P2.out.fr f3)
    have R3 := hid (R2.out.fr f3)
    have F3 := hid (F2.out.trans f3)
    clear o3 f3
    go_wp2_with fail
    refine (bytes_c Q3.out P3.out HBK.out HBK.out).mono ?_
    rintro e w4 ⟨rfl, rfl⟩
    rw [decide_eq_true rfl]
    go_wp2_with fail
    refine (Split_yes _ Q3.out HBK.out HIS.out).mono ?_
    rintro e w5 ⟨v5, rfl, o5, f5⟩
    rw [HUS.out] at o5
    rw [HTS.out, HTK.out]
    obtain ⟨a5, c5, rfl, _⟩ := ownsRow_slice o5
    have P5 := hid (Rd.ownB o5)
    have R5 := hid (R3.out.fr f5)
    have F5 := hid (F3.out.trans f5)
    clear o5 f5
    go_wp2_with fail
    refine (bytes_c P5.out R5.out HB.out HB.out).mono ?_
    rintro e w6 ⟨rfl, rfl⟩
    rw [decide_eq_true rfl]
    have FXX := hid F5.out
    have RBX := hid (HR2.out.fr F5.out)
    clear F5 R5 P5 F3 R3 Q3 P3 F2 R2 P2 F1 R1
    go_wp2_with fail
    refine (Split_yes _ RBX.out HB2.out hk).mono ?_
    rintro e wa ⟨va, rfl, oa, fa⟩
    obtain ⟨aa, ca, rfl, _⟩ := ownsRow_slice oa
    have PA := hid (Rd.ownB oa)
    have FA := hid (FXX.out.trans fa)
    have RA := hid (RBX.out.fr fa)
    clear oa fa
    go_wp2_with fail
    refine (refsplit_yes _ RA.out HB2.out hcc hk).mono ?_
    rintro e wb ⟨rfl, rfl⟩
    have RF := hid (RA.out.front (q := b.length - 8) (by omega))
    go_wp2_with fail
    refine (bytes_c PA.out RF.out (HB2.out.take _) (HB2.out.take _)).mono ?_
    rintro e wc ⟨rfl, rfl⟩
    rw [decide_eq_true (show userL b = b.take (b.length - 8) from rfl)]
    go_wp2
    go_ret
    exact ⟨rfl, FA.out⟩

theorem keys_c (w : World) {v v2 : Value} {u b : List Nat} (hr : Rd w v (bv u)) (hb : By u) (hl : u.length ≤ 140737488351232) (s : Nat) (hs : s < 18446744073709551616) (k : Int) (hk1 : -9223372036854775808 ≤ k) (hk2 : k ≤ 9223372036854775807) (hr2 : Rd w v2 (bv b)) (hb2 : By b) (hl2 : b.length ≤ 140737488355328) :
    Calls Try.prog 7 #[v, .int .u64 (s : Int), .int .i64 k, v2] w fun e w' => e = .returned (.bool true) ∧ Fr [] w w' := by
  rcases hv : vb u.length s k with _ | _
  · exact keys_bad w hr hl s hs k hk1 hk2 hr2 hb2 hl2 hv
  · unfold vb at hv
    simp only [Bool.and_eq_true, decide_eq_true_eq, Bool.or_eq_true, beq_iff_eq] at hv
    obtain ⟨kk, rfl⟩ : ∃ kk : Nat, k = (kk : Int) := ⟨k.toNat, by omega⟩
    exact keys_ok w hr hb hv.1 s kk hv.2.1 (by omega) hr2 hb2 hl2
end Go.Proofs.Ytkphfacodacpkaa
