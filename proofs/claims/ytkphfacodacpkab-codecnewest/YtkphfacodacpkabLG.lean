/-
  The walk of CodecNewest.
-/
import Derived.Test.YtkphfacodacpkabKL
import Derived.Test.YtkphfacodacpkabAp
import Derived.WalkLawsBesides
namespace Go.Proofs.Ytkphfacodacpkab
open Go.ChangeShapes Go.WideShapes Go.ChangeAt Go.RowKit

set_option maxRecDepth 20000 in
set_option maxHeartbeats 4000000 in
theorem newest_c (w : World) {v1 v2 : Value} {u v : List Nat} (h1 : Rd w v1 (bv u)) (hu : By u) (hl1 : u.length ≤ 140737488355328) (h2 : Rd w v2 (bv v)) (hv : By v) (hl2 : v.length ≤ 140737488355328) (s t : Nat) (hs : s < 18446744073709551616) (ht : t < 18446744073709551616) (o : Bool) :
    Calls Try.prog 4 #[v1, v2, .int .u64 (s : Int), .int .u64 (t : Int), .bool o] w fun e w' => e = .returned (.bool true) ∧ Fr [] w w' := by
  obtain ⟨a1, c1, hv1⟩ := h1.form
  obtain ⟨a2, c2, hv2⟩ := h2.form
  rw [bv_len] at hv1 hv2
  subst hv1
  subst hv2
  have R1 := hid h1
  have R2 := hid h2
  have B1 := hid hu
  have B2 := hid hv
  clear h1 h2 hu hv
  rcases (show 128 < u.length ∨ (u.length ≤ 128 ∧ 128 < v.length) ∨ (u.length ≤ 128 ∧ v.length ≤ 128 ∧ 72057594037927935 < s) ∨ (u.length ≤ 128 ∧ v.length ≤ 128 ∧ s ≤ 72057594037927935 ∧ 72057594037927935 < t) ∨ (u.length ≤ 128 ∧ v.length ≤ 128 ∧ s ≤ 72057594037927935 ∧ t ≤ 72057594037927935) from by omega) with q1 | ⟨q1, q2⟩ | ⟨q1, q2, q3⟩ | ⟨q1, q2, q3, q4⟩ | ⟨q1, q2, q3, q4⟩
  · go_enter Try.func4, Try.ntmps4
    go_wp2_with fail
    refine (known_c w).mono ?_
    rintro e w1 ⟨rfl, f1⟩
    go_wp2
    all_goals go_ret
    all_goals exact ⟨rfl, f1⟩
  · go_enter Try.func4, Try.ntmps4
    go_wp2_with fail
    refine (known_c w).mono ?_
    rintro e w1 ⟨rfl, f1⟩
    go_wp2
    all_goals go_ret
    all_goals exact ⟨rfl, f1⟩
  · go_enter Try.func4, Try.ntmps4
    go_wp2_with fail
    refine (known_c w).mono ?_
    rintro e w1 ⟨rfl, f1⟩
    go_wp2
    all_goals go_ret
    all_goals exact ⟨rfl, f1⟩
  · go_enter Try.func4, Try.ntmps4
    go_wp2_with fail
    refine (known_c w).mono ?_
    rintro e w1 ⟨rfl, f1⟩
    go_wp2
    all_goals go_ret
    all_goals exact ⟨rfl, f1⟩
  rcases o with _ | _
  · go_enter Try.func4, Try.ntmps4
    go_wp2_with fail
    refine (known_c w).mono ?_
    rintro e w1 ⟨rfl, f1⟩
    have F1 := hid f1
    clear f1
    go_wp2_with fail
    refine (key_ok w1 (R1.out.fr F1.out) q1 s 0 q3 (by omega)).mono ?_
    rintro e w2 ⟨x2, rfl, o2, f2⟩
    rw [keyL_len] at o2
    obtain ⟨a2, c2, rfl, _⟩ := ownsRow_slice o2
    have P2 := hid (Rd.ownN o2 (keyL_len _ _ _).symm)
    have F2 := hid (F1.out.trans f2)
    clear o2 f2
    go_wp2_with fail
    refine (key_ok w2 (R2.out.fr F2.out) q2 t 0 q4 (by omega)).mono ?_
    rintro e w3 ⟨x3, rfl, o3, f3⟩
    rw [keyL_len] at o3
    obtain ⟨a3, c3, rfl, _⟩ := ownsRow_slice o3
    have P3 := hid (Rd.ownN o3 (keyL_len _ _ _).symm)
    have Q3 := hid (P2.out.fr f3)
    have F3 := hid (F2.out.trans f3)
    clear o3 f3
    go_wp2_with fail
    refine (compare_yes w3 Q3.out (keyL_by B1.out s 0) (keyL_is q1 q3 (by omega)) P3.out (keyL_by B2.out t 0) (keyL_is q2 q4 (by omega))).mono ?_
    rintro e w4 ⟨rfl, f4⟩
    rw [ordK_key u v q3 q4 (by omega)]
    have F4 := hid (F3.out.trans f4)
    have cv1 := run_conv (R1.out.fr F4.out)
    have cv2 := run_conv (R2.out.fr F4.out)
    clear f4 F1 F2 F3 P2 P3 Q3
    rcases cmpN_val u v with hc | hc | hc
    · have l1 : Op.bytesLess (strOf u).toList (strOf v).toList = true := by rw [strOf_toList, strOf_toList, less_cmp u v B1.out B2.out, hc]; rfl
      rw [ordP_ne (x := -1) hc.symm (by omega)]
      go_wp2
      go_ret
      exact ⟨rfl, F4.out⟩
    · have l1 : Op.bytesLess (strOf u).toList (strOf v).toList = false := by rw [strOf_toList, strOf_toList, less_cmp u v B1.out B2.out, hc]; rfl
      have huv : u = v := (cmpN_eq u v).1 hc
      have l2 : ((strOf u).toList == (strOf v).toList) = true := by rw [huv]; simp
      clear huv
      rcases (show t < s ∨ s < t ∨ s = t from by omega) with hs | hs | hs
      · rw [ordP_s1 (x := 0) hc.symm rfl (show (t : Int) < (s : Int) by omega)]
        have m1 : (t : Int) < (s : Int) := by omega
        go_wp2
        go_ret
        exact ⟨rfl, F4.out⟩
      · rw [ordP_s2 (x := 0) hc.symm rfl (show (s : Int) < (t : Int) by omega)]
        have m1 : (s : Int) < (t : Int) := by omega
        go_wp2
        go_ret
        exact ⟨rfl, F4.out⟩
      · rw [ordP_k (x := 0) hc.symm rfl (show (s : Int) = (t : Int) by omega), show cmpI ((0 : Nat) : Int) ((0 : Nat) : Int) = 0 from by unfold cmpI; simp]
        have m1 : s ≤ t := by omega
        have m2 : t ≤ s := by omega
        clear hs
        go_wp2
        go_ret
        exact ⟨rfl, F4.out⟩
    · have l1 : Op.bytesLess (strOf u).toList (strOf v).toList = false := by rw [strOf_toList, strOf_toList, less_cmp u v B1.out B2.out, hc]; rfl
      have l2 : ((strOf u).toList == (strOf v).toList) = false := by
        rw [beq_str, decide_eq_false_iff_not]
        intro e
        have := strOf_inj B1.out B2.out e
        rw [(cmpN_eq u v).2 this] at hc
        omega
      rw [ordP_ne (x := 1) hc.symm (by omega)]
      go_wp2
      go_ret
      exact ⟨rfl, F4.out⟩
  · go_enter Try.func4, Try.ntmps4
    go_wp2_with fail
    refine (known_c w).mono ?_
    rintro e w1 ⟨rfl, f1⟩
    have F1 := hid f1
    clear f1
    go_wp2_with fail
    refine (key_ok w1 (R1.out.fr F1.out) q1 s 1 q3 (by omega)).mono ?_
    rintro e w2 ⟨x2, rfl, o2, f2⟩
    rw [keyL_len] at o2
    obtain ⟨a2, c2, rfl, _⟩ := ownsRow_slice o2
    have P2 := hid (Rd.ownN o2 (keyL_len _ _ _).symm)
    have F2 := hid (F1.out.trans f2)
    clear o2 f2
    go_wp2_with fail
    refine (key_ok w2 (R2.out.fr F2.out) q2 t 1 q4 (by omega)).mono ?_
    rintro e w3 ⟨x3, rfl, o3, f3⟩
    rw [keyL_len] at o3
    obtain ⟨a3, c3, rfl, _⟩ := ownsRow_slice o3
    have P3 := hid (Rd.ownN o3 (keyL_len _ _ _).symm)
    have Q3 := hid (P2.out.fr f3)
    have F3 := hid (F2.out.trans f3)
    clear o3 f3
    go_wp2_with fail
    refine (compare_yes w3 Q3.out (keyL_by B1.out s 1) (keyL_is q1 q3 (by omega)) P3.out (keyL_by B2.out t 1) (keyL_is q2 q4 (by omega))).mono ?_
    rintro e w4 ⟨rfl, f4⟩
    rw [ordK_key u v q3 q4 (by omega)]
    have F4 := hid (F3.out.trans f4)
    have cv1 := run_conv (R1.out.fr F4.out)
    have cv2 := run_conv (R2.out.fr F4.out)
    clear f4 F1 F2 F3 P2 P3 Q3
    rcases cmpN_val u v with hc | hc | hc
    · have l1 : Op.bytesLess (strOf u).toList (strOf v).toList = true := by rw [strOf_toList, strOf_toList, less_cmp u v B1.out B2.out, hc]; rfl
      rw [ordP_ne (x := -1) hc.symm (by omega)]
      go_wp2
      go_ret
      exact ⟨rfl, F4.out⟩
    · have l1 : Op.bytesLess (strOf u).toList (strOf v).toList = false := by rw [strOf_toList, strOf_toList, less_cmp u v B1.out B2.out, hc]; rfl
      have huv : u = v := (cmpN_eq u v).1 hc
      have l2 : ((strOf u).toList == (strOf v).toList) = true := by rw [huv]; simp
      clear huv
      rcases (show t < s ∨ s < t ∨ s = t from by omega) with hs | hs | hs
      · rw [ordP_s1 (x := 0) hc.symm rfl (show (t : Int) < (s : Int) by omega)]
        have m1 : (t : Int) < (s : Int) := by omega
        go_wp2
        go_ret
        exact ⟨rfl, F4.out⟩
      · rw [ordP_s2 (x := 0) hc.symm rfl (show (s : Int) < (t : Int) by omega)]
        have m1 : (s : Int) < (t : Int) := by omega
        go_wp2
        go_ret
        exact ⟨rfl, F4.out⟩
      · rw [ordP_k (x := 0) hc.symm rfl (show (s : Int) = (t : Int) by omega), show cmpI ((1 : Nat) : Int) ((1 : Nat) : Int) = 0 from by unfold cmpI; simp]
        have m1 : s ≤ t := by omega
        have m2 : t ≤ s := by omega
        clear hs
        go_wp2
        go_ret
        exact ⟨rfl, F4.out⟩
    · have l1 : Op.bytesLess (strOf u).toList (strOf v).toList = false := by rw [strOf_toList, strOf_toList, less_cmp u v B1.out B2.out, hc]; rfl
      have l2 : ((strOf u).toList == (strOf v).toList) = false := by
        rw [beq_str, decide_eq_false_iff_not]
        intro e
        have := strOf_inj B1.out B2.out e
        rw [(cmpN_eq u v).2 this] at hc
        omega
      rw [ordP_ne (x := 1) hc.symm (by omega)]
      go_wp2
      go_ret
      exact ⟨rfl, F4.out⟩
end Go.Proofs.Ytkphfacodacpkab
