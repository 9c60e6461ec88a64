/-
  The walk of CodecOrders.
-/
import Derived.Test.YtkphfacodacpkaaX
import Derived.Test.YtkphfacodacpkaaY
namespace Go.Proofs.Ytkphfacodacpkaa
open Go.ChangeShapes Go.WideShapes Go.ChangeAt Go.RowKit

def cx (a b : List Nat) : Int := if isK a && isK b then ordK a b else 0
def ce (a b : List Nat) : Int := if isK a && isK b then 0 else 23

theorem compare_any (w : World) {v1 v2 : Value} {a b : List Nat} (h1 : Rd w v1 (bv a)) (ha : By a) (hl : a.length ≤ 140737488355328) (h2 : Rd w v2 (bv b)) (hb : By b) (hl2 : b.length ≤ 140737488355328) :
    Calls Try.prog 31 #[v1, v2] w fun e w' => e = .returned (.tuple #[.int .i64 (cx a b), .int .i64 (ce a b)]) ∧ Fr [] w w' := by
  unfold cx ce
  rcases ka : isK a with _ | _
  · obtain ⟨a2, c2, hv2⟩ := h2.form
    exact compare_no1 w h1 ha hl ka hv2
  · rcases kb : isK b with _ | _
    · exact compare_no2 w h1 ha ka h2 hb hl2 kb
    · exact compare_yes w h1 ha ka h2 hb kb
theorem refcompare_any (w : World) {v1 v2 : Value} {a b : List Nat} (h1 : Rd w v1 (bv a)) (ha : By a) (hl : a.length ≤ 140737488355328) (h2 : Rd w v2 (bv b)) (hb : By b) (hl2 : b.length ≤ 140737488355328) :
    Calls Try.prog 32 #[v1, v2] w fun e w' => e = .returned (.tuple #[.int .i64 (cx a b), .int .i64 (ce a b)]) ∧ Fr [] w w' := by
  unfold cx ce
  rcases ka : isK a with _ | _
  · refine (refcompare_no w h1 ha hl h2 hb hl2 (.inl ka)).mono ?_
    rintro e w' ⟨rfl, rfl⟩
    exact ⟨rfl, Fr.refl _ _⟩
  · rcases kb : isK b with _ | _
    · refine (refcompare_no w h1 ha hl h2 hb hl2 (.inr kb)).mono ?_
      rintro e w' ⟨rfl, rfl⟩
      exact ⟨rfl, Fr.refl _ _⟩
    · exact refcompare_yes w h1 ha ka h2 hb kb

theorem cx_val (a b : List Nat) : -1 ≤ cx a b ∧ cx a b ≤ 1 := by
  unfold cx
  split
  · exact ordK_val a b
  · omega
theorem cx_neg (a b : List Nat) : cx b a = -cx a b := by
  unfold cx
  rw [Bool.and_comm (isK b) (isK a)]
  split
  · exact ordK_neg a b
  · rfl
theorem ce_zero {a b : List Nat} (h : ce a b = 0) : isK a = true ∧ isK b = true := by
  unfold ce at h
  split at h
  · next g => simpa using g
  · omega
theorem cx_key {a b : List Nat} (ha : isK a = true) (hb : isK b = true) : cx a b = ordK a b := by unfold cx; rw [ha, hb]; rfl

set_option maxRecDepth 20000 in
set_option maxHeartbeats 4000000 in
theorem orders_c (w : World) {v1 v2 v3 : Value} {a b c : List Nat} (h1 : Rd w v1 (bv a)) (ha : By a) (hl1 : a.length ≤ 140737488355328) (h2 : Rd w v2 (bv b)) (hb : By b) (hl2 : b.length ≤ 140737488355328) (h3 : Rd w v3 (bv c)) (hc : By c) (hl3 : c.length ≤ 140737488355328) :
    Calls Try.prog 8 #[v1, v2, v3] w fun e w' => e = .returned (.bool true) ∧ Fr [] w w' := by
  obtain ⟨a1, c1, hv1⟩ := h1.form
  obtain ⟨a2, c2, hv2⟩ := h2.form
  obtain ⟨a3, c3, hv3⟩ := h3.form
  subst hv1
  subst hv2
  subst hv3
  have R1 := hid h1
  have R2 := hid h2
  have R3 := hid h3
  have B1 := hid ha
  have B2 := hid hb
  have B3 := hid hc
  obtain ⟨x, hx⟩ : ∃ x, x = cx a b := ⟨_, rfl⟩
  obtain ⟨v, hv⟩ : ∃ v, v = cx b c := ⟨_, rfl⟩
  obtain ⟨z, hz⟩ : ∃ z, z = cx a c := ⟨_, rfl⟩
  obtain ⟨e1, he1⟩ : ∃ e1, e1 = ce a b := ⟨_, rfl⟩
  obtain ⟨e2, he2⟩ : ∃ e2, e2 = ce b c := ⟨_, rfl⟩
  obtain ⟨e3, he3⟩ : ∃ e3, e3 = ce a c := ⟨_, rfl⟩
  obtain ⟨e4, he4⟩ : ∃ e4, e4 = ce b a := ⟨_, rfl⟩
  have HN : Hid (cx b a = -x) := by unfold Hid; rw [hx]; exact cx_neg a b
  have hxv : -1 ≤ x ∧ x ≤ 1 := by rw [hx]; exact cx_val a b
  obtain ⟨hx1, hx2⟩ := hxv
  have HT : Hid (e1 = 0 → e2 = 0 → e3 = 0 → x ≤ 0 → v ≤ 0 → z ≤ 0) := fun q1 q2 q3 q4 q5 => by
    rw [he1] at q1; rw [he2] at q2; rw [he3] at q3
    have k1 := ce_zero q1; have k2 := ce_zero q2
    rw [hx, cx_key k1.1 k1.2] at q4
    rw [hv, cx_key k2.1 k2.2] at q5
    rw [hz, cx_key k1.1 k2.2]
    exact ordK_trans a b c q4 q5
  have HE : Hid (e1 = 0 → x = 0 → a = b) := fun q1 q2 => by
    rw [he1] at q1
    have k1 := ce_zero q1
    rw [hx, cx_key k1.1 k1.2] at q2
    exact ordK_eq B1.out B2.out (isK_len k1.1).1 (isK_len k1.2).1 q2
  have HX := hid hx
  have HV := hid hv
  have HZ := hid hz
  have H1 := hid he1
  have H2 := hid he2
  have H3 := hid he3
  have H4 := hid he4
  clear h1 h2 h3 ha hb hc hx hv hz he1 he2 he3 he4
  go_enter Try.func8, Try.ntmps8
  go_wp2_with fail
  refine (known_c w).mono ?_
  rintro e w1 ⟨rfl, f1⟩
  have F1 := hid f1
  clear f1
  go_wp2_with fail
  refine (compare_any _ (R1.out.fr F1.out) B1.out hl1 (R2.out.fr F1.out) B2.out hl2).mono ?_
  rintro e w2 ⟨rfl, f2⟩
  rw [← HX.out, ← H1.out]
  have F2 := hid (F1.out.trans f2)
  clear f2
  go_wp2_with fail
  refine (refcompare_any _ (R1.out.fr F2.out) B1.out hl1 (R2.out.fr F2.out) B2.out hl2).mono ?_
  rintro e w3 ⟨rfl, f3⟩
  rw [← HX.out, ← H1.out]
  have F3 := hid (F2.out.trans f3)
  clear f3
  go_wp2_with fail
  refine (compare_any _ (R2.out.fr F3.out) B2.out hl2 (R1.out.fr F3.out) B1.out hl1).mono ?_
  rintro e w4 ⟨rfl, f4⟩
  rw [HN.out, ← H4.out]
  have F4 := hid (F3.out.trans f4)
  clear f4
  go_wp2_with fail
  refine (compare_any _ (R2.out.fr F4.out) B2.out hl2 (R3.out.fr F4.out) B3.out hl3).mono ?_
  rintro e w5 ⟨rfl, f5⟩
  rw [← HV.out, ← H2.out]
  have F5 := hid (F4.out.trans f5)
  clear f5
  go_wp2_with fail
  refine (compare_any _ (R1.out.fr F5.out) B1.out hl1 (R3.out.fr F5.out) B3.out hl3).mono ?_
  rintro e w6 ⟨rfl, f6⟩
  rw [← HZ.out, ← H3.out]
  have F6 := hid (F5.out.trans f6)
  clear f6 F1 F2 F3 F4 F5
  by_cases q1 : ¬ e1 = 0
  · have p1 : (e1 == 0) = false := by simpa using q1
    go_wp2
    all_goals go_ret
    all_goals exact ⟨rfl, F6.out⟩
  replace q1 := Decidable.not_not.1 q1
  have p1 : (e1 == 0) = true := by simpa using q1
  by_cases q2 : ¬ e2 = 0
  · have p2 : (e2 == 0) = false := by simpa using q2
    clear q1
    go_wp2
    all_goals go_ret
    all_goals exact ⟨rfl, F6.out⟩
  replace q2 := Decidable.not_not.1 q2
  have p2 : (e2 == 0) = true := by simpa using q2
  by_cases q3 : ¬ e3 = 0
  · have p3 : (e3 == 0) = false := by simpa using q3
    clear q1 q2
    go_wp2
    all_goals go_ret
    all_goals exact ⟨rfl, F6.out⟩
  replace q3 := Decidable.not_not.1 q3
  have p3 : (e3 == 0) = true := by simpa using q3
  have T := hid (HT.out q1 q2 q3)
  have E := hid (HE.out q1)
  clear q1 q2 q3
  rcases (show 0 < x ∨ x < 0 ∨ x = 0 from by omega) with q | q | q
  · have n0 : (x == 0) = false := by simp; omega
    go_wp2
    all_goals go_ret
    all_goals exact ⟨rfl, F6.out⟩
  · have n0 : (x == 0) = false := by simp; omega
    have n1 : decide (0 < x) = false := by simp; omega
    by_cases qv : 0 < v
    · go_wp2
      all_goals go_ret
      all_goals exact ⟨rfl, F6.out⟩
    · have n2 : decide (0 < v) = false := by simp; omega
      have n3 : z ≤ 0 := T.out (by omega) (by omega)
      go_wp2
      all_goals go_ret
      all_goals exact ⟨rfl, F6.out⟩
  · have hab := E.out q
    have n0 : (x == 0) = true := by simpa using q
    have n1 : decide (0 < x) = false := by simp; omega
    have P1 := hid (R1.out.fr F6.out)
    have P2 := hid (R2.out.fr F6.out)
    have HAB := hid hab
    clear hab
    by_cases qv : 0 < v
    · clear q
      go_wp2_with fail
      refine (bytes_c P1.out P2.out B1.out B2.out).mono ?_
      rintro e w7 ⟨rfl, rfl⟩
      rw [decide_eq_true HAB.out]
      go_wp2
      all_goals go_ret
      all_goals exact ⟨rfl, F6.out⟩
    · have n2 : decide (0 < v) = false := by simp; omega
      have n3 : z ≤ 0 := T.out (by omega) (by omega)
      clear q
      go_wp2_with fail
      refine (bytes_c P1.out P2.out B1.out B2.out).mono ?_
      rintro e w7 ⟨rfl, rfl⟩
      rw [decide_eq_true HAB.out]
      go_wp2
      all_goals go_ret
      all_goals exact ⟨rfl, F6.out⟩
end Go.Proofs.Ytkphfacodacpkaa
